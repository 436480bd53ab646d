/- Plain mathematics of a layout: the first free cell from a cell on, items put one after another. Nothing of the program. -/
import Derived.Test.YticddcnlafbkoaaDoorSortMath
namespace Go.Proofs.YticddcnlafbkoaaDoor

/-- How many steps lead from c to the first free cell. -/
def dist {α : Type} (C : Nat) (L : Nat → Option α) (c : Nat) : Nat := ((List.range C).find? fun t => (L ((c + t) % C)).isNone).getD 0
/-- The first free cell from c on. -/
def ff {α : Type} (C : Nat) (L : Nat → Option α) (c : Nat) : Nat := (c + dist C L c) % C
def put1 {α : Type} (L : Nat → Option α) (x : Nat) (i : α) : Nat → Option α := fun c => if c = x then some i else L c
/-- The cells behind k items, in the order ord. -/
def place (C : Nat) (h : Nat → Nat) (ord : Nat → Nat) : Nat → Nat → Option Nat
  | 0 => fun _ => none
  | k + 1 => put1 (place C h ord k) (ff C (place C h ord k) (h (ord k))) (ord k)
def frees {α : Type} : Nat → (Nat → Option α) → Nat
  | 0, _ => 0
  | C + 1, L => frees C L + if (L C).isNone then 1 else 0

theorem frees_put {α : Type} {L : Nat → Option α} {x : Nat} {i : α} (hL : L x = none) : ∀ C, (x < C → frees C (put1 L x i) + 1 = frees C L) ∧ (C ≤ x → frees C (put1 L x i) = frees C L) := by
  intro C
  induction C with
  | zero => exact ⟨fun h => by omega, fun _ => rfl⟩
  | succ C ih =>
    simp only [frees]
    refine ⟨fun h => ?_, fun h => ?_⟩
    · by_cases c : C = x
      · subst c
        rw [ih.2 (Nat.le_refl _)]
        simp [put1, hL]
      · have := ih.1 (by omega)
        have e : put1 L x i C = L C := by unfold put1; rw [if_neg c]
        rw [e]; omega
    · have e : put1 L x i C = L C := by unfold put1; rw [if_neg (by omega)]
      rw [e, ih.2 (by omega)]
theorem frees_none {α : Type} : ∀ C, frees C (fun _ => (none : Option α)) = C := by
  intro C
  induction C with
  | zero => rfl
  | succ C ih => simp [frees, ih]
theorem exists_free {α : Type} {L : Nat → Option α} : ∀ C, 0 < frees C L → ∃ x, x < C ∧ L x = none := by
  intro C
  induction C with
  | zero => intro h; simp [frees] at h
  | succ C ih =>
    intro h
    by_cases c : L C = none
    · exact ⟨C, by omega, c⟩
    · have e : (L C).isNone = false := by cases hx : L C <;> simp_all
      simp only [frees, e] at h
      obtain ⟨x, h1, h2⟩ := ih (by simpa using h)
      exact ⟨x, by omega, h2⟩

section
variable {α : Type} {C : Nat} {L : Nat → Option α}
theorem dist_spec (hf : ∃ x, x < C ∧ L x = none) {c : Nat} (hc : c < C) : dist C L c < C ∧ L (ff C L c) = none ∧ (∀ t, t < dist C L c → L ((c + t) % C) ≠ none) := by
  obtain ⟨x, hx, hLx⟩ := hf
  have hex : ∃ t, t < C ∧ (L ((c + t) % C)).isNone = true := by
    refine ⟨(x + C - c) % C, Nat.mod_lt _ (by omega), ?_⟩
    have : (c + (x + C - c) % C) % C = x := by
      rw [Nat.add_mod, Nat.mod_mod, ← Nat.add_mod, show c + (x + C - c) = x + C from by omega, Nat.add_mod_right, Nat.mod_eq_of_lt hx]
    rw [this, hLx]; rfl
  obtain ⟨t, ht, htn⟩ := hex
  cases hfd : (List.range C).find? fun t => (L ((c + t) % C)).isNone with
  | none =>
    rw [List.find?_eq_none] at hfd
    exact absurd htn (by simpa using hfd t (by simpa using ht))
  | some d =>
    have e : dist C L c = d := by unfold dist; rw [hfd]; rfl
    rw [List.find?_range_eq_some] at hfd
    obtain ⟨h1, h2, h3⟩ := hfd
    rw [e]
    refine ⟨by simpa using h2, ?_, fun t ht => ?_⟩
    · unfold ff; rw [e]; simpa using h1
    · have := h3 t ht
      intro hn
      simp [hn] at this
theorem dist_unique (hf : ∃ x, x < C ∧ L x = none) {c d : Nat} (hc : c < C) (h1 : L ((c + d) % C) = none) (h2 : ∀ t, t < d → L ((c + t) % C) ≠ none) : dist C L c = d := by
  obtain ⟨a, b, e⟩ := dist_spec hf hc
  rcases Nat.lt_trichotomy (dist C L c) d with k | k | k
  · exact absurd b (h2 _ k)
  · exact k
  · exact absurd h1 (e _ k)
theorem dist_free (hf : ∃ x, x < C ∧ L x = none) {c : Nat} (hc : c < C) (h : L c = none) : dist C L c = 0 ∧ ff C L c = c := by
  have : dist C L c = 0 := dist_unique hf hc (by rw [Nat.add_zero, Nat.mod_eq_of_lt hc]; exact h) (fun t ht => by omega)
  exact ⟨this, by unfold ff; rw [this, Nat.add_zero, Nat.mod_eq_of_lt hc]⟩
theorem dist_next (hf : ∃ x, x < C ∧ L x = none) {c : Nat} (hc : c < C) (h : L c ≠ none) : dist C L c = dist C L ((c + 1) % C) + 1 ∧ ff C L c = ff C L ((c + 1) % C) := by
  have h1 : (c + 1) % C < C := Nat.mod_lt _ (by omega)
  obtain ⟨a, b, e⟩ := dist_spec hf h1
  have eq : ∀ t, (c + (t + 1)) % C = ((c + 1) % C + t) % C := fun t => by rw [Nat.add_mod ((c + 1) % C), Nat.mod_mod, ← Nat.add_mod]; congr 1; omega
  have : dist C L c = dist C L ((c + 1) % C) + 1 := dist_unique hf hc (by rw [eq]; exact b) (fun t ht => by
    cases t with
    | zero => rw [Nat.add_zero, Nat.mod_eq_of_lt hc]; exact h
    | succ t => rw [eq]; exact e t (by omega))
  exact ⟨this, by unfold ff; rw [this, eq]⟩
theorem ff_lt (hC : 0 < C) (c : Nat) : ff C L c < C := Nat.mod_lt _ hC

/-- What firstFree is told of the list of the ways on. -/
structure Onw {α : Type} (C : Nat) (L : Nat → Option α) (o : Nat → Nat) : Prop where
  lt : ∀ c, c < C → o c < C
  self : ∀ c, c < C → L c = none → o c = c
  next : ∀ c, c < C → L c ≠ none → dist C L (o c) < dist C L c ∧ ff C L (o c) = ff C L c

theorem Onw.start : Onw C (fun _ => (none : Option α)) (fun c => c) := ⟨fun _ h => h, fun _ _ _ => rfl, fun _ _ h => absurd rfl h⟩
theorem Onw.short {o : Nat → Nat} (h : Onw C L o) (hf : ∃ x, x < C ∧ L x = none) {c : Nat} (hc : c < C) (hn : o c ≠ c) :
    Onw C L (fun k => if k = c then o (o c) else o k) ∧ dist C L (o (o c)) < dist C L c ∧ ff C L (o (o c)) = ff C L c := by
  have hL : L c ≠ none := fun e => hn (h.self c hc e)
  obtain ⟨d1, f1⟩ := h.next c hc hL
  have hlt := h.lt c hc
  have key : dist C L (o (o c)) < dist C L c ∧ ff C L (o (o c)) = ff C L c := by
    by_cases e : L (o c) = none
    · rw [h.self _ hlt e]; exact ⟨d1, f1⟩
    · obtain ⟨d2, f2⟩ := h.next _ hlt e
      exact ⟨by omega, by rw [f2, f1]⟩
  refine ⟨⟨fun k hk => ?_, fun k hk e => ?_, fun k hk e => ?_⟩, key⟩
  · by_cases kc : k = c
    · simp only [kc, if_pos]; exact h.lt _ hlt
    · simp only [kc, if_false]; exact h.lt k hk
  · by_cases kc : k = c
    · subst kc; exact absurd e hL
    · simp only [kc, if_false]; exact h.self k hk e
  · by_cases kc : k = c
    · subst kc; simp only [if_pos]; exact key
    · simp only [kc, if_false]; exact h.next k hk e
theorem Onw.stop {o : Nat → Nat} (h : Onw C L o) (hf : ∃ x, x < C ∧ L x = none) {c : Nat} (hc : c < C) (hn : o c = c) : ff C L c = c := by
  by_cases e : L c = none
  · exact (dist_free hf hc e).2
  · have := (h.next c hc e).1
    rw [hn] at this; omega
/-- An item is put into the first free cell from a cell on; the way from there leads to the next cell. -/
theorem Onw.put {o : Nat → Nat} (h : Onw C L o) {x : Nat} {i : α} (hx : x < C) (hL : L x = none) (hf : ∃ y, y < C ∧ put1 L x i y = none) : Onw C (put1 L x i) (fun k => if k = x then (x + 1) % C else o k) := by
  have hf0 : ∃ y, y < C ∧ L y = none := ⟨x, hx, hL⟩
  have hx' : put1 L x i x ≠ none := by simp [put1]
  have off : ∀ y, y ≠ x → put1 L x i y = L y := fun y hy => by simp [put1, hy]
  have far : ∀ c, c < C → ff C L c ≠ x → dist C (put1 L x i) c = dist C L c ∧ ff C (put1 L x i) c = ff C L c := by
    intro c hc hne
    obtain ⟨a, b, e⟩ := dist_spec hf0 hc
    have : dist C (put1 L x i) c = dist C L c := dist_unique hf hc (by rw [off _ (by exact hne)]; exact b) (fun t ht => by
      by_cases k : (c + t) % C = x
      · rw [k]; exact hx'
      · rw [off _ k]; exact e t ht)
    exact ⟨this, by unfold ff; rw [this]⟩
  have near : ∀ k c, dist C L c = k → c < C → ff C L c = x → dist C (put1 L x i) c = k + 1 + dist C (put1 L x i) ((x + 1) % C) ∧ ff C (put1 L x i) c = ff C (put1 L x i) ((x + 1) % C) := by
    intro k
    induction k with
    | zero =>
      intro c hd hc he
      have : c = x := by unfold ff at he; rw [hd, Nat.add_zero, Nat.mod_eq_of_lt hc] at he; exact he
      subst this
      obtain ⟨u, v⟩ := dist_next hf hx hx'
      exact ⟨by omega, v⟩
    | succ k ih =>
      intro c hd hc he
      have hLc : L c ≠ none := fun e => by have := (dist_free hf0 hc e).1; omega
      have hcx : c ≠ x := fun e => hLc (by rw [e]; exact hL)
      obtain ⟨u, v⟩ := dist_next hf0 hc hLc
      obtain ⟨u', v'⟩ := dist_next hf hc (by rw [off c hcx]; exact hLc)
      have := ih ((c + 1) % C) (by omega) (Nat.mod_lt _ (by omega)) (by rw [← v]; exact he)
      exact ⟨by omega, by rw [v']; exact this.2⟩
  refine ⟨fun k hk => ?_, fun k hk e => ?_, fun k hk e => ?_⟩
  · by_cases kx : k = x
    · simp only [kx, if_pos]; exact Nat.mod_lt _ (by omega)
    · simp only [kx, if_false]; exact h.lt k hk
  · by_cases kx : k = x
    · subst kx; exact absurd e hx'
    · simp only [kx, if_false]; exact h.self k hk (by rw [off k kx] at e; exact e)
  · by_cases kx : k = x
    · subst kx
      simp only [if_pos]
      obtain ⟨u, v⟩ := dist_next hf hk hx'
      exact ⟨by omega, v.symm⟩
    · simp only [kx, if_false]
      rw [off k kx] at e
      obtain ⟨u, v⟩ := h.next k hk e
      have hok := h.lt k hk
      by_cases q : ff C L k = x
      · obtain ⟨a1, a2⟩ := near _ k rfl hk q
        obtain ⟨b1, b2⟩ := near _ (o k) rfl hok (by rw [v]; exact q)
        exact ⟨by omega, by rw [a2, b2]⟩
      · obtain ⟨a1, a2⟩ := far k hk q
        obtain ⟨b1, b2⟩ := far (o k) hok (by rw [v]; exact q)
        exact ⟨by omega, by rw [a2, b2, v]⟩
end

/-- As many cells are taken as items were put. -/
theorem place_frees {C : Nat} {h ord : Nat → Nat} {n : Nat} (hC : 0 < C) (hh : ∀ i, h i < C) (hn : n ≤ C) : ∀ k, k ≤ n → frees C (place C h ord k) + k = C := by
  intro k
  induction k with
  | zero => intro _; simp [place, frees_none]
  | succ k ih =>
    intro hk
    have ih := ih (by omega)
    have hf : ∃ x, x < C ∧ place C h ord k x = none := exists_free C (by omega)
    have := (frees_put (x := ff C (place C h ord k) (h (ord k))) (i := ord k) (dist_spec hf (hh _)).2.1 C).1 (ff_lt hC _)
    simp only [place]; omega
theorem place_free {C : Nat} {h ord : Nat → Nat} {n k : Nat} (hC : 0 < C) (hh : ∀ i, h i < C) (hn : n ≤ C) (hk : k < n) : ∃ x, x < C ∧ place C h ord k x = none :=
  exists_free C (by have := place_frees (h := h) (ord := ord) hC hh hn k (by omega); omega)

/-- The value of a cell of a layout. -/
def cellV (x : Option Nat) : Int := match x with | some i => (i : Int) | none => -1
end Go.Proofs.YticddcnlafbkoaaDoor
