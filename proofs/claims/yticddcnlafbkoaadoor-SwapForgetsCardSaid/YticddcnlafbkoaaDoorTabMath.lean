/- Plain mathematics of a table: a pair lies behind pairs that come before it; looking for a key, putting in, taking out. Nothing of the program. -/
import Derived.Test.YticddcnlafbkoaaDoorLayMath
namespace Go.Proofs.YticddcnlafbkoaaDoor

abbrev Key := List UInt8
abbrev Cells := Nat → Option (Key × Key)

/-- The cell t steps from h on; how many steps lead from h to c. -/
def pos (C h t : Nat) : Nat := if h + t < C then h + t else h + t - C
def sto (C h c : Nat) : Nat := if h ≤ c then c - h else c + C - h
def nx (C a : Nat) : Nat := if a + 1 < C then a + 1 else 0

theorem pos_lt {C h t : Nat} (hh : h < C) (ht : t < C) : pos C h t < C := by unfold pos; split <;> omega
theorem sto_lt {C h c : Nat} (hh : h < C) (hc : c < C) : sto C h c < C := by unfold sto; split <;> omega
theorem pos_sto {C h c : Nat} (hh : h < C) (hc : c < C) : pos C h (sto C h c) = c := by unfold pos sto; split <;> split <;> omega
theorem sto_pos {C h t : Nat} (hh : h < C) (ht : t < C) : sto C h (pos C h t) = t := by unfold pos sto; split <;> split <;> omega
theorem nx_lt {C a : Nat} (hC : 0 < C) : nx C a < C := by unfold nx; split <;> omega
theorem nx_mod {C a : Nat} (ha : a < C) : (a + 1) % C = nx C a := by
  unfold nx; split
  · exact Nat.mod_eq_of_lt (by omega)
  · have : a + 1 = C := by omega
    rw [this, Nat.mod_self]
theorem pos_nx {C h t : Nat} (hh : h < C) (ht : t + 1 < C) : nx C (pos C h t) = pos C h (t + 1) := by unfold pos nx; (repeat' split) <;> omega
theorem pos_zero {C h : Nat} (hh : h < C) : pos C h 0 = h := by unfold pos; split <;> omega
/-- Of the steps to the next cell: one more, or none. -/
theorem sto_nx {C h a : Nat} (hh : h < C) (ha : a < C) : (nx C a = h ∧ sto C h (nx C a) = 0) ∨ (nx C a ≠ h ∧ sto C h (nx C a) = sto C h a + 1) := by unfold sto nx; (repeat' split) <;> omega
theorem pos_eq {C h t u : Nat} (hh : h < C) (ht : t < C) (hu : u < C) (e : pos C h t = pos C h u) : t = u := by
  have := congrArg (sto C h) e; rwa [sto_pos hh ht, sto_pos hh hu] at this

/-- A strict total order of the keys. -/
structure KO (bf : Key → Key → Bool) : Prop where
  irrefl : ∀ a, bf a a = false
  trans : ∀ a b c, bf a b = true → bf b c = true → bf a c = true
  tot : ∀ a b, a ≠ b → bf a b = true ∨ bf b a = true

theorem KO.asym {bf : Key → Key → Bool} (h : KO bf) {a b : Key} (x : bf a b = true) : bf b a = false := by
  cases hc : bf b a
  · rfl
  · have := h.trans _ _ _ x hc; rw [h.irrefl] at this; cases this
theorem KO.ne {bf : Key → Key → Bool} (h : KO bf) {a b : Key} (x : bf a b = true) : a ≠ b := fun e => by rw [e, h.irrefl] at x; cases x

section
variable {bf : Key → Key → Bool} {hom : Key → Nat} {C : Nat}

/-- All cells from the key's home up to c have pairs that come before it. -/
def Path (bf : Key → Key → Bool) (hom : Key → Nat) (C : Nat) (T : Cells) (k : Key) (c : Nat) : Prop :=
  ∀ t, t < sto C (hom k) c → ∃ k' v', T (pos C (hom k) t) = some (k', v') ∧ bf k' k = true
def Runs (bf : Key → Key → Bool) (hom : Key → Nat) (C : Nat) (T : Cells) : Prop := ∀ c, c < C → ∀ k v, T c = some (k, v) → Path bf hom C T k c
def InT (C : Nat) (T : Cells) (x : Key × Key) : Prop := ∃ c, c < C ∧ T c = some x

theorem Path.at {T : Cells} {k : Key} {c : Nat} (h : Path bf hom C T k c) (hh : hom k < C) {d : Nat} (hd : d < C) (hlt : sto C (hom k) d < sto C (hom k) c) : ∃ k' v', T d = some (k', v') ∧ bf k' k = true := by
  have := h _ hlt
  rwa [pos_sto hh hd] at this

/-- A key lies in one cell at most. -/
theorem Runs.inj (ko : KO bf) (hh : ∀ k, hom k < C) {T : Cells} (h : Runs bf hom C T) {c d : Nat} {k v v' : Key} (hc : c < C) (hd : d < C) (h1 : T c = some (k, v)) (h2 : T d = some (k, v')) : c = d := by
  rcases Nat.lt_trichotomy (sto C (hom k) c) (sto C (hom k) d) with e | e | e
  · obtain ⟨k', v'', a, b⟩ := (h d hd k v' h2).at (hh k) hc e
    rw [h1] at a; cases a; rw [ko.irrefl] at b; cases b
  · have := congrArg (pos C (hom k)) e; rwa [pos_sto (hh k) hc, pos_sto (hh k) hd] at this
  · obtain ⟨k', v'', a, b⟩ := (h c hc k v h1).at (hh k) hd e
    rw [h2] at a; cases a; rw [ko.irrefl] at b; cases b

/-! ### Looking for a key -/
/-- Whether the search for k ends at a cell. -/
def stops (bf : Key → Key → Bool) (k : Key) : Option (Key × Key) → Bool
  | none => true
  | some (k', _) => decide (k' = k) || bf k k'
def seekN (bf : Key → Key → Bool) (hom : Key → Nat) (C : Nat) (T : Cells) (k : Key) : Nat := ((List.range C).find? fun t => stops bf k (T (pos C (hom k) t))).getD 0
def seekAt (bf : Key → Key → Bool) (hom : Key → Nat) (C : Nat) (T : Cells) (k : Key) : Nat := pos C (hom k) (seekN bf hom C T k)
def hasKey (x : Option (Key × Key)) (k : Key) : Bool := match x with | none => false | some (k', _) => decide (k' = k)

theorem seekN_eq {T : Cells} {k : Key} {t : Nat} (ht : t < C) (h1 : stops bf k (T (pos C (hom k) t)) = true) (h2 : ∀ u, u < t → stops bf k (T (pos C (hom k) u)) = false) : seekN bf hom C T k = t := by
  unfold seekN
  have : (List.range C).find? (fun t => stops bf k (T (pos C (hom k) t))) = some t := by
    rw [List.find?_range_eq_some]
    exact ⟨h1, by simpa using ht, fun u hu => by rw [h2 u hu]; rfl⟩
  rw [this]; rfl
theorem seek_spec {T : Cells} {k : Key} (hf : ∃ x, x < C ∧ T x = none) (hh : hom k < C) : seekN bf hom C T k < C ∧ stops bf k (T (seekAt bf hom C T k)) = true ∧ ∀ u, u < seekN bf hom C T k → stops bf k (T (pos C (hom k) u)) = false := by
  obtain ⟨x, hx, hn⟩ := hf
  have hex : stops bf k (T (pos C (hom k) (sto C (hom k) x))) = true := by rw [pos_sto hh hx, hn]; rfl
  cases hfd : (List.range C).find? (fun t => stops bf k (T (pos C (hom k) t))) with
  | none =>
    rw [List.find?_eq_none] at hfd
    exact absurd hex (by simpa using hfd _ (by simpa using sto_lt hh hx))
  | some d =>
    have e : seekN bf hom C T k = d := by unfold seekN; rw [hfd]; rfl
    rw [List.find?_range_eq_some] at hfd
    obtain ⟨h1, h2, h3⟩ := hfd
    refine ⟨by rw [e]; simpa using h2, by unfold seekAt; rw [e]; exact h1, fun u hu => ?_⟩
    rw [e] at hu
    have := h3 u hu
    cases hs : stops bf k (T (pos C (hom k) u))
    · rfl
    · rw [hs] at this; cases this
theorem seek_there (ko : KO bf) {T : Cells} (h : Runs bf hom C T) {c : Nat} {k v : Key} (hh : hom k < C) (hc : c < C) (h1 : T c = some (k, v)) : seekAt bf hom C T k = c ∧ seekN bf hom C T k = sto C (hom k) c := by
  have : seekN bf hom C T k = sto C (hom k) c := seekN_eq (sto_lt hh hc) (by rw [pos_sto hh hc, h1]; simp [stops]) fun u hu => by
    obtain ⟨k', v', a, b⟩ := h c hc k v h1 u hu
    rw [a]
    simp only [stops, ko.asym b, Bool.or_false, decide_eq_false_iff_not]
    exact ko.ne b
  exact ⟨by unfold seekAt; rw [this, pos_sto hh hc], this⟩
theorem seek_path (ko : KO bf) {T : Cells} {k : Key} (hf : ∃ x, x < C ∧ T x = none) (hh : hom k < C) : Path bf hom C T k (seekAt bf hom C T k) := by
  obtain ⟨a, b, c⟩ := seek_spec (bf := bf) (k := k) hf hh
  intro t ht
  have hs : sto C (hom k) (seekAt bf hom C T k) = seekN bf hom C T k := by unfold seekAt; exact sto_pos hh a
  rw [hs] at ht
  have := c t ht
  cases hT : T (pos C (hom k) t) with
  | none => rw [hT] at this; cases this
  | some x =>
    obtain ⟨k', v'⟩ := x
    rw [hT] at this
    simp only [stops, Bool.or_eq_false_iff, decide_eq_false_iff_not] at this
    exact ⟨k', v', rfl, (ko.tot k' k this.1).resolve_right (by rw [this.2]; simp)⟩
theorem seek_not {T : Cells} {k : Key} (ko : KO bf) (h : Runs bf hom C T) (_hf : ∃ x, x < C ∧ T x = none) (hh : hom k < C) (hn : hasKey (T (seekAt bf hom C T k)) k = false) : ∀ v, ¬ InT C T (k, v) := by
  rintro v ⟨c, hc, e⟩
  have := (seek_there ko h hh hc e).1
  rw [this, e] at hn
  simp [hasKey] at hn
theorem seek_lt {T : Cells} {k : Key} (hf : ∃ x, x < C ∧ T x = none) (hh : hom k < C) : seekAt bf hom C T k < C := pos_lt hh (seek_spec (bf := bf) (k := k) hf hh).1

/-! ### Putting in -/
structure Push (bf : Key → Key → Bool) (hom : Key → Nat) (C : Nat) (T0 : Cells) (p0 : Key × Key) (T : Cells) (a : Nat) (p : Key × Key) : Prop where
  lt : a < C
  runs : Runs bf hom C T
  path : Path bf hom C T p.1 a
  ins : ∀ x, InT C T x ∨ x = p ↔ InT C T0 x ∨ x = p0
  new : ∀ v, ¬ InT C T (p.1, v)
  fr : ∀ c, (T c).isNone = (T0 c).isNone

theorem path_put {T : Cells} {k : Key} {c a : Nat} {p q : Key × Key} (ko : KO bf) (h : Path bf hom C T k c) (hT : T a = some q) (hpq : bf p.1 q.1 = true) : Path bf hom C (put1 T a p) k c := by
  intro t ht
  obtain ⟨k', v', e1, e2⟩ := h t ht
  by_cases e : pos C (hom k) t = a
  · rw [e] at e1 ⊢
    rw [hT] at e1
    cases e1
    exact ⟨p.1, p.2, by simp [put1], ko.trans _ _ _ hpq e2⟩
  · exact ⟨k', v', by simp [put1, e, e1], e2⟩
theorem Path.next {T : Cells} {k : Key} {a : Nat} (hh : hom k < C) (ha : a < C) (h : Path bf hom C T k a) {k' v' : Key} (hT : T a = some (k', v')) (hb : bf k' k = true) : Path bf hom C T k (nx C a) := by
  rcases sto_nx hh ha with ⟨_, e⟩ | ⟨_, e⟩
  · intro t ht; omega
  · intro t ht
    rw [e] at ht
    by_cases c : t < sto C (hom k) a
    · exact h t c
    · have : t = sto C (hom k) a := by omega
      rw [this, pos_sto hh ha]
      exact ⟨k', v', hT, hb⟩

theorem Push.start {T : Cells} {a : Nat} {p : Key × Key} (hr : Runs bf hom C T) (ha : a < C) (hp : Path bf hom C T p.1 a) (hn : ∀ v, ¬ InT C T (p.1, v)) : Push bf hom C T p T a p :=
  ⟨ha, hr, hp, fun _ => Iff.rfl, hn, fun _ => rfl⟩
theorem runs_put {T : Cells} {a : Nat} {p q : Key × Key} (ko : KO bf) (hr : Runs bf hom C T) (hp : Path bf hom C T p.1 a) (hT : T a = some q) (hpq : bf p.1 q.1 = true) : Runs bf hom C (put1 T a p) := by
  intro c hc k v e
  by_cases h : c = a
  · subst h
    simp only [put1, if_pos] at e
    cases e
    exact path_put ko hp hT hpq
  · simp only [put1, h, if_false] at e
    exact path_put ko (hr c hc k v e) hT hpq
theorem Push.swap (ko : KO bf) (hh : ∀ k, hom k < C) {T0 T : Cells} {a : Nat} {p0 p q : Key × Key} (h : Push bf hom C T0 p0 T a p) (hT : T a = some q) (hb : bf p.1 q.1 = true) : Push bf hom C T0 p0 (put1 T a p) (nx C a) q := by
  have ha := h.lt
  have hsame : (put1 T a p) a = some (p.1, p.2) := by simp [put1]
  have hq : Path bf hom C (put1 T a p) q.1 (nx C a) := Path.next (hh _) ha (path_put ko (h.runs a ha q.1 q.2 hT) hT hb) hsame hb
  refine ⟨nx_lt (by omega), runs_put ko h.runs h.path hT hb, hq, fun x => ?_, fun v => ?_, fun c => ?_⟩
  · rw [← h.ins]
    constructor
    · rintro (⟨c, hc, e⟩ | rfl)
      · by_cases hca : c = a
        · subst hca; simp only [put1, if_pos] at e; cases e; exact .inr rfl
        · simp only [put1, hca, if_false] at e; exact .inl ⟨c, hc, e⟩
      · exact .inl ⟨a, ha, hT⟩
    · rintro (⟨c, hc, e⟩ | rfl)
      · by_cases hca : c = a
        · subst hca; rw [hT] at e; cases e; exact .inr rfl
        · exact .inl ⟨c, hc, by simp only [put1, hca, if_false]; exact e⟩
      · exact .inl ⟨a, ha, by simp [put1]⟩
  · rintro ⟨c, hc, e⟩
    by_cases hca : c = a
    · subst hca; simp only [put1, if_pos] at e; cases e; rw [ko.irrefl] at hb; cases hb
    · simp only [put1, hca, if_false] at e
      exact hca (h.runs.inj ko hh hc ha e hT)
  · rw [← h.fr c]
    by_cases hca : c = a
    · subst hca; simp [put1, hT]
    · simp [put1, hca]
theorem Push.skip (ko : KO bf) (hh : ∀ k, hom k < C) {T0 T : Cells} {a : Nat} {p0 p q : Key × Key} (h : Push bf hom C T0 p0 T a p) (hT : T a = some q) (hb : bf p.1 q.1 = false) : Push bf hom C T0 p0 T (nx C a) p := by
  have ha := h.lt
  have hne : p.1 ≠ q.1 := fun e => h.new q.2 ⟨a, ha, by rw [hT, e]⟩
  have hqp : bf q.1 p.1 = true := (ko.tot _ _ hne).resolve_left (by rw [hb]; simp)
  exact ⟨nx_lt (by omega), h.runs, Path.next (hh _) ha h.path hT hqp, h.ins, h.new, h.fr⟩
theorem Push.stop {T0 T : Cells} {a : Nat} {p0 p : Key × Key} (h : Push bf hom C T0 p0 T a p) (hT : T a = none) :
    Runs bf hom C (put1 T a p) ∧ (∀ x, InT C (put1 T a p) x ↔ InT C T0 x ∨ x = p0) ∧ frees C (put1 T a p) + 1 = frees C T0 := by
  have ha := h.lt
  have keep : ∀ k c, Path bf hom C T k c → Path bf hom C (put1 T a p) k c := fun k c hp t ht => by
    obtain ⟨k', v', e1, e2⟩ := hp t ht
    refine ⟨k', v', ?_, e2⟩
    have : pos C (hom k) t ≠ a := fun e => by rw [e, hT] at e1; cases e1
    simp [put1, this, e1]
  refine ⟨fun c hc k v e => ?_, fun x => ?_, ?_⟩
  · by_cases hca : c = a
    · subst hca; simp only [put1, if_pos] at e; cases e; exact keep _ _ h.path
    · simp only [put1, hca, if_false] at e; exact keep _ _ (h.runs c hc k v e)
  · rw [← h.ins]
    constructor
    · rintro ⟨c, hc, e⟩
      by_cases hca : c = a
      · subst hca; simp only [put1, if_pos] at e; cases e; exact .inr rfl
      · simp only [put1, hca, if_false] at e; exact .inl ⟨c, hc, e⟩
    · rintro (⟨c, hc, e⟩ | rfl)
      · have hca : c ≠ a := fun k => by rw [k, hT] at e; cases e
        exact ⟨c, hc, by simp only [put1, hca, if_false]; exact e⟩
      · exact ⟨a, ha, by simp [put1]⟩
  · have e1 := (frees_put (i := p) hT C).1 ha
    have e2 : ∀ D, frees D T = frees D T0 := by
      intro D
      induction D with
      | zero => rfl
      | succ D ih => simp only [frees, ih, h.fr]
    rw [e1, e2]

/-! ### Taking out -/
def del1 (T : Cells) (a : Nat) : Cells := fun c => if c = a then none else T c
/-- The pair of a is moved into f. -/
def move1 (T : Cells) (f a : Nat) : Cells := fun c => if c = a then none else if c = f then T a else T c
structure Pull (bf : Key → Key → Bool) (hom : Key → Nat) (C : Nat) (T0 : Cells) (z : Nat) (T : Cells) (f a : Nat) : Prop where
  flt : f < C
  alt : a < C
  zlt : z < C
  ne : f ≠ a
  hole : T f = none
  other : T z = none
  zne : z ≠ f
  path : ∀ c, c < C → ∀ k v, T c = some (k, v) → ∀ t, t < sto C (hom k) c → pos C (hom k) t = f ∨ ∃ k' v', T (pos C (hom k) t) = some (k', v') ∧ bf k' k = true
  scan : ∀ c, c < C → c ≠ f → sto C f c < sto C f a → T c ≠ none
  cross : ∀ c, c < C → ∀ k v, T c = some (k, v) → sto C (hom k) f < sto C (hom k) c → sto C f a ≤ sto C f c
  ins : ∀ x, InT C T x ↔ InT C T0 x
  fr : frees C T = frees C T0

theorem Pull.start (_ko : KO bf) (_hh : ∀ k, hom k < C) {T : Cells} {f z : Nat} (hr : Runs bf hom C T) (hf : f < C) (hz : z < C) (hzn : T z = none) (hzf : z ≠ f) : Pull bf hom C (del1 T f) z (del1 T f) f (nx C f) := by
  have hnf : nx C f ≠ f := by unfold nx; split <;> omega
  refine ⟨hf, nx_lt (by omega), hz, Ne.symm hnf, by simp [del1], by simp [del1, hzf, hzn], hzf, fun c hc k v e t ht => ?_, fun c hc hcf hlt => ?_, fun c hc k v e hlt => ?_, fun _ => Iff.rfl, rfl⟩
  · have hcf : c ≠ f := fun h => by simp [del1, h] at e
    simp only [del1, hcf, if_false] at e
    obtain ⟨k', v', e1, e2⟩ := hr c hc k v e t ht
    by_cases h : pos C (hom k) t = f
    · exact .inl h
    · exact .inr ⟨k', v', by simp [del1, h, e1], e2⟩
  · exfalso
    unfold sto nx at hlt
    (repeat' split at hlt) <;> omega
  · have hcf : c ≠ f := fun h => by simp [del1, h] at e
    unfold sto nx
    (repeat' split) <;> omega
theorem Pull.next {T0 T : Cells} {z f a : Nat} (h : Pull bf hom C T0 z T f a) {k v : Key} (hT : T a = some (k, v)) (_hh : ∀ k, hom k < C) (hno : ¬ sto C (hom k) f < sto C (hom k) a) : Pull bf hom C T0 z T f (nx C a) := by
  have hflt := h.flt
  have halt := h.alt
  have hza : z ≠ a := fun e => by rw [← e, h.other] at hT; cases hT
  have hzs : sto C f a ≤ sto C f z := by
    rcases Nat.lt_or_ge (sto C f z) (sto C f a) with c | c
    · exact absurd h.other (h.scan z h.zlt h.zne c)
    · exact c
  have hzl := h.zlt
  have hzne := h.zne
  have hne := h.ne
  have hs : sto C f (nx C a) = sto C f a + 1 ∧ nx C a ≠ f := by
    unfold sto nx at *
    (repeat' split at hzs) <;> (repeat' split) <;> omega
  refine ⟨hflt, nx_lt (by omega), hzl, Ne.symm hs.2, h.hole, h.other, h.zne, h.path, fun c hc hcf hlt => ?_, fun c hc k' v' e hlt => ?_, h.ins, h.fr⟩
  · rw [hs.1] at hlt
    by_cases hca : c = a
    · subst hca; rw [hT]; simp
    · have : sto C f c ≠ sto C f a := fun e => hca (by have := congrArg (pos C f) e; rwa [pos_sto hflt hc, pos_sto hflt halt] at this)
      exact h.scan c hc hcf (by omega)
  · rw [hs.1]
    have := h.cross c hc k' v' e hlt
    by_cases hca : c = a
    · subst hca; rw [hT] at e; cases e; exact absurd hlt hno
    · have : sto C f c ≠ sto C f a := fun e => hca (by have := congrArg (pos C f) e; rwa [pos_sto hflt hc, pos_sto hflt halt] at this)
      omega
theorem frees_move {T : Cells} {f a : Nat} {q : Key × Key} (hf : T f = none) (ha : T a = some q) (hne : f ≠ a) (h1 : f < C) (h2 : a < C) : frees C (move1 T f a) = frees C T := by
  have e1 := (frees_put (L := move1 T f a) (x := a) (i := q) (by simp [move1]) C).1 h2
  have e2 := (frees_put (L := T) (x := f) (i := q) hf C).1 h1
  have e3 : put1 (move1 T f a) a q = put1 T f q := by
    funext c
    by_cases c1 : c = a
    · subst c1; simp [put1, Ne.symm hne, ha]
    · by_cases c2 : c = f
      · subst c2; simp [put1, move1, hne, ha]
      · simp [put1, move1, c1, c2]
  rw [e3] at e1; omega
theorem Pull.move (_ko : KO bf) (hh : ∀ k, hom k < C) {T0 T : Cells} {z f a : Nat} (h : Pull bf hom C T0 z T f a) {k v : Key} (hT : T a = some (k, v)) (hyes : sto C (hom k) f < sto C (hom k) a) : Pull bf hom C T0 z (move1 T f a) a (nx C a) := by
  have hflt := h.flt
  have halt := h.alt
  have hne := h.ne
  have hza : z ≠ a := fun e => by rw [← e, h.other] at hT; cases hT
  have hna : nx C a ≠ a := by unfold nx; split <;> omega
  have hfa : move1 T f a f = some (k, v) := by simp [move1, hne, hT]
  refine ⟨halt, nx_lt (by omega), h.zlt, Ne.symm hna, by simp [move1], by simp [move1, hza, h.zne, h.other], hza, fun c hc k' v' e t ht => ?_, fun c hc hca hlt => ?_, fun c hc k' v' e hlt => ?_, fun x => ?_, ?_⟩
  · by_cases hcf : c = f
    · subst hcf
      rw [hfa] at e
      cases e
      rcases h.path a halt k v hT t (by omega) with e1 | ⟨k'', v'', e1, e2⟩
      · exfalso
        have := congrArg (sto C (hom k)) e1
        rw [sto_pos (hh k) (by have := sto_lt (hh k) hc; omega)] at this
        omega
      · by_cases hp : pos C (hom k) t = a
        · exact .inl hp
        · refine .inr ⟨k'', v'', ?_, e2⟩
          have : pos C (hom k) t ≠ c := fun e3 => by rw [e3, h.hole] at e1; cases e1
          simp [move1, hp, this, e1]
    · have hca : c ≠ a := fun e' => by simp [move1, e'] at e
      simp only [move1, hca, hcf, if_false] at e
      rcases h.path c hc k' v' e t ht with e1 | ⟨k'', v'', e1, e2⟩
      · have hcr : sto C (hom k') f < sto C (hom k') c := by
          have := congrArg (sto C (hom k')) e1
          rw [sto_pos (hh k') (by have := sto_lt (hh k') hc; omega)] at this
          omega
        have hge := h.cross c hc k' v' e hcr
        have hsa : sto C f c ≠ sto C f a := fun e => hca (by have := congrArg (pos C f) e; rwa [pos_sto hflt hc, pos_sto hflt halt] at this)
        have hpa : sto C (hom k') a < sto C (hom k') c := by
          have := hh k'
          unfold sto at *
          (repeat' split at hcr) <;> (repeat' split at hge) <;> (repeat' split at hsa) <;> (repeat' split) <;> omega
        right
        rcases h.path c hc k' v' e _ hpa with e3 | ⟨k3, v3, e3, e4⟩
        · rw [pos_sto (hh k') halt] at e3; exact absurd e3.symm hne
        · rw [pos_sto (hh k') halt, hT] at e3
          cases e3
          exact ⟨k, v, by rw [e1]; exact hfa, e4⟩
      · by_cases hp : pos C (hom k') t = a
        · exact .inl hp
        · refine .inr ⟨k'', v'', ?_, e2⟩
          have : pos C (hom k') t ≠ f := fun e3 => by rw [e3, h.hole] at e1; cases e1
          simp [move1, hp, this, e1]
  · exfalso
    unfold sto nx at hlt
    (repeat' split at hlt) <;> omega
  · have hca : c ≠ a := fun e' => by simp [move1, e'] at e
    unfold sto nx
    (repeat' split) <;> omega
  · rw [← h.ins]
    constructor
    · rintro ⟨c, hc, e⟩
      by_cases hca : c = a
      · simp [move1, hca] at e
      · by_cases hcf : c = f
        · subst hcf; rw [hfa] at e; exact ⟨a, halt, by rw [hT]; exact e⟩
        · simp only [move1, hca, hcf, if_false] at e; exact ⟨c, hc, e⟩
    · rintro ⟨c, hc, e⟩
      by_cases hca : c = a
      · subst hca; exact ⟨f, hflt, by rw [hfa, ← hT]; exact e⟩
      · have hcf : c ≠ f := fun e' => by rw [e', h.hole] at e; cases e
        exact ⟨c, hc, by simp only [move1, hca, hcf, if_false]; exact e⟩
  · rw [frees_move h.hole hT hne hflt halt, h.fr]
theorem Pull.stop {T0 T : Cells} {z f a : Nat} (h : Pull bf hom C T0 z T f a) (hh : ∀ k, hom k < C) (hT : T a = none) : Runs bf hom C T ∧ (∀ x, InT C T x ↔ InT C T0 x) ∧ frees C T = frees C T0 := by
  have hflt := h.flt
  have halt := h.alt
  have hne := h.ne
  refine ⟨fun c hc k v e t ht => ?_, h.ins, h.fr⟩
  rcases h.path c hc k v e t ht with e1 | e1
  · exfalso
    have hcr : sto C (hom k) f < sto C (hom k) c := by
      have := congrArg (sto C (hom k)) e1
      rw [sto_pos (hh k) (by have := sto_lt (hh k) hc; omega)] at this
      omega
    have hge := h.cross c hc k v e hcr
    have hca : c ≠ a := fun e' => by rw [e', hT] at e; cases e
    have hsa : sto C f c ≠ sto C f a := fun e => hca (by have := congrArg (pos C f) e; rwa [pos_sto hflt hc, pos_sto hflt halt] at this)
    have hpa : sto C (hom k) a < sto C (hom k) c := by
      have := hh k
      unfold sto at *
      (repeat' split at hcr) <;> (repeat' split at hge) <;> (repeat' split at hsa) <;> (repeat' split) <;> omega
    rcases h.path c hc k v e _ hpa with e3 | ⟨k3, v3, e3, e4⟩
    · rw [pos_sto (hh k) halt] at e3; exact hne e3.symm
    · rw [pos_sto (hh k) halt, hT] at e3; cases e3
  · exact e1
end

/-! ### One shape -/
def num (P : Nat → Bool) : Nat → Nat
  | 0 => 0
  | C + 1 => num P C + if P C then 1 else 0
theorem num_le {P Q : Nat → Bool} (C : Nat) (h : ∀ c, c < C → P c = true → Q c = true) : num P C ≤ num Q C := by
  induction C with
  | zero => exact Nat.le_refl _
  | succ C ih =>
    have := ih fun c hc => h c (by omega)
    simp only [num]
    by_cases hp : P C = true
    · rw [if_pos hp, if_pos (h C (by omega) hp)]; omega
    · rw [if_neg hp]; omega
theorem num_lt {P Q : Nat → Bool} (C : Nat) (h : ∀ c, c < C → P c = true → Q c = true) {d : Nat} (hd : d < C) (h1 : P d = false) (h2 : Q d = true) : num P C < num Q C := by
  induction C with
  | zero => omega
  | succ C ih =>
    simp only [num]
    by_cases e : d = C
    · subst e
      have := num_le d fun c hc => h c (by omega)
      rw [h1, h2]; simp; omega
    · have := ih (fun c hc => h c (by omega)) (by omega)
      by_cases hp : P C = true
      · rw [if_pos hp, if_pos (h C (by omega) hp)]; omega
      · rw [if_neg hp]; omega

section
variable {bf : Key → Key → Bool} {hom : Key → Nat} {C : Nat}
/-- Two arrangements of the same pairs are one. -/
theorem runs_unique (ko : KO bf) (hh : ∀ k, hom k < C) {T T' : Cells} (h : Runs bf hom C T) (h' : Runs bf hom C T') (hin : ∀ x, InT C T x ↔ InT C T' x) : ∀ c, c < C → T c = T' c := by
  let P : Key → Nat → Bool := fun k c => match T c with | none => false | some (k', _) => bf k' k
  have key : ∀ n k v c c', num (P k) C = n → c < C → c' < C → T c = some (k, v) → T' c' = some (k, v) → c = c' := by
    intro n
    induction n using Nat.strongRecOn with
    | _ n ih =>
      intro k v c c' hn hc hc' e e'
      have less : ∀ k1 v1 d, d < C → T d = some (k1, v1) → bf k1 k = true → num (P k1) C < n := by
        intro k1 v1 d hd e1 hb
        rw [← hn]
        refine num_lt C (fun x _ hx => ?_) hd ?_ ?_
        · simp only [P] at hx ⊢
          cases hTx : T x with
          | none => rw [hTx] at hx; cases hx
          | some y => rw [hTx] at hx; exact ko.trans _ _ _ hx hb
        · simp only [P, e1]; exact ko.irrefl _
        · simp only [P, e1]; exact hb
      rcases Nat.lt_trichotomy (sto C (hom k) c) (sto C (hom k) c') with o | o | o
      · obtain ⟨k1, v1, a1, b1⟩ := (h' c' hc' k v e').at (hh k) hc o
        obtain ⟨d, hd, ed⟩ := (hin (k1, v1)).2 ⟨c, hc, a1⟩
        have := ih _ (less k1 v1 d hd ed b1) k1 v1 d c rfl hd hc ed a1
        rw [this, e] at ed
        cases ed
        rw [ko.irrefl] at b1; cases b1
      · have := congrArg (pos C (hom k)) o; rwa [pos_sto (hh k) hc, pos_sto (hh k) hc'] at this
      · obtain ⟨k1, v1, a1, b1⟩ := (h c hc k v e).at (hh k) hc' o
        obtain ⟨d, hd, ed⟩ := (hin (k1, v1)).1 ⟨c', hc', a1⟩
        have := ih _ (less k1 v1 c' hc' a1 b1) k1 v1 c' d rfl hc' hd a1 ed
        rw [← this, e'] at ed
        cases ed
        rw [ko.irrefl] at b1; cases b1
  intro c hc
  cases e : T c with
  | none =>
    cases e' : T' c with
    | none => rfl
    | some x =>
      obtain ⟨k, v⟩ := x
      obtain ⟨d, hd, ed⟩ := (hin (k, v)).2 ⟨c, hc, e'⟩
      have := key _ k v d c rfl hd hc ed e'
      rw [this, e] at ed; cases ed
  | some x =>
    obtain ⟨k, v⟩ := x
    obtain ⟨d, hd, ed⟩ := (hin (k, v)).1 ⟨c, hc, e⟩
    have := key _ k v c d rfl hc hd e ed
    rw [← this] at ed; exact ed.symm
end

/-! ### What a layout gives -/
theorem place_spec {C n : Nat} {h ord : Nat → Nat} (hC : 0 < C) (hh : ∀ i, h i < C) (hn : n ≤ C) : ∀ k, k ≤ n →
    (∀ c, c < C → ∀ i, place C h ord k c = some i → ∃ j, j < k ∧ ord j = i ∧ ∀ t, t < sto C (h i) c → ∃ j', j' < j ∧ place C h ord k (pos C (h i) t) = some (ord j')) ∧
    (∀ j, j < k → ∃ c, c < C ∧ place C h ord k c = some (ord j)) := by
  intro k
  induction k with
  | zero => intro _; exact ⟨fun c _ i e => by simp [place] at e, fun j hj => by omega⟩
  | succ k ih =>
    intro hk
    obtain ⟨i1, i2⟩ := ih (by omega)
    have hf := place_free (h := h) (ord := ord) hC hh hn (show k < n by omega)
    obtain ⟨d1, d2, d3⟩ := dist_spec hf (hh (ord k))
    have hx := ff_lt (L := place C h ord k) hC (h (ord k))
    simp only [place]
    generalize hx' : ff C (place C h ord k) (h (ord k)) = x at *
    have hpx : ∀ t, t < C → (h (ord k) + t) % C = pos C (h (ord k)) t := fun t ht => by
      have := hh (ord k)
      unfold pos; split
      · exact Nat.mod_eq_of_lt (by omega)
      · rw [Nat.mod_eq_sub_mod (by omega)]; exact Nat.mod_eq_of_lt (by omega)
    have hst : sto C (h (ord k)) x = dist C (place C h ord k) (h (ord k)) := by
      rw [← hx']
      unfold ff
      rw [hpx _ d1, sto_pos (hh _) d1]
    refine ⟨fun c hc i e => ?_, fun j hj => ?_⟩
    · by_cases hcx : c = x
      · subst hcx
        simp only [put1, if_pos] at e
        cases e
        refine ⟨k, by omega, rfl, fun t ht => ?_⟩
        rw [hst] at ht
        have hne := d3 t ht
        rw [hpx t (by omega)] at hne
        cases hp : place C h ord k (pos C (h (ord k)) t) with
        | none => exact absurd hp hne
        | some i' =>
          obtain ⟨j', hj', ej', _⟩ := i1 _ (pos_lt (hh _) (by omega)) i' hp
          have hpc : pos C (h (ord k)) t ≠ c := fun e => by rw [e, d2] at hp; cases hp
          exact ⟨j', hj', by simp only [put1, hpc, if_false]; rw [hp, ej']⟩
      · simp only [put1, hcx, if_false] at e
        obtain ⟨j, hj, ej, hp⟩ := i1 c hc i e
        refine ⟨j, by omega, ej, fun t ht => ?_⟩
        obtain ⟨j', hj', e'⟩ := hp t ht
        have hpc : pos C (h i) t ≠ x := fun e2 => by rw [e2, d2] at e'; cases e'
        exact ⟨j', hj', by simp only [put1, hpc, if_false]; exact e'⟩
    · by_cases hjk : j = k
      · subst hjk; exact ⟨x, hx, by simp [put1]⟩
      · obtain ⟨c, hc, e⟩ := i2 j (by omega)
        have hcx : c ≠ x := fun e2 => by rw [e2, d2] at e; cases e
        exact ⟨c, hc, by simp only [put1, hcx, if_false]; exact e⟩
end Go.Proofs.YticddcnlafbkoaaDoor
