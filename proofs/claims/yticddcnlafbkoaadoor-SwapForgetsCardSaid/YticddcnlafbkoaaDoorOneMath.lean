/- Plain mathematics: a sorted order is one; the layout of the same items in another order. Nothing of the program. -/
import Derived.Test.YticddcnlafbkoaaDoorLayMath
namespace Go.Proofs.YticddcnlafbkoaaDoor

/-- f lists the numbers below n in the order. -/
structure Ordr (lt : Nat → Nat → Bool) (n : Nat) (f : Nat → Nat) : Prop where
  lt' : ∀ k, k < n → f k < n
  all : ∀ x, x < n → ∃ j, j < n ∧ f j = x
  sorted : Sorted lt f 0 n

theorem PermOn.ordr {lt : Nat → Nat → Bool} {n : Nat} {f : Nat → Nat} (h : PermOn 0 n (fun k => k) f) (hs : Sorted lt f 0 n) : Ordr lt n f := by
  refine ⟨fun k hk => h.all (p := fun v => v < n) (fun _ _ h => h) k (by omega) hk, fun x hx => ?_, hs⟩
  obtain ⟨σ, τ, h1, h2, h3, h4⟩ := h
  have := PermOn.inside (a := 0) (b := n) h2 h1 (fun i hi => by have e := h3 i hi; have := congrArg τ e; rw [h2] at this; exact this.symm) x ⟨by omega, hx⟩
  exact ⟨τ x, this.2, by rw [h4]; exact h1 x⟩

theorem Ordr.unique {lt : Nat → Nat → Bool} {n : Nat} {f g : Nat → Nat} (w : SWO lt n) (hf : Ordr lt n f) (hg : Ordr lt n g) : ∀ k, k < n → f k = g k := by
  intro k
  induction k using Nat.strongRecOn with
  | _ k ih =>
    intro hk
    obtain ⟨m, hm, em⟩ := hg.all (f k) (hf.lt' k hk)
    obtain ⟨m', hm', em'⟩ := hf.all (g k) (hg.lt' k hk)
    rcases Nat.lt_trichotomy m k with o | o | o
    · have e := ih m o hm
      have := hf.sorted m k (by omega) o hk
      rw [e, em] at this
      exact absurd this (Rel.irrefl w (hf.lt' k hk))
    · rw [← o, em, o]
    · rcases Nat.lt_trichotomy m' k with o' | o' | o'
      · have e := ih m' o' hm'
        have := hg.sorted m' k (by omega) o' hk
        rw [← e, em'] at this
        exact absurd this (Rel.irrefl w (hg.lt' k hk))
      · rw [← o', em', o']
      · have a := hg.sorted k m (by omega) o hm
        have b := hf.sorted k m' (by omega) o' hm'
        rw [em] at a
        rw [em'] at b
        exact absurd b (Rel.asym w (hg.lt' k hk) (hf.lt' k hk) a)

theorem dist_same {α β : Type} {C : Nat} {L : Nat → Option α} {M : Nat → Option β} (h : ∀ c, (L c).isNone = (M c).isNone) (c : Nat) : dist C L c = dist C M c := by
  unfold dist
  have : (fun t => (L ((c + t) % C)).isNone) = fun t => (M ((c + t) % C)).isNone := by funext t; exact h _
  rw [this]
theorem place_congr {C : Nat} {h h' ord ord' : Nat → Nat} : ∀ n, (∀ k, k < n → ord k = ord' k) → (∀ k, k < n → h (ord k) = h' (ord' k)) → place C h ord n = place C h' ord' n
  | 0, _, _ => rfl
  | n + 1, e, e2 => by
    simp only [place]
    rw [place_congr n (fun k hk => e k (by omega)) (fun k hk => e2 k (by omega)), e2 n (by omega), e n (by omega)]
/-- The items by other numbers. -/
theorem place_map {C : Nat} {h ord p : Nat → Nat} : ∀ n c, (place C (fun i => h (p i)) ord n c).map p = place C h (fun k => p (ord k)) n c
  | 0, _ => rfl
  | n + 1, c => by
    have ih := place_map (C := C) (h := h) (ord := ord) (p := p) n
    have hd : ff C (place C (fun i => h (p i)) ord n) (h (p (ord n))) = ff C (place C h (fun k => p (ord k)) n) (h (p (ord n))) := by
      unfold ff
      rw [dist_same (M := place C h (fun k => p (ord k)) n) (fun c => by rw [← ih c]; cases place C (fun i => h (p i)) ord n c <;> rfl)]
    simp only [place, put1]
    rw [hd]
    by_cases e : c = ff C (place C h (fun k => p (ord k)) n) (h (p (ord n)))
    · rw [if_pos e, if_pos e]; rfl
    · rw [if_neg e, if_neg e]; exact ih c

/-- The same items in another order lie in the same cells: p tells where an item of the second list stands in the first one. -/
theorem place_turn {C n : Nat} {s p : Nat → Nat} {lt : Nat → Nat → Bool} {oa ob : Nat → Nat} (w : SWO lt n) (tot : ∀ i j, i < n → j < n → i ≠ j → lt i j = true ∨ lt j i = true) (hp : ∀ i, i < n → p i < n) (hi : ∀ i j, i < n → j < n → p i = p j → i = j) (hs : ∀ x, x < n → ∃ i, i < n ∧ p i = x)
    (ha : Ordr lt n oa) (hb : Ordr (fun i j => lt (p i) (p j)) n ob) : place C s oa n = fun c => (place C (fun i => s (p i)) ob n c).map p := by
  have hb' : Ordr lt n (fun k => p (ob k)) := by
    refine ⟨fun k hk => hp _ (hb.lt' k hk), fun x hx => ?_, fun i j h0 hij hj => ?_⟩
    · obtain ⟨i, hi', e⟩ := hs x hx
      obtain ⟨j, hj, e'⟩ := hb.all i hi'
      exact ⟨j, hj, by rw [e', e]⟩
    · have hbi := hb.lt' i (by omega)
      have hbj := hb.lt' j hj
      rcases hb.sorted i j h0 hij hj with a | ⟨a, c⟩
      · exact .inl a
      · have hne : p (ob i) ≠ p (ob j) := fun e => by have := hi _ _ hbi hbj e; omega
        rcases tot _ _ (hp _ hbi) (hp _ hbj) hne with t | t
        · exact .inl t
        · have a' : lt (p (ob j)) (p (ob i)) = false := a
          rw [t] at a'; cases a'
  funext c
  rw [place_map]
  have := Ordr.unique w ha hb'
  rw [place_congr n this (fun k hk => by rw [this k hk])]

/-- How many cells are taken. -/
theorem taken_frees {α : Type} {L : Nat → Option α} (C : Nat) : ((List.range C).filter fun c => (L c).isSome).length + frees C L = C := by
  induction C with
  | zero => rfl
  | succ C ih =>
    rw [List.range_succ, List.filter_append, List.length_append]
    simp only [frees]
    cases h : L C <;> simp [h] <;> omega
end Go.Proofs.YticddcnlafbkoaaDoor
