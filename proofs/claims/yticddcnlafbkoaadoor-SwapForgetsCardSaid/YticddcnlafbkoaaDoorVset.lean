import Derived.Test.YticddcnlafbkoaaDoorVput
import Derived.Test.YticddcnlafbkoaaDoorCut
/- What a vault holds, by its pads. -/
namespace Go.Proofs.YticddcnlafbkoaaDoor
open Go.ChangeShapes Go.WideShapes Go.ChangeAt Go.RowKit Go.Deep

theorem count_le {seed : Int} {n C n' C' : Nat} {T T' : Cells} (h : Good seed n C T) (h' : Good seed n' C' T') (hin : ∀ x, InT C T x → InT C' T' x) : n ≤ n' := by
  have l1 := fullL_len T C
  have l2 := fullL_len T' C'
  have e1 := h.2.2.1
  have e2 := h'.2.2.1
  have key : ∀ i, i < (fullL T C).length → ∃ j, j < (fullL T' C').length ∧ T' (nthF T' C' j) = T (nthF T C i) := fun i hi => by
    obtain ⟨c1, c2⟩ := nthF_lt T C i hi
    obtain ⟨p, ep⟩ : ∃ p, T (nthF T C i) = some p := by
      cases e : T (nthF T C i) with
      | none => rw [e] at c2; cases c2
      | some p => exact ⟨p, rfl⟩
    obtain ⟨d, hd, ed⟩ := hin p ⟨_, c1, ep⟩
    obtain ⟨j, hj, ej⟩ := nthF_all T' C' d hd (by rw [ed]; rfl)
    exact ⟨j, hj, by rw [ej, ed, ep]⟩
  have hC : 0 < C := by have := h.free.1; omega
  obtain ⟨f, hf⟩ := choose_lt (α := Nat) (n := (fullL T C).length) (p := fun i j => j < (fullL T' C').length ∧ T' (nthF T' C' j) = T (nthF T C i)) key
  have hinj : ∀ i j, i < (fullL T C).length → j < (fullL T C).length → f i = f j → i = j := fun i j hi hj e => by
    have a := (hf i hi).2
    have b := (hf j hj).2
    rw [e] at a
    rw [a] at b
    obtain ⟨c1, c2⟩ := nthF_lt T C i hi
    obtain ⟨d1, d2⟩ := nthF_lt T C j hj
    cases e1 : T (nthF T C i) with
    | none => rw [e1] at c2; cases c2
    | some p =>
      have := h.1.inj (koS seed) (homS_lt hC seed) c1 d1 (k := p.1) (v := p.2) (v' := p.2) e1 (by rw [← b, e1])
      exact nthF_inj T C i j hi hj this
  have pig : ∀ a b (f : Nat → Nat), (∀ i, i < a → f i < b) → (∀ i j, i < a → j < a → f i = f j → i = j) → a ≤ b := by
    intro a
    induction a with
    | zero => intro b f _ _; omega
    | succ a ih =>
      intro b f h1 h2
      have hb : f a < b := h1 a (by omega)
      have := ih (b - 1) (fun i => if f i < f a then f i else f i - 1) (fun i hi => by
          have := h1 i (by omega)
          have hne : f i ≠ f a := fun e => by have := h2 i a (by omega) (by omega) e; omega
          show (if f i < f a then f i else f i - 1) < b - 1
          split <;> omega) (fun i j hi hj e => by
          have n1 : f i ≠ f a := fun e => by have := h2 i a (by omega) (by omega) e; omega
          have n2 : f j ≠ f a := fun e => by have := h2 j a (by omega) (by omega) e; omega
          have e : (if f i < f a then f i else f i - 1) = (if f j < f a then f j else f j - 1) := e
          refine h2 i j (by omega) (by omega) ?_
          (repeat' split at e) <;> omega)
      omega
  have := pig _ _ f (fun i hi => (hf i hi).1) hinj
  omega
theorem good_unique {seed : Int} {n C n' C' : Nat} {T T' : Cells} (h : Good seed n C T) (h' : Good seed n' C' T') (hin : ∀ x, InT C T x ↔ InT C' T' x) : n = n' ∧ C = C' ∧ ∀ c, c < C → T c = T' c := by
  have e : n = n' := Nat.le_antisymm (count_le h h' fun x hx => (hin x).1 hx) (count_le h' h fun x hx => (hin x).2 hx)
  subst e
  have eC : C = C' := h.2.1.trans h'.2.1.symm
  subst eC
  exact ⟨rfl, rfl, runs_unique (koS seed) (homS_lt (by have := h.free.1; omega) seed) h.1 h'.1 hin⟩
theorem bodyB_congr7 {T T' : Cells} : ∀ C, (∀ c, c < C → T c = T' c) → bodyB T C = bodyB T' C
  | 0, _ => rfl
  | x + 1, h => by
    simp only [bodyB]
    rw [bodyB_congr7 x fun c hc => h c (by omega), h x (by omega)]
theorem image_len7 {R : Nat → Prop} {w : World} {t : Value} {seed : Int} {n C : Nat} {T : Cells} (h : Tab R w t seed n C T) : (imageB n C T).length ≤ 400000000 := by
  have hC := h.good.free.2.1
  obtain ⟨⟨_, _, _, vv, _, _, _, hB⟩, _, _⟩ := h
  have := bodyB_len (T := T) (C := C) (fun c hc k v e => by have := hB.pair hc e; exact ⟨this.2.2.2.1, this.2.2.2.2⟩) C (Nat.le_refl _)
  unfold imageB
  rw [List.length_append]
  have : (headB n).length ≤ 1000 := by simp [headB]
  omega
theorem seek_iff7 {R : Nat → Prop} {w : World} {t : Value} {seed : Int} {n C : Nat} {T : Cells} (h : Tab R w t seed n C T) (key v : Key) : valAt (T (seekAt (bfS seed) (homS seed C) C T key)) key = some v ↔ InT C T (key, v) := by
  obtain ⟨g1, g2, g3⟩ := h.good.free
  have hh := homS_lt (C := C) (by omega) seed
  constructor
  · intro e
    exact ⟨_, seek_lt g3 (hh key), valAt_some e⟩
  · rintro ⟨c, hc, e⟩
    rw [(seek_there (koS seed) h.good.1 (hh key) hc e).1, e]
    simp [valAt]

/-- The pads by their names, each behind its mark. -/
abbrev Pads := Key → Option Key
def putS (S : Pads) (k v : Key) : Pads := fun x => if x = k then some v else S x
def delS (S : Pads) (k : Key) : Pads := fun x => if x = k then none else S x
/-- A vault that lies at bv: its table's blocks are R, its pads S. -/
structure VT (R : Nat → Prop) (w : World) (bv : Nat) (seed : Int) (m : Nat) (S : Pads) : Prop where
  ex : ∃ tp n C T, Tab R w (.pointer tp) seed n C T ∧ n ≤ m ∧ (∀ x, InT C T x ↔ S x.1 = some x.2) ∧ w.heap[bv]? = some (.cells #[.pointer tp] 60 (0, 0))
  apart : ¬ R bv
  mark : ∀ k v, S k = some v → ∃ p, v = [1] ++ p
theorem VT.keep {R Z : Nat → Prop} {w w' : World} {bv : Nat} {seed : Int} {m : Nat} {S : Pads} (h : VT R w bv seed m S) (ht : Touch Z w w') (hZ : ∀ b, R b → ¬ Z b) (hb : ¬ Z bv) : VT R w' bv seed m S := by
  obtain ⟨⟨tp, n, C, T, h1, h2, h3, h4⟩, h5, h6⟩ := h
  exact ⟨⟨tp, n, C, T, h1.keep ht hZ, h2, h3, (ht.same _ (lt_heap h4) hb).trans h4⟩, h5, h6⟩
theorem VT.keepN {R : Nat → Prop} {w w' : World} {bv : Nat} {seed : Int} {m : Nat} {S : Pads} (h : VT R w bv seed m S) (ht : Touch Nil w w') : VT R w' bv seed m S := h.keep ht (fun _ _ c => c) (fun c => c)
theorem VT.low {R : Nat → Prop} {w : World} {bv : Nat} {seed : Int} {m : Nat} {S : Pads} (h : VT R w bv seed m S) : ∀ b, R b → b < w.heap.size := by
  obtain ⟨⟨tp, n, C, T, h1, _⟩, _⟩ := h
  exact h1.low
theorem VT.lt {R : Nat → Prop} {w : World} {bv : Nat} {seed : Int} {m : Nat} {S : Pads} (h : VT R w bv seed m S) : bv < w.heap.size := by
  obtain ⟨⟨tp, n, C, T, _, _, _, h4⟩, _⟩ := h
  exact lt_heap h4
theorem VT.mono {R : Nat → Prop} {w : World} {bv : Nat} {seed : Int} {m m' : Nat} {S : Pads} (h : VT R w bv seed m S) (hm : m ≤ m') : VT R w bv seed m' S := by
  obtain ⟨⟨tp, n, C, T, h1, h2, h3⟩, h5, h6⟩ := h
  exact ⟨⟨tp, n, C, T, h1, by omega, h3⟩, h5, h6⟩
theorem seek_S {R : Nat → Prop} {w : World} {t : Value} {seed : Int} {n C : Nat} {T : Cells} {S : Pads} (h : Tab R w t seed n C T) (hS : ∀ x, InT C T x ↔ S x.1 = some x.2) (key : Key) : valAt (T (seekAt (bfS seed) (homS seed C) C T key)) key = S key := by
  cases e : S key with
  | some v => exact (seek_iff7 h key v).2 ((hS (key, v)).2 e)
  | none =>
    cases e2 : valAt (T (seekAt (bfS seed) (homS seed C) C T key)) key with
    | none => rfl
    | some v =>
      have := (hS (key, v)).1 ((seek_iff7 h key v).1 e2)
      rw [e] at this
      cases this
/-- The pads tell the image. -/
theorem same_image {R R' : Nat → Prop} {w w' : World} {t t' : Value} {seed : Int} {n C n' C' : Nat} {T T' : Cells} {S : Pads} (h : Tab R w t seed n C T) (h' : Tab R' w' t' seed n' C' T') (hS : ∀ x, InT C T x ↔ S x.1 = some x.2) (hS' : ∀ x, InT C' T' x ↔ S x.1 = some x.2) : imageB n C T = imageB n' C' T' := by
  obtain ⟨rfl, rfl, hT⟩ := good_unique h.good h'.good fun x => (hS x).trans (hS' x).symm
  unfold imageB
  rw [bodyB_congr7 C hT]
theorem put_set {S : Pads} {C C' : Nat} {T T' : Cells} {key v : Key} (hS : ∀ x, InT C T x ↔ S x.1 = some x.2) (hin : ∀ x, InT C' T' x ↔ (x.1 ≠ key ∧ InT C T x) ∨ x = (key, v)) : ∀ x, InT C' T' x ↔ putS S key v x.1 = some x.2 := by
  rintro ⟨k, u⟩
  rw [hin, hS]
  unfold putS
  by_cases h : k = key
  · subst h; simp [eq_comm]
  · simp [h]
theorem del_set {S : Pads} {C C' : Nat} {T T' : Cells} {key : Key} (hS : ∀ x, InT C T x ↔ S x.1 = some x.2) (hin : ∀ x, InT C' T' x ↔ InT C T x ∧ x.1 ≠ key) : ∀ x, InT C' T' x ↔ delS S key x.1 = some x.2 := by
  rintro ⟨k, u⟩
  rw [hin, hS]
  unfold delS
  by_cases h : k = key
  · subst h; simp
  · simp [h]
end Go.Proofs.YticddcnlafbkoaaDoor
