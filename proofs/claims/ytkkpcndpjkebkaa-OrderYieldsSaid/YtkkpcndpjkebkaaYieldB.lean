import Derived.Test.YtkkpcndpjkebkaaYieldA
/- got = append(got, Pair{Copy(k), Copy(v)}): whatever the order. -/
namespace Go.Proofs.Ytkkpcndpjkebkaa
open Go.ChangeShapes Go.WideShapes Go.ChangeAt Go.RowKit Go.Deep

/-- The list behind the append. -/
def AppP (base : Nat) (x : Value) (Wb : World) (A : Pairs) (V : Nat → Nat → Value) (p : Key × Key) (W : World) (v : Value) : Prop :=
  ∃ V', Got base W v (A ++ [p]) V' ∧ Touch (OwnOf x) Wb W ∧ (∀ b, OwnOf v b → OwnOf x b ∨ Wb.heap.size ≤ b) ∧ ∀ i c b, i < A.length + 1 → c < 2 → OwnOf (V' i c) b → (i < A.length ∧ OwnOf (V i c) b) ∨ Wb.heap.size ≤ b
/-- What holds while a pair is appended. -/
structure Y16 (base bg : Nat) (x kx ux : Value) (Wb : World) (A : Pairs) (V : Nat → Nat → Value) (p : Key × Key) (L : Array Bool) (W : World) (v61 v62 v63 v64 v65 v66 v67 v68 : Value) : Prop where
  f0 : L.getD 0 false = true → v61 = x
  f1 : L.getD 1 false = true → v62 = kx
  f2 : L.getD 2 false = true → OwnB Wb.heap.size W v63 p.1
  f3 : L.getD 3 false = true → v64 = ux
  f4 : L.getD 4 false = true → OwnB Wb.heap.size W v65 p.2
  f5 : L.getD 5 false = true → v66 = .agg #[v63, v65]
  f6 : L.getD 6 false = true → L.getD 7 false = false → ∃ b, v67 = .slice (some ⟨b, 0, none⟩) 1 1 ∧ W.heap[b]? = some (.cells #[v63, v65] 45 (0, 0))
  c4 : L.getD 4 false = true → L.getD 2 false = true
  c5 : L.getD 5 false = true → L.getD 4 false = true
  c6 : L.getD 6 false = true → L.getD 5 false = true
  c7 : L.getD 7 false = true → L.getD 0 false = true ∧ L.getD 6 false = true ∧ L.getD 1 false = true ∧ L.getD 3 false = true
  c8 : L.getD 8 false = true → L.getD 7 false = true
  d2 : L.getD 2 false = true → L.getD 1 false = true
  d4 : L.getD 4 false = true → L.getD 3 false = true
  w0 : L.getD 7 false = false → Touch Nil Wb W
  w7 : L.getD 7 false = true → L.getD 8 false = false → AppP base x Wb A V p W v68 ∧ W.heap[bg]? = some (.cells #[x] 26 (0, 0))
  w8 : L.getD 8 false = true → ∃ W', AppP base x Wb A V p W' v68 ∧ W'.heap[bg]? = some (.cells #[x] 26 (0, 0)) ∧ W = W'.setCell ⟨bg, 0, none⟩ v68
theorem unset {l : Array Bool} {i j : Nat} (h : (l.setIfInBounds i true).getD j false = false) (hne : i ≠ j) : l.getD j false = false := by
  simpa only [Array.getD_eq_getD_getElem?, Array.getElem?_setIfInBounds_ne hne] using h
theorem ofT {l : Array Bool} {i : Nat} (h : l.getD i true = false) : l.getD i false = false := by
  cases e : l.getD i false with
  | false => rfl
  | true => exact (ngd h e).elim
theorem setT {l : Array Bool} {i : Nat} (h : l.getD i true = false) : (l.setIfInBounds i true).getD i false = true := by
  rcases Nat.lt_or_ge i l.size with c | c
  · simp [Array.getD, c]
  · simp [Array.getD, Nat.not_lt.2 c] at h
theorem Got.form {base : Nat} {w : World} {x : Value} {L : Pairs} {V : Nat → Nat → Value} (h : Got base w x L V) : ∃ ao n cap, x = .slice ao n cap := by
  obtain ⟨a, n, c, e⟩ := h.pl.form3
  exact ⟨a, n, c, e⟩
theorem Got.far {base B : Nat} {w : World} {x v : Value} {L : Pairs} {V : Nat → Nat → Value} {l : Key} (h : Got base w x L V) (ho : OwnB B w v l) : ∀ b, OwnOf v b → ¬ OwnOf x b := fun b hb hx => by
  obtain ⟨cs, z, e⟩ := ho.elem hb
  obtain ⟨_, cur, e'⟩ := h.block hx
  rw [e] at e'
  injection e' with e'
  injection e' with _ e'
  exact absurd e' (by decide)
theorem yc2 {w : World} {b t : Nat} {x0 x1 : Value} (h : w.heap[b]? = some (.cells #[x0, x1] t (0, 0))) : w.cell? ⟨b, 0, none⟩ = some x0 ∧ w.cell? ⟨b, 1, none⟩ = some x1 := by
  constructor <;> simp [World.cell?, h]
section
variable {base bg : Nat} {x kx ux : Value} {Wb : World} {A : Pairs} {V : Nat → Nat → Value} {p : Key × Key} {L : Array Bool} {W W' : World} {v61 v62 v63 v64 v65 v66 v67 v68 : Value}
/-- As long as one of the first seven is left, nothing that was there was written. -/
theorem Y16.no7 (y : Y16 base bg x kx ux Wb A V p L W v61 v62 v63 v64 v65 v66 v67 v68) {j : Nat} (hl : L.getD j true = false) (hj : j < 7) : L.getD 7 false = false := by
  cases h : L.getD 7 false with
  | false => rfl
  | true =>
    have h0 := y.c7 h
    have h5 := y.c6 h0.2.1
    have h4 := y.c5 h5
    have h2 := y.c4 h4
    rcases (by omega : j = 0 ∨ j = 1 ∨ j = 2 ∨ j = 3 ∨ j = 4 ∨ j = 5 ∨ j = 6) with rfl | rfl | rfl | rfl | rfl | rfl | rfl
    · exact (ngd hl h0.1).elim
    · exact (ngd hl h0.2.2.1).elim
    · exact (ngd hl h2).elim
    · exact (ngd hl h0.2.2.2).elim
    · exact (ngd hl h4).elim
    · exact (ngd hl h5).elim
    · exact (ngd hl h0.2.1).elim
theorem Y16.s0 (y : Y16 base bg x kx ux Wb A V p L W v61 v62 v63 v64 v65 v66 v67 v68) (hl : L.getD 0 true = false) : Y16 base bg x kx ux Wb A V p (L.setIfInBounds 0 true) W x v62 v63 v64 v65 v66 v67 v68 := by
  have h7 := y.no7 hl (by decide)
  exact { f0 := fun _ => rfl, f1 := fun h => y.f1 (stp h (by decide)), f3 := fun h => y.f3 (stp h (by decide)), f5 := fun h => y.f5 (stp h (by decide)), f2 := fun h => y.f2 (stp h (by decide)), f4 := fun h => y.f4 (stp h (by decide)), f6 := fun h h7 => by obtain ⟨b, e1, e2⟩ := y.f6 (stp h (by decide)) (unset h7 (by decide)); exact ⟨b, e1, e2⟩, c4 := fun h => mon (y.c4 (stp h (by decide))), c5 := fun h => mon (y.c5 (stp h (by decide))), c6 := fun h => mon (y.c6 (stp h (by decide))), c8 := fun h => mon (y.c8 (stp h (by decide))), d2 := fun h => mon (y.d2 (stp h (by decide))), d4 := fun h => mon (y.d4 (stp h (by decide))), c7 := fun h => by have c := y.c7 (stp h (by decide)); exact ⟨mon c.1, mon c.2.1, mon c.2.2.1, mon c.2.2.2⟩, w0 := fun _ => y.w0 h7, w7 := fun h => absurd (stp h (by decide)) (by rw [h7]; decide), w8 := fun h => absurd (y.c8 (stp h (by decide))) (by rw [h7]; decide) }
theorem Y16.s1 (y : Y16 base bg x kx ux Wb A V p L W v61 v62 v63 v64 v65 v66 v67 v68) (hl : L.getD 1 true = false) : Y16 base bg x kx ux Wb A V p (L.setIfInBounds 1 true) W v61 kx v63 v64 v65 v66 v67 v68 := by
  have h7 := y.no7 hl (by decide)
  exact { f0 := fun h => y.f0 (stp h (by decide)), f1 := fun _ => rfl, f3 := fun h => y.f3 (stp h (by decide)), f5 := fun h => y.f5 (stp h (by decide)), f2 := fun h => y.f2 (stp h (by decide)), f4 := fun h => y.f4 (stp h (by decide)), f6 := fun h h7 => by obtain ⟨b, e1, e2⟩ := y.f6 (stp h (by decide)) (unset h7 (by decide)); exact ⟨b, e1, e2⟩, c4 := fun h => mon (y.c4 (stp h (by decide))), c5 := fun h => mon (y.c5 (stp h (by decide))), c6 := fun h => mon (y.c6 (stp h (by decide))), c8 := fun h => mon (y.c8 (stp h (by decide))), d2 := fun h => mon (y.d2 (stp h (by decide))), d4 := fun h => mon (y.d4 (stp h (by decide))), c7 := fun h => by have c := y.c7 (stp h (by decide)); exact ⟨mon c.1, mon c.2.1, mon c.2.2.1, mon c.2.2.2⟩, w0 := fun _ => y.w0 h7, w7 := fun h => absurd (stp h (by decide)) (by rw [h7]; decide), w8 := fun h => absurd (y.c8 (stp h (by decide))) (by rw [h7]; decide) }
theorem Y16.s2 (y : Y16 base bg x kx ux Wb A V p L W v61 v62 v63 v64 v65 v66 v67 v68) (hl : L.getD 2 true = false) (l1 : L.getD 1 false = true) {v : Value} (tk : Touch Nil W W') (hv : OwnB W.heap.size W' v p.1) : Y16 base bg x kx ux Wb A V p (L.setIfInBounds 2 true) W' v61 v62 v v64 v65 v66 v67 v68 := by
  have h7 := y.no7 hl (by decide)
  exact { f0 := fun h => y.f0 (stp h (by decide)), f1 := fun h => y.f1 (stp h (by decide)), f3 := fun h => y.f3 (stp h (by decide)), f5 := fun h => absurd (y.c4 (y.c5 (stp h (by decide)))) (by rw [ofT hl]; decide), f2 := fun _ => hv.base (y.w0 h7).size, f4 := fun h => (y.f4 (stp h (by decide))).keep tk fun _ _ c => c, f6 := fun h _ => absurd (y.c4 (y.c5 (y.c6 (stp h (by decide))))) (by rw [ofT hl]; decide), c4 := fun h => mon (y.c4 (stp h (by decide))), c5 := fun h => mon (y.c5 (stp h (by decide))), c6 := fun h => mon (y.c6 (stp h (by decide))), c8 := fun h => mon (y.c8 (stp h (by decide))), d2 := fun _ => mon l1, d4 := fun h => mon (y.d4 (stp h (by decide))), c7 := fun h => by have c := y.c7 (stp h (by decide)); exact ⟨mon c.1, mon c.2.1, mon c.2.2.1, mon c.2.2.2⟩, w0 := fun _ => (y.w0 h7).trans tk, w7 := fun h => absurd (stp h (by decide)) (by rw [h7]; decide), w8 := fun h => absurd (y.c8 (stp h (by decide))) (by rw [h7]; decide) }
theorem Y16.s3 (y : Y16 base bg x kx ux Wb A V p L W v61 v62 v63 v64 v65 v66 v67 v68) (hl : L.getD 3 true = false) : Y16 base bg x kx ux Wb A V p (L.setIfInBounds 3 true) W v61 v62 v63 ux v65 v66 v67 v68 := by
  have h7 := y.no7 hl (by decide)
  exact { f0 := fun h => y.f0 (stp h (by decide)), f1 := fun h => y.f1 (stp h (by decide)), f3 := fun _ => rfl, f5 := fun h => y.f5 (stp h (by decide)), f2 := fun h => y.f2 (stp h (by decide)), f4 := fun h => y.f4 (stp h (by decide)), f6 := fun h h7 => by obtain ⟨b, e1, e2⟩ := y.f6 (stp h (by decide)) (unset h7 (by decide)); exact ⟨b, e1, e2⟩, c4 := fun h => mon (y.c4 (stp h (by decide))), c5 := fun h => mon (y.c5 (stp h (by decide))), c6 := fun h => mon (y.c6 (stp h (by decide))), c8 := fun h => mon (y.c8 (stp h (by decide))), d2 := fun h => mon (y.d2 (stp h (by decide))), d4 := fun h => mon (y.d4 (stp h (by decide))), c7 := fun h => by have c := y.c7 (stp h (by decide)); exact ⟨mon c.1, mon c.2.1, mon c.2.2.1, mon c.2.2.2⟩, w0 := fun _ => y.w0 h7, w7 := fun h => absurd (stp h (by decide)) (by rw [h7]; decide), w8 := fun h => absurd (y.c8 (stp h (by decide))) (by rw [h7]; decide) }
theorem Y16.s4 (y : Y16 base bg x kx ux Wb A V p L W v61 v62 v63 v64 v65 v66 v67 v68) (hl : L.getD 4 true = false) (l3 : L.getD 3 false = true) (l2 : L.getD 2 false = true) {v : Value} (tk : Touch Nil W W') (hv : OwnB W.heap.size W' v p.2) : Y16 base bg x kx ux Wb A V p (L.setIfInBounds 4 true) W' v61 v62 v63 v64 v v66 v67 v68 := by
  have h7 := y.no7 hl (by decide)
  exact { f0 := fun h => y.f0 (stp h (by decide)), f1 := fun h => y.f1 (stp h (by decide)), f3 := fun h => y.f3 (stp h (by decide)), f5 := fun h => absurd (y.c5 (stp h (by decide))) (by rw [ofT hl]; decide), f2 := fun h => (y.f2 (stp h (by decide))).keep tk fun _ _ c => c, f4 := fun _ => hv.base (y.w0 h7).size, f6 := fun h _ => absurd (y.c5 (y.c6 (stp h (by decide)))) (by rw [ofT hl]; decide), c4 := fun _ => mon l2, c5 := fun h => mon (y.c5 (stp h (by decide))), c6 := fun h => mon (y.c6 (stp h (by decide))), c8 := fun h => mon (y.c8 (stp h (by decide))), d2 := fun h => mon (y.d2 (stp h (by decide))), d4 := fun _ => mon l3, c7 := fun h => by have c := y.c7 (stp h (by decide)); exact ⟨mon c.1, mon c.2.1, mon c.2.2.1, mon c.2.2.2⟩, w0 := fun _ => (y.w0 h7).trans tk, w7 := fun h => absurd (stp h (by decide)) (by rw [h7]; decide), w8 := fun h => absurd (y.c8 (stp h (by decide))) (by rw [h7]; decide) }
theorem Y16.s5 (y : Y16 base bg x kx ux Wb A V p L W v61 v62 v63 v64 v65 v66 v67 v68) (hl : L.getD 5 true = false) (l4 : L.getD 4 false = true) : Y16 base bg x kx ux Wb A V p (L.setIfInBounds 5 true) W v61 v62 v63 v64 v65 (.agg #[v63, v65]) v67 v68 := by
  have h7 := y.no7 hl (by decide)
  exact { f0 := fun h => y.f0 (stp h (by decide)), f1 := fun h => y.f1 (stp h (by decide)), f3 := fun h => y.f3 (stp h (by decide)), f5 := fun _ => rfl, f2 := fun h => y.f2 (stp h (by decide)), f4 := fun h => y.f4 (stp h (by decide)), f6 := fun h h7 => by obtain ⟨b, e1, e2⟩ := y.f6 (stp h (by decide)) (unset h7 (by decide)); exact ⟨b, e1, e2⟩, c4 := fun h => mon (y.c4 (stp h (by decide))), c5 := fun _ => mon l4, c6 := fun h => mon (y.c6 (stp h (by decide))), c8 := fun h => mon (y.c8 (stp h (by decide))), d2 := fun h => mon (y.d2 (stp h (by decide))), d4 := fun h => mon (y.d4 (stp h (by decide))), c7 := fun h => by have c := y.c7 (stp h (by decide)); exact ⟨mon c.1, mon c.2.1, mon c.2.2.1, mon c.2.2.2⟩, w0 := fun _ => y.w0 h7, w7 := fun h => absurd (stp h (by decide)) (by rw [h7]; decide), w8 := fun h => absurd (y.c8 (stp h (by decide))) (by rw [h7]; decide) }
theorem Y16.s6 (y : Y16 base bg x kx ux Wb A V p L W v61 v62 v63 v64 v65 v66 v67 v68) (hl : L.getD 6 true = false) (l5 : L.getD 5 false = true) {b : Nat} (tk : Touch Nil W W') (hb : W'.heap[b]? = some (.cells #[v63, v65] 45 (0, 0))) : Y16 base bg x kx ux Wb A V p (L.setIfInBounds 6 true) W' v61 v62 v63 v64 v65 v66 (.slice (some ⟨b, 0, none⟩) 1 1) v68 := by
  have h7 := y.no7 hl (by decide)
  exact { f0 := fun h => y.f0 (stp h (by decide)), f1 := fun h => y.f1 (stp h (by decide)), f3 := fun h => y.f3 (stp h (by decide)), f5 := fun h => y.f5 (stp h (by decide)), f2 := fun h => (y.f2 (stp h (by decide))).keep tk fun _ _ c => c, f4 := fun h => (y.f4 (stp h (by decide))).keep tk fun _ _ c => c, f6 := fun _ _ => ⟨b, rfl, hb⟩, c4 := fun h => mon (y.c4 (stp h (by decide))), c5 := fun h => mon (y.c5 (stp h (by decide))), c6 := fun _ => mon l5, c8 := fun h => mon (y.c8 (stp h (by decide))), d2 := fun h => mon (y.d2 (stp h (by decide))), d4 := fun h => mon (y.d4 (stp h (by decide))), c7 := fun h => by have c := y.c7 (stp h (by decide)); exact ⟨mon c.1, mon c.2.1, mon c.2.2.1, mon c.2.2.2⟩, w0 := fun _ => (y.w0 h7).trans tk, w7 := fun h => absurd (stp h (by decide)) (by rw [h7]; decide), w8 := fun h => absurd (y.c8 (stp h (by decide))) (by rw [h7]; decide) }
theorem Y16.s7 (y : Y16 base bg x kx ux Wb A V p L W v61 v62 v63 v64 v65 v66 v67 v68) (hl : L.getD 7 true = false) (l0 : L.getD 0 false = true) (l6 : L.getD 6 false = true) (l1 : L.getD 1 false = true) (l3 : L.getD 3 false = true) (hg : Got base Wb x A V) (hbg : Wb.heap[bg]? = some (.cells #[x] 26 (0, 0))) {v' : Value} {V' : Nat → Nat → Value}
    (h1 : Got base W' v' (A ++ [p]) V') (h2 : Touch (OwnOf x) W W') (h3 : ∀ b, OwnOf v' b → OwnOf x b ∨ W.heap.size ≤ b) (h4 : ∀ i c b, i < A.length + 1 → c < 2 → OwnOf (V' i c) b → (i < A.length ∧ OwnOf (V i c) b) ∨ OwnOf v63 b ∨ OwnOf v65 b) (hx : ¬ OwnOf x bg) :
    Y16 base bg x kx ux Wb A V p (L.setIfInBounds 7 true) W' v61 v62 v63 v64 v65 v66 v67 v' := by
  have h7 := ofT hl
  have t0 := y.w0 h7
  have l5 := y.c6 l6
  have l4 := y.c5 l5
  have l2 := y.c4 l4
  have gw := hg.keepN t0
  exact { f0 := fun h => y.f0 (stp h (by decide)), f1 := fun h => y.f1 (stp h (by decide)), f3 := fun h => y.f3 (stp h (by decide)), f5 := fun h => y.f5 (stp h (by decide)), f2 := fun _ => (y.f2 l2).keep h2 (gw.far (y.f2 l2)), f4 := fun _ => (y.f4 l4).keep h2 (gw.far (y.f4 l4)), f6 := fun _ h => absurd h (by rw [setT hl]; decide), c4 := fun h => mon (y.c4 (stp h (by decide))), c5 := fun h => mon (y.c5 (stp h (by decide))), c6 := fun h => mon (y.c6 (stp h (by decide))), c8 := fun h => mon (y.c8 (stp h (by decide))), d2 := fun h => mon (y.d2 (stp h (by decide))), d4 := fun h => mon (y.d4 (stp h (by decide))), c7 := fun _ => ⟨mon l0, mon l6, mon l1, mon l3⟩, w0 := fun h => absurd h (by rw [setT hl]; decide), w7 := fun _ _ => ⟨⟨V', h1, t0.of_nil.trans h2, fun b hb => (h3 b hb).imp (fun h => h) fun h => Nat.le_trans t0.size h, fun i c b hi hc hb => (h4 i c b hi hc hb).imp (fun h => h) fun h => h.elim (fun h => ((y.f2 l2).block b h).1) fun h => ((y.f4 l4).block b h).1⟩, (h2.same bg (Nat.lt_of_lt_of_le (lt_of_heap hbg) t0.size) hx).trans ((t0.same bg (lt_of_heap hbg) fun c => c).trans hbg)⟩, w8 := fun h => absurd (y.c8 (stp h (by decide))) (by rw [h7]; decide) }
theorem Y16.s8 (y : Y16 base bg x kx ux Wb A V p L W v61 v62 v63 v64 v65 v66 v67 v68) (hl : L.getD 8 true = false) (l7 : L.getD 7 false = true) : ∃ v68', v68 = v68' ∧ W.heap[bg]? = some (.cells #[x] 26 (0, 0)) ∧ AppP base x Wb A V p W v68 ∧ (∀ {u : Value}, u = v68 → Y16 base bg x kx ux Wb A V p (L.setIfInBounds 8 true) (W.setCell ⟨bg, 0, none⟩ u) v61 v62 v63 v64 v65 v66 v67 u) := by
  obtain ⟨ha, hb⟩ := y.w7 l7 (ofT hl)
  refine ⟨_, rfl, hb, ha, fun {u} e => ?_⟩
  subst e
  obtain ⟨V', hg, hr⟩ := id ha
  have tk := (Touch.refl (Just bg) W).setCell ⟨bg, 0, none⟩ u fun _ => rfl
  have hn : ∀ {B : Nat} {v : Value} {l : Key}, OwnB B W v l → ∀ b, OwnOf v b → ¬ Just bg b := fun ho b hb' hs => by
    have hs : b = bg := hs
    subst hs
    obtain ⟨cs, z, e⟩ := ho.elem hb'
    rw [hb] at e
    injection e with e
    injection e with _ e
    exact absurd e (by decide)
  exact { f0 := fun h => y.f0 (stp h (by decide)), f1 := fun h => y.f1 (stp h (by decide)), f3 := fun h => y.f3 (stp h (by decide)), f5 := fun h => y.f5 (stp h (by decide)), f2 := fun h => (y.f2 (stp h (by decide))).keep tk (hn (y.f2 (stp h (by decide)))), f4 := fun h => (y.f4 (stp h (by decide))).keep tk (hn (y.f4 (stp h (by decide)))), f6 := fun _ h => absurd (mon (i := 8) l7) (by rw [h]; decide), c4 := fun h => mon (y.c4 (stp h (by decide))), c5 := fun h => mon (y.c5 (stp h (by decide))), c6 := fun h => mon (y.c6 (stp h (by decide))), c8 := fun _ => mon l7, d2 := fun h => mon (y.d2 (stp h (by decide))), d4 := fun h => mon (y.d4 (stp h (by decide))), c7 := fun h => by have c := y.c7 (stp h (by decide)); exact ⟨mon c.1, mon c.2.1, mon c.2.2.1, mon c.2.2.2⟩, w0 := fun h => absurd (mon (i := 8) l7) (by rw [h]; decide), w7 := fun _ h => absurd (setT hl) (by rw [h]; decide), w8 := fun _ => ⟨W, ha, hb, rfl⟩ }
end

/-- What lies where a round begins: nothing of it is the round's own. -/
theorem YI.parts {seed : Int} {mb bb bg base : Nat} {Wst W0 W : World} {S : Pairs} {M : Nat → Pairs} {i : Nat} (h : YI seed mb bb bg base Wst S M i W0) (hlt : mb < base ∧ bb < base ∧ bg < base) (ht : Touch (Just (base + 1)) W0 W) :
    ∃ x V R ra t, Touch (fun b => b = bb ∨ b = bg ∨ base ≤ b) Wst W ∧ W.heap[bg]? = some (.cells #[x] 26 (0, 0)) ∧ Got (base + 2) W x (S.take i) V ∧ (∀ b, OwnOf x b → b < W0.heap.size) ∧ (∀ j c b, j < (S.take i).length → c < 2 → OwnOf (V j c) b → b < W0.heap.size) ∧ MapAt seed R W mb bb ra t ∧ t.toL = M i ∧ ∀ b, R b → b < W0.heap.size ∧ b ≠ bg ∧ b ≠ base + 1 ∧ ¬ OwnOf x b := by
  obtain ⟨h0, x, V, R, ra, t, h1, h2, h3, h4, h5⟩ := h
  exact ⟨x, V, R, ra, t, h0.trans (ht.mono fun b _ hs => by have hs : b = base + 1 := hs; omega), (ht.same _ (lt_of_heap h1) fun hs => by have hs : bg = base + 1 := hs; omega).trans h1, h2.keep ht (fun b hb hs => by have := (h2.block hb).1; have hs : b = base + 1 := hs; omega) (fun j c b hj hc hb hs => by have := (h2.elem hj hc hb).1; have hs : b = base + 1 := hs; omega), fun b hb => by obtain ⟨_, cur, e⟩ := h2.block hb; exact lt_of_heap e, fun j c b hj hc hb => (h2.elem hj hc hb).2.1, h3.keep ht (fun b hb hs => (h5 b hb).2.2.1 hs) (fun hs => by have hs : mb = base + 1 := hs; omega) (fun hs => by have hs : bb = base + 1 := hs; omega), h4, h5⟩
/-- Behind the append. -/
theorem YM.start {seed : Int} {mb bb bg base n0 : Nat} {Wst W w10 : World} {S m : Pairs} {i : Nat} {p : Key × Key} {x v : Value} {V : Nat → Nat → Value} {R : Nat → Prop} {ra : Option Addr} {t : Tree} (hlt : mb < base ∧ bb < base ∧ bg < base ∧ mb ≠ bg ∧ bb ≠ bg) (hp : S[i]? = some p)
    (h0 : Touch (fun b => b = bb ∨ b = bg ∨ base ≤ b) Wst W) (hg : Got (base + 2) W x (S.take i) V) (hx : ∀ b, OwnOf x b → b < n0) (hV : ∀ j c b, j < (S.take i).length → c < 2 → OwnOf (V j c) b → b < n0) (hm : MapAt seed R W mb bb ra t) (htl : t.toL = m) (hR : ∀ b, R b → b < n0 ∧ b ≠ bg ∧ b ≠ base + 1 ∧ ¬ OwnOf x b) (hn : n0 ≤ W.heap.size)
    (ha : AppP (base + 2) x W (S.take i) V p w10 v) (hb : w10.heap[bg]? = some (.cells #[x] 26 (0, 0))) :
    YM seed mb bb bg base n0 W.heap.size Wst S m (i + 1) (w10.setCell ⟨bg, 0, none⟩ v) ∧ Touch (fun b => OwnOf x b ∨ b = bg) W (w10.setCell ⟨bg, 0, none⟩ v) := by
  obtain ⟨V', g1, g2, g3, g4⟩ := ha
  have tk := (Touch.refl (Just bg) w10).setCell ⟨bg, 0, none⟩ v fun _ => rfl
  have hlow : ∀ b, OwnOf x b → base + 2 ≤ b := fun b hb => (hg.block hb).1
  have hvx : ∀ b, OwnOf v b → base + 2 ≤ b := fun b hb => (g1.block hb).1
  have htn : S.take (i + 1) = S.take i ++ [p] := by rw [List.take_add_one, hp]; rfl
  have hsz : W.heap.size ≤ (w10.setCell ⟨bg, 0, none⟩ v).heap.size := Nat.le_trans g2.size tk.size
  have hlen : (S.take i ++ [p]).length = (S.take i).length + 1 := by simp
  refine ⟨⟨(h0.trans (g2.mono fun b _ hs => by have := hlow b hs; omega)).trans (tk.mono fun b _ hs => by have hs : b = bg := hs; exact .inr (.inl hs)), v, V', R, ra, t, set_cell1 hb, by
    rw [htn]
    exact g1.keep tk (fun b hb hs => by have := hvx b hb; have hs : b = bg := hs; omega) (fun j c b hj hc hb hs => by have := (g1.elem hj hc hb).1; have hs : b = bg := hs; omega), fun b hb => (g3 b hb).imp (hx b) fun h => h, fun j c b hj hc hb => by
    rw [htn, hlen] at hj
    exact (g4 j c b hj hc hb).imp (fun h => hV j c b h.1 hc h.2) fun h => h, (hm.keep g2 (fun b hb hs => (hR b hb).2.2.2 hs) (fun hs => by have := hlow _ hs; omega) (fun hs => by have := hlow _ hs; omega)).keep tk (fun b hb hs => (hR b hb).2.1 hs) (fun hs => by have hs : mb = bg := hs; omega) (fun hs => by have hs : bb = bg := hs; omega), htl, fun b hb => ?_⟩, (g2.mono fun b _ hs => .inl hs).trans (tk.mono fun b _ hs => .inr hs)⟩
  have h := hR b hb
  refine ⟨by omega, h.2.1, h.2.2.1, fun c => ?_, .inl h.1⟩
  rcases g3 b c with c | c
  · exact h.2.2.2 c
  · omega
/-- The map's part. -/
theorem YM.map {seed : Int} {mb bb bg base n0 n1 : Nat} {Wst W : World} {L m : Pairs} {i : Nat} (h : YM seed mb bb bg base n0 n1 Wst L m i W) : ∃ R ra t, MapAt seed R W mb bb ra t ∧ t.toL = m := by
  obtain ⟨_, x, V, R, ra, t, _, _, _, _, h5, h6, _⟩ := h
  exact ⟨R, ra, t, h5, h6⟩
/-- A cell of the function's own stays. -/
theorem YI.cell {bb bg base : Nat} {Wst W : World} {b : Nat} {o : Obj} (h : Touch (fun b => b = bb ∨ b = bg ∨ base ≤ b) Wst W) (hb : Wst.heap[b]? = some o) (hl : b ≠ bb ∧ b ≠ bg ∧ b < base) : W.heap[b]? = some o := (h.same b (lt_of_heap hb) fun hs => by omega).trans hb

theorem YM.chg {seed : Int} {mb bb bg base n0 n1 : Nat} {Wst W : World} {L m : Pairs} {i : Nat} (h : YM seed mb bb bg base n0 n1 Wst L m i W) (hlt : mb < base ∧ bb < base ∧ bg < base ∧ bg ≠ bb) (hn : base + 2 ≤ n0 ∧ n0 ≤ n1 ∧ n1 ≤ W.heap.size) :
    ∃ R ra t, MapAt seed R W mb bb ra t ∧ t.toL = m ∧ ∀ {W' : World} {t' : Tree} {ra' : Option Addr}, MapAt seed (Up R W W') W' mb bb ra' t' → Touch (Just bb) W W' → YM seed mb bb bg base n0 n1 Wst L t'.toL i W' := by
  obtain ⟨h0, x, V, R, ra, t0, h1, h2, h3, h4, h5, h6, h7⟩ := h
  refine ⟨R, ra, t0, h5, h6, fun {W' t' ra'} hm ht => ?_⟩
  have hbg : bg < W.heap.size := lt_of_heap h1
  have hxb : ∀ b, OwnOf x b → b < W.heap.size := fun b hb => by obtain ⟨_, cur, e⟩ := h2.block hb; exact lt_of_heap e
  refine ⟨h0.trans (ht.mono fun b _ hs => .inl hs), x, V, Up R W W', ra', t', (ht.same _ hbg fun hs => hlt.2.2.2 hs).trans h1, h2.keep ht (fun b hb hs => by have := (h2.block hb).1; have hs : b = bb := hs; omega) (fun j c b hj hc hb hs => by have := (h2.elem hj hc hb).1; have hs : b = bb := hs; omega), h3, h4, hm, rfl, fun b hb => ?_⟩
  have hs := ht.size
  rcases hb with hb | hb
  · have := h7 b hb
    exact ⟨by omega, this.2⟩
  · refine ⟨hb.2, by omega, by omega, fun c => ?_, by omega⟩
    have := hxb b c
    omega
/-- What a call that changes the map leaves. -/
def ChgP (seed : Int) (mb bb bg base n0 n1 : Nat) (Wst : World) (L m : Pairs) (i : Nat) (W : World) (e : Ending) (W' : World) : Prop := e = .returned (.int .i64 0) ∧ YM seed mb bb bg base n0 n1 Wst L m i W' ∧ Touch (Just bb) W W'
theorem YM.putC {seed : Int} {mb bb bg base n0 n1 : Nat} {Wst W : World} {L m : Pairs} {i : Nat} (h : YM seed mb bb bg base n0 n1 Wst L m i W) (hlt : mb < base ∧ bb < base ∧ bg < base ∧ bg ≠ bb) (hn : base + 2 ≤ n0 ∧ n0 ≤ n1 ∧ n1 ≤ W.heap.size) {kx ux : Value} {key u : Key} (hk : BV W kx key) (hu : BV W ux u) (hok : allowB key.length u.length = true) (hsz : m.length < 100000) :
    Calls Try.prog 49 #[.pointer (some ⟨mb, 0, none⟩), kx, ux] W (ChgP seed mb bb bg base n0 n1 Wst L (insL key u m) i W) := by
  obtain ⟨R, ra, t, hm, htl, hch⟩ := h.chg hlt hn
  refine (put_map hm hk hu hok (by rw [size_toL, htl]; exact hsz)).mono ?_
  rintro e W' ⟨he, ⟨ra', hm'⟩, ht⟩
  have := hch hm' ht
  rw [ins_toL (abv_ko seed) key u hm.srt hm.heap, htl] at this
  exact ⟨he, this, ht⟩
theorem YM.dropC {seed : Int} {mb bb bg base n0 n1 : Nat} {Wst W : World} {L m : Pairs} {i : Nat} (h : YM seed mb bb bg base n0 n1 Wst L m i W) (hlt : mb < base ∧ bb < base ∧ bg < base ∧ bg ≠ bb) (hn : base + 2 ≤ n0 ∧ n0 ≤ n1 ∧ n1 ≤ W.heap.size) {kx : Value} {key u : Key} (hk : BV W kx key) (hin : (key, u) ∈ m) :
    Calls Try.prog 25 #[.pointer (some ⟨mb, 0, none⟩), kx] W (ChgP seed mb bb bg base n0 n1 Wst L (delL key m) i W) := by
  obtain ⟨R, ra, t, hm, htl, hch⟩ := h.chg hlt hn
  refine (drop_map hm hk (by rw [htl]; exact hin)).mono ?_
  rintro e W' ⟨he, ⟨ra', hm'⟩, ht⟩
  have := hch hm' ht
  rw [del_toL (ab := abv seed) key hm.srt, htl] at this
  exact ⟨he, this, ht⟩
/-- The key of the round is in the map when it is to be dropped. -/
theorem yM_has {key val : Key} {L : Pairs} (h : Srt L) {i : Nat} {p : Key × Key} (hp : L[i]? = some p) : ∃ u, (p.1, u) ∈ insL key val (yM key val L i) := by
  by_cases hk : p.1 = key
  · exact ⟨val, by rw [insL_mem, hk]; exact .inl rfl⟩
  · refine ⟨p.2, insL_mem.2 (.inr ⟨?_, hk⟩)⟩
    cases i with
    | zero => exact List.mem_of_getElem? hp
    | succ j =>
      have hj : j < L.length := by have := (List.getElem?_eq_some_iff.1 hp).1; omega
      rw [yM_succ h j _ (List.getElem?_eq_getElem hj), insL_mem]
      exact .inr ⟨List.mem_of_getElem? hp, hk⟩
theorem insL_insL (k v u : Key) {L : Pairs} (h : Srt L) : insL k u (insL k v L) = insL k u L := by
  refine srt_ext3 (insL_srt _ _ (insL_srt _ _ h)) (insL_srt _ _ h) fun x => ?_
  rw [insL_mem, insL_mem, insL_mem]
  constructor
  · rintro (e | ⟨e | ⟨c, _⟩, d⟩)
    · exact .inl e
    · subst e; exact (d rfl).elim
    · exact .inr ⟨c, d⟩
  · rintro (e | ⟨c, d⟩)
    · exact .inl e
    · exact .inr ⟨.inr ⟨c, d⟩, d⟩
theorem delL_len (k : Key) (L : Pairs) : (delL k L).length ≤ L.length := List.length_filter_le _ _
end Go.Proofs.Ytkkpcndpjkebkaa
