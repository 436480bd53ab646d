import Derived.Test.YtejiijbmmpahhabProveR
/- A step of a proof as a variable. -/
namespace Go.Proofs.Ytejiijbmmpahhab
open Go.ChangeShapes Go.WideShapes Go.ChangeAt Go.RowKit Go.Deep

def StepsPost (seed : Int) (key : Key) (t : Tree) (w : World) (e : Ending) (w' : World) : Prop := ∃ x, e = .returned x ∧ SL w' x (pathT seed key t) ∧ Touch Nil w w'
/-- A step's variable, as far as it is filled. -/
structure StepV (w X : World) (A11 : Nat) (kx ux : Value) (dl dr : Nat) (A10 : Nat) (N6 : Array Value) : Prop where
  s : X.heap[A11]? = some (.cells #[kx, ux, .int .u64 (dl : Int), .int .u64 (dr : Int)] 87 (0, 0))
  n : X.heap[A10]? = some (.cells N6 85 (0, 0))
  t : Touch Nil w X
  a : w.heap.size ≤ A11
theorem side_cells {w : World} {b t : Nat} {x y z u : Value} (h : w.heap[b]? = some (.cells #[x, y, z, u] t (0, 0))) : (w.cell? ⟨b, 0, none⟩ = some x ∧ w.cell? ⟨b, 1, none⟩ = some y ∧ w.cell? ⟨b, 2, none⟩ = some z ∧ w.cell? ⟨b, 3, none⟩ = some u) ∧ w.frozen? ⟨b, 2, none⟩ = false ∧ w.frozen? ⟨b, 3, none⟩ = false := by
  refine ⟨⟨?_, ?_, ?_, ?_⟩, ?_, ?_⟩ <;> simp [World.cell?, World.frozen?, h]
theorem node6 {w : World} {b t : Nat} {x y z u v q : Value} (h : w.heap[b]? = some (.cells #[x, y, z, u, v, q] t (0, 0))) :
    w.cell? ⟨b, 0, none⟩ = some x ∧ w.cell? ⟨b, 1, none⟩ = some y ∧ w.cell? ⟨b, 2, none⟩ = some z ∧ w.cell? ⟨b, 3, none⟩ = some u ∧ w.cell? ⟨b, 4, none⟩ = some v ∧ w.cell? ⟨b, 5, none⟩ = some q := by
  refine ⟨?_, ?_, ?_, ?_, ?_, ?_⟩ <;> simp [World.cell?, h]
theorem stepvA {w : World} (kx ux : Value) (dl dr : Nat) (N6 : Array Value) : StepV w ((w.alloc (.cells N6 85)).alloc (.cells #[kx, ux, .int .u64 (dl : Int), .int .u64 (dr : Int)] 87)) (w.heap.size + 1) kx ux dl dr w.heap.size N6 :=
  ⟨by have := heap_alloc_new (w.alloc (.cells N6 85)) (.cells #[kx, ux, .int .u64 (dl : Int), .int .u64 (dr : Int)] 87); rw [nblk_alloc] at this; exact this,
    (((Touch.refl Nil (w.alloc (.cells N6 85))).alloc _).same w.heap.size (by simp) (fun c => c)).trans (heap_alloc_new _ _), ((Touch.refl Nil w).alloc _).alloc _, by omega⟩
theorem StepV.set {w X : World} {A11 A10 : Nat} {kx ux : Value} {dl dr : Nat} {N6 : Array Value} (h : StepV w X A11 kx ux dl dr A10 N6) (o d dl' dr' : Nat) (ho : (o = 2 ∧ dl' = d ∧ dr' = dr) ∨ (o = 3 ∧ dl' = dl ∧ dr' = d)) : StepV w (X.setCell ⟨A11, o, none⟩ (.int .u64 (d : Int))) A11 kx ux dl' dr' A10 N6 := by
  have hne : A10 ≠ A11 := fun e => by
    have h1 := h.s
    rw [← e, h.n] at h1
    injection h1 with h1
    injection h1 with _ h1
    exact absurd h1 (by decide)
  have hs : (⟨A11, o, none⟩ : Addr).block < X.heap.size → Just A11 (⟨A11, o, none⟩ : Addr).block := fun _ => rfl
  have ht := (Touch.refl (Just A11) X).setCell ⟨A11, o, none⟩ (.int .u64 (d : Int)) hs
  have hrow : X.rowIs A11 87 4 (fun i => #[kx, ux, .int .u64 (dl : Int), .int .u64 (dr : Int)].getD i undef) := ⟨_, h.s, rfl, fun i hi => by
    have : i = 0 ∨ i = 1 ∨ i = 2 ∨ i = 3 := by omega
    rcases this with rfl | rfl | rfl | rfl <;> rfl⟩
  refine ⟨row_block ((hrow.set o (.int .u64 (d : Int))).congr (g := fun i => #[kx, ux, .int .u64 (dl' : Int), .int .u64 (dr' : Int)].getD i undef) fun i hi => ?_), (ht.same A10 (Array.getElem?_eq_some_iff.1 h.n).1 (fun e => hne e)).trans h.n, h.t.setCell _ _ (fun hl => by have hl : A11 < w.heap.size := hl; have := h.a; omega), h.a⟩
  have : i = 0 ∨ i = 1 ∨ i = 2 ∨ i = 3 := by omega
  rcases ho with ⟨rfl, rfl, rfl⟩ | ⟨rfl, rfl, rfl⟩ <;> rcases this with rfl | rfl | rfl | rfl <;> rfl
end Go.Proofs.Ytejiijbmmpahhab
