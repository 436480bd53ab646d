import Derived.RangeFuncNested
import Derived.RangeFuncBound
import Derived.RangeFuncCalls
import Derived.RangeFuncLeaves
import Derived.Shelf.Abstract
import Derived.Test.YtkkpcndpjkebkaaNone
/- A map that is none, ranged over. -/
namespace Go.Proofs.Ytkkpcndpjkebkaa
open Go.ChangeShapes Go.WideShapes Go.ChangeAt Go.RowKit Go.Deep

theorem touch_grownBy {w w' : World} (h : w.grownBy w' none) : Touch Nil w w' := (touch_grown h).mono fun b _ hs => by cases hs
theorem NoMap.below {w W : World} {m : Value} (h : NoMap w m) (hW : Below w.heap.size w W) : NoMap W m := by
  rcases h with e | ⟨mb, e, hm⟩
  · exact .inl e
  · exact .inr ⟨mb, e, (hW.block mb (lt_of_heap hm)).trans hm⟩
theorem seq_none {α : Type} {w : World} {m : Value} {Bt n : Nat} {encs : α → Array Value} {Kp : World → World → Prop} (h : NoMap w m) (hb : w.cell? ⟨Bt, 0, none⟩ = some m) :
    SeqStopsK Fence.wide n Try.prog 95 #[.pointer (some ⟨Bt, 0, none⟩)] encs Kp (fun xs => xs = []) (fun _ => False) 0 w := fun l J Jx W hW hJ _ _ h0 =>
  callsIn_wide.2 ((all1_none (h.below hW) ((hW.cell (p := ⟨Bt, 0, none⟩) (World.block_lt_of_cell? w _ hb)).trans hb) l).mono fun e W' ⟨hv, k, hw⟩ => ⟨hv, .inl ⟨[], rfl, by
    subst hw
    exact hJ [] W _ none h0 ⟨((Touch.refl Nil W).drewN k).os, ((Touch.refl Nil W).drewN k).tape, ((Touch.refl Nil W).drewN k).output, ((Touch.refl Nil W).drewN k).size, fun j hj _ => ((Touch.refl Nil W).drewN k).same j hj fun c => c⟩ fun r e => by cases e⟩⟩)
/-- A range over a map that is none. -/
theorem range_none {g : Operand} {ps : Array Tmp} {assign body : Code} {Q : Exit → Act → World → Prop} {a : Act} {w : World} {m : Value} {Bt : Nat} (hg : a.eval g = .func (.func 95) #[] #[.pointer (some ⟨Bt, 0, none⟩)]) (h : NoMap w m) (hb : w.cell? ⟨Bt, 0, none⟩ = some m)
    (hdone : ∀ D W, w.heap.size ≤ D → Touch Nil w W → W.heap[D]? = some (.deferred (some [])) → Q .normal { a with defers := { target := .collected D, args := #[] } :: a.defers } W) : (Code.rangeFunc g ps assign body).wp Try.prog Q a w :=
  (wpIn_wide (n := 5)).1 (wpIn_rangeFunc_ownF (F := Fence.wide) (α := Empty) (encs := fun x => x.elim) (Kp := fun _ _ => True) rfl (by omega) hg trivial (enters_of Try.func95 (by kernel_rfl) rfl)
    (seq_none h hb) (fun _ _ => trivial) (fun _ _ _ _ _ _ _ _ => trivial) (Below.refl _ _) (fun x => x.elim)
    (fun _ W => Below w.heap.size w W) (fun _ _ _ => False) (ownFrom_below (Nat.le_refl _) (Nat.le_refl _)) (fun _ _ _ _ _ hs _ _ => hs.elim) (Below.refl _ _) (fun x => x.elim)
    (fun _ x => x.elim) (fun _ _ x => x.elim)
    (fun D xs W hD _ hI hK => hdone D W hD (Touch.of_below hI) hK)
    (fun _ _ _ _ _ _ h => h.elim))

/-- The block of a loop's deferred calls is emptied. -/
theorem touch_put {w W : World} {D : Nat} {o : Obj} (h : Touch Nil w W) (hD : w.heap.size ≤ D) : Touch Nil w (W.putObj D o) := h.trans' (touch_grown (grownBy_putObj' W D o)) fun b hb hs => by cases hs; omega
theorem box_new1 (w : World) (o : Obj) (x : Value) (t : TypeId) : ((w.alloc o).alloc (.cells #[x] t)).cell? ⟨w.heap.size + 1, 0, none⟩ = some x := by
  have h := cell_new (w.alloc o) #[x] t 0
  rw [nblk_alloc] at h
  exact h
set_option maxHeartbeats 2000000 in
theorem span_none {w : World} {m : Value} (h : NoMap w m) (ka ua : Option Addr) (kl kc ul uc : Nat) (bo : Bool) : Calls Try.prog 31 #[m, .slice ka kl kc, .slice ua ul uc, .bool bo] w fun e w' => e = .returned (.slice none 0 0) ∧ Touch Nil w w' := by
  have HP := Lib.hid (part_none (h.keepN ((Touch.refl Nil w).alloc (.cells #[.slice none 0 0] 26))) ka ua kl kc ul uc bo)
  obtain ⟨ma, rfl⟩ := h.form
  clear h
  refine (callsIn_wide (n := 5)).1 ?_
  refine callsIn_of_wp_marks Try.func31 rfl trivial ?_ rfl
  refine wpIn_wide.2 ?_
  simp only [Try.ntmps31, List.size_toArray, List.length_cons, List.length_nil, Nat.reduceAdd, Nat.reduceSub, Array.replicate_succ, Array.replicate_zero, List.push_toArray, List.append_toArray, List.nil_append, List.cons_append]
  go_wp2_with fail
  refine HP.out.mono ?_
  rintro e w' ⟨rfl, rfl⟩
  go_wp2_with fail
  refine (all_any _ _).mono ?_
  rintro e w' ⟨rfl, rfl⟩
  go_wp2_with fail
  refine range_none rfl (NoMap.nil _) (box_new1 _ _ _ _) ?_
  intro D W hD hT hK
  have hT0 : Touch Nil w W := (((Touch.refl Nil w).alloc _).alloc _).trans hT
  have x0 : W.cell? ⟨w.heap.size, 0, none⟩ = some (.slice none 0 0) := cell_step (cell_step (cell_new w #[.slice none 0 0] 26 0) ((Touch.refl Nil _).alloc _)) hT
  go_wp2_with fail
  refine ⟨by simp, .inl ⟨_, _, rfl, run_takeDeferred hK, ?_⟩⟩
  exact ⟨_, results_tmp rfl _ _ _, rfl, touch_put hT0 (by rw [nblk_alloc, nblk_alloc] at hD; omega)⟩
end Go.Proofs.Ytkkpcndpjkebkaa
