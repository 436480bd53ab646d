import Derived.Test.YticddcnlafbkoaaDoorTab5
/- add and Put, where the number of cells stays. -/
namespace Go.Proofs.YticddcnlafbkoaaDoor
open Go.ChangeShapes Go.WideShapes Go.ChangeAt Go.RowKit Go.Deep

/-- What a body has behind a new pair. -/
def AddPost (R : Nat → Prop) (bb bc : Nat) (seed : Int) (n C : Nat) (T0 : Cells) (p0 : Key × Key) (w : World) (e : Ending) (w' : World) : Prop :=
  e = .returned (.tuple #[]) ∧ ∃ vv T, Bod R w' bb bc seed n C vv T ∧ Fin1 seed C T0 p0 T ∧ Touch (fun b => b = bb ∨ b = bc) w w'

theorem Bod.count {R : Nat → Prop} {w : World} {bb bc : Nat} {seed : Int} {n C : Nat} {vv : Nat → Nat → Value} {T : Cells} (h : Bod R w bb bc seed n C vv T) (m : Nat) :
    Bod R (w.setCell ⟨bb, 1, none⟩ (.int .i64 (m : Int))) bb bc seed m C vv T ∧ Touch (Just bb) w (w.setCell ⟨bb, 1, none⟩ (.int .i64 (m : Int))) := by
  have ht : Touch (Just bb) w (w.setCell ⟨bb, 1, none⟩ (.int .i64 (m : Int))) := (Touch.refl (Just bb) w).setCell ⟨bb, 1, none⟩ _ fun _ => rfl
  have hrow : w.rowIs bb 72 3 (fun i => if i = 0 then .int .u64 seed else if i = 1 then .int .i64 n else .slice (some ⟨bc, 0, none⟩) C C) := ⟨_, h.body, rfl, fun i hi => by
    have : i = 0 ∨ i = 1 ∨ i = 2 := by omega
    rcases this with rfl | rfl | rfl <;> rfl⟩
  have nb := notBytes_row hrow (by decide)
  refine ⟨⟨?_, ht.row h.row fun e => h.bne e.symm, fun c hc => (h.cells c hc).keep ht nb fun _ r => r, h.rb, h.rc⟩, ht⟩
  exact row_block ((hrow.set 1 (.int .i64 (m : Int))).congr (g := fun i => if i = 0 then .int .u64 seed else if i = 1 then .int .i64 m else .slice (some ⟨bc, 0, none⟩) C C) fun i hi => by
    have : i = 0 ∨ i = 1 ∨ i = 2 := by omega
    rcases this with rfl | rfl | rfl <;> rfl)

set_option maxRecDepth 100000 in
set_option maxHeartbeats 4000000 in
theorem add_push (R : Nat → Prop) (bb bc : Nat) (seed : Int) (n C a0 : Nat) (vv : Nat → Nat → Value) (T0 : Cells) (p0 : Key × Key) (x y : Value) (w : World) (hB : Bod R w bb bc seed n C vv T0) (hp : CellOk R w x y (some p0))
    (hn : n < 100000) (hc : cellsN (n + 1) = C) (hC : 8 ≤ C) (hC2 : C ≤ 1048576) (hf : ∃ x, x < C ∧ T0 x = none) (hP : Push (bfS seed) (homS seed C) C T0 p0 T0 a0 p0) :
    Calls Tryd.prog 56 #[.pointer (some ⟨bb, 0, none⟩), .int .i64 a0, .agg #[x, y]] w (AddPost R bb bc seed (n + 1) C T0 p0 w) := by
  have HB := Lib.hid hB
  have HP := Lib.hid hP
  have HF := Lib.hid hf
  have HC := Lib.hid hp
  have HBNE := Lib.hid hB.bne
  have lb := hB.lb
  have c1 := hB.countC
  obtain ⟨ao0, l0, cap0, bo0, m0, cap0', rfl, rfl, _, _, _, _⟩ := hp.form
  have HCF := Lib.hid (fun w => by have := cellsFor_any (n + 1) w (by omega); rw [hc] at this; exact this)
  have hneq : ((C : Int) != (C : Int)) = false := by simp
  have z1 : w.frozen? ⟨bb, 1, none⟩ = false := by simp [World.frozen?, hB.body]
  have HBA := Lib.hid (hB.count (n + 1))
  have hcast : ((n + 1 : Nat) : Int) = (n : Int) + 1 := rfl
  rw [hcast] at HBA HCF
  have HG : ∃ W, (w.setCell ⟨bb, 1, none⟩ (.int .i64 ((n : Int) + 1))).alloc (.cells #[.slice ao0 l0 cap0, .slice bo0 m0 cap0'] 79) = W := ⟨_, rfl⟩
  obtain ⟨W, eW⟩ := HG
  have htA := (Touch.refl Nil (w.setCell ⟨bb, 1, none⟩ (.int .i64 ((n : Int) + 1)))).alloc (.cells #[.slice ao0 l0 cap0, .slice bo0 m0 cap0'] 79)
  have hbx := heap_alloc_new (w.setCell ⟨bb, 1, none⟩ (.int .i64 ((n : Int) + 1))) (.cells #[.slice ao0 l0 cap0, .slice bo0 m0 cap0'] 79)
  rw [nblk_setCell] at hbx
  rw [eW] at htA hbx
  have hrow : w.rowIs bb 72 3 (fun i => if i = 0 then .int .u64 seed else if i = 1 then .int .i64 n else .slice (some ⟨bc, 0, none⟩) C C) := ⟨_, hB.body, rfl, fun i hi => by
    have : i = 0 ∨ i = 1 ∨ i = 2 := by omega
    rcases this with rfl | rfl | rfl <;> rfl⟩
  have HBW := Lib.hid (HBA.out.1.keepN htA)
  have HTW := Lib.hid ((HBA.out.2).trans htA.of_nil)
  have HCW := Lib.hid (((hp.keep HBA.out.2 (notBytes_row hrow (by decide)) (R' := R) fun _ r => r)).keep htA (notBytes_nil _) (R' := R) fun _ r => r)
  have HBX := Lib.hid hbx
  have HEW := Lib.hid eW
  clear hB hP hf hp hc htA hbx hrow eW HBA
  go_enter Tryd.func56, Tryd.ntmps56
  go_wp2_with fail
  rw [HEW.out]
  have d1 := HBW.out.countC
  have d2 := HBW.out.cellsC
  rw [hcast] at d1
  go_quiet (first | (go_at_call 61; refine Calls.quiet_of_same (v := .int .i64 (C : Int)) ?_; exact (HCF.out _).mono fun _ _ h => ⟨h.1, h.2.symm⟩))
  have HT1 := Lib.hid ((Touch.refl Nil W).drewN nq)
  have HG : ∃ W1, W.drewN nq = W1 := ⟨_, rfl⟩
  obtain ⟨W1, e1⟩ := HG
  rw [e1] at HT1 ⊢
  clear d1 d2 e1
  have HB1 := Lib.hid (HBW.out.keepN HT1.out)
  have hbx1 : W1.heap[w.heap.size]? = some (.cells #[.slice ao0 l0 cap0, .slice bo0 m0 cap0'] 79 (0, 0)) := (HT1.out.same _ (Array.getElem?_eq_some_iff.1 HBX.out).1 (fun c => c)).trans HBX.out
  have d3 : W1.cell? ⟨w.heap.size, 0, none⟩ = some (.slice ao0 l0 cap0) := by simp [World.cell?, hbx1]
  have d4 : W1.cell? ⟨w.heap.size, 1, none⟩ = some (.slice bo0 m0 cap0') := by simp [World.cell?, hbx1]
  clear hbx1
  go_wp2_with fail
  refine (push_any R bb bc seed (n + 1) C a0 vv T0 p0 _ _ W1 HB1.out (HCW.out.keep HT1.out (notBytes_nil _) (R' := R) fun _ r => r) hC hC2 HF.out HP.out).mono ?_
  rintro e W2 ⟨rfl, vv2, T2, hB2, hfin, hT2⟩
  have HR := Lib.hid (show ∃ vv T, Bod R W2 bb bc seed (n + 1) C vv T ∧ Fin1 seed C T0 p0 T ∧ Touch (fun b => b = bb ∨ b = bc) w W2 from
    ⟨vv2, T2, hB2, hfin, ((HTW.out.mono fun b _ e => .inl e).trans HT1.out.of_nil).trans (hT2.mono fun b _ e => .inr e)⟩)
  clear hB2 hfin hT2
  go_wp2_with fail
  go_end0
  exact ⟨rfl, HR.out⟩
end Go.Proofs.YticddcnlafbkoaaDoor
