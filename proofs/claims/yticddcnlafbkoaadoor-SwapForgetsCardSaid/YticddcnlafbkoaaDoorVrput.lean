import Derived.Test.YticddcnlafbkoaaDoorVrxor
/- What the definition does to no pads. -/
namespace Go.Proofs.YticddcnlafbkoaaDoor
open Go.ChangeShapes Go.WideShapes Go.ChangeAt Go.RowKit Go.Deep
attribute [local go_sem] Oper.semAt_some

set_option maxRecDepth 100000 in
set_option maxHeartbeats 2000000 in
theorem copyR_any {w : World} {x : Value} {l : Key} (h : BV w x l) (hl : l.length ≤ 1073741824) : Calls Tryd.prog 39 #[x] w (ClonePost l w) := by
  have HB := Lib.hid h
  obtain ⟨ao, cap, rfl, hnone, hs⟩ := h
  have HN := Lib.hid hnone
  have HE : ∃ n, l.length = n := ⟨_, rfl⟩
  obtain ⟨n, en⟩ := HE
  have hmk := run_make_all n (by omega) w
  have HROW : ∃ F : Nat → Value, Hid ((w.alloc (.cells (madeCells #[.int .u8 0] (n * 1)) 5)).rowIs w.heap.size 5 (n * 1) F) := ⟨_, row_made w #[.int .u8 0] (n * 1) 5⟩
  obtain ⟨F, HROW⟩ := HROW
  obtain ⟨src, esrc⟩ : ∃ src : Nat → Value, src = fun i => .int .u8 (((l.getD i 0).toNat : Nat) : Int) := ⟨_, rfl⟩
  have HSRC := Lib.hid esrc
  have h1c : ∀ j, (src j).oneCell' = true := fun j => by rw [esrc]; rfl
  have HONE := Lib.hid h1c
  have HTA := Lib.hid ((Touch.refl Nil w).alloc (.cells (madeCells #[.int .u8 0] (n * 1)) 5))
  have HS := Lib.hid (hs.keepN HTA.out)
  have HLN := Lib.hid en
  have HLL := Lib.hid hl
  rw [en]
  generalize madeCells #[.int .u8 0] (n * 1) = mc at *
  clear hs hnone en hl esrc h1c
  go_enter Tryd.func39, Tryd.ntmps39
  go_wp2_with (refine wpList_copy_row rfl (.tmp 7) (.tmp 8) 27 27 rfl 5 Tryd.underlying27 (by kernel_rfl) w.heap.size 0 n n n cap ao rfl rfl 5 (n * 1) n F src HROW.out (by simp) ?p1 (by omega) (fun j _ => HONE.out j) ?p2)
  case p1 =>
    intro h0
    obtain ⟨b, off, rfl, _⟩ := HS.out 0 (by simp; have := HLN.out; omega)
    refine ⟨b, off, rfl, fun j hj => ?_⟩
    obtain ⟨b', off', e, hc⟩ := HS.out j (by simp; have := HLN.out; omega)
    cases e
    rw [hc, ub_getD _ _ (by have := HLN.out; omega), HSRC.out]
  intro w2 hr2 ht2
  have HR2 := Lib.hid (show w2.rowIs w.heap.size 5 n (laid F src 0 n) from by first | exact hr2.out | (have := hr2.out; rw [Nat.mul_one] at this; exact this))
  have HT2 := Lib.hid (show Touch Nil w w2 from HTA.out.trans' ht2.out fun b hb hs => by have hs : b = w.heap.size := hs; omega)
  clear hr2 ht2 HROW
  go_wp2_with fail
  go_ret
  exact ⟨_, rfl, own_ofRow HR2.out HLN.out (fun i hi => by unfold laid; rw [if_pos (by omega), Nat.sub_zero, HSRC.out]) (by have := HLL.out; have := HLN.out; omega), HT2.out⟩

set_option maxRecDepth 100000 in
set_option maxHeartbeats 1000000 in
theorem rank_nil (x : Value) (w : World) : Calls Tryd.prog 38 #[.slice none 0 0, x] w fun e w' => e = .returned (.int .i64 0) ∧ Touch Nil w w' := by
  go_enter Tryd.func38, Tryd.ntmps38
  go_wp2_with fail
  go_loopw [5] (fun s wr => s = .int .i64 0 ∧ Hid (wr = w)) (fun _ _ => 0)
  case atStart => exact ⟨rfl, Lib.hid rfl⟩
  obtain ⟨rfl, HW⟩ := hrel
  have ew := HW.out
  subst ew
  go_wp2_with fail
  go_ret
  exact ⟨rfl, Touch.refl _ _⟩
set_option maxRecDepth 100000 in
set_option maxHeartbeats 1000000 in
theorem has_nil (x : Value) (w : World) : Calls Tryd.prog 27 #[.slice none 0 0, x] w fun e w' => e = .returned (.bool false) ∧ Touch Nil w w' := by
  go_enter Tryd.func27, Tryd.ntmps27
  go_wp2_with fail
  refine (rank_nil x w).mono ?_
  rintro e w1 ⟨rfl, ht⟩
  have HT := Lib.hid ht
  clear ht
  go_wp2_with fail
  go_ret
  exact ⟨rfl, HT.out⟩
theorem slice_nil_h (W : World) : (Instr.slice 26 (.slice none 0 0) none (some (.int .i64 0)) none).run Tryd.prog W = .ok (.slice none 0 0) W := by kernel_rfl
theorem slice_nil_l (W : World) : (Instr.slice 26 (.slice none 0 0) (some (.int .i64 0)) none none).run Tryd.prog W = .ok (.slice none 0 0) W := by kernel_rfl
theorem append_none {base : Nat} {W : World} {v : Value} {n : Nat} {xs : List Value} (ho : W.ownsRow base 79 2 v n xs) (ty : TypeId) : (Builtin.append_ #[26, 26] ty #[v, .slice none 0 0]).run Tryd.prog W = .ok v W := by
  obtain ⟨i0, hi, hz0, hz1, hz2⟩ := info_parts infoPair
  exact run_append_owned_none (P := Tryd.prog) (w := W) base 26 ty 79 i0 2 Tryd.underlying26 hi v n xs ho
set_option maxRecDepth 100000 in
set_option maxHeartbeats 2000000 in
theorem put_nil {w : World} {x y : Value} {a b : Key} (hx : BV w x a) (hy : BV w y b) (ha : a.length ≤ 1048576) (hb : b.length ≤ 1048576) : Calls Tryd.prog 29 #[.slice none 0 0, x, y] w fun e w' => (∃ v, e = .returned v) ∧ Touch Nil w w' := by
  have HX := Lib.hid hx
  have HY := Lib.hid hy
  have HA := Lib.hid ha
  have HB := Lib.hid hb
  clear hx hy ha hb
  have s1 := slice_nil_h
  have s2 := slice_nil_l
  have a1 := fun W => append_none (W := W) (base := 0) (v := .slice none 0 0) (n := 0) (xs := []) ⟨rfl, .inl ⟨rfl, rfl⟩⟩ 26
  go_enter Tryd.func29, Tryd.ntmps29
  go_wp2_with fail
  refine (rank_nil x w).mono ?_
  rintro e w1 ⟨rfl, ht⟩
  have HT1 := Lib.hid ht
  clear ht
  go_wp2_with fail
  refine (copyR_any (HX.out.keepN HT1.out) (by have := HA.out; omega)).mono ?_
  rintro e w2 ⟨v1, rfl, h1, ht⟩
  obtain ⟨p1, p2, p3, rfl⟩ := h1.form
  have HT2 := Lib.hid (HT1.out.trans ht)
  clear ht h1
  go_wp2_with fail
  refine (copyR_any (HY.out.keepN HT2.out) (by have := HB.out; omega)).mono ?_
  rintro e w3 ⟨v2, rfl, h2, ht⟩
  obtain ⟨q1, q2, q3, rfl⟩ := h2.form
  have HT3 := Lib.hid (HT2.out.trans ht)
  clear ht h2
  have HC := Lib.hid (heap_alloc_new w3 (.cells #[.slice p1 p2 p3, .slice q1 q2 q3] 79))
  go_wp2_with (refine wpList_append_one rfl (.tmp 17) (.tmp 23) 26 79 rfl w3.heap.size 2 48 _ Tryd.underlying26 infoPair rfl (Nat.succ_pos _) (by decide) (.slice none 0 0) 0 [] rfl ⟨rfl, .inl ⟨rfl, rfl⟩⟩ w3.heap.size 1 rfl [.slice p1 p2 p3, .slice q1 q2 q3] rfl (fun j u hj => by have h := HC.out; simp only [World.cell?, h]; rcases j with _ | _ | j <;> simp_all) (by simp [Value.oneCell']) (by omega) (by simp) ?_)
  intro v4 w4 hown4 ht4
  have HT4 := Lib.hid (HT3.out.trans (((Touch.refl Nil w3).alloc (.cells #[.slice p1 p2 p3, .slice q1 q2 q3] 79)).trans' ht4.out fun b hb hs => by cases hs))
  have HO4 := Lib.hid hown4.out
  clear hown4 ht4
  go_wp2_with fail
  refine (has_nil x w4).mono ?_
  rintro e w5 ⟨rfl, ht⟩
  have HT5 := Lib.hid (HT4.out.trans ht)
  obtain ⟨i0, hi, _, _, _⟩ := info_parts infoPair
  have HO5 := Lib.hid (own_keepN HO4.out ht)
  have HII := Lib.hid hi
  clear ht hi
  go_wp2_with (refine wpList_append_own_none rfl (.tmp 30) (.tmp 33) 26 rfl w3.heap.size 79 i0 2 Tryd.underlying26 HII.out v4 1 _ rfl HO5.out rfl ?_)
  go_wp2_with fail
  go_ret
  exact ⟨⟨_, rfl⟩, HT5.out⟩
end Go.Proofs.YticddcnlafbkoaaDoor
