import Derived.BigRegion
import Derived.Test.YticddcnlafbkoaaDoorVbase
/- What a vault xors. -/
namespace Go.Proofs.YticddcnlafbkoaaDoor
open Go.ChangeShapes Go.WideShapes Go.ChangeAt Go.RowKit Go.Deep

theorem run_make_all (c : Nat) (hc : c ≤ 140737488351232) (w : World) : (Instr.makeSlice 27 (.int .i64 (c : Int)) (.int .i64 (c : Int))).run Tryd.prog w = .ok (.slice (some ⟨w.heap.size, 0, none⟩) c c) (w.alloc (.cells (madeCells #[.int .u8 0] (c * 1)) 5)) := by
  obtain ⟨i, hi, hz, hs, hb⟩ := info_parts infoByte
  have hr := run_make (P := Tryd.prog) w 27 5 i _ Tryd.underlying27 hi hz .i64 .i64 (c : Int) c (by omega) (by omega) (by rw [hb]; omega) (by omega)
  simp only [Int.toNat_natCast, hs] at hr
  exact hr
theorem own_ofRow {w : World} {b n : Nat} {f : Nat → Value} {l : Key} (h : w.rowIs b 5 n f) (hn : l.length = n) (hf : ∀ i, i < n → f i = .int .u8 (((l.getD i 0).toNat : Nat) : Int)) (hm : n ≤ 140737488351232) : OwnB b w (.slice (some ⟨b, 0, none⟩) n n) l := by
  subst hn
  refine ⟨by simp, .inr ⟨b, l.length, _, rfl, Nat.le_refl _, row_block h, Nat.le_refl _, by unfold maxLen; omega, by simp, ?_⟩⟩
  apply List.ext_getElem?
  intro i
  by_cases hi : i < l.length
  · simp only [List.getElem?_take, Nat.mul_one, hi, if_true, List.getElem?_map, List.getElem?_range hi, Option.map_some, hf i hi, ub]
    simp [List.getD_eq_getElem?_getD, hi]
  · rw [List.getElem?_take, if_neg (by omega), List.getElem?_eq_none (by simp; omega)]
/-- Bytes xor others. -/
def xorL (a b : Key) : Key := List.zipWith (fun p q => p ^^^ q) a b
theorem xorL_len {a b : Key} (h : a.length = b.length) : (xorL a b).length = a.length := by simp [xorL, h]
theorem bits_xor8 (p q : UInt8) : bits BinOp.xor IntKind.u8 ((p.toNat : Nat) : Int) ((q.toNat : Nat) : Int) = (((p ^^^ q).toNat : Nat) : Int) := by
  rw [UInt8.toNat_xor]
  have h1 := p.toNat_lt
  have h2 := q.toNat_lt
  have h3 : p.toNat ^^^ q.toNat < 256 := Nat.xor_lt_two_pow (n := 8) h1 h2
  generalize p.toNat = x at *
  generalize q.toNat = y at *
  have e1 : ((x : Int) % ((2 ^ 8 : Nat) : Int)).toNat = x := by have : ((2 ^ 8 : Nat) : Int) = 256 := rfl; rw [this]; omega
  have e2 : ((y : Int) % ((2 ^ 8 : Nat) : Int)).toNat = y := by have : ((2 ^ 8 : Nat) : Int) = 256 := rfl; rw [this]; omega
  have e3 : (BitVec.ofInt 8 (x : Int) ^^^ BitVec.ofInt 8 (y : Int)).toNat = x ^^^ y := by
    rw [BitVec.toNat_xor, BitVec.toNat_ofInt, BitVec.toNat_ofInt, e1, e2]
  show IntKind.u8.wrap (((BitVec.ofInt 8 (x : Int) ^^^ BitVec.ofInt 8 (y : Int)).toNat : Nat) : Int) = _
  rw [e3, IntKind.wrap_u8]
  omega
/-- The bytes of a row, up to i xor'ed already. -/
theorem xorL_get {a b : Key} {i : Nat} (ha : i < a.length) (hb : i < b.length) : (xorL a b).getD i 0 = a.getD i 0 ^^^ b.getD i 0 := by
  simp [xorL, List.getD_eq_getElem?_getD, List.getElem?_zipWith, ha, hb]
set_option maxRecDepth 100000 in
set_option maxHeartbeats 4000000 in
/-- swap.xor: some bytes xor others of their number, in new memory. -/
theorem xor_any {w : World} {x y : Value} {a b : Key} (hx : BV w x a) (hy : BV w y b) (hl : a.length = b.length) (hm : a.length ≤ 140737488351232) : Calls Tryd.prog 26 #[x, y] w (ClonePost (xorL a b) w) := by
  have HX := Lib.hid hx
  have HY := Lib.hid hy
  obtain ⟨xo, xc, rfl, _, _⟩ := hx
  obtain ⟨yo, yc, rfl, _, _⟩ := hy
  obtain ⟨n, en⟩ : ∃ n, a.length = n := ⟨_, rfl⟩
  have HLN := Lib.hid (show a.length = n ∧ b.length = n from ⟨en, hl.symm.trans en⟩)
  have HM := Lib.hid (show n ≤ 140737488351232 from by omega)
  have hmk := run_make_all n HM.out w
  obtain ⟨W1, eW1⟩ : ∃ W1, w.alloc (.cells (madeCells #[.int .u8 0] (n * 1)) 5) = W1 := ⟨_, rfl⟩
  have HT1 := Lib.hid (show Touch Nil w W1 from by rw [← eW1]; exact (Touch.refl Nil w).alloc _)
  have HO1 := Lib.hid (show OwnB w.heap.size W1 (.slice (some ⟨w.heap.size, 0, none⟩) n n) (List.replicate n 0) from by
    rw [← eW1]
    have h := row_made w #[.int .u8 0] (n * 1) 5
    rw [Nat.mul_one] at h ⊢
    exact own_ofRow h (by simp) (fun i hi => by
      show (#[Value.int IntKind.u8 0])[i % 1]! = _
      rw [Nat.mod_one]
      simp [List.getD_eq_getElem?_getD, List.getElem?_replicate, hi]) HM.out)
  rw [eW1] at hmk
  rw [show b.length = n from HLN.out.2, en]
  obtain ⟨g, eg⟩ : ∃ g, w.heap.size = g := ⟨_, rfl⟩
  have HG := Lib.hid eg
  rw [eg] at hmk HO1
  clear hl hm en eW1 eg
  go_enter Tryd.func26, Tryd.ntmps26
  go_wp2_with fail
  go_loopw [12] (fun s wr => ∃ (z : Nat) (l : Key), z ≤ n ∧ s = .int .i64 (z : Int) ∧ Hid (l.length = n ∧ (∀ i, i < z → l.getD i 0 = (xorL a b).getD i 0) ∧ OwnB g wr (.slice (some ⟨g, 0, none⟩) n n) l ∧ Touch (Just g) W1 wr)) (fun s _ => n - (intOf s).toNat)
  case atStart => exact ⟨0, _, Nat.zero_le _, rfl, Lib.hid ⟨by simp, fun i hi => by omega, HO1.out, Touch.refl _ _⟩⟩
  obtain ⟨z, l, hz, rfl, HL⟩ := hrel
  by_cases hlt : z < n
  · have tw : Touch Nil w wr := HT1.out.trans' HL.out.2.2.2 fun b hb hs => by have hs : b = g := hs; have := HG.out; omega
    have ha : z < a.length := by rw [HLN.out.1]; exact hlt
    have hb : z < b.length := by rw [HLN.out.2]; exact hlt
    obtain ⟨_, _, ex, _, sx⟩ := HX.out.keepN tw
    cases ex
    obtain ⟨_, _, ey, _, sy⟩ := HY.out.keepN tw
    cases ey
    obtain ⟨bx, ox, rfl, cx⟩ := sx z (by simpa using ha)
    obtain ⟨by', oy, rfl, cy⟩ := sy z (by simpa using hb)
    rw [ub_getD a z ha] at cx
    rw [ub_getD b z hb] at cy
    obtain ⟨hset, hcell, hfr⟩ := HL.out.2.2.1.set (i := z) (by rw [HL.out.1]; exact hlt) (a.getD z 0 ^^^ b.getD z 0)
    have hbit := bits_xor8 (a.getD z 0) (b.getD z 0)
    have HSET := Lib.hid (show (l.set z (a.getD z 0 ^^^ b.getD z 0)).length = n ∧ (∀ i, i < z + 1 → (l.set z (a.getD z 0 ^^^ b.getD z 0)).getD i 0 = (xorL a b).getD i 0) ∧ OwnB g (wr.setCell ⟨g, z, none⟩ (.int .u8 (((a.getD z 0 ^^^ b.getD z 0).toNat : Nat) : Int))) (.slice (some ⟨g, 0, none⟩) n n) (l.set z (a.getD z 0 ^^^ b.getD z 0)) ∧ Touch (Just g) W1 (wr.setCell ⟨g, z, none⟩ (.int .u8 (((a.getD z 0 ^^^ b.getD z 0).toNat : Nat) : Int))) from ⟨by rw [List.length_set]; exact HL.out.1, fun i hi => by
      by_cases e : i = z
      · subst e
        rw [xorL_get ha hb]
        have : i < l.length := by rw [HL.out.1]; exact hlt
        simp [List.getD_eq_getElem?_getD, this]
      · rw [← HL.out.2.1 i (by omega)]
        simp [List.getD_eq_getElem?_getD, List.getElem?_set, Ne.symm e], hset, HL.out.2.2.2.setCell ⟨g, z, none⟩ _ fun _ => rfl⟩)
    have hxl := (a.getD z 0).toNat_lt
    have hyl := (b.getD z 0).toNat_lt
    have j1 : (z : Int) < (n : Int) := by omega
    have j2 : (0 : Int) ≤ (z : Int) := by omega
    have hnm : n ≤ 140737488351232 := HM.out
    generalize a.getD z 0 ^^^ b.getD z 0 = q at *
    generalize (a.getD z 0).toNat = x1 at *
    generalize (b.getD z 0).toNat = y1 at *
    generalize (l.getD z 0).toNat = l1 at *
    generalize q.toNat = q1 at *
    clear hset sx sy ha hb tw
    go_wp2_with fail
    go_region
    all_goals go_wp2_with fail
    all_goals go_roundw
    case rel => exact ⟨z + 1, _, by omega, by go_num, Lib.hid ⟨HSET.out.1, HSET.out.2.1, HSET.out.2.2.1.keep (Touch.refl Nil _).drew (fun _ _ c => c), HSET.out.2.2.2.drew⟩⟩
    case measure => simp [intOf]; omega
  · obtain rfl : z = n := by omega
    have i1 : ¬ ((z : Int) < (z : Int)) := by omega
    go_wp2_with fail
    go_ret
    have e : l = xorL a b := by
      apply List.ext_getElem?
      intro i
      by_cases hi : i < z
      · have h1 := HL.out.2.1 i hi
        have l1 : i < l.length := by rw [HL.out.1]; exact hi
        have l2 : i < (xorL a b).length := by rw [xorL_len (by rw [HLN.out.1, HLN.out.2]), HLN.out.1]; exact hi
        rw [List.getD_eq_getElem?_getD, List.getD_eq_getElem?_getD, List.getElem?_eq_getElem l1, List.getElem?_eq_getElem l2] at h1
        rw [List.getElem?_eq_getElem l1, List.getElem?_eq_getElem l2]
        simpa using h1
      · rw [List.getElem?_eq_none (by rw [HL.out.1]; omega), List.getElem?_eq_none (by rw [xorL_len (by rw [HLN.out.1, HLN.out.2]), HLN.out.1]; omega)]
    rw [← e]
    exact ⟨_, rfl, by rw [HG.out]; exact HL.out.2.2.1, HT1.out.trans' HL.out.2.2.2 fun b hb hs => by have hs : b = g := hs; have := HG.out; omega⟩
end Go.Proofs.YticddcnlafbkoaaDoor
