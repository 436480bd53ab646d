import Derived.Test.YthhahanhkclidaaLoad2
import Derived.Test.YthhahanhkclidaaScript
/- Whether the cells that were read are a table's; Load. -/
namespace Go.Proofs.Ythhahanhkclidaa
open Go.ChangeShapes Go.WideShapes Go.ChangeAt Go.RowKit Go.Deep

abbrev CntS (bb n : Nat) (w w' : World) : Prop := w'.cell? ⟨bb, 1, none⟩ = some (.int .i64 (n : Int)) ∧ Hid (Touch Nil w w')
theorem CntS.step {R : Nat → Prop} {w w1 w2 : World} {bb bc : Nat} {seed : Int} {n C : Nat} {vv : Nat → Nat → Value} {T : Cells} (hB : Bod R w bb bc seed n C vv T) (h : CntS bb n w w1) (hs : Touch Nil w1 w2) : CntS bb n w w2 :=
  ⟨(hB.keepN (h.2.out.trans hs)).countC, Lib.hid (h.2.out.trans hs)⟩

set_option maxRecDepth 100000 in
set_option maxHeartbeats 4000000 in
theorem sound_any {R : Nat → Prop} {w : World} {bb bc : Nat} {seed : Int} {n C : Nat} {vv : Nat → Nat → Value} {T : Cells} (h : Bod R w bb bc seed n C vv T) (hC : C = cellsN n) (hn : n ≤ 100000) (r : Bool) (hr : r = true ↔ soundB seed n C T) :
    Calls Try.prog 58 #[.pointer (some ⟨bb, 0, none⟩)] w (BoolN r w) := by
  obtain ⟨s1, s2, s3, _⟩ := cellsN_spec n (by omega)
  rw [← hC] at s1 s2 s3
  have HB := Lib.hid h
  have c1 := h.countC
  have HR := Lib.hid hr
  have HLL := Lib.hid (fullL_le T C)
  have HFREE := Lib.hid (fun (e : (fullL T C).length = n) => free_of e hC hn)
  have HE : ∃ L, (fullL T C).length = L := ⟨_, rfl⟩
  obtain ⟨L, eL⟩ := HE
  have hL : L ≤ C := by rw [← eL]; exact HLL.out
  have HPA := Lib.hid (fun w' (ht : Touch Nil w w') => by have := pairs_any (h.keepN ht) (show C ≤ 1048576 by omega); unfold PairsPost at this; rw [eL] at this; exact this)
  have HL := Lib.hid eL
  have HC := Lib.hid hC
  clear h hr eL hC HLL
  by_cases hcnt : L = n
  · have d1 : ((L : Int) != (n : Int)) = false := by simp; omega
    have HF := Lib.hid (HFREE.out (by rw [HL.out, hcnt]))
    have HCNT := Lib.hid hcnt
    clear hcnt HFREE
    go_enter Try.func58, Try.ntmps58
    go_wp2_with fail
    go_region_held3 (fun w' => w'.cell? ⟨bb, 1, none⟩ = some (.int .i64 (n : Int)) ∧ Hid (Touch Nil w w'))
      (first | exact ⟨c1, Lib.hid (Touch.refl Nil w).drew⟩ | exact CntS.step HB.out (by assumption) (by assumption))
      (first | (go_at_call 78; refine (HPA.out _ (Hid.out (And.right (by assumption)))).mono ?_; rintro e w3 ⟨v, rfl, hv, htv⟩; obtain ⟨va, vcap, rfl, _⟩ := own_row hv))
    have HT3 := Lib.hid ((Touch.refl Nil w).drew.trans htv)
    have c2 := (HB.out.keepN HT3.out).cellsC
    clear c1 hv htv
    go_wp2_with fail
    clear c2
    go_loopw [21] (fun i wr => ∃ x : Nat, x ≤ C ∧ i = .int .i64 (x : Int) ∧ Hid (∀ c, c < x → ∀ k v, T c = some (k, v) → seekAt (bfS seed) (homS seed C) C T k = c) ∧ Touch Nil w wr) (fun i _ => C - (intOf i).toNat)
    case atStart => exact ⟨0, Nat.zero_le _, rfl, Lib.hid fun c hc => by omega, HT3.out⟩
    obtain ⟨x, hx, rfl, HX, hto⟩ := hrel
    have HT := Lib.hid hto
    clear hto
    by_cases hlt : x < C
    · have HBr := Lib.hid (HB.out.keepN HT.out)
      obtain ⟨ao, l, cap, bo, m, cap', e0, e1, hfree, hl64, hm1000⟩ := HBr.out.slice hlt
      have k0 := HBr.out.keyC hlt
      have k1 := HBr.out.valC hlt
      rw [e0] at k0
      rw [e1] at k1
      have HE0 := Lib.hid e0
      have HFR := Lib.hid hfree
      clear e0 e1 hfree
      have i1 : (x : Int) < (C : Int) := by omega
      have i2 : (0 : Int) ≤ (x : Int) := by omega
      go_wp2_with fail
      refine (isFree_any ao l cap (.slice bo m cap') _ (by omega)).mono ?_
      rintro e w2 ⟨rfl, hT2⟩
      have HT2 := Lib.hid ((HT.out.alloc (.cells #[.slice ao l cap, .slice bo m cap'] 72)).trans hT2)
      have hbx : w2.heap[wr.heap.size]? = some (.cells #[.slice ao l cap, .slice bo m cap'] 72 (0, 0)) := (hT2.same _ (by simp) (fun c => c)).trans (heap_alloc_new _ _)
      have d0 : w2.cell? ⟨wr.heap.size, 0, none⟩ = some (.slice ao l cap) := by simp [World.cell?, hbx]
      have HTR := Lib.hid (((Touch.refl Nil wr).alloc (.cells #[.slice ao l cap, .slice bo m cap'] 72)).trans hT2)
      clear k0 k1 hT2 hbx
      cases hTa : T x with
      | none =>
        have hl0 : decide (l = 0) = true := by rw [HFR.out, hTa]; rfl
        have HTa := Lib.hid hTa
        clear hTa
        go_wp2_with fail
        go_roundw
        case rel => exact ⟨x + 1, by omega, by go_num, Lib.hid fun c hc k v e => by
          by_cases ec : c = x
          · rw [ec, HTa.out] at e; cases e
          · exact HX.out c (by omega) k v e, HT2.out⟩
        case measure => simp [intOf]; omega
      | some p =>
        obtain ⟨k', v'⟩ := p
        have hl0 : decide (l = 0) = false := by rw [HFR.out, hTa]; rfl
        obtain ⟨q1, _, _, hk64, _⟩ := HBr.out.pair hlt hTa
        rw [HE0.out] at q1
        have HSK := Lib.hid (fun w' (ht : Touch Nil wr w') => seek_any R bb bc seed n C vv T k' (.slice ao l cap) w' (HBr.out.keepN ht) (q1.1.keepN ht) (by omega) (by omega) (by omega) HF.out)
        have HTa := Lib.hid hTa
        clear hTa q1
        have HE : ∃ A, seekAt (bfS seed) (homS seed C) C T k' = A := ⟨_, rfl⟩
        obtain ⟨A, eA⟩ := HE
        have HA := Lib.hid eA
        simp only [eA] at HSK
        clear eA
        go_wp2_with fail
        refine (HSK.out _ HTR.out).mono ?_
        rintro e w4 ⟨rfl, hT4⟩
        have HT4 := Lib.hid (HT2.out.trans hT4)
        clear hT4
        by_cases hA : A = x
        · have d2 : ((A : Int) != (x : Int)) = false := by simp; omega
          go_wp2_with fail
          go_roundw
          case rel => exact ⟨x + 1, by omega, by go_num, Lib.hid fun c hc k v e => by
            by_cases ec : c = x
            · rw [ec, HTa.out] at e
              cases e
              rw [HA.out, hA, ec]
            · exact HX.out c (by omega) k v e, HT4.out⟩
          case measure => simp [intOf]; omega
        · have d2 : ((A : Int) != (x : Int)) = true := by simp; omega
          have HRF := Lib.hid (show r = false by cases r with | false => rfl | true => exact absurd (by rw [← HA.out]; exact (HR.out.1 rfl).2 x hlt k' v' HTa.out) hA)
          go_wp2_with fail
          go_ret
          exact ⟨by rw [HRF.out]; rfl, HT4.out⟩
    · obtain rfl : x = C := by omega
      have HRT := Lib.hid (show r = true from HR.out.2 ⟨by rw [HL.out, HCNT.out], HX.out⟩)
      go_wp2_with fail
      go_ret
      exact ⟨by rw [HRT.out]; rfl, HT.out⟩
  · have d1 : ((L : Int) != (n : Int)) = true := by simp; omega
    have HRF := Lib.hid (show r = false by cases r with | false => rfl | true => exact absurd (by rw [← HL.out]; exact (HR.out.1 rfl).1) hcnt)
    go_enter Try.func58, Try.ntmps58
    go_wp2_with fail
    go_region_held3 (fun w' => w'.cell? ⟨bb, 1, none⟩ = some (.int .i64 (n : Int)) ∧ Hid (Touch Nil w w'))
      (first | exact ⟨c1, Lib.hid (Touch.refl Nil w).drew⟩ | exact CntS.step HB.out (by assumption) (by assumption))
      (first | (go_at_call 78; refine (HPA.out _ (Hid.out (And.right (by assumption)))).mono ?_; rintro e w3 ⟨v, rfl, hv, htv⟩; obtain ⟨va, vcap, rfl, _⟩ := own_row hv))
    have HT3 := Lib.hid ((Touch.refl Nil w).drew.trans htv)
    clear hv htv
    go_wp2_with fail
    go_ret
    exact ⟨by rw [HRF.out]; rfl, HT3.out⟩
end Go.Proofs.Ythhahanhkclidaa
