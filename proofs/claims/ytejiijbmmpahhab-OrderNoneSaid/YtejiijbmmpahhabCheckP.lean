import Derived.Test.YtejiijbmmpahhabCheck
/- order.Check. -/
namespace Go.Proofs.Ytejiijbmmpahhab
open Go.ChangeShapes Go.WideShapes Go.ChangeAt Go.RowKit Go.Deep

theorem box_cells {w w' : World} {x y z u : Value} {t b : Nat} (h : w.heap[b]? = some (.cells #[x, y, z, u] t (0, 0))) (ht : Touch Nil w w') :
    w'.cell? ⟨b, 0, none⟩ = some x ∧ w'.cell? ⟨b, 1, none⟩ = some y ∧ w'.cell? ⟨b, 2, none⟩ = some z ∧ w'.cell? ⟨b, 3, none⟩ = some u := by
  have e := (ht.same b (Array.getElem?_eq_some_iff.1 h).1 (fun c => c)).trans h
  refine ⟨?_, ?_, ?_, ?_⟩ <;> simp [World.cell?, e]

theorem okK_len {a b : Nat} (h : allowB a b = true) : a ≤ 64 ∧ b ≤ 1000 := by
  unfold allowB at h
  have := of_decide_eq_true h
  omega
set_option maxRecDepth 100000 in
set_option maxHeartbeats 4000000 in
theorem checkP_any (seed : Int) (d0 : Nat) (hd0 : d0 ≤ 18446744073709551615) {w : World} {qx : Value} {key : Key} {ao : Option Addr} {n : Nat} (cap : Nat) {v : Nat → Nat → Value} {kk vv : Nat → Key} {dl dr : Nat → Nat} (hq : BV w qx key) (h : Sds w ao n v kk vv dl dr) (hn : n ≤ 100000) (hl : ∀ i, i < n → (kk i).length ≤ 9223372036854775807 ∧ (vv i).length ≤ 9223372036854775807) :
    Calls Try.prog 13 #[.int .u64 seed, .int .u64 (d0 : Int), qx, .slice ao n cap] w (ChkPost vv n (chk seed key kk vv dl dr n n 0 d0) w) := by
  have HS := Lib.hid h
  have HQ := Lib.hid hq
  have HL := Lib.hid hl
  have HR : ∃ R, chk seed key kk vv dl dr n n 0 d0 = R := ⟨_, rfl⟩
  obtain ⟨R, eR⟩ := HR
  rw [eR]
  have HR0 := Lib.hid eR
  obtain ⟨qa, qc, rfl, _, _⟩ := hq
  have HE : ∃ ql, key.length = ql := ⟨_, rfl⟩
  obtain ⟨ql, eql⟩ := HE
  rw [eql] at HQ ⊢
  have d1 : decide ((100000 : Int) < (n : Int)) = false := by rw [decide_eq_false_iff_not]; omega
  have d1' : decide (100000 < n) = false := by rw [decide_eq_false_iff_not]; omega
  clear h hl eR eql
  go_enter Try.func13, Try.ntmps13
  go_wp2_with fail
  go_loopw [1, 18] (fun d i wr => ∃ x D : Nat, x ≤ n ∧ i = .int .i64 (x : Int) ∧ d = .int .u64 (D : Int) ∧ D ≤ 18446744073709551615 ∧ Hid (chk seed key kk vv dl dr n (n - x) x D = R) ∧ Touch Nil w wr) (fun _ i _ => n - (intOf i).toNat)
  case atStart => exact ⟨0, d0, Nat.zero_le _, rfl, rfl, hd0, HR0, Touch.refl _ _⟩
  obtain ⟨x, D, hx, rfl, rfl, hD, HC, hto⟩ := hrel
  have HT := Lib.hid hto
  clear hto
  by_cases hlt : x < n
  · have HSR := Lib.hid (HS.out.keepN HT.out)
    obtain ⟨b, off, rfl, hb, hcell⟩ := HSR.out.cells (by omega)
    have c0 := hcell x hlt 0 (by omega)
    have c1 := hcell x hlt 1 (by omega)
    have c2 := hcell x hlt 2 (by omega)
    have c3 := hcell x hlt 3 (by omega)
    rw [Nat.add_zero] at c0
    have hk := HSR.out.keys x hlt
    have hv := HSR.out.vals x hlt
    obtain ⟨e2, hdl⟩ := HSR.out.left x hlt
    obtain ⟨e3, hdr⟩ := HSR.out.right x hlt
    obtain ⟨hkl, hvl⟩ := HL.out x hlt
    have HK := Lib.hid hk
    have HV := Lib.hid hv
    obtain ⟨a1, k1, e0, _, _⟩ := hk
    obtain ⟨a2, k2, e1, _, _⟩ := hv
    rw [e0] at c0 HK
    rw [e1] at c1 HV
    rw [e2] at c2
    rw [e3] at c3
    have HCS := Lib.hid (show chk seed key kk vv dl dr n (n - x) x D = (if allowB (kk x).length (vv x).length = true then
      if markN seed (dl x) (kk x) (vv x) (dr x) = D then
        if key = kk x then (if x + 1 < n then .form else .there x)
        else chk seed key kk vv dl dr n (n - (x + 1)) (x + 1) (if Lib.compareBytes key (kk x) < 0 then dl x else dr x)
      else .form
    else .form) from by rw [show n - x = (n - (x + 1)) + 1 by omega]; rfl)
    rw [HC.out] at HCS
    have HMB := Lib.hid (markN_bd seed (dl x) (kk x) (vv x) (dr x))
    have HSD := Lib.hid (fun (hal : allowB (kk x).length (vv x).length = true) w' (ht : Touch Nil wr w') => sideDigest_any seed (kk x) (vv x) _ _ (dl x) (dr x) w' (HK.out.keepN ht) (HV.out.keepN ht) (by have := okK_len hal; omega) (by have := okK_len hal; omega) hdl hdr)
    have HEQ := Lib.hid (fun w' (ht : Touch Nil wr w') => equalV_any (HQ.out.keepN (HT.out.trans ht)) (HK.out.keepN ht))
    have HLT := Lib.hid (fun w' (ht : Touch Nil wr w') => leadsTo_any (y := .slice a2 (vv x).length k2) (dl x) (dr x) (HK.out.keepN ht) rfl (HQ.out.keepN (HT.out.trans ht)))
    have HCL := Lib.hid (fun (hal : allowB (kk x).length (vv x).length = true) w' (ht : Touch Nil wr w') => bytesClone_any _ (vv x) w' (HV.out.keepN ht) (by have := okK_len hal; omega))
    have HND : ∃ nd, (if Lib.compareBytes key (kk x) < 0 then dl x else dr x) = nd := ⟨_, rfl⟩
    obtain ⟨nd, end_⟩ := HND
    have hnd : nd ≤ 18446744073709551615 := by rw [← end_]; split <;> assumption
    rw [end_] at HCS
    simp only [end_] at HLT
    generalize markN seed (dl x) (kk x) (vv x) (dr x) = M at *
    have HAL := Lib.hid (fun w => allowedP_any (kk x).length (vv x).length w (by omega) (by omega))
    have HE : ∃ kl, (kk x).length = kl := ⟨_, rfl⟩
    obtain ⟨kl, ekl⟩ := HE
    have HE : ∃ vl, (vv x).length = vl := ⟨_, rfl⟩
    obtain ⟨vl, evl⟩ := HE
    rw [ekl, evl] at HCS
    simp only [ekl, evl] at HSD HEQ HLT HCL HAL hkl hvl
    rw [ekl] at c0
    rw [evl] at c1
    have HE : ∃ dlx, dl x = dlx := ⟨_, rfl⟩
    obtain ⟨dlx, edl⟩ := HE
    have HE : ∃ drx, dr x = drx := ⟨_, rfl⟩
    obtain ⟨drx, edr⟩ := HE
    rw [edl] at c2 hdl
    rw [edr] at c3 hdr
    simp only [edl, edr] at HSD HLT
    have i1 : (x : Int) < (n : Int) := by omega
    have i2 : (0 : Int) ≤ (x : Int) := by omega
    have HTB := Lib.hid ((Touch.refl Nil wr).alloc (.cells #[.slice a1 kl k1, .slice a2 vl k2, .int .u64 (dlx : Int), .int .u64 (drx : Int)] 87))
    have HBX := Lib.hid (show (wr.alloc (.cells #[.slice a1 kl k1, .slice a2 vl k2, .int .u64 (dlx : Int), .int .u64 (drx : Int)] 87)).heap[wr.heap.size]? = some (.cells #[.slice a1 kl k1, .slice a2 vl k2, .int .u64 (dlx : Int), .int .u64 (drx : Int)] 87 (0, 0)) from heap_alloc_new _ _)
    have HTR := Lib.hid (HT.out.trans HTB.out)
    clear hcell e0 e1 e2 e3 ekl evl edl edr end_ HC hb hD HMB
    have hM0 := hx
    go_wp2_with fail
    refine (HAL.out _).mono ?_
    rintro e w2 ⟨rfl, rfl⟩
    clear c0 c1 c2 c3
    cases hal : allowB kl vl
    case false =>
      rw [hal] at HCS
      have HRF := Lib.hid (show R = .form from HCS.out)
      clear hal
      go_wp2_with fail
      ((try simp only [Exit.inBlock, Exit.then]); refine bodyPost_ret (results_tmp3 rfl _ _ _) rfl ?_)
      exact ⟨by rw [HRF.out]; rfl, HTR.out⟩
    case true =>
      rw [hal] at HCS
      have HSD := Lib.hid (HSD.out hal)
      have HCL := Lib.hid (HCL.out hal)
      clear hal
      obtain ⟨x0, x1, x2, x3⟩ := box_cells HBX.out (Touch.refl Nil _)
      go_wp2_with fail
      refine (HSD.out _ HTB.out).mono ?_
      rintro e w3 ⟨rfl, ht3⟩
      clear x0 x1 x2 x3
      obtain ⟨x0, x1, x2, x3⟩ := box_cells HBX.out ht3
      have HT3 := Lib.hid (HTB.out.trans ht3)
      clear ht3
      by_cases hM : M = D
      · have hb1 : ((M : Int) != (D : Int)) = false := by simp [hM]
        simp only [hM, if_true] at HCS
        clear hM
        go_wp2_with fail
        refine (HEQ.out _ HT3.out).mono ?_
        rintro e w4 ⟨rfl, rfl⟩
        by_cases hkq : key = kk x
        · rw [decide_eq_true hkq]
          rw [if_pos hkq] at HCS
          clear hkq
          by_cases hlast : x + 1 < n
          · have d2 : decide ((x : Int) < (n : Int) - 1) = true := by rw [decide_eq_true_iff]; omega
            have HRF := Lib.hid (show R = .form from by rw [HCS.out]; simp [hlast])
            go_wp2_with fail
            ((try simp only [Exit.inBlock, Exit.then]); refine bodyPost_ret (results_tmp3 rfl _ _ _) rfl ?_)
            exact ⟨by rw [HRF.out]; rfl, HT.out.trans HT3.out⟩
          · have d2 : decide ((x : Int) < (n : Int) - 1) = false := by rw [decide_eq_false_iff_not]; omega
            have HRF := Lib.hid (show R = .there x from by rw [HCS.out]; simp [hlast])
            go_wp2_with fail
            refine (HCL.out _ HT3.out).mono ?_
            rintro e w5 ⟨y, rfl, hy, ht5⟩
            go_wp2_with fail
            ((try simp only [Exit.inBlock, Exit.then]); refine bodyPost_ret (results_tmp3 rfl _ _ _) rfl ?_)
            exact ⟨by rw [HRF.out]; exact ⟨y, rfl, hy.bv, hlt⟩, (HT.out.trans HT3.out).trans ht5⟩
        · rw [decide_eq_false hkq]
          rw [if_neg hkq] at HCS
          clear hkq
          go_wp2_with fail
          refine (HLT.out _ HT3.out).mono ?_
          rintro e w5 ⟨rfl, ht5⟩
          have HT5 := Lib.hid ((HT.out.trans HT3.out).trans ht5)
          clear ht5 x0 x1 x2 x3
          go_wp2_with fail
          go_roundw
          case rel => exact ⟨x + 1, nd, by omega, by go_num, rfl, hnd, Lib.hid HCS.out.symm, HT5.out⟩
          case measure => simp [intOf]; omega
      · have hb1 : ((M : Int) != (D : Int)) = true := by simp; omega
        have HRF := Lib.hid (show R = .form from by rw [HCS.out]; simp [hM])
        clear hM
        go_wp2_with fail
        ((try simp only [Exit.inBlock, Exit.then]); refine bodyPost_ret (results_tmp3 rfl _ _ _) rfl ?_)
        exact ⟨by rw [HRF.out]; rfl, HT.out.trans HT3.out⟩
  · obtain rfl : x = n := by omega
    have HCE := Lib.hid (show (if D = 0 then Res.none else .form) = R from by have := HC.out; rw [Nat.sub_self] at this; exact this)
    clear HC
    by_cases h0 : D = 0
    · have hb1 : ((D : Int) != 0) = false := by simp [h0]
      have HRF := Lib.hid (show R = .none from by rw [← HCE.out]; simp [h0])
      clear h0
      go_wp2_with fail
      ((try simp only [Exit.inBlock, Exit.then]); refine bodyPost_ret (results_tmp3 rfl _ _ _) rfl ?_)
      exact ⟨by rw [HRF.out]; rfl, HT.out⟩
    · have hb1 : ((D : Int) != 0) = true := by simp; omega
      have HRF := Lib.hid (show R = .form from by rw [← HCE.out]; simp [h0])
      clear h0
      go_wp2_with fail
      ((try simp only [Exit.inBlock, Exit.then]); refine bodyPost_ret (results_tmp3 rfl _ _ _) rfl ?_)
      exact ⟨by rw [HRF.out]; rfl, HT.out⟩
end Go.Proofs.Ytejiijbmmpahhab
