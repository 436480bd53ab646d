import Derived.Test.YticddcnlafbkoaaDoorVpair
/- SwapForgets: the walk. -/
namespace Go.Proofs.YticddcnlafbkoaaDoor
open Go.ChangeShapes Go.WideShapes Go.ChangeAt Go.RowKit Go.Deep

set_option maxRecDepth 100000 in
set_option maxHeartbeats 8000000 in
theorem lawForgets_any (seed : Int) (nm : ByteArray) {w : World} {da pa aa ba : Option Addr} {dl dc pl pc an ac bn bc : Nat} {data pad : Key} (hd : BV w (.slice da dl dc) data) (hp : BV w (.slice pa pl pc) pad)
    {v1 v2 : Nat → Nat → Value} {kd1 kd2 : Nat → Int} {nm1 nm2 : Nat → ByteArray} {da1 pa1 da2 pa2 : Nat → Key} (h1 : Dds w aa an v1 kd1 nm1 da1 pa1) (h2 : Dds w ba bn v2 kd2 nm2 da2 pa2) (hns : nm.size ≤ 9223372036854775807) (han : an ≤ 140737488351232) (hbn : bn ≤ 140737488351232) :
    Calls Tryd.prog 4 #[.int .u64 seed, .string nm, .slice da dl dc, .slice pa pl pc, .slice aa an ac, .slice ba bn bc] w fun e w' => e = .returned (.bool true) ∧ Touch Nil w w' := by
  have HD := Lib.hid hd
  have HP := Lib.hid hp
  have H1 := Lib.hid h1
  have H2 := Lib.hid h2
  have HNS := Lib.hid hns
  have HDL := Lib.hid (show dl = data.length from by obtain ⟨_, _, e, _⟩ := hd; injection e)
  have HPL := Lib.hid (show pl = pad.length from by obtain ⟨_, _, e, _⟩ := hp; injection e)
  clear hd hp h1 h2 hns
  by_cases q0 : (60 : Int) < (an : Int) + (bn : Int)
  · have d0 : decide ((60 : Int) < (an : Int) + (bn : Int)) = true := decide_eq_true q0
    go_enter Tryd.func4, Tryd.ntmps4
    go_wp2_with fail
    go_ret
    exact ⟨rfl, Touch.refl _ _⟩
  have d0 : decide ((60 : Int) < (an : Int) + (bn : Int)) = false := decide_eq_false q0
  by_cases q1 : (2000 : Int) < (dl : Int)
  · have d1 : decide ((2000 : Int) < (dl : Int)) = true := decide_eq_true q1
    go_enter Tryd.func4, Tryd.ntmps4
    go_wp2_with fail
    go_ret
    exact ⟨rfl, Touch.refl _ _⟩
  have d1 : decide ((2000 : Int) < (dl : Int)) = false := decide_eq_false q1
  by_cases q2 : (2000 : Int) < (pl : Int)
  · have d2 : decide ((2000 : Int) < (pl : Int)) = true := decide_eq_true q2
    go_enter Tryd.func4, Tryd.ntmps4
    go_wp2_with fail
    go_ret
    exact ⟨rfl, Touch.refl _ _⟩
  have d2 : decide ((2000 : Int) < (pl : Int)) = false := decide_eq_false q2
  by_cases q3 : (2000 : Int) < (nm.size : Int)
  · have d3 : decide ((2000 : Int) < (nm.size : Int)) = true := decide_eq_true q3
    go_enter Tryd.func4, Tryd.ntmps4
    go_wp2_with fail
    go_ret
    exact ⟨rfl, Touch.refl _ _⟩
  have d3 : decide ((2000 : Int) < (nm.size : Int)) = false := decide_eq_false q3
  have HQ := Lib.hid (show an ≤ 60 ∧ bn ≤ 60 ∧ dl ≤ 2000 ∧ pl ≤ 2000 ∧ nm.size ≤ 2000 from by omega)
  clear q0 q1 q2 q3
  go_enter Tryd.func4, Tryd.ntmps4
  go_wp2_with fail
  refine (new_gen seed w).mono ?_
  rintro e w1 ⟨R1, b1, rfl, hv1, hR1, hb1, ht1⟩
  have HV1 := Lib.hid hv1
  have HR1 := Lib.hid hR1
  have HT1 := Lib.hid ht1
  clear hv1 hR1 hb1 ht1
  go_wp2_with fail
  refine (new_gen seed w1).mono ?_
  rintro e w2 ⟨R2, b2, rfl, hv2, hR2, hb2, ht2⟩
  have HP2 := Lib.hid (P2.new1 w HT1.out HV1.out HR1.out hv2 hR2 hb2 ht2)
  clear hv2 hR2 hb2 ht2 HV1 HR1 HT1
  go_wp2_with fail
  refine (done_any HP2.out.v1 (by omega) HP2.out.t HP2.out.l1 nm ac HQ.out.1 H1.out).mono ?_
  rintro e w3 ⟨g1, rfl, ht, hg⟩
  cases g1
  · have HT := Lib.hid (HP2.out.t.trans' ht fun b hb hs => by have := HP2.out.l1 b hs; omega)
    clear ht hg
    go_wp2_with fail
    go_ret
    exact ⟨rfl, HT.out⟩
  obtain ⟨hg1, R1', hv, hR⟩ := hg rfl
  have HG1 := Lib.hid hg1
  have HP3 := Lib.hid (HP2.out.step hv ht hR)
  clear ht hg hg1 hv hR HP2
  go_wp2_with fail
  refine (done_any HP3.out.v2 (by omega) HP3.out.t HP3.out.l2 nm ac HQ.out.1 H1.out).mono ?_
  rintro e w4 ⟨g2, rfl, ht, hg⟩
  cases g2
  · have HT := Lib.hid (HP3.out.t.trans' ht fun b hb hs => by have := HP3.out.l2 b hs; omega)
    clear ht hg
    go_wp2_with fail
    go_ret
    exact ⟨rfl, HT.out⟩
  obtain ⟨_, R2', hv, hR⟩ := hg rfl
  have HP4 := Lib.hid ((HP3.out.swap.step hv ht hR).swap)
  clear ht hg hv hR HP3
  have HS0 := Lib.hid (doneS_keep (S := fun _ => none) kd1 nm1 da1 pa1 an HG1.out)
  obtain ⟨SA, eSA⟩ : ∃ SA, doneS (fun _ => none) kd1 nm1 da1 pa1 an = SA := ⟨_, rfl⟩
  rw [eSA] at HP4 HS0
  clear eSA
  go_wp2_with fail
  cases hok : okPut nm dl pl
  · have HOK := Lib.hid hok
    clear hok
    refine (vput_bad w4 _ nm (by have := HNS.out; omega) da pa dl dc pl pc HOK.out).mono ?_
    rintro e w5 ⟨rfl, ht⟩
    have HP5 := Lib.hid (HP4.out.keepN ht)
    have ta := (Touch.refl Nil w5).alloc (.cells #[.string ⟨#[]⟩, .slice none 0 0] 32)
    have h15 := heap_alloc_new w5 (.cells #[.string ⟨#[]⟩, .slice none 0 0] 32)
    have HP6 := Lib.hid ((HP5.out.keepN ta).zone (fun b => b = w5.heap.size) (fun b hb => by
      subst hb
      exact ⟨by simp, fun h => by have := HP5.out.v1.low _ h; omega, fun h => by have := HP5.out.v2.low _ h; omega⟩))
    go_wp2_with fail
    obtain ⟨b15, e15⟩ : ∃ b15, w5.heap.size = b15 := ⟨_, rfl⟩
    obtain ⟨w6, e6⟩ : ∃ w6, w5.alloc (.cells #[.string ⟨#[]⟩, .slice none 0 0] 32) = w6 := ⟨_, rfl⟩
    rw [e15, e6] at h15
    rw [e15, e6] at HP6
    have HB6 := Lib.hid h15
    clear ta h15 ht HP5 HP4
    (try rw [e15]); (try rw [e6])
    refine (done_any HP6.out.v1 (by have := HQ.out.1; omega) HP6.out.t HP6.out.l1 nm bc HQ.out.2.1 H2.out).mono ?_
    rintro e w7 ⟨g1, rfl, ht, hg⟩
    cases g1
    · have HT := Lib.hid (HP6.out.t.trans' ht fun b hb hs => by have := HP6.out.l1 b hs; omega)
      clear ht hg
      go_wp2_with fail
      go_ret
      exact ⟨rfl, HT.out⟩
    obtain ⟨hg1, R1q, hv, hR⟩ := hg rfl
    have HG2 := Lib.hid hg1
    have HP7 := Lib.hid (HP6.out.step hv ht hR)
    have HB7 := Lib.hid ((ht.same b15 (lt_heap HB6.out) (HP6.out.z b15 rfl).2.1).trans HB6.out)
    clear ht hg hg1 hv hR
    go_wp2_with fail
    refine (done_any HP7.out.v2 (by have := HQ.out.1; omega) HP7.out.t HP7.out.l2 nm bc HQ.out.2.1 H2.out).mono ?_
    rintro e w8 ⟨g2, rfl, ht, hg⟩
    cases g2
    · have HT := Lib.hid (HP7.out.t.trans' ht fun b hb hs => by have := HP7.out.l2 b hs; omega)
      clear ht hg
      go_wp2_with fail
      go_ret
      exact ⟨rfl, HT.out⟩
    obtain ⟨_, R2q, hv, hR⟩ := hg rfl
    have HP8 := Lib.hid ((HP7.out.swap.step hv ht hR).swap)
    have HB8 := Lib.hid ((ht.same b15 (lt_heap HB7.out) (HP7.out.z b15 rfl).2.2).trans HB7.out)
    clear ht hg hv hR HP6 HP7
    have HFG := Lib.hid (forgotten (S := SA) (S' := SA) (nm0 := nm) (fun k hk => rfl) HS0.out kd2 nm2 da2 pa2 bn HG2.out)
    have HK1 := Lib.hid (show doneS (SA) kd2 nm2 da2 pa2 bn nm.data.toList = none from (doneS_keep kd2 nm2 da2 pa2 bn HG2.out).trans HS0.out)
    have HKS := Lib.hid (doneS_keep (S := SA) kd2 nm2 da2 pa2 bn HG2.out)
    obtain ⟨SB, eSB⟩ : ∃ SB, doneS (SA) kd2 nm2 da2 pa2 bn = SB := ⟨_, rfl⟩
    rw [eSB] at HP8
    rw [eSB] at HFG
    rw [eSB] at HK1
    clear eSB
    go_wp2_with fail
    have h7 := put7_nil nm (by have := HQ.out.2.2.2.2; omega) (HD.out.keepN HP8.out.t) (HP.out.keepN HP8.out.t)
    rw [if_neg (by rw [HOK.out]; decide)] at h7
    refine h7.mono ?_
    rintro e w9 ⟨rs, ra, rn, rc, rv, rfl, ht⟩
    have ta := ht.alloc (.cells #[.string rs, .slice ra rn rc] 32)
    have HP9 := Lib.hid (HP8.out.keepN ta)
    have HB9 := Lib.hid ((ta.same b15 (lt_heap HB8.out) (fun c => c)).trans HB8.out)
    obtain ⟨w10, e10⟩ : ∃ w10, w9.alloc (.cells #[.string rs, .slice ra rn rc] 32) = w10 := ⟨_, rfl⟩
    rw [e10] at HP9 HB9
    have y0 : w10.cell? ⟨b15, 0, none⟩ = some (.string ⟨#[]⟩) := by have h := HB9.out; simp [World.cell?, h]
    have y1 : w10.cell? ⟨b15, 1, none⟩ = some (.slice none 0 0) := by have h := HB9.out; simp [World.cell?, h]
    clear ht ta h7 HP8
    go_wp2_with fail
    refine (open_any HP9.out.v1 ⟨#[]⟩ (by decide) none HP9.out.v1.noEmpty (BV.nil w10) (fun p e => by cases e) (by simp)).mono ?_
    rintro e w11 ⟨ht, ho, _⟩
    obtain rfl := ho rfl
    have HP11 := Lib.hid (HP9.out.keepN ht)
    have HB11 := Lib.hid ((ht.same b15 (lt_heap HB9.out) (fun c => c)).trans HB9.out)
    clear ht ho y0 y1 e10
    go_wp2_with fail
    refine (forget_any HP11.out.v1 nm rfl (by have := HQ.out.2.2.2.2; simp; omega)).mono ?_
    rintro e w13 ⟨he, R1f, hv, ht, hR⟩
    rw [HK1.out] at he
    have he : e = .returned (.int .i64 3) := he
    subst he
    have HP13 := Lib.hid (HP11.out.step hv ht hR)
    have HB13 := Lib.hid ((ht.same b15 (lt_heap HB11.out) (HP11.out.z b15 rfl).2.1).trans HB11.out)
    rw [HFG.out] at HP13
    have y0 : w13.cell? ⟨b15, 0, none⟩ = some (.string ⟨#[]⟩) := by have h := HB13.out; simp [World.cell?, h]
    have y1 : w13.cell? ⟨b15, 1, none⟩ = some (.slice none 0 0) := by have h := HB13.out; simp [World.cell?, h]
    clear ht hv hR
    go_wp2_with fail
    refine (open_any HP13.out.v1 ⟨#[]⟩ (by decide) none HP13.out.v1.noEmpty (BV.nil w13) (fun p e => by cases e) (by simp)).mono ?_
    rintro e w14 ⟨ht, ho, _⟩
    obtain rfl := ho rfl
    have HP14 := Lib.hid (HP13.out.keepN ht)
    clear ht ho y0 y1
    go_wp2_with fail
    refine (vimage_any HP14.out.v1).mono ?_
    rintro e w15 ⟨i0, n0, C0, T0, rfl, _, hS0, ⟨t0, hT0⟩, ho, ht⟩
    have HP15 := Lib.hid (HP14.out.keepN ht)
    have HI0 := Lib.hid ho.bv
    have HS1 := Lib.hid hS0
    have HTT0 := Lib.hid hT0
    obtain ⟨ia0, in0, ic0, rfl⟩ := ho.form
    have hpos : (0 : Int) < (in0 : Int) := by
      obtain ⟨_, _, e, _⟩ := HI0.out
      injection e with _ e _
      rw [e]
      simp [imageB, headB]; omega
    clear ht ho hS0 hT0
    go_wp2_with fail
    refine (vimage_any HP15.out.v1).mono ?_
    rintro e w16 ⟨i1, n1, C1, T1, rfl, _, hS1, ⟨t1, hT1⟩, ho, ht⟩
    have HP16 := Lib.hid (HP15.out.keepN ht)
    have HI1 := Lib.hid ho.bv
    have HI0 := Lib.hid (HI0.out.keepN ht)
    have HS2 := Lib.hid hS1
    have HTT1 := Lib.hid hT1
    obtain ⟨ia1, in1, ic1, rfl⟩ := ho.form
    clear ht ho hS1 hT1
    go_wp2_with fail
    refine (vimage_any HP16.out.v2).mono ?_
    rintro e w17 ⟨i2, n2, C2, T2, rfl, _, hS2, ⟨t2, hT2⟩, ho, ht⟩
    have HP17 := Lib.hid (HP16.out.keepN ht)
    have HI2 := Lib.hid ho.bv
    have HI0 := Lib.hid (HI0.out.keepN ht)
    have HI1 := Lib.hid (HI1.out.keepN ht)
    have HS3 := Lib.hid hS2
    have HTT2 := Lib.hid hT2
    obtain ⟨ia2, in2, ic2, rfl⟩ := ho.form
    clear ht ho hS2 hT2
    go_wp2_with fail
    have HEI := Lib.hid (same_image HTT1.out HTT2.out HS2.out HS3.out)
    refine (compareV_any HI1.out HI2.out (by have := image_len7 HTT1.out; omega) (by have := image_len7 HTT2.out; omega)).mono ?_
    rw [HEI.out, (cmpR_zero _ _).2 rfl]
    rintro e w18 ⟨rfl, k2, hw18⟩
    have HT18 := Lib.hid (show Touch Nil w w18 from HP17.out.t.trans (by rw [hw18]; exact touch_drewN7 w17 k2))
    clear hw18
    go_wp2_with fail
    go_ret
    exact ⟨rfl, HT18.out⟩
  · have HOK := Lib.hid hok
    have HEQ := Lib.hid (show dl = pl from by unfold okPut at hok; simp only [Bool.and_eq_true, decide_eq_true_eq] at hok; exact hok.2.1)
    clear hok
    refine (vput_yes HP4.out.v1 (by have := HQ.out.1; omega) nm (by have := HQ.out.2.2.2.2; omega) (HD.out.keepN HP4.out.t) (fun h b hb hr => by have h1 := bv_low HD.out h b hb; have h2 := HP4.out.l1 b hr; omega) (HP.out.keepN HP4.out.t) (fun h b hb hr => by have h1 := bv_low HP.out h b hb; have h2 := HP4.out.l1 b hr; omega) HOK.out HS0.out).mono ?_
    rintro e w5 ⟨xa, xn, xc, R1p, rfl, hv, ht, hR, ho, hx⟩
    have HP5 := Lib.hid (HP4.out.step hv ht hR)
    have ta := (Touch.refl Nil w5).alloc (.cells #[.string nm, .slice xa xn xc] 32)
    have h15 := heap_alloc_new w5 (.cells #[.string nm, .slice xa xn xc] 32)
    have HP6 := Lib.hid ((HP5.out.keepN ta).zone (fun b => b = w5.heap.size ∨ OwnOf (.slice xa xn xc) b) (fun b hb => by
      rcases hb with rfl | hb
      · exact ⟨by simp, fun h => by have := HP5.out.v1.low _ h; omega, fun h => by have := HP5.out.v2.low _ h; omega⟩
      · have g := ho.block b hb
        exact ⟨by simp; omega, hx b hb, fun h => by have := HP4.out.v2.low _ h; omega⟩))
    have HO6 := Lib.hid (ho.keep ta fun _ _ c => c)
    have HOL := Lib.hid (show (xorL data pad).length = pad.length from by rw [xorL_len (by have := HDL.out; have := HPL.out; have := HEQ.out; omega)]; have := HDL.out; have := HPL.out; have := HEQ.out; omega)
    clear ho hx hv hR
    obtain ⟨b15, e15⟩ : ∃ b15, w5.heap.size = b15 := ⟨_, rfl⟩
    obtain ⟨w6, e6⟩ : ∃ w6, w5.alloc (.cells #[.string nm, .slice xa xn xc] 32) = w6 := ⟨_, rfl⟩
    rw [e15, e6] at h15
    rw [e15, e6] at HP6
    rw [e6] at HO6
    have HB6 := Lib.hid h15
    clear ta h15 ht HP5 HP4
    go_wp2_with fail
    refine (done_any HP6.out.v1 (by have := HQ.out.1; omega) HP6.out.t HP6.out.l1 nm bc HQ.out.2.1 H2.out).mono ?_
    rintro e w7 ⟨g1, rfl, ht, hg⟩
    cases g1
    · have HT := Lib.hid (HP6.out.t.trans' ht fun b hb hs => by have := HP6.out.l1 b hs; omega)
      clear ht hg
      go_wp2_with fail
      go_ret
      exact ⟨rfl, HT.out⟩
    obtain ⟨hg1, R1q, hv, hR⟩ := hg rfl
    have HG2 := Lib.hid hg1
    have HP7 := Lib.hid (HP6.out.step hv ht hR)
    have HB7 := Lib.hid ((ht.same b15 (lt_heap HB6.out) (HP6.out.z b15 (.inl rfl)).2.1).trans HB6.out)
    have HO7 := Lib.hid (HO6.out.keep ht fun k hk => (HP6.out.z k (.inr hk)).2.1)
    clear ht hg hg1 hv hR
    go_wp2_with fail
    refine (done_any HP7.out.v2 (by have := HQ.out.1; omega) HP7.out.t HP7.out.l2 nm bc HQ.out.2.1 H2.out).mono ?_
    rintro e w8 ⟨g2, rfl, ht, hg⟩
    cases g2
    · have HT := Lib.hid (HP7.out.t.trans' ht fun b hb hs => by have := HP7.out.l2 b hs; omega)
      clear ht hg
      go_wp2_with fail
      go_ret
      exact ⟨rfl, HT.out⟩
    obtain ⟨_, R2q, hv, hR⟩ := hg rfl
    have HP8 := Lib.hid ((HP7.out.swap.step hv ht hR).swap)
    have HB8 := Lib.hid ((ht.same b15 (lt_heap HB7.out) (HP7.out.z b15 (.inl rfl)).2.2).trans HB7.out)
    have HO8 := Lib.hid (HO7.out.keep ht fun k hk => (HP7.out.z k (.inr hk)).2.2)
    clear ht hg hv hR HP6 HP7
    have HFG := Lib.hid (forgotten (S := SA) (S' := putS SA nm.data.toList ([1] ++ pad)) (nm0 := nm) (fun k hk => by unfold putS; rw [if_neg hk]) HS0.out kd2 nm2 da2 pa2 bn HG2.out)
    have HK1 := Lib.hid (show doneS (putS SA nm.data.toList ([1] ++ pad)) kd2 nm2 da2 pa2 bn nm.data.toList = some ([1] ++ pad) from (doneS_keep kd2 nm2 da2 pa2 bn HG2.out).trans (by unfold putS; rw [if_pos rfl]))
    have HKS := Lib.hid (doneS_keep (S := SA) kd2 nm2 da2 pa2 bn HG2.out)
    obtain ⟨SB, eSB⟩ : ∃ SB, doneS (putS SA nm.data.toList ([1] ++ pad)) kd2 nm2 da2 pa2 bn = SB := ⟨_, rfl⟩
    obtain ⟨SC, eSC⟩ : ∃ SC, doneS SA kd2 nm2 da2 pa2 bn = SC := ⟨_, rfl⟩
    rw [eSB, eSC] at HP8
    rw [eSB, eSC] at HFG
    rw [eSB] at HK1
    rw [eSC] at HKS
    clear eSB eSC
    go_wp2_with fail
    have h7 := put7_nil nm (by have := HQ.out.2.2.2.2; omega) (HD.out.keepN HP8.out.t) (HP.out.keepN HP8.out.t)
    rw [if_pos HOK.out] at h7
    refine h7.mono ?_
    rintro e w9 ⟨rs, ra, rn, rc, rv, rfl, ht⟩
    have ta := ht.alloc (.cells #[.string rs, .slice ra rn rc] 32)
    have HP9 := Lib.hid (HP8.out.keepN ta)
    have HB9 := Lib.hid ((ta.same b15 (lt_heap HB8.out) (fun c => c)).trans HB8.out)
    have HO9 := Lib.hid (HO8.out.keep ta fun _ _ c => c)
    obtain ⟨w10, e10⟩ : ∃ w10, w9.alloc (.cells #[.string rs, .slice ra rn rc] 32) = w10 := ⟨_, rfl⟩
    rw [e10] at HP9 HB9 HO9
    have y0 : w10.cell? ⟨b15, 0, none⟩ = some (.string nm) := by have h := HB9.out; simp [World.cell?, h]
    have y1 : w10.cell? ⟨b15, 1, none⟩ = some (.slice xa xn xc) := by have h := HB9.out; simp [World.cell?, h]
    clear ht ta h7 HP8
    go_wp2_with fail
    refine (open_any HP9.out.v1 nm (by have := HQ.out.2.2.2.2; omega) (some pad) HK1.out HO9.out.bv (fun p e => by cases e; exact HOL.out) (by have := HOL.out; have := HPL.out; have := HQ.out.2.2.2.1; omega)).mono ?_
    rintro e w11 ⟨ht, _, ho⟩
    obtain ⟨ov, rfl, hov⟩ := ho pad rfl
    have HOV := Lib.hid hov.bv
    have HP11 := Lib.hid (HP9.out.keepN ht)
    have HB11 := Lib.hid ((ht.same b15 (lt_heap HB9.out) (fun c => c)).trans HB9.out)
    have HO11 := Lib.hid (HO9.out.keep ht fun _ _ c => c)
    clear ht ho y0 y1 e10 hov
    go_wp2_with fail
    refine (compareV_any HOV.out (HD.out.keepN HP11.out.t) (by rw [xor_back7 data pad (by have := HDL.out; have := HPL.out; have := HEQ.out; omega)]; have := HDL.out; have := HQ.out.2.2.1; omega) (by have := HDL.out; have := HQ.out.2.2.1; omega)).mono ?_
    rw [xor_back7 data pad (by have := HDL.out; have := HPL.out; have := HEQ.out; omega), (cmpR_zero data data).2 rfl]
    rintro e w12 ⟨rfl, k1, hw12⟩
    have td : Touch Nil w11 w12 := by rw [hw12]; exact touch_drewN7 w11 k1
    have HP12 := Lib.hid (HP11.out.keepN td)
    have HB12 := Lib.hid ((td.same b15 (lt_heap HB11.out) (fun c => c)).trans HB11.out)
    have HO12 := Lib.hid (HO11.out.keep td fun _ _ c => c)
    clear td hw12
    go_wp2_with fail
    refine (forget_any HP12.out.v1 nm rfl (by have := HQ.out.2.2.2.2; simp; omega)).mono ?_
    rintro e w13 ⟨he, R1f, hv, ht, hR⟩
    rw [HK1.out] at he
    have he : e = .returned (.int .i64 0) := he
    subst he
    have HP13 := Lib.hid (HP12.out.step hv ht hR)
    have HB13 := Lib.hid ((ht.same b15 (lt_heap HB12.out) (HP12.out.z b15 (.inl rfl)).2.1).trans HB12.out)
    have HO13 := Lib.hid (HO12.out.keep ht fun k hk => (HP12.out.z k (.inr hk)).2.1)
    rw [HFG.out] at HP13
    have y0 : w13.cell? ⟨b15, 0, none⟩ = some (.string nm) := by have h := HB13.out; simp [World.cell?, h]
    have y1 : w13.cell? ⟨b15, 1, none⟩ = some (.slice xa xn xc) := by have h := HB13.out; simp [World.cell?, h]
    clear ht hv hR
    go_wp2_with fail
    refine (open_any HP13.out.v1 nm (by have := HQ.out.2.2.2.2; omega) none (HKS.out.trans HS0.out) HO13.out.bv (fun p e => by cases e) (by have := HOL.out; have := HPL.out; have := HQ.out.2.2.2.1; omega)).mono ?_
    rintro e w14 ⟨ht, ho, _⟩
    obtain rfl := ho rfl
    have HP14 := Lib.hid (HP13.out.keepN ht)
    clear ht ho y0 y1
    go_wp2_with fail
    refine (vimage_any HP14.out.v1).mono ?_
    rintro e w15 ⟨i0, n0, C0, T0, rfl, _, hS0, ⟨t0, hT0⟩, ho, ht⟩
    have HP15 := Lib.hid (HP14.out.keepN ht)
    have HI0 := Lib.hid ho.bv
    have HS1 := Lib.hid hS0
    have HTT0 := Lib.hid hT0
    obtain ⟨ia0, in0, ic0, rfl⟩ := ho.form
    have hpos : (0 : Int) < (in0 : Int) := by
      obtain ⟨_, _, e, _⟩ := HI0.out
      injection e with _ e _
      rw [e]
      simp [imageB, headB]; omega
    clear ht ho hS0 hT0
    go_wp2_with fail
    refine (vimage_any HP15.out.v1).mono ?_
    rintro e w16 ⟨i1, n1, C1, T1, rfl, _, hS1, ⟨t1, hT1⟩, ho, ht⟩
    have HP16 := Lib.hid (HP15.out.keepN ht)
    have HI1 := Lib.hid ho.bv
    have HI0 := Lib.hid (HI0.out.keepN ht)
    have HS2 := Lib.hid hS1
    have HTT1 := Lib.hid hT1
    obtain ⟨ia1, in1, ic1, rfl⟩ := ho.form
    clear ht ho hS1 hT1
    go_wp2_with fail
    refine (vimage_any HP16.out.v2).mono ?_
    rintro e w17 ⟨i2, n2, C2, T2, rfl, _, hS2, ⟨t2, hT2⟩, ho, ht⟩
    have HP17 := Lib.hid (HP16.out.keepN ht)
    have HI2 := Lib.hid ho.bv
    have HI0 := Lib.hid (HI0.out.keepN ht)
    have HI1 := Lib.hid (HI1.out.keepN ht)
    have HS3 := Lib.hid hS2
    have HTT2 := Lib.hid hT2
    obtain ⟨ia2, in2, ic2, rfl⟩ := ho.form
    clear ht ho hS2 hT2
    go_wp2_with fail
    have HEI := Lib.hid (same_image HTT1.out HTT2.out HS2.out HS3.out)
    refine (compareV_any HI1.out HI2.out (by have := image_len7 HTT1.out; omega) (by have := image_len7 HTT2.out; omega)).mono ?_
    rw [HEI.out, (cmpR_zero _ _).2 rfl]
    rintro e w18 ⟨rfl, k2, hw18⟩
    have HT18 := Lib.hid (show Touch Nil w w18 from HP17.out.t.trans (by rw [hw18]; exact touch_drewN7 w17 k2))
    clear hw18
    go_wp2_with fail
    go_ret
    exact ⟨rfl, HT18.out⟩
end Go.Proofs.YticddcnlafbkoaaDoor
