import Derived.Test.YticddcnlafbkoaaDoorVcmp
import Derived.Test.YticddcnlafbkoaaDoorVput
/-
  SwapPads: for every seed, every name and all bytes the law returns true.
-/
namespace Go.Proofs.YticddcnlafbkoaaDoor
open Go.ChangeShapes Go.WideShapes Go.ChangeAt Go.RowKit Go.Deep

theorem xor_back : ∀ a b : Key, a.length = b.length → xorL (xorL a b) b = a
  | [], [], _ => rfl
  | x :: a, y :: b, h => by
    have h2 : xorL (xorL a b) b = a := xor_back a b (by simpa using h)
    show (x ^^^ y ^^^ y) :: xorL (xorL a b) b = x :: a
    rw [h2, UInt8.xor_assoc, UInt8.xor_self, UInt8.xor_zero]
  | [], _ :: _, h => by cases h
  | _ :: _, [], h => by cases h
theorem xor_comm8 : ∀ a b : Key, xorL a b = xorL b a
  | [], [] => rfl
  | [], _ :: _ => rfl
  | _ :: _, [] => rfl
  | x :: a, y :: b => by
    show (x ^^^ y) :: xorL a b = (y ^^^ x) :: xorL b a
    rw [xor_comm8 a b, UInt8.xor_comm]
/-- The pad takes the bytes back. -/
theorem xor_pad {a b : Key} (h : a.length = b.length) : xorL b (xorL a b) = a := by rw [xor_comm8, xor_back a b h]
/-- Other bytes do not. -/
theorem xor_other {a b c : Key} (h : a.length = b.length) (hc : c.length = a.length) (e : xorL b c = a) : c = xorL a b := by
  have h2 := xor_back c b (by omega)
  rw [xor_comm8 c b, e] at h2
  exact h2.symm
theorem BV.lowB {w : World} {x : Value} {l : Key} (h : BV w x l) (hl : 0 < l.length) : ∀ b, OwnOf x b → b < w.heap.size := by
  obtain ⟨ao, cap, rfl, h1, h2⟩ := h
  intro b hb
  obtain ⟨b', off, e, hc⟩ := h2 0 (by simpa using hl)
  subst e
  have hb : some b = some b' := hb
  cases hb
  exact World.block_lt_of_cell? w _ hc
theorem touch_drewN (w : World) (k : Nat) : Touch Nil w (w.drewN k) := ⟨rfl, rfl, rfl, Nat.le_refl _, fun _ _ _ => rfl⟩

set_option maxRecDepth 100000 in
set_option maxHeartbeats 4000000 in
theorem lawPads_any (seed : Int) (nm : ByteArray) {w : World} {x y z : Value} {a b c : Key} (hx : BV w x a) (hy : BV w y b) (hz : BV w z c) (hns : nm.size ≤ 9223372036854775807) (ha : a.length ≤ 140737488351232) :
    Calls Tryd.prog 5 #[.int .u64 seed, .string nm, x, y, z] w fun e w' => e = .returned (.bool true) ∧ Touch Nil w w' := by
  have HX := Lib.hid hx
  have HY := Lib.hid hy
  have HZ := Lib.hid hz
  have HA := Lib.hid ha
  have HNS := Lib.hid hns
  have HEX := Lib.hid (explain_any (nm := nm) hx hy ha)
  obtain ⟨xo, xc, rfl, _, _⟩ := hx
  obtain ⟨yo, yc, rfl, _, _⟩ := hy
  obtain ⟨zo, zc, rfl, _, _⟩ := hz
  obtain ⟨an, ean⟩ : ∃ n, a.length = n := ⟨_, rfl⟩
  obtain ⟨bn, ebn⟩ : ∃ n, b.length = n := ⟨_, rfl⟩
  obtain ⟨cn, ecn⟩ : ∃ n, c.length = n := ⟨_, rfl⟩
  rw [ean] at HX HA HEX
  rw [ebn] at HY HEX
  rw [ecn] at HZ
  rw [ean, ebn, ecn]
  have HEA := Lib.hid ean
  have HEB := Lib.hid ebn
  have HEC := Lib.hid ecn
  clear ha hns ean ebn ecn
  go_enter Tryd.func5, Tryd.ntmps5
  go_wp2_with fail
  refine HEX.out.mono ?_
  rintro e w1 ⟨ht, h1, h2⟩
  have HT1 := Lib.hid ht
  clear ht HEX
  by_cases hl : an = bn
  · subst hl
    obtain ⟨v, rfl, hv⟩ := h1 (by rw [HEA.out, HEB.out])
    clear h1 h2
    obtain ⟨pa, pn, pc, rfl⟩ := hv.form
    have HP := Lib.hid hv
    have q : ((an : Int) != (an : Int)) = false := by simp
    clear hv
    go_wp2_with fail
    have hpad := HP.out.bv
    have hplen : (xorL a b).length = an := by rw [xorL_len (by rw [HEA.out, HEB.out]), HEA.out]
    obtain ⟨pa', pc', e1, hp2⟩ := hpad
    injection e1 with e2 e3 e4
    rw [hplen] at e3
    obtain rfl := e3.symm
    clear e2 e4 e3
    have HX1 := Lib.hid (HX.out.keepN HT1.out)
    have HY1 := Lib.hid (HY.out.keepN HT1.out)
    have HZ1 := Lib.hid (HZ.out.keepN HT1.out)
    have HPL := Lib.hid hplen
    clear hp2 hplen
    refine (explains_any (a := xorL a b) (b := b) (c := a) HP.out.bv HY1.out HX1.out (by rw [HPL.out, HEB.out]) (by rw [HPL.out, HEA.out]) (xor_back a b (by rw [HEA.out, HEB.out])) (by rw [HPL.out]; exact HA.out)).mono ?_
    rintro e w2 ⟨rfl, k, rfl⟩
    have HD := Lib.hid (touch_drewN w1 k)
    obtain ⟨w2, ew2⟩ : ∃ w2, w1.drewN k = w2 := ⟨_, rfl⟩
    rw [ew2] at HD ⊢
    clear ew2
    go_wp2_with fail
    refine (named_any HNS.out).mono ?_
    rintro e w3 ⟨rfl, rfl⟩
    rcases hN : namedB nm with _ | _
    · go_wp2_with fail
      go_ret
      exact ⟨rfl, HT1.out.trans HD.out⟩
    by_cases hbig : (999 : Int) < (an : Int)
    · have d : decide ((999 : Int) < (an : Int)) = true := decide_eq_true hbig
      go_wp2_with fail
      go_ret
      exact ⟨rfl, HT1.out.trans HD.out⟩
    have d : decide ((999 : Int) < (an : Int)) = false := decide_eq_false hbig
    have HBIG := Lib.hid (show an ≤ 999 from by omega)
    have HNM := Lib.hid hN
    clear hbig hN
    go_wp2_with fail
    refine (newVault_any seed w2).mono ?_
    rintro e w3 ⟨R, bv, tp, rfl, hT, hR, hbR, hbv, hcell, ht⟩
    have HT2 := Lib.hid (HT1.out.trans HD.out)
    have HX2 := Lib.hid (HX1.out.keepN HD.out)
    have HY2 := Lib.hid (HY1.out.keepN HD.out)
    have HZ2 := Lib.hid (HZ1.out.keepN HD.out)
    have HP2 := Lib.hid (HP.out.keep HD.out fun _ _ c => c)
    have HPUT := Lib.hid (vput_any hT hcell hbR nm HNM.out rfl rfl (by omega) (HY2.out.keepN ht) (fun h k hk hr => by have h1 := HY2.out.lowB h k hk; have h2 := hR k hr; omega) (HP2.out.keep ht fun _ _ c => c).bv (fun h k hk hr => by have h1 := (HP2.out.block k hk).2; have h2 := hR k hr; omega) HBIG.out)
    have HR := Lib.hid hR
    have HT3 := Lib.hid ht
    clear hT hR hbR hbv hcell ht HX1 HY1 HZ1 HX HY HZ HP
    go_wp2_with fail
    refine HPUT.out.mono ?_
    rintro e w4 ⟨xa, xn, xc', R', n', C', T', rfl, hown, _, ht, _, _, _⟩
    have HT4 := Lib.hid ((HT2.out.trans HT3.out).trans' ht (fun k hk hs => by have h1 := HR.out k hs; have h2 := HT2.out.size; omega))
    have HX4 := Lib.hid ((HX2.out.keepN HT3.out).keep0 ht (fun h k hk hr => by have h1 := HX2.out.lowB h k hk; have h2 := HR.out k hr; omega))
    have HY4 := Lib.hid ((HY2.out.keepN HT3.out).keep0 ht (fun h k hk hr => by have h1 := HY2.out.lowB h k hk; have h2 := HR.out k hr; omega))
    have HZ4 := Lib.hid ((HZ2.out.keepN HT3.out).keep0 ht (fun h k hk hr => by have h1 := HZ2.out.lowB h k hk; have h2 := HR.out k hr; omega))
    have HP4 := Lib.hid ((HP2.out.keep HT3.out fun _ _ c => c).keep ht (fun k hk hr => by have h1 := (HP2.out.block k hk).2; have h2 := HR.out k hr; omega))
    rw [xor_pad (by rw [HEA.out, HEB.out])] at hown
    have HO4 := Lib.hid hown
    clear hown ht HPUT HX2 HY2 HZ2 HP2 HR
    have HTA := Lib.hid ((Touch.refl Nil w4).alloc (.cells #[.string nm, .slice xa xn xc'] 32))
    go_wp2_with fail
    have HB := Lib.hid (show a.length ≤ 1000000000 ∧ c.length = cn from ⟨by have := HEA.out; have := HBIG.out; omega, HEC.out⟩)
    refine (compareV_any (HO4.out.bv.keepN HTA.out) (HX4.out.keepN HTA.out) HB.out.1 HB.out.1).mono ?_
    rw [(cmpR_zero a a).2 rfl]
    rintro e w5 ⟨rfl, k2, rfl⟩
    have HT5 := Lib.hid (HTA.out.trans (touch_drewN (w4.alloc (.cells #[.string nm, .slice xa xn xc'] 32)) k2))
    obtain ⟨w5, ew5⟩ : ∃ w5, (w4.alloc (.cells #[.string nm, .slice xa xn xc'] 32)).drewN k2 = w5 := ⟨_, rfl⟩
    rw [ew5] at HT5 ⊢
    clear ew5 HTA HO4
    by_cases hcn : cn = an
    rotate_left
    · have q2 : ((cn : Int) != (an : Int)) = true := by rw [bne_iff_ne]; omega
      clear hcn
      go_wp2_with fail
      go_ret
      exact ⟨rfl, HT4.out.trans HT5.out⟩
    subst hcn
    have HX5 := Lib.hid (HX4.out.keepN HT5.out)
    have HY5 := Lib.hid (HY4.out.keepN HT5.out)
    have HZ5 := Lib.hid (HZ4.out.keepN HT5.out)
    have HP5 := Lib.hid (HP4.out.keep HT5.out fun _ _ c => c)
    have HT6 := Lib.hid (HT4.out.trans HT5.out)
    clear HX4 HY4 HZ4 HP4 HT4 HT5
    go_wp2_with fail
    refine (compareV_any HZ5.out HP5.out.bv (by have := HEC.out; have := HBIG.out; omega) (by have := HPL.out; have := HBIG.out; omega)).mono ?_
    rintro e w6 ⟨rfl, k3, rfl⟩
    have HD6 := Lib.hid (touch_drewN w5 k3)
    obtain ⟨w6, ew6⟩ : ∃ w6, w5.drewN k3 = w6 := ⟨_, rfl⟩
    rw [ew6] at HD6 ⊢
    clear ew6
    have HCZ := Lib.hid (cmpR_zero c (xorL a b))
    generalize cmpR c (xorL a b) = r at *
    by_cases hr : r = 0
    · have q2 : (r == (0 : Int)) = true := by rw [beq_iff_eq]; exact hr
      clear hr
      go_wp2_with fail
      go_ret
      exact ⟨rfl, HT6.out.trans HD6.out⟩
    have q2 : (r == (0 : Int)) = false := by rw [beq_eq_false_iff_ne]; exact hr
    have HNE := Lib.hid (show c ≠ xorL a b from fun e => hr (HCZ.out.2 e))
    clear hr
    go_wp2_with fail
    refine (newVault_any seed w6).mono ?_
    rintro e w7 ⟨R2, bv2, tp2, rfl, hT, hR, hbR, hbv, hcell, ht⟩
    have HX6 := Lib.hid (HX5.out.keepN HD6.out)
    have HY6 := Lib.hid (HY5.out.keepN HD6.out)
    have HZ6 := Lib.hid (HZ5.out.keepN HD6.out)
    have HPUT := Lib.hid (vput_any hT hcell hbR nm HNM.out rfl rfl (by omega) (HY6.out.keepN ht) (fun h k hk hr => by have h1 := HY6.out.lowB h k hk; have h2 := hR k hr; omega) (HZ6.out.keepN ht) (fun h k hk hr => by have h1 := HZ6.out.lowB h k hk; have h2 := hR k hr; omega) HBIG.out)
    have HR := Lib.hid hR
    have HT7 := Lib.hid ((HT6.out.trans HD6.out).trans ht)
    have HX7 := Lib.hid (HX6.out.keepN ht)
    have HLX := Lib.hid (show ∀ k, R2 k → w.heap.size ≤ k from fun k hr => by have h1 := hR k hr; have h2 := HT6.out.size; have h3 := HD6.out.size; omega)
    have HLY := Lib.hid (show 0 < a.length → ∀ k, OwnOf (.slice xo cn xc) k → ¬ R2 k from fun h k hk hr => by have h1 := HX6.out.lowB h k hk; have h2 := hR k hr; omega)
    clear hT hR hbR hbv hcell ht HX5 HY5 HZ5 HP5 HX6 HY6 HZ6 HD6
    go_wp2_with fail
    refine HPUT.out.mono ?_
    rintro e w8 ⟨ya, yn, yc', R8, n8, C8, T8, rfl, hown, _, ht, _, _, _⟩
    have HT8 := Lib.hid (HT7.out.trans' ht (fun k hk hs => by have h1 := HLX.out k hs; omega))
    have HX8 := Lib.hid (HX7.out.keep0 ht HLY.out)
    have HO8 := Lib.hid hown
    clear hown ht HPUT HX7 HR
    have HTA := Lib.hid ((Touch.refl Nil w8).alloc (.cells #[.string nm, .slice ya yn yc'] 32))
    go_wp2_with fail
    have HXL := Lib.hid (show (xorL b c).length = cn from by rw [xorL_len (by rw [HEB.out, HEC.out]), HEB.out])
    refine (compareV_any (HO8.out.bv.keepN HTA.out) (HX8.out.keepN HTA.out) (by have := HXL.out; have := HBIG.out; omega) HB.out.1).mono ?_
    have HCY := Lib.hid (show cmpR (xorL b c) a ≠ 0 from fun e => HNE.out (xor_other (by rw [HEA.out, HEB.out]) (by rw [HEA.out, HEC.out]) ((cmpR_zero _ _).1 e)))
    generalize cmpR (xorL b c) a = r2 at *
    rintro e w9 ⟨rfl, k4, rfl⟩
    have q3 : (r2 != (0 : Int)) = true := by rw [bne_iff_ne]; exact HCY.out
    have HT9 := Lib.hid (HTA.out.trans (touch_drewN (w8.alloc (.cells #[.string nm, .slice ya yn yc'] 32)) k4))
    obtain ⟨w9, ew9⟩ : ∃ w9, (w8.alloc (.cells #[.string nm, .slice ya yn yc'] 32)).drewN k4 = w9 := ⟨_, rfl⟩
    rw [ew9] at HT9 ⊢
    clear ew9 HTA HO8
    go_wp2_with fail
    go_ret
    exact ⟨rfl, HT8.out.trans HT9.out⟩
  · have he := h2 (by rw [HEA.out, HEB.out]; exact hl)
    subst he
    clear h1 h2
    have q : ((bn : Int) != (an : Int)) = true := by rw [bne_iff_ne]; omega
    go_wp2_with fail
    go_ret
    exact ⟨rfl, HT1.out⟩
end Go.Proofs.YticddcnlafbkoaaDoor
