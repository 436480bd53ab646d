/-
  SlotsBack: for every seed, script and number the law returns true: a table comes back from its image, and bytes of which one differs are another table's image, or none's.
  No condition beside the statement's own.
-/
import Derived.Test.YthhahanhkclidaaBackMath
import Derived.Test.YthhahanhkclidaaLawRuns
import Derived.Test.YthhahanhkclidaaSame
namespace Go.Proofs.Ythhahanhkclidaa
open Go.ChangeShapes Go.WideShapes Go.ChangeAt Go.RowKit Go.Deep

set_option maxRecDepth 100000 in
set_option maxHeartbeats 4000000 in
theorem lawBack_any (seed : Int) (n cap : Nat) (ao : Option Addr) (v : Nat → Nat → Value) (kd : Nat → Int) (key val : Nat → Key) (a0 : Nat) (w : World) (hm : n ≤ 9223372036854775807) (hscr : Scr w ao n v kd key val) (ha0 : a0 ≤ 4294967295) :
    Calls Try.prog 10 #[.int .u64 seed, .slice ao n cap, .int .u32 (a0 : Int)] w fun e w' => e = .returned (.bool true) ∧ Below w.heap.size w w' := by
  have HS := Lib.hid hscr
  have HFEW := Lib.hid (few_any cap hscr hm)
  clear hscr
  cases hfew : fewB n key val
  case false =>
    rw [hfew] at HFEW
    clear hfew
    go_enter Try.func10, Try.ntmps10
    go_wp2_with fail
    refine HFEW.out.mono ?_
    rintro e w' ⟨rfl, rfl⟩
    go_wp2_with fail
    refine (awake_any _).mono ?_
    rintro e w' ⟨rfl, ht⟩
    go_wp2_with fail
    go_ret
    exact ⟨rfl, ht.below_nil⟩
  rw [hfew] at HFEW
  have hfw := of_decide_eq_true hfew
  obtain ⟨hn120, hlens⟩ := hfw
  have HL := Lib.hid hlens
  clear hfew hlens hm
  go_enter Try.func10, Try.ntmps10
  go_wp2_with fail
  refine HFEW.out.mono ?_
  rintro e w' ⟨rfl, rfl⟩
  clear HFEW
  go_wp2_with fail
  refine (new_tbl seed w).mono ?_
  rintro e w1 ⟨bt, rfl, hT, ht⟩
  have HT1 := Lib.hid hT
  have HW1 := Lib.hid ht
  clear hT ht
  go_wp2_with fail
  go_loopw [8] (fun i wr => ∃ (x : Nat) (S : Key × Key → Prop), x ≤ n ∧ i = .int .i64 (x : Int) ∧ Tbl w.heap.size wr (.pointer (some ⟨bt, 0, none⟩)) seed x S ∧ Touch Nil w wr) (fun i _ => n - (intOf i).toNat)
  case atStart => exact ⟨0, _, Nat.zero_le _, rfl, HT1.out, HW1.out⟩
  obtain ⟨x, S, hx, rfl, htb, hto⟩ := hrel
  have HTB := Lib.hid htb
  have HTO := Lib.hid hto
  clear htb hto
  by_cases hlt : x < n
  · have HSR := Lib.hid (HS.out.keepN HTO.out)
    obtain ⟨b, off, rfl, hb, hcell⟩ := HSR.out.cells (by omega)
    have c1 := hcell x hlt 1 (by omega)
    have c2 := hcell x hlt 2 (by omega)
    obtain ⟨hk, lk⟩ := HSR.out.keys x hlt
    obtain ⟨hv, lv⟩ := HSR.out.vals x hlt
    have hl := HL.out x hlt
    have HK := Lib.hid hk
    have HV := Lib.hid hv
    obtain ⟨a1, k1, e1, _, _⟩ := hk
    obtain ⟨a2, k2, e2, _, _⟩ := hv
    rw [e1] at c1 HK
    rw [e2] at c2 HV
    have i1 : (x : Int) < (n : Int) := by omega
    have i2 : (0 : Int) ≤ (x : Int) := by omega
    have HSZ := Lib.hid HTO.out.size
    have hkl : (key x).length ≤ 1048576 := by omega
    have hvl : (val x).length ≤ 1048576 := by omega
    clear hcell e1 e2 lk lv hl
    have HPT := Lib.hid (fun w' (h : Touch Nil wr w') => put_tbl (HTB.out.keepN h) (by omega) (Nat.le_trans HSZ.out h.size) (key x) (val x) _ _ (HK.out.keepN h) (HV.out.keepN h) hkl hvl)
    generalize (key x).length = kl at *
    generalize (val x).length = vl at *
    go_wp2_with fail
    go_still_tail 11, mixed
    change wpList _ _ _ _ _ wr.drew
    have HW2 := Lib.hid (Touch.refl Nil wr).drew
    clear c1 c2
    generalize wr.drew = w2 at *
    go_wp2_with fail
    refine (HPT.out w2 HW2.out).mono ?_
    rintro e w3 ⟨rfl, ht2, hto2⟩
    have HT2 := Lib.hid ht2
    have HTO2 := Lib.hid (from_nil (HTO.out.trans HW2.out) hto2 (Nat.le_refl _))
    clear ht2 hto2 HPT
    go_wp2_with fail
    go_roundw
    case rel => exact ⟨x + 1, _, by omega, by go_num, HT2.out, HTO2.out⟩
    case measure => simp [intOf]; omega
  · obtain rfl : x = n := by omega
    obtain ⟨R, n', C, T, htab, hlow, hnm, _⟩ := HTB.out
    have htab' := tab_img htab
    have HTAB := Lib.hid htab
    have HIMG := Lib.hid htab'.1
    have hC := htab'.2.1
    have HLEN := Lib.hid htab'.2.2
    obtain ⟨g1, g2, g3⟩ := htab.good.free
    have HCN := Lib.hid hC
    clear htab hlow htab' g3 hC
    go_wp2_with fail
    refine (image_any HTAB.out).mono ?_
    rintro e w2 ⟨bv, rfl, hown, ht2⟩
    obtain ⟨va, vl, vc, rfl⟩ := hown.form
    have hvl : vl = (imageB n' C T).length := by obtain ⟨_, _, _, e, h1, _⟩ := hown.bc; cases e; exact h1
    have HVL := Lib.hid hvl
    have HOWN := Lib.hid hown
    have HT2 := Lib.hid ht2
    have hlen := HLEN.out
    rw [← hvl] at hlen
    clear hown ht2 hvl
    go_wp2_with fail
    refine (load_any seed _ _ _ HOWN.out.bc (by rw [← HVL.out]; omega)).mono ?_
    rintro e w3 (⟨n1, T1, u, himg, rfl, htab1, ht3⟩ | ⟨_, _, hno⟩)
    · have hin := himg.inj HIMG.out
      obtain ⟨rfl, heq⟩ := hin
      rw [← HCN.out] at heq htab1
      have HEQ := Lib.hid heq
      have htab1' := htab1
      obtain ⟨⟨bt1, _, _, _, rfl, _⟩, _, _⟩ := htab1'
      have HTAB1 := Lib.hid htab1
      have HT3 := Lib.hid ht3
      clear htab1 ht3 heq himg
      go_wp2_with fail
      refine (len_any HTAB1.out).mono ?_
      rintro e w4 ⟨rfl, rfl⟩
      go_wp2_with fail
      refine (len_any (HTAB.out.keepN (HT2.out.trans HT3.out))).mono ?_
      rintro e w4 ⟨rfl, rfl⟩
      have d1 : ((n1 : Int) != (n1 : Int)) = false := by simp
      go_wp2_with fail
      refine (cells_any HTAB1.out).mono ?_
      rintro e w4 ⟨b1, f1, rfl, hb1, hr1, hs1, ht4⟩
      have HT4 := Lib.hid ht4
      have HC1 := Lib.hid (shown_cls HTAB1.out hr1 hs1)
      clear hr1 hs1 ht4
      go_wp2_with fail
      refine (cells_any (HTAB.out.keepN ((HT2.out.trans HT3.out).trans HT4.out))).mono ?_
      rintro e w5 ⟨b2, f2, rfl, hb2, hr2, hs2, ht5⟩
      have HT5 := Lib.hid (HT4.out.trans ht5)
      have HC2 := Lib.hid (shown_cls HTAB.out hr2 hs2)
      have HC1 := Lib.hid (HC1.out.keepN ht5)
      clear hr2 hs2 ht5
      go_wp2_with fail
      refine (sameCells_true (by omega) HC1.out HC2.out HEQ.out).mono ?_
      rintro e w6 ⟨rfl, ht6⟩
      have HT6 := Lib.hid (HT5.out.trans ht6)
      clear ht6 HC1 HC2
      go_wp2_with fail
      refine (image_any (HTAB1.out.keepN HT6.out)).mono ?_
      rintro e w7 ⟨iv, rfl, hi7, ht7⟩
      obtain ⟨ia, il, ic, rfl⟩ := hi7.form
      have HI7 := Lib.hid hi7
      have HT7 := Lib.hid (HT6.out.trans ht7)
      clear hi7 ht7
      go_wp2_with fail
      refine (image_any (HTAB.out.keepN ((HT2.out.trans HT3.out).trans HT7.out))).mono ?_
      rintro e w8 ⟨jv, rfl, hi8, ht8⟩
      obtain ⟨ja, jl, jc, rfl⟩ := hi8.form
      have HT8 := Lib.hid (HT7.out.trans ht8)
      have HSM := Lib.hid (sameB_true (HI7.out.bv.keepN ht8) (by rw [imageB_congr HEQ.out]; exact hi8.bv) (by rw [imageB_congr HEQ.out]; exact HLEN.out.1))
      clear hi8 ht8
      go_wp2_with fail
      refine HSM.out.mono ?_
      rintro e w9 ⟨rfl, ht9⟩
      have HT9 := Lib.hid (HT8.out.trans ht9)
      have d2 : decide ((vl : Int) < 12) = false := by rw [decide_eq_false_iff_not]; omega
      have d2' : decide (vl < 12) = false := by rw [decide_eq_false_iff_not]; omega
      obtain ⟨M, hM⟩ : ∃ M : Nat, (a0 : Int) / 16777216 = (M : Int) := ⟨a0 / 16777216, by omega⟩
      have hM2 : M ≤ 255 := by omega
      have hvl0 : 0 < vl := by omega
      obtain ⟨I, hI⟩ : ∃ I : Nat, (a0 : Int) % 16777216 % (vl : Int) = (I : Int) := ⟨a0 % 16777216 % vl, by rw [Int.natCast_emod, Int.natCast_emod]; rfl⟩
      have hI2 : I < vl := by have := Int.emod_lt_of_pos ((a0 : Int) % 16777216) (show (0 : Int) < (vl : Int) by omega); omega
      have hvz : ((vl : Int) == 0) = false := by simp; omega
      have ho9 := HOWN.out.keep ((HT3.out.trans HT9.out)) (fun _ _ c => c)
      obtain ⟨g, rfl⟩ : ∃ g, va = some ⟨g, 0, none⟩ := by
        obtain ⟨_, ⟨e, _⟩ | ⟨g, _, _, e, _⟩⟩ := ho9
        · cases e; omega
        · cases e; exact ⟨g, rfl⟩
      obtain ⟨Y, hxor, hY0⟩ := xor_u8 ((imageB n1 C T).getD I 0) M hM2
      obtain ⟨hset, hcell, hfr⟩ := ho9.set (i := I) (by rw [← HVL.out]; exact hI2) Y
      have HSET := Lib.hid hset
      have HY0 := Lib.hid hY0
      have hgt := World.block_lt_of_cell? w9 _ hcell
      have HGE := Lib.hid (show ∀ b, OwnOf (.slice (some ⟨g, 0, none⟩) vl vc) b → wr.heap.size ≤ b ∧ b < w9.heap.size from ho9.block)
      have hX := ((imageB n1 C T).getD I 0).toNat_lt
      have HX := Lib.hid (show ((imageB n1 C T).getD I 0).toNat = ((imageB n1 C T).getD I 0).toNat from rfl)
      generalize hXX : ((imageB n1 C T).getD I 0).toNat = X at hcell hxor hX
      have i1 : (I : Int) < (vl : Int) := by omega
      have i2 : (0 : Int) ≤ (I : Int) := by omega
      have HXX := Lib.hid hXX
      have htc := (Touch.refl (Just g) w9).setCell ⟨g, I, none⟩ (.int .u8 ((Y.toNat : Nat) : Int)) fun _ => rfl
      have HT10 := Lib.hid (show Touch Nil w (w9.setCell ⟨g, I, none⟩ (.int .u8 ((Y.toNat : Nat) : Int))) from (((HTO.out.trans HT2.out).trans HT3.out).trans HT9.out).trans' htc fun b hb hs => by
        have hs : b = g := hs
        have h1 := (HGE.out g rfl).1
        have h2 := HTO.out.size
        omega)
      have HLS := Lib.hid (show ((imageB n1 C T).set I Y).length ≤ 400000000 by rw [List.length_set]; exact HLEN.out.1)
      clear ht9 HSM HI7 hset hY0 ho9 hXX HX htc
      go_wp2_with fail
      refine (load_any seed _ _ _ HSET.out.bc (by have := HLS.out; omega)).mono ?_
      rintro e w11 (⟨n2, T2, u2, himg2, rfl, htab2, ht11⟩ | ⟨rfl, ht11, hno2⟩)
      · have htab2' := htab2
        obtain ⟨⟨bt2, _, _, _, rfl, _⟩, _, _⟩ := htab2'
        have HTAB2 := Lib.hid htab2
        have HIMG2 := Lib.hid himg2.2.2
        have HT11 := Lib.hid (HT10.out.trans ht11)
        have HB11 := Lib.hid (HSET.out.bv.keepN ht11)
        clear htab2 ht11 himg2 hM hI hcell hfr hxor
        go_wp2_with fail
        refine (image_any HTAB2.out).mono ?_
        rintro e w12 ⟨iv, rfl, hi12, ht12⟩
        obtain ⟨ia2, il2, ic2, rfl⟩ := hi12.form
        have HT12 := Lib.hid (HT11.out.trans ht12)
        have HSM := Lib.hid (sameB_true hi12.bv (by rw [← HIMG2.out]; exact HB11.out.keepN ht12) (by rw [← HIMG2.out]; exact HLS.out))
        clear hi12 ht12
        go_wp2_with fail
        refine HSM.out.mono ?_
        rintro e w13 ⟨rfl, ht13⟩
        have HT13 := Lib.hid (HT12.out.trans ht13)
        clear ht13 HSM
        go_wp2_with fail
        refine (awake_any _).mono ?_
        rintro e w14 ⟨rfl, ht14⟩
        go_wp2_with fail
        go_ret
        exact ⟨rfl, (HT13.out.trans ht14).below_nil⟩
      · have hM0 : M ≠ 0 := fun h0 => by
          apply hno2 n1 T
          have e : (imageB n1 C T).set I Y = imageB n1 C T := by
            rw [HY0.out h0]
            apply List.ext_getElem?
            intro j
            rw [List.getElem?_set]
            split
            · rename_i e
              subst e
              have hlt : I < (imageB n1 C T).length := by rw [← HVL.out]; exact hI2
              simp [hlt, List.getD_eq_getElem?_getD]
            · rfl
          rw [e]
          exact HIMG.out
        have d3 : ((M : Int) != 0) = true := by simp; omega
        have HT11 := Lib.hid (HT10.out.trans ht11)
        clear ht11 hno2 hM hI hcell hfr hxor
        go_wp2_with fail
        refine (awake_any _).mono ?_
        rintro e w14 ⟨rfl, ht14⟩
        go_wp2_with fail
        go_ret
        exact ⟨rfl, (HT11.out.trans ht14).below_nil⟩
    · exact absurd HIMG.out (hno _ _)

set_option maxRecDepth 100000 in
theorem slotsBack_lifted (os : Os) (started : os.Started) (H : Type) (enc : TypeId × Value → H) :
    ReturnsInHanded {} Try.checked os 10 .any (Rows.slotsBackSpec.pre6 enc Try.prog Try.f10 Rows.slotsBackRow.domain false) (Rows.slotsBackSpec.post enc Try.prog Try.f10 false true false false) := by
  refine returnsInHanded_of_change (C := Try.checked) own started (by kernel_rfl) Try.func10
    (ChangeSpec.witness6 (enc := enc) (C := Try.checked) false ⟨#[], #[.int .u64 0, .slice none 0 0, .int .u32 0], []⟩ 8 (by kernel_rfl) (by kernel_rfl) (by kernel_rfl) (by kernel_rfl)) ?_
  intro W base args ds gs before hval0 hW _ _
  have hval : ∀ (j : Nat) t v, Try.f10.params[j]? = some t → args[j]? = some v → Value.okWide Try.prog W .any base t v := hval0
  have hW' := hW
  obtain ⟨p, q, hA0, hV, rfl, hfz, hnd⟩ := hW
  have hA : DataW.TrodAll enc Try.prog W 0 (fun _ => true) true Try.f10.params.toList args.toList ds p := hA0
  rw [Try.params10] at hA hval
  obtain ⟨v0, vs0, d0, ds0, p0, q0, hargs, rfl, rfl, h0, r0⟩ := trodAll_cons hA
  obtain ⟨v1, vs1, d1, ds1, p1, q1, rfl, rfl, rfl, h1, r1⟩ := trodAll_cons r0
  obtain ⟨v2, vs2, d2, ds2, p2, q2, rfl, rfl, rfl, h2, r2⟩ := trodAll_cons r1
  obtain ⟨rfl, rfl, rfl⟩ := trodAll_nil r2
  obtain rfl : args = #[v0, v1, v2] := by cases args; simp_all
  obtain ⟨rfl, rfl⟩ := trodVars_none hV
  obtain ⟨seed, rfl, rfl, rfl, w0⟩ := open_int Try.underlying22 (hval 0 22 v0 rfl rfl) h0
  obtain ⟨sA, sL, sC, rfl⟩ := okWide_slice Try.underlying42 (hval 1 42 v1 rfl rfl)
  have k1 := h1
  have lt1 : ∀ x ∈ p1, x.block < W.heap.size := by obtain ⟨m, hm⟩ := k1; exact DataW.trod_lt m _ _ _ hm
  obtain ⟨fuel1, hf1⟩ := h1
  obtain ⟨sM, sV, sKd, sK, sU, sH⟩ := open_scr hf1
  obtain ⟨a, rfl, rfl, rfl, w2⟩ := open_int Try.underlying74 (hval 2 74 v2 rfl rfl) h2
  have b2 : 0 ≤ a ∧ a ≤ 4294967295 := by simpa [Lit.wf, IntKind.min, IntKind.max, IntKind.signed, IntKind.bits] using w2
  obtain ⟨aN, rfl⟩ : ∃ n : Nat, a = (n : Int) := ⟨a.toNat, by omega⟩
  clear hA0 hval0
  unfold maxLen at sM
  refine (lawBack_any seed sL sC sA sV sKd sK sU aN W (by omega) sH (by omega)).mono fun e W' ⟨he, bel⟩ => ?_
  subst he
  exact ⟨_, rfl, _, _, _, [], _, [], hW', trodAll_mk1 (shut_bool Try.underlying4 _), (trodAll_cons_mk (shut_int Try.underlying22 w0) (trodAll_cons_mk (Below.trod laidOut (by kernel_rfl) (of_decide_eq_true (by kernel_rfl)) k1 bel lt1) (trodAll_cons_mk (shut_int Try.underlying74 w2) trodAll_mk0))), rfl, bel.frame _, fun h => by cases h⟩

theorem slotsBack_holds : Rows.SlotsBackSaid :=
  OpenClaim.holds_of_wide 10 Try.f10 rfl rfl rfl rfl rfl rfl rfl ⟨rfl, rfl, rfl, rfl, rfl⟩ rfl rfl rfl rfl rfl (by kernel_rfl) Try.func10 (by kernel_rfl)
    (of_decide_eq_true (by kernel_rfl)) (by unfold Func.isWrapper; first | (rw [if_pos (by decide +kernel)]; kernel_rfl) | (rw [if_neg (by decide +kernel)]; exact ⟨rfl, rfl⟩))
    (fun os started H enc _ => slotsBack_lifted os started H enc)
end Go.Proofs.Ythhahanhkclidaa

