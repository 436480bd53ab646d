/-
  OrderTrue: for every seed, pairs, key and steps the law returns true: what steps that are handed in show of a key under a map's digest is what the map has there, or they meet a node of the map with the digest of another one, or of none.
  No condition beside the statement's own.
-/
import Derived.Test.YtejiijbmmpahhabMet
import Derived.Test.YtejiijbmmpahhabOpenP
import Derived.Test.YtejiijbmmpahhabOpenS
namespace Go.Proofs.Ytejiijbmmpahhab
open Go.ChangeShapes Go.WideShapes Go.ChangeAt Go.RowKit Go.Deep

set_option maxRecDepth 100000 in
set_option maxHeartbeats 4000000 in
theorem lawTrue_any (seed : Int) {w : World} {pa : Option Addr} {pn pc : Nat} {P : Pairs} {qa : Option Addr} {qc : Nat} {key : Key} {ao : Option Addr} {n cap : Nat} {v : Nat → Nat → Value} {kk vv : Nat → Key} {dl dr : Nat → Nat} (h : PL w (.slice pa pn pc) P) (hn : P.length ≤ 9223372036854775807) (hm : ∀ p ∈ P, p.1.length ≤ 9223372036854775807 ∧ p.2.length ≤ 9223372036854775807) (hq : BV w (.slice qa key.length qc) key) (hs : Sds w ao n v kk vv dl dr) (hsn : n ≤ 9223372036854775807) (hsm : ∀ i, i < n → (kk i).length ≤ 9223372036854775807 ∧ (vv i).length ≤ 9223372036854775807) :
    Calls Try.prog 3 #[.agg #[.int .u64 seed, .slice pa pn pc, .slice qa key.length qc, .slice ao n cap]] w fun e w' => e = .returned (.bool true) ∧ Below w.heap.size w w' := by
  have HP := Lib.hid h
  have HQ := Lib.hid hq
  have HS := Lib.hid hs
  have HSM := Lib.hid hsm
  have HRI := Lib.hid (fun w' (ht : Touch Nil w w') => rising_any (h.keepN ht) hn hm)
  obtain ⟨ql, eql⟩ : ∃ ql, key.length = ql := ⟨_, rfl⟩
  rw [eql] at HQ ⊢
  have HKE := Lib.hid eql
  obtain ⟨x0, x1, x2, x3⟩ := box4' w (.int .u64 seed) (.slice pa pn pc) (.slice qa ql qc) (.slice ao n cap) 27
  have HTB := Lib.hid ((Touch.refl Nil w).alloc (.cells #[.int .u64 seed, .slice pa pn pc, .slice qa ql qc, .slice ao n cap] 27))
  clear h hm hn hq eql hs hsm
  go_enter Try.func3, Try.ntmps3
  go_wp2_with (go_quiet (fail))
  refine (HRI.out _ (HTB.out.drewN _)).mono ?_
  rintro e w1 ⟨lx, ok, rfl, ⟨la, ln, lc, rfl⟩, hok, ht1⟩
  have HT1 := Lib.hid ((HTB.out.drewN nq).trans ht1)
  have HOK := Lib.hid hok
  clear ht1 hok HRI x0 x1 x2 x3 HTB
  cases ok with
  | false =>
    go_wp2_with fail
    go_ret
    exact ⟨rfl, HT1.out.below_nil⟩
  | true =>
    cases hlg : decide (2000 < ql) with
    | true =>
      have HLG := Lib.hid (fun w => by have := long_any qa ql qc w; rw [hlg] at this; exact this)
      clear hlg
      go_wp2_with fail
      refine (HLG.out _).mono ?_
      rintro e w' ⟨rfl, rfl⟩
      go_wp2_with fail
      go_ret
      exact ⟨rfl, HT1.out.below_nil⟩
    | false =>
    have HLG := Lib.hid (fun w => by have := long_any qa ql qc w; rw [hlg] at this; exact this)
    have HQL := Lib.hid (show ql ≤ 2000 by have := of_decide_eq_false hlg; omega)
    clear hlg
    by_cases h4 : 400 < n
    · have d1 : decide ((400 : Int) < (n : Int)) = true := by simp; omega
      have d1' : decide (400 < n) = true := by simpa using h4
      go_wp2_with fail
      refine (HLG.out _).mono ?_
      rintro e w' ⟨rfl, rfl⟩
      go_wp2_with fail
      go_ret
      exact ⟨rfl, HT1.out.below_nil⟩
    have d1 : decide ((400 : Int) < (n : Int)) = false := by simp; omega
    have d1' : decide (400 < n) = false := by simpa using h4
    have HSN := Lib.hid (show n ≤ 400 by omega)
    obtain ⟨hl400, hokl, hlp⟩ := HOK.out rfl
    have HL := Lib.hid (And.intro hl400 hokl)
    have HLP := Lib.hid (show PL w1 (.slice la ln lc) (insAll P []) from hlp)
    have HLL := Lib.hid (show (insAll P []).length ≤ 400 by have h1 := insAll_len P []; simp at h1; omega)
    have HSH := Lib.hid (OkL.short (OkL.ins hokl (fun p hp => by cases hp) : OkL (insAll P [])))
    clear hl400 hokl hlp HOK
    go_wp2_with fail
    refine (HLG.out _).mono ?_
    rintro e w' ⟨rfl, rfl⟩
    go_wp2_with fail
    refine (new_map seed w1).mono ?_
    rintro e w2 ⟨mb, bb, ra, rfl, hm2, hmb, hbb, hne, ht2⟩
    have HT2 := Lib.hid (HT1.out.trans ht2)
    have HB := Lib.hid (show w.heap.size ≤ bb from Nat.le_trans HT1.out.size hbb)
    have HPU := Lib.hid (puts_any hm2 (HP.out.keepN HT2.out) HL.out.2 (by have := HL.out.1; simp only [Tree.size]; omega) (fun b c => c.elim))
    have HBD := Lib.hid hm2.bodyish
    have HLP2 := Lib.hid (HLP.out.keepN ht2)
    clear hm2 hmb hbb hne ht2
    go_wp2_with fail
    refine HPU.out.mono ?_
    rintro e w3 ⟨rfl, ⟨R3, ra3, t, hm3, htl, _⟩, ht3⟩
    have HM3 := Lib.hid hm3
    have HTL := Lib.hid (show t.toL = insAll P [] from htl)
    have HT3 := Lib.hid (touch_base' HT2.out ht3 HB.out)
    have HG := Lib.hid (hm3.good (treeAt_ok hm3.tree))
    have HLP3 := Lib.hid (show PL w3 (.slice la ln lc) (insAll P []) from PL.keepB HLP2.out ht3 HBD.out)
    have HQ3 := Lib.hid (HQ.out.keepN HT3.out)
    have HS3 := Lib.hid (HS.out.keepN HT3.out)
    have HTSZ := Lib.hid hm3.size
    have HDM := Lib.hid (fun w' (ht : Touch Nil w3 w') => digest_map (hm3.keepN ht))
    obtain ⟨D, eD⟩ : ∃ D, digT seed t = D := ⟨_, rfl⟩
    rw [eD] at HDM
    have HD := Lib.hid eD
    have HCK := Lib.hid (checkP_any seed D (by rw [← eD]; exact digT_bd _ _) cap HQ3.out HS3.out (by omega) HSM.out)
    obtain ⟨R, eR⟩ : ∃ R, chk seed key kk vv dl dr n n 0 D = R := ⟨_, rfl⟩
    rw [eR] at HCK
    have HR := Lib.hid eR
    clear hm3 htl ht3 HPU eD HLP HLP2 eR
    go_wp2_with fail
    refine (HDM.out _ (Touch.refl _ _)).mono ?_
    rintro e w' ⟨rfl, rfl⟩
    go_wp2_with fail
    refine HCK.out.mono ?_
    rintro e w4 ⟨hr4, ht4⟩
    have HT4 := Lib.hid (show Touch Nil w3 w4 from ht4)
    clear ht4 HCK
    cases R with
    | form =>
      have hr4 : e = .returned (.tuple #[.slice none 0 0, .bool false, .int .i64 2]) := hr4
      subst hr4
      go_wp2_with fail
      refine (HDM.out _ HT4.out).mono ?_
      rintro e w' ⟨rfl, rfl⟩
      have HPV := Lib.hid (prove_map (HM3.out.keepN HT4.out) (HQ3.out.keepN HT4.out))
      go_wp2_with fail
      refine HPV.out.mono ?_
      rintro e w5 ⟨px5, rfl, hpx5, ht5⟩
      have hs5 := hpx5.rl
      obtain ⟨pa5, pn5, pc5, rfl⟩ := hs5.form3
      have HPN := Lib.hid (show pn5 ≤ t.size from by rw [hs5.len]; exact pathT_len seed key t)
      have HPN2 := Lib.hid (show (pathT seed key t).length = pn5 from hs5.len.symm)
      obtain ⟨vs, hsd⟩ := SL.sds hs5 fun q hq => (pathT_bd seed key t HG.out.ok q hq).1
      have HT5 := Lib.hid (HT4.out.trans ht5)
      have hres := path_has (key := key) HG.out
      rw [HPN2.out, HTL.out, HD.out] at hres
      have HCK := Lib.hid (checkP_any seed D (by rw [← HD.out]; exact digT_bd _ _) pc5 (HQ3.out.keepN HT5.out) hsd (by have := HPN.out; have := HTSZ.out; omega) (fun i hi => by
        have hi : i < (pathT seed key t).length := by rw [HPN2.out]; exact hi
        have hm : (pathT seed key t).getD i ⟨[], [], 0, 0⟩ ∈ pathT seed key t := by rw [List.getD_eq_getElem?_getD, List.getElem?_eq_getElem hi]; exact List.getElem_mem hi
        have := (pathT_bd seed key t HG.out.ok _ hm).2
        unfold okK at this
        omega))
      clear hpx5 hs5 ht5 hsd
      rcases hres with ⟨_, hchk⟩ | ⟨_, j, hchk, _⟩
      · rw [hchk] at HCK
        clear hchk
        go_wp2_with fail
        refine HCK.out.mono ?_
        rintro e w6 ⟨he6, ht6⟩
        have he6 : e = .returned (.tuple #[.slice none 0 0, .bool false, .int .i64 0]) := he6
        subst he6
        go_wp2_with fail
        go_ret
        exact ⟨rfl, ((HT3.out.trans HT5.out).trans ht6).below_nil⟩
      · rw [hchk] at HCK
        clear hchk
        go_wp2_with fail
        refine HCK.out.mono ?_
        rintro e w6 ⟨he6, ht6⟩
        obtain ⟨cx, rfl, _, _⟩ := he6
        go_wp2_with fail
        go_ret
        exact ⟨rfl, ((HT3.out.trans HT5.out).trans ht6).below_nil⟩
    | none =>
      have hr4 : e = .returned (.tuple #[.slice none 0 0, .bool false, .int .i64 0]) := hr4
      subst hr4
      have HOKS := Lib.hid (show ∀ i, i < n → okK (kk i) (vv i) from fun i hi => chk_ok n 0 D (by omega) (by rw [HR.out]; simp) i (Nat.zero_le _) hi)
      have HFIN := Lib.hid (show metT seed key kk vv dl dr n 0 t = true ∨ ∀ p ∈ t.toL, p.1 ≠ key from by
        rcases chk_true (n := n) (kk := kk) (vv := vv) (dl := dl) (dr := dr) (key := key) n 0 t HG.out (by rw [HD.out, HR.out]; simp) with h | ⟨_, h⟩ | ⟨j, h, _⟩
        · exact .inl h
        · exact .inr h
        · rw [HD.out, HR.out] at h; cases h)
      have HGR := Lib.hid (getR_any (HLP3.out.keepN HT4.out) HSH.out (by have := HLL.out; omega) (HQ3.out.keepN HT4.out) (by have := HQL.out; have := HKE.out; omega))
      go_wp2_with fail
      refine HGR.out.mono ?_
      rintro e w6 ⟨gx, gc, rfl, hget, ht6⟩
      have HT6 := Lib.hid (HT4.out.trans ht6)
      clear ht6
      rcases hget with ⟨rfl, rfl, _⟩ | ⟨rfl, hhf, p, hp1, hp2, hbx⟩
      · have HSM2 := Lib.hid (same_any (BV.nil w6) (BV.nil w6) (by simp) (by simp))
        rw [decide_eq_true rfl] at HSM2
        go_wp2_with fail
        refine HSM2.out.mono ?_
        rintro e w7 ⟨rfl, ht7⟩
        go_wp2_with fail
        go_ret
        exact ⟨rfl, ((HT3.out.trans HT6.out).trans ht7).below_nil⟩
      obtain ⟨ga, gn, gcc, rfl⟩ : ∃ ga gn gcc, gx = .slice ga gn gcc := by obtain ⟨x1, x2, x3⟩ := hbx.len'; exact ⟨_, _, _, x3⟩
      have HPM := Lib.hid (show p ∈ t.toL ∧ p.1 = key from ⟨by rw [HTL.out]; exact List.mem_of_getElem? hp1, hp2⟩)
      clear hhf hp1 hp2 hbx
      have HMT := Lib.hid (show metT seed key kk vv dl dr n 0 t = true from HFIN.out.resolve_right fun h => h p HPM.out.1 HPM.out.2)
      clear HFIN
      have HNR := Lib.hid (nodesR_any (seed := seed) HG.out.srt HG.out.heap HG.out.ok (show PL w6 (.slice la ln lc) t.toL from by rw [HTL.out]; exact HLP3.out.keepN HT6.out) (by have := HTSZ.out; omega))
      go_wp2_with fail
      refine HNR.out.mono ?_
      rintro e w8 ⟨nx, rfl, hnx, ht8⟩
      have hnl : NL w8 nx (nodesT seed 0 t) := hnx.rl
      obtain ⟨na, nn, nc, rfl⟩ := hnl.form3
      have HT8 := Lib.hid (HT6.out.trans ht8)
      have HME := Lib.hid (met_any (cap := cap) hnl HG.out.ok (HQ3.out.keepN HT8.out) (HS3.out.keepN HT8.out) HSN.out (by have := HQL.out; have := HKE.out; omega) (fun i hi => HOKS.out i hi) (by have := HTSZ.out; omega))
      rw [HMT.out] at HME
      clear hnl hnx ht8
      go_wp2_with fail
      refine HME.out.mono ?_
      rintro e w9 ⟨rfl, ht9⟩
      go_wp2_with fail
      go_ret
      exact ⟨rfl, ((HT3.out.trans HT8.out).trans ht9).below_nil⟩
    | there j =>
      obtain ⟨cx, rfl, hcx, hj⟩ := hr4
      obtain ⟨ca, cn, cc, rfl⟩ : ∃ ca cn cc, cx = .slice ca cn cc := by obtain ⟨x1, x2, x3⟩ := hcx.len'; exact ⟨_, _, _, x3⟩
      have HCX := Lib.hid hcx
      have HOKS := Lib.hid (show ∀ i, i < n → okK (kk i) (vv i) from fun i hi => chk_ok n 0 D (by omega) (by rw [HR.out]; simp) i (Nat.zero_le _) hi)
      have HJ := Lib.hid hj
      have HFIN := Lib.hid (show metT seed key kk vv dl dr n 0 t = true ∨ (key, vv j) ∈ t.toL from by
        rcases chk_true (n := n) (kk := kk) (vv := vv) (dl := dl) (dr := dr) (key := key) n 0 t HG.out (by rw [HD.out, HR.out]; simp) with h | ⟨h, _⟩ | ⟨j', h, h'⟩
        · exact .inl h
        · rw [HD.out, HR.out] at h; cases h
        · rw [HD.out, HR.out] at h; cases h; exact .inr h')
      clear hcx hj
      have HGR := Lib.hid (getR_any (HLP3.out.keepN HT4.out) HSH.out (by have := HLL.out; omega) (HQ3.out.keepN HT4.out) (by have := HQL.out; have := HKE.out; omega))
      go_wp2_with fail
      refine HGR.out.mono ?_
      rintro e w6 ⟨gx, gc, rfl, hget, ht6⟩
      have HT6 := Lib.hid (HT4.out.trans ht6)
      have HCX6 := Lib.hid (HCX.out.keepN ht6)
      clear ht6 HCX
      rcases hget with ⟨rfl, rfl, hhf⟩ | ⟨rfl, hhf, p, hp1, hp2, hbx⟩
      · have HNO := Lib.hid hhf
        clear hhf
        have HMT := Lib.hid (show metT seed key kk vv dl dr n 0 t = true from HFIN.out.resolve_right fun h => by
          have := (hasF_iff HG.out.srt).2 ⟨_, h⟩
          rw [HTL.out, HNO.out] at this; cases this)
        clear HFIN
        have HNR := Lib.hid (nodesR_any (seed := seed) HG.out.srt HG.out.heap HG.out.ok (show PL w6 (.slice la ln lc) t.toL from by rw [HTL.out]; exact HLP3.out.keepN HT6.out) (by have := HTSZ.out; omega))
        go_wp2_with fail
        refine HNR.out.mono ?_
        rintro e w8 ⟨nx, rfl, hnx, ht8⟩
        have hnl : NL w8 nx (nodesT seed 0 t) := hnx.rl
        obtain ⟨na, nn, nc, rfl⟩ := hnl.form3
        have HT8 := Lib.hid (HT6.out.trans ht8)
        have HME := Lib.hid (met_any (cap := cap) hnl HG.out.ok (HQ3.out.keepN HT8.out) (HS3.out.keepN HT8.out) HSN.out (by have := HQL.out; have := HKE.out; omega) (fun i hi => HOKS.out i hi) (by have := HTSZ.out; omega))
        rw [HMT.out] at HME
        clear hnl hnx ht8
        go_wp2_with fail
        refine HME.out.mono ?_
        rintro e w9 ⟨rfl, ht9⟩
        go_wp2_with fail
        go_ret
        exact ⟨rfl, ((HT3.out.trans HT8.out).trans ht9).below_nil⟩
      obtain ⟨ga, gn, gcc, rfl⟩ : ∃ ga gn gcc, gx = .slice ga gn gcc := by obtain ⟨x1, x2, x3⟩ := hbx.len'; exact ⟨_, _, _, x3⟩
      have HGX := Lib.hid hbx
      have HPM := Lib.hid (And.intro hp1 hp2)
      have HPL := Lib.hid (show p.2.length ≤ 1000 from by
        have := HG.out.ok p (by rw [HTL.out]; exact List.mem_of_getElem? hp1)
        exact this.2.2)
      clear hhf hp1 hp2 hbx
      have HSM2 := Lib.hid (same_any HCX6.out HGX.out (by have := (HOKS.out j HJ.out).2.2; omega) (by have := HPL.out; omega))
      by_cases hv : vv j = p.2
      · rw [decide_eq_true hv] at HSM2
        clear hv
        go_wp2_with fail
        refine HSM2.out.mono ?_
        rintro e w7 ⟨rfl, ht7⟩
        go_wp2_with fail
        go_ret
        exact ⟨rfl, ((HT3.out.trans HT6.out).trans ht7).below_nil⟩
      rw [decide_eq_false hv] at HSM2
      have HV := Lib.hid hv
      clear hv
      go_wp2_with fail
      refine HSM2.out.mono ?_
      rintro e w7 ⟨rfl, ht7⟩
      have HT7 := Lib.hid (HT6.out.trans ht7)
      clear ht7
      have HMT := Lib.hid (show metT seed key kk vv dl dr n 0 t = true from HFIN.out.resolve_right fun h => by
        have e := at_uniq HG.out.srt h (by rw [HTL.out]; exact HPM.out.1) HPM.out.2
        exact HV.out (by rw [e]))
      clear HFIN
      have HNR := Lib.hid (nodesR_any (seed := seed) HG.out.srt HG.out.heap HG.out.ok (show PL w7 (.slice la ln lc) t.toL from by rw [HTL.out]; exact HLP3.out.keepN HT7.out) (by have := HTSZ.out; omega))
      go_wp2_with fail
      refine HNR.out.mono ?_
      rintro e w8 ⟨nx, rfl, hnx, ht8⟩
      have hnl : NL w8 nx (nodesT seed 0 t) := hnx.rl
      obtain ⟨na, nn, nc, rfl⟩ := hnl.form3
      have HT8 := Lib.hid (HT7.out.trans ht8)
      have HME := Lib.hid (met_any (cap := cap) hnl HG.out.ok (HQ3.out.keepN HT8.out) (HS3.out.keepN HT8.out) HSN.out (by have := HQL.out; have := HKE.out; omega) (fun i hi => HOKS.out i hi) (by have := HTSZ.out; omega))
      rw [HMT.out] at HME
      clear hnl hnx ht8
      go_wp2_with fail
      refine HME.out.mono ?_
      rintro e w9 ⟨rfl, ht9⟩
      go_wp2_with fail
      go_ret
      exact ⟨rfl, ((HT3.out.trans HT8.out).trans ht9).below_nil⟩

set_option maxRecDepth 100000 in
theorem orderTrue_lifted (os : Os) (started : os.Started) (H : Type) (enc : TypeId × Value → H) :
    ReturnsInHanded {} Try.checked os 3 .any (Rows.orderTrueSpec.pre6 enc Try.prog Try.f3 Rows.orderTrueRow.domain false) (Rows.orderTrueSpec.post enc Try.prog Try.f3 false true false false) := by
  refine returnsInHanded_of_change (C := Try.checked) own started (by kernel_rfl) Try.func3
    (ChangeSpec.witness6 (enc := enc) (C := Try.checked) false ⟨#[], #[.agg #[.int .u64 0, .slice none 0 0, .slice none 0 0, .slice none 0 0]], []⟩ 8 (by kernel_rfl) (by kernel_rfl) (by kernel_rfl) (by kernel_rfl)) ?_
  intro W base args ds gs before hval0 hW _ _
  have hval : ∀ (j : Nat) t v, Try.f3.params[j]? = some t → args[j]? = some v → Value.okWide Try.prog W .any base t v := hval0
  have hW' := hW
  obtain ⟨p, q, hA0, hV, rfl, hfz, hnd⟩ := hW
  have hA : DataW.TrodAll enc Try.prog W 0 (fun _ => true) true Try.f3.params.toList args.toList ds p := hA0
  rw [Try.params3] at hA hval
  obtain ⟨v0, vs0, d0, ds0, p0, q0, hargs, rfl, rfl, h0, r0⟩ := trodAll_cons hA
  obtain ⟨rfl, rfl, rfl⟩ := trodAll_nil r0
  obtain rfl : args = #[v0] := by cases args; simp_all
  obtain ⟨rfl, rfl⟩ := trodVars_none hV
  have k0 := h0
  have lt0 : ∀ x ∈ p0, x.block < W.heap.size := by obtain ⟨m, hm⟩ := k0; exact DataW.trod_lt m _ _ _ hm
  obtain ⟨c0, c1, c2, c3, y0, y1, y2, y3, m, rfl, _, _, e0, e1, e2, e3⟩ := Go.Joins.open_agg4 Try.underlying27 (by kernel_rfl) (by kernel_rfl) (hval 0 27 v0 rfl rfl) h0
  obtain ⟨sN, rfl, sB⟩ := open_u64 e0
  obtain ⟨pA, pLn, pC, hs1⟩ := Go.Joins.slice_form Try.underlying23 e1
  simp only [List.cons.injEq, and_true] at hs1
  subst hs1
  obtain ⟨LP, hpl, hpm, hpmm⟩ := open_pairs e1
  obtain ⟨qK, qH, qM⟩ := open_bv Try.underlying24 Try.underlying5 (by kernel_rfl) e2
  obtain ⟨aA, aL, aC, hs3⟩ := Go.Joins.slice_form Try.underlying25 e3
  simp only [List.cons.injEq, and_true] at hs3
  subst hs3
  obtain ⟨sM, sV, sKk, sVv, sDl, sDr, sH, sLm⟩ := open_sds e3
  obtain ⟨qA, qC, rfl, _, _⟩ := id qH
  clear hA0 hval0
  unfold maxLen at qM sM sLm hpm hpmm
  refine (lawTrue_any (sN : Int) hpl (by omega) (fun p hp => by have := hpmm p hp; omega) qH sH (by omega) (fun i hi => by have := sLm i hi; omega)).mono fun e W' ⟨he, bel⟩ => ?_
  subst he
  exact ⟨_, rfl, _, _, _, [], _, [], hW', trodAll_mk1 (shut_bool Try.underlying4 _), (trodAll_cons_mk (Below.trod laidOut (by kernel_rfl) (of_decide_eq_true (by kernel_rfl)) k0 bel lt0) trodAll_mk0), rfl, bel.frame _, fun h => by cases h⟩

theorem orderTrue_holds : Rows.OrderTrueSaid :=
  OpenClaim.holds_of_wide 3 Try.f3 rfl rfl rfl rfl rfl rfl rfl ⟨rfl, rfl, rfl, rfl, rfl⟩ rfl rfl rfl rfl rfl (by kernel_rfl) Try.func3 (by kernel_rfl)
    (of_decide_eq_true (by kernel_rfl)) (by unfold Func.isWrapper; first | (rw [if_pos (by decide +kernel)]; kernel_rfl) | (rw [if_neg (by decide +kernel)]; exact ⟨rfl, rfl⟩))
    (fun os started H enc _ => orderTrue_lifted os started H enc)
end Go.Proofs.Ytejiijbmmpahhab
