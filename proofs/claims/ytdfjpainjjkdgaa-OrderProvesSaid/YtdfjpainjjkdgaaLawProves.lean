/-
  OrderProves: for every seed, pairs and key the law returns true: the proof of any key that a map makes shows, under the map's digest, what the map has there, and is the one that the definition makes.
  No condition beside the statement's own.
-/
import Derived.Test.YtdfjpainjjkdgaaSameS
import Derived.Test.YtdfjpainjjkdgaaOpenP
namespace Go.Proofs.Ytdfjpainjjkdgaa
open Go.ChangeShapes Go.WideShapes Go.ChangeAt Go.RowKit Go.Deep

theorem touch_base' {w0 w w' : World} {bb : Nat} (h : Touch Nil w0 w) (ht : Touch (Just bb) w w') (hb : w0.heap.size ≤ bb) : Touch Nil w0 w' := h.trans' ht fun b hb' hs => by have hs : b = bb := hs; omega
/-- What Check finds, and what the list has. -/
theorem path_has {seed : Int} {t : Tree} {key : Key} (hg : GoodT seed t) : (hasF key t.toL = false ∧ chk seed key (fun i => ((pathT seed key t).getD i ⟨[], [], 0, 0⟩).k) (fun i => ((pathT seed key t).getD i ⟨[], [], 0, 0⟩).u) (fun i => ((pathT seed key t).getD i ⟨[], [], 0, 0⟩).l) (fun i => ((pathT seed key t).getD i ⟨[], [], 0, 0⟩).r) (pathT seed key t).length (pathT seed key t).length 0 (digT seed t) = .none) ∨
    (hasF key t.toL = true ∧ ∃ j, chk seed key (fun i => ((pathT seed key t).getD i ⟨[], [], 0, 0⟩).k) (fun i => ((pathT seed key t).getD i ⟨[], [], 0, 0⟩).u) (fun i => ((pathT seed key t).getD i ⟨[], [], 0, 0⟩).l) (fun i => ((pathT seed key t).getD i ⟨[], [], 0, 0⟩).r) (pathT seed key t).length (pathT seed key t).length 0 (digT seed t) = .there j ∧ ∀ p, t.toL[rankF key t.toL]? = some p → p.1 = key → p.2 = ((pathT seed key t).getD j ⟨[], [], 0, 0⟩).u ∧ ((pathT seed key t).getD j ⟨[], [], 0, 0⟩).u.length ≤ 1000) := by
  rcases chk_path (kk := fun i => ((pathT seed key t).getD i ⟨[], [], 0, 0⟩).k) (vv := fun i => ((pathT seed key t).getD i ⟨[], [], 0, 0⟩).u) (dl := fun i => ((pathT seed key t).getD i ⟨[], [], 0, 0⟩).l) (dr := fun i => ((pathT seed key t).getD i ⟨[], [], 0, 0⟩).r) (n := (pathT seed key t).length) (key := key) t 0 hg (fun j q hq => by
      simp only [Nat.zero_add, List.getD_eq_getElem?_getD, hq, Option.getD_some, and_self]) (by omega) with ⟨h1, h2⟩ | ⟨j, h1, h2, h3⟩
  · refine .inl ⟨?_, h1⟩
    cases e : hasF key t.toL with
    | false => rfl
    | true =>
      obtain ⟨u, hu⟩ := (hasF_iff hg.srt).1 e
      exact absurd rfl (h2 _ hu)
  · refine .inr ⟨(hasF_iff hg.srt).2 ⟨_, h3⟩, j, h1, fun p hp hk => ?_⟩
    have hmem : p ∈ t.toL := List.mem_of_getElem? hp
    have e : p = (key, ((pathT seed key t).getD j ⟨[], [], 0, 0⟩).u) := by
      have hsrt := hg.srt
      obtain ⟨a, ha⟩ := List.getElem?_of_mem h3
      have hpw : ∀ i j, i < j → ∀ p q : Key × Key, t.toL[i]? = some p → t.toL[j]? = some q → klt p.1 q.1 = true := fun i j hij p q h1 h2 => by
        obtain ⟨hi, e1⟩ := List.getElem?_eq_some_iff.1 h1
        obtain ⟨hj, e2⟩ := List.getElem?_eq_some_iff.1 h2
        rw [← e1, ← e2]
        exact List.pairwise_iff_getElem.1 hsrt i j hi hj hij
      rcases Nat.lt_trichotomy a (rankF key t.toL) with c | c | c
      · have := hpw _ _ c _ _ ha hp
        rw [hk, klt_ko.irrefl] at this; cases this
      · subst c; rw [hp] at ha; cases ha; rfl
      · have := hpw _ _ c _ _ hp ha
        rw [hk, klt_ko.irrefl] at this; cases this
    rw [e]
    exact ⟨rfl, (hg.ok _ h3).2.2⟩
set_option maxRecDepth 100000 in
set_option maxHeartbeats 4000000 in
theorem lawProves_any (seed : Int) {w : World} {x : Value} {P : Pairs} {qa : Option Addr} {qc : Nat} {key : Key} (h : PL w x P) (hn : P.length ≤ 9223372036854775807) (hm : ∀ p ∈ P, p.1.length ≤ 9223372036854775807 ∧ p.2.length ≤ 9223372036854775807) (hq : BV w (.slice qa key.length qc) key) :
    Calls Try.prog 7 #[.int .u64 seed, x, .slice qa key.length qc] w fun e w' => e = .returned (.bool true) ∧ Below w.heap.size w w' := by
  have HP := Lib.hid h
  have HQ := Lib.hid hq
  have HRI := Lib.hid (rising_any h hn hm)
  obtain ⟨pa, pn, pc, rfl⟩ := h.form3
  obtain ⟨ql, eql⟩ : ∃ ql, key.length = ql := ⟨_, rfl⟩
  rw [eql] at HQ ⊢
  have HKE := Lib.hid eql
  clear h hm hn hq eql
  go_enter Try.func7, Try.ntmps7
  go_wp2_with fail
  refine HRI.out.mono ?_
  rintro e w1 ⟨lx, ok, rfl, ⟨la, ln, lc, rfl⟩, hok, ht1⟩
  have HT1 := Lib.hid ht1
  have HOK := Lib.hid hok
  clear ht1 hok HRI
  cases ok with
  | false =>
    go_wp2_with fail
    go_ret
    exact ⟨rfl, HT1.out.below_nil⟩
  | true =>
    cases hlg : decide (2000 < ql) with
    | true =>
      have HLG := Lib.hid (fun w => by have := long_any qa ql qc w; rw [hlg] at this; exact this)
      clear hlg
      go_wp2_with fail
      refine (HLG.out _).mono ?_
      rintro e w' ⟨rfl, rfl⟩
      go_wp2_with fail
      go_ret
      exact ⟨rfl, HT1.out.below_nil⟩
    | false =>
    have HLG := Lib.hid (fun w => by have := long_any qa ql qc w; rw [hlg] at this; exact this)
    have HQL := Lib.hid (show ql ≤ 2000 by have := of_decide_eq_false hlg; omega)
    clear hlg
    obtain ⟨hl400, hokl, hlp⟩ := HOK.out rfl
    have HL := Lib.hid (And.intro hl400 hokl)
    have HLP := Lib.hid (show PL w1 (.slice la ln lc) (insAll P []) from hlp)
    have HLL := Lib.hid (show (insAll P []).length ≤ 400 by have h1 := insAll_len P []; simp at h1; omega)
    have HSH := Lib.hid (OkL.short (OkL.ins hokl (fun p hp => by cases hp) : OkL (insAll P [])))
    clear hl400 hokl hlp HOK
    go_wp2_with fail
    refine (HLG.out _).mono ?_
    rintro e w' ⟨rfl, rfl⟩
    go_wp2_with fail
    refine (new_map seed w1).mono ?_
    rintro e w2 ⟨mb, bb, ra, rfl, hm2, hmb, hbb, hne, ht2⟩
    have HT2 := Lib.hid (HT1.out.trans ht2)
    have HB := Lib.hid (show w.heap.size ≤ bb from Nat.le_trans HT1.out.size hbb)
    have HPU := Lib.hid (puts_any hm2 (HP.out.keepN HT2.out) HL.out.2 (by have := HL.out.1; simp only [Tree.size]; omega) (fun b c => c.elim))
    have HBD := Lib.hid hm2.bodyish
    have HLP2 := Lib.hid (HLP.out.keepN ht2)
    clear hm2 hmb hbb hne ht2
    go_wp2_with fail
    refine HPU.out.mono ?_
    rintro e w3 ⟨rfl, ⟨R3, ra3, t, hm3, htl, _⟩, ht3⟩
    have HM3 := Lib.hid hm3
    have HTL := Lib.hid (show t.toL = insAll P [] from htl)
    have HT3 := Lib.hid (touch_base' HT2.out ht3 HB.out)
    have HG := Lib.hid (hm3.good (treeAt_ok hm3.tree))
    have HLP3 := Lib.hid (show PL w3 (.slice la ln lc) (insAll P []) from PL.keepB HLP2.out ht3 HBD.out)
    have HQ3 := Lib.hid ((HQ.out.keepN HT2.out).keepB ht3 HBD.out)
    have HTSZ := Lib.hid hm3.size
    have HDM := Lib.hid (digest_map hm3)
    have HPV := Lib.hid (prove_map hm3 HQ3.out)
    obtain ⟨D, eD⟩ : ∃ D, digT seed t = D := ⟨_, rfl⟩
    rw [eD] at HDM
    have HD := Lib.hid eD
    clear hm3 htl ht3 HPU eD HLP HLP2
    go_wp2_with fail
    refine HDM.out.mono ?_
    rintro e w' ⟨rfl, rfl⟩
    go_wp2_with fail
    refine HPV.out.mono ?_
    rintro e w4 ⟨px4, rfl, hpx4, ht4⟩
    have hs4 := hpx4.rl
    obtain ⟨pa4, pn4, pc4, rfl⟩ := hs4.form3
    have HPN := Lib.hid (show pn4 ≤ t.size from by rw [hs4.len]; exact pathT_len seed key t)
    have HPN2 := Lib.hid (show (pathT seed key t).length = pn4 from hs4.len.symm)
    obtain ⟨vs, hsd⟩ := SL.sds hs4 fun q hq => (pathT_bd seed key t HG.out.ok q hq).1
    have HLB := Lib.hid (show ∀ i, i < pn4 → ((pathT seed key t).getD i ⟨[], [], 0, 0⟩).k.length ≤ 1000000 ∧ ((pathT seed key t).getD i ⟨[], [], 0, 0⟩).u.length ≤ 1000000 from fun i hi => by
      have hi : i < (pathT seed key t).length := by rw [HPN2.out]; exact hi
      have hm : (pathT seed key t).getD i ⟨[], [], 0, 0⟩ ∈ pathT seed key t := by rw [List.getD_eq_getElem?_getD, List.getElem?_eq_getElem hi]; exact List.getElem_mem hi
      have := (pathT_bd seed key t HG.out.ok _ hm).2
      unfold okK at this
      omega)
    have HT4 := Lib.hid (show Touch Nil w3 w4 from ht4)
    have HQ4 := Lib.hid (HQ3.out.keepN ht4)
    have HQ4' := Lib.hid HQ3.out
    have HLP4 := Lib.hid HLP3.out
    clear hpx4 hs4 ht4
    have hres := path_has (key := key) HG.out
    rw [HPN2.out, HTL.out, HD.out] at hres
    rcases hres with ⟨hhf, hchk⟩ | ⟨hhf, j, hchk, hun⟩
    · have HHF := Lib.hid hhf
      have HCHK := Lib.hid hchk
      clear hhf hchk
      have HCK := Lib.hid (show ∀ w', Touch Nil w4 w' → Calls Try.prog 35 #[.int .u64 seed, .int .u64 (D : Int), .slice qa ql qc, .slice pa4 pn4 pc4] w' (ChkPost (fun i => ((pathT seed key t).getD i ⟨[], [], 0, 0⟩).u) pn4 .none w') from fun w' ht => by
        have h := checkP_any seed D (by rw [← HD.out]; exact digT_bd _ _) pc4 (HQ4.out.keepN ht) (hsd.keepN ht) (by have := HPN.out; have := HTSZ.out; omega) HLB.out
        rw [HCHK.out] at h
        exact h)
      clear hsd
      go_wp2_with fail
      refine (HCK.out _ (Touch.refl _ _)).mono ?_
      rintro e w5 ⟨he5, ht5⟩
      have he5 : e = .returned (.tuple #[.slice none 0 0, .bool false, .int .i64 0]) := he5
      subst he5
      have HT5 := Lib.hid (HT4.out.trans ht5)
      clear ht5
      have HGR := Lib.hid (getR_any (HLP4.out.keepN HT5.out) HSH.out (by have := HLL.out; omega) (HQ4'.out.keepN HT5.out) (by have := HQL.out; have := HKE.out; omega))
      go_wp2_with fail
      refine HGR.out.mono ?_
      rintro e w6 ⟨gx, gc, rfl, hget, ht6⟩
      obtain ⟨rfl, rfl⟩ : gc = 3 ∧ gx = .slice none 0 0 := by
        rcases hget with ⟨h0, h1, _⟩ | ⟨_, hf, _⟩
        · exact ⟨h0, h1⟩
        · rw [HHF.out] at hf; cases hf
      clear hget
      have HT6 := Lib.hid (HT5.out.trans ht6)
      clear ht6
      have HPV2 := Lib.hid (prove_map (HM3.out.keepN HT6.out) (HQ4'.out.keepN HT6.out))
      go_wp2_with fail
      refine HPV2.out.mono ?_
      rintro e w7 ⟨px, rfl, hpx, ht7⟩
      have HS7 := Lib.hid hpx.rl
      obtain ⟨pa7, pn7, pc7, rfl⟩ := hpx.rl.form3
      have HT7 := Lib.hid (HT6.out.trans ht7)
      clear hpx ht7
      have HRV := Lib.hid (proveR_any (seed := seed) HG.out (show PL w7 (.slice la ln lc) t.toL from by rw [HTL.out]; exact HLP4.out.keepN HT7.out) HTSZ.out (HQ4'.out.keepN HT7.out) (by have := HQL.out; have := HKE.out; omega))
      go_wp2_with fail
      refine HRV.out.mono ?_
      rintro e w8 ⟨rx, rfl, hrx, ht8⟩
      obtain ⟨pa8, pn8, pc8, rfl⟩ := hrx.form3
      have HT8 := Lib.hid (HT7.out.trans ht8)
      have HSS := Lib.hid (sameSides_any (HS7.out.keepN ht8) hrx (fun q hq => by have := (pathT_bd seed key t HG.out.ok q hq).2; unfold okK at this; omega) (by have := pathT_len seed key t; have := HTSZ.out; omega))
      clear hrx ht8
      go_wp2_with fail
      refine HSS.out.mono ?_
      rintro e w9 ⟨rfl, ht9⟩
      have HT9 := Lib.hid (HT8.out.trans ht9)
      clear ht9
      have HSM := Lib.hid (same_any (BV.nil w9) (BV.nil w9) (by simp) (by simp))
      rw [decide_eq_true rfl] at HSM
      go_wp2_with fail
      refine HSM.out.mono ?_
      rintro e w10 ⟨rfl, ht10⟩
      go_wp2_with fail
      go_ret
      exact ⟨rfl, ((HT3.out.trans HT9.out).trans ht10).below_nil⟩
    · have HHF := Lib.hid hhf
      have HCHK := Lib.hid hchk
      have HUN := Lib.hid hun
      clear hhf hchk hun
      have HCK := Lib.hid (show ∀ w', Touch Nil w4 w' → Calls Try.prog 35 #[.int .u64 seed, .int .u64 (D : Int), .slice qa ql qc, .slice pa4 pn4 pc4] w' (ChkPost (fun i => ((pathT seed key t).getD i ⟨[], [], 0, 0⟩).u) pn4 (.there j) w') from fun w' ht => by
        have h := checkP_any seed D (by rw [← HD.out]; exact digT_bd _ _) pc4 (HQ4.out.keepN ht) (hsd.keepN ht) (by have := HPN.out; have := HTSZ.out; omega) HLB.out
        rw [HCHK.out] at h
        exact h)
      clear hsd
      go_wp2_with fail
      refine (HCK.out _ (Touch.refl _ _)).mono ?_
      rintro e w5 ⟨he5, ht5⟩
      obtain ⟨cx, rfl, hcx, _⟩ := he5
      obtain ⟨ca, cn, cc, rfl⟩ : ∃ ca cn cc, cx = .slice ca cn cc := by obtain ⟨x1, x2, x3⟩ := hcx.len'; exact ⟨_, _, _, x3⟩
      have HCX := Lib.hid hcx
      clear hcx
      have HT5 := Lib.hid (HT4.out.trans ht5)
      have HC5 := Lib.hid (Touch.refl Nil w5)
      clear ht5
      have HGR := Lib.hid (getR_any (HLP4.out.keepN HT5.out) HSH.out (by have := HLL.out; omega) (HQ4'.out.keepN HT5.out) (by have := HQL.out; have := HKE.out; omega))
      go_wp2_with fail
      refine HGR.out.mono ?_
      rintro e w6 ⟨gx, gc, rfl, hget, ht6⟩
      obtain ⟨p, hp1, hp2, hbx⟩ : ∃ p, (insAll P [])[rankF key (insAll P [])]? = some p ∧ p.1 = key ∧ gc = 0 ∧ BV w6 gx p.2 := by
        rcases hget with ⟨_, _, hf⟩ | ⟨h0, _, p, h1, h2, h3⟩
        · rw [HHF.out] at hf; cases hf
        · exact ⟨p, h1, h2, h0, h3⟩
      obtain ⟨rfl, hbx⟩ := hbx
      obtain ⟨ga, gn, gcc, rfl⟩ : ∃ ga gn gcc, gx = .slice ga gn gcc := by obtain ⟨x1, x2, x3⟩ := hbx.len'; exact ⟨_, _, _, x3⟩
      have HGX := Lib.hid hbx
      have HPE := Lib.hid (HUN.out p hp1 hp2)
      clear hbx hget hp1 hp2
      have HT6 := Lib.hid (HT5.out.trans ht6)
      have HC6 := Lib.hid (HC5.out.trans ht6)
      have HG6 := Lib.hid (Touch.refl Nil w6)
      clear ht6
      have HPV2 := Lib.hid (prove_map (HM3.out.keepN HT6.out) (HQ4'.out.keepN HT6.out))
      go_wp2_with fail
      refine HPV2.out.mono ?_
      rintro e w7 ⟨px, rfl, hpx, ht7⟩
      have HS7 := Lib.hid hpx.rl
      obtain ⟨pa7, pn7, pc7, rfl⟩ := hpx.rl.form3
      have HT7 := Lib.hid (HT6.out.trans ht7)
      have HC7 := Lib.hid (HC6.out.trans ht7)
      have HG7 := Lib.hid (HG6.out.trans ht7)
      clear hpx ht7
      have HRV := Lib.hid (proveR_any (seed := seed) HG.out (show PL w7 (.slice la ln lc) t.toL from by rw [HTL.out]; exact HLP4.out.keepN HT7.out) HTSZ.out (HQ4'.out.keepN HT7.out) (by have := HQL.out; have := HKE.out; omega))
      go_wp2_with fail
      refine HRV.out.mono ?_
      rintro e w8 ⟨rx, rfl, hrx, ht8⟩
      obtain ⟨pa8, pn8, pc8, rfl⟩ := hrx.form3
      have HT8 := Lib.hid (HT7.out.trans ht8)
      have HC8 := Lib.hid (HC7.out.trans ht8)
      have HG8 := Lib.hid (HG7.out.trans ht8)
      have HSS := Lib.hid (sameSides_any (HS7.out.keepN ht8) hrx (fun q hq => by have := (pathT_bd seed key t HG.out.ok q hq).2; unfold okK at this; omega) (by have := pathT_len seed key t; have := HTSZ.out; omega))
      clear hrx ht8
      go_wp2_with fail
      refine HSS.out.mono ?_
      rintro e w9 ⟨rfl, ht9⟩
      have HT9 := Lib.hid (HT8.out.trans ht9)
      have HCT := Lib.hid (HC8.out.trans ht9)
      have HGT := Lib.hid (HG8.out.trans ht9)
      clear ht9
      have HSM := Lib.hid (same_any (HCX.out.keepN HCT.out) (HGX.out.keepN HGT.out) (by have := HPE.out.2; omega) (by have := HPE.out.2; rw [HPE.out.1]; omega))
      rw [HPE.out.1, decide_eq_true rfl] at HSM
      go_wp2_with fail
      refine HSM.out.mono ?_
      rintro e w10 ⟨rfl, ht10⟩
      go_wp2_with fail
      go_ret
      exact ⟨rfl, ((HT3.out.trans HT9.out).trans ht10).below_nil⟩

set_option maxRecDepth 100000 in
theorem orderProves_lifted (os : Os) (started : os.Started) (H : Type) (enc : TypeId × Value → H) :
    ReturnsInHanded {} Try.checked os 7 .any (Rows.orderProvesSpec.pre6 enc Try.prog Try.f7 Rows.orderProvesRow.domain false) (Rows.orderProvesSpec.post enc Try.prog Try.f7 false true false false) := by
  refine returnsInHanded_of_change (C := Try.checked) own started (by kernel_rfl) Try.func7
    (ChangeSpec.witness6 (enc := enc) (C := Try.checked) false ⟨#[], #[.int .u64 0, .slice none 0 0, .slice none 0 0], []⟩ 8 (by kernel_rfl) (by kernel_rfl) (by kernel_rfl) (by kernel_rfl)) ?_
  intro W base args ds gs before hval0 hW _ _
  have hval : ∀ (j : Nat) t v, Try.f7.params[j]? = some t → args[j]? = some v → Value.okWide Try.prog W .any base t v := hval0
  have hW' := hW
  obtain ⟨p, q, hA0, hV, rfl, hfz, hnd⟩ := hW
  have hA : DataW.TrodAll enc Try.prog W 0 (fun _ => true) true Try.f7.params.toList args.toList ds p := hA0
  rw [Try.params7] at hA hval
  obtain ⟨v0, vs0, d0, ds0, p0, q0, hargs, rfl, rfl, h0, r0⟩ := trodAll_cons hA
  obtain ⟨v1, vs1, d1, ds1, p1, q1, rfl, rfl, rfl, h1, r1⟩ := trodAll_cons r0
  obtain ⟨v2, vs2, d2, ds2, p2, q2, rfl, rfl, rfl, h2, r2⟩ := trodAll_cons r1
  obtain ⟨rfl, rfl, rfl⟩ := trodAll_nil r2
  obtain rfl : args = #[v0, v1, v2] := by cases args; simp_all
  obtain ⟨rfl, rfl⟩ := trodVars_none hV
  obtain ⟨seed, rfl, rfl, rfl, w0⟩ := open_int Try.underlying22 (hval 0 22 v0 rfl rfl) h0
  obtain ⟨ao, len, cap, rfl⟩ := okWide_slice Try.underlying26 (hval 1 26 v1 rfl rfl)
  have k1 := h1
  have lt1 : ∀ x ∈ p1, x.block < W.heap.size := by obtain ⟨m, hm⟩ := k1; exact DataW.trod_lt m _ _ _ hm
  obtain ⟨fuel, hf⟩ := h1
  obtain ⟨L, hpl, hm, hmm⟩ := open_pairs hf
  obtain ⟨qo, qn, qcc, rfl⟩ := okWide_slice Try.underlying29 (hval 2 29 v2 rfl rfl)
  have k2 := h2
  have lt2 : ∀ x ∈ p2, x.block < W.heap.size := by obtain ⟨m, hm⟩ := k2; exact DataW.trod_lt m _ _ _ hm
  obtain ⟨fuel2, hf2⟩ := h2
  obtain ⟨qk, hqb, hqm⟩ := open_bv Try.underlying29 Try.underlying5 (by kernel_rfl) hf2
  obtain ⟨qo', qcc', hqe⟩ := hqb.len'
  cases hqe
  clear hA0 hval0
  unfold maxLen at hm hmm
  refine (lawProves_any seed hpl (by omega) (fun p hp => by have := hmm p hp; omega) hqb).mono fun e W' ⟨he, bel⟩ => ?_
  subst he
  exact ⟨_, rfl, _, _, _, [], _, [], hW', trodAll_mk1 (shut_bool Try.underlying4 _), (trodAll_cons_mk (shut_int Try.underlying22 w0) (trodAll_cons_mk (Below.trod laidOut (by kernel_rfl) (of_decide_eq_true (by kernel_rfl)) k1 bel lt1) (trodAll_cons_mk (Below.trod laidOut (by kernel_rfl) (of_decide_eq_true (by kernel_rfl)) k2 bel lt2) trodAll_mk0))), rfl, bel.frame _, fun h => by cases h⟩

theorem orderProves_holds : Rows.OrderProvesSaid :=
  OpenClaim.holds_of_wide 7 Try.f7 rfl rfl rfl rfl rfl rfl rfl ⟨rfl, rfl, rfl, rfl, rfl⟩ rfl rfl rfl rfl rfl (by kernel_rfl) Try.func7 (by kernel_rfl)
    (of_decide_eq_true (by kernel_rfl)) (by unfold Func.isWrapper; first | (rw [if_pos (by decide +kernel)]; kernel_rfl) | (rw [if_neg (by decide +kernel)]; exact ⟨rfl, rfl⟩))
    (fun os started H enc _ => orderProves_lifted os started H enc)
end Go.Proofs.Ytdfjpainjjkdgaa
