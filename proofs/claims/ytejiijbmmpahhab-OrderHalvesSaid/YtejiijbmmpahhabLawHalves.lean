/-
  OrderHalves: for every seed, pairs and key the law returns true: a map that is cut gives two maps, each as one into which its pairs alone were put; joined again they are the map that was cut, and both are empty and of use then; so is the map that was cut.
  No condition beside the statement's own.
-/
import Derived.Test.YtejiijbmmpahhabWhole
import Derived.Test.YtejiijbmmpahhabJoin
import Derived.Test.YtejiijbmmpahhabSpanD
import Derived.Test.YtejiijbmmpahhabOpenP
namespace Go.Proofs.Ytejiijbmmpahhab
open Go.ChangeShapes Go.WideShapes Go.ChangeAt Go.RowKit Go.Deep

theorem insL_front (k v : Key) {L : Pairs} (h : ∀ x ∈ L, klt k x.1 = true) : insL k v L = (k, v) :: L := by
  unfold insL
  rw [filter_all h, filter_none fun x hx => klt_ko.asym (h x hx)]
  rfl
theorem insAll_back : ∀ (L : Pairs), Srt L → insAll L.reverse [] = L
  | [], _ => by simp [insAll]
  | (k, v) :: L, h => by
    unfold Srt at h
    rw [List.pairwise_cons] at h
    rw [List.reverse_cons, insAll_snoc, insAll_back L h.2]
    exact insL_front k v fun x hx => h.1 x hx
set_option maxRecDepth 100000 in
set_option maxHeartbeats 8000000 in
theorem lawHalves_any (seed : Int) {w : World} {pa ka : Option Addr} {pn pc kl kc : Nat} {P : Pairs} {key : Key} (h : PL w (.slice pa pn pc) P) (hn : P.length ≤ 9223372036854775807) (hm : ∀ p ∈ P, p.1.length ≤ 9223372036854775807 ∧ p.2.length ≤ 9223372036854775807) (hk : BV w (.slice ka kl kc) key) :
    Calls Try.prog 4 #[.int .u64 seed, .slice pa pn pc, .slice ka kl kc] w fun e w' => e = .returned (.bool true) ∧ Below w.heap.size w w' := by
  have HP := Lib.hid h
  have HK := Lib.hid hk
  have HRI := Lib.hid (rising_any h hn hm)
  have HLN := Lib.hid (show key.length = kl from by
    obtain ⟨_, _, e1⟩ := hk.len'
    injection e1 with _ e1 _
    exact e1.symm)
  clear h hm hn hk
  go_enter Try.func4, Try.ntmps4
  go_wp2_with fail
  refine HRI.out.mono ?_
  rintro e w1 ⟨lx, ok, rfl, ⟨xa, xn, xc, rfl⟩, hok, ht1⟩
  have HT1 := Lib.hid ht1
  have HOK := Lib.hid hok
  clear ht1 hok HRI
  cases ok with
  | false =>
    go_wp2_with fail
    go_ret
    exact ⟨rfl, HT1.out.below_nil⟩
  | true =>
    cases hlg : decide (2000 < kl) with
    | true =>
      have HLG := Lib.hid (fun w => by have := long_any ka kl kc w; rw [hlg] at this; exact this)
      clear hlg
      go_wp2_with fail
      refine (HLG.out _).mono ?_
      rintro e w' ⟨rfl, rfl⟩
      go_wp2_with fail
      go_ret
      exact ⟨rfl, HT1.out.below_nil⟩
    | false =>
    have HLG := Lib.hid (fun w => by have := long_any ka kl kc w; rw [hlg] at this; exact this)
    have HL1 := Lib.hid (show key.length ≤ 2000 by have := of_decide_eq_false hlg; have := HLN.out; omega)
    clear hlg
    obtain ⟨hl400, hokl, hlp⟩ := HOK.out rfl
    have HL := Lib.hid (And.intro hl400 hokl)
    have HLP := Lib.hid (show PL w1 (.slice xa xn xc) (insAll P []) from hlp)
    have HLL := Lib.hid (show (insAll P []).length ≤ 400 by have h1 := insAll_len P []; simp at h1; omega)
    have HOL := Lib.hid (OkL.ins hokl (fun p hp => by cases hp) : OkL (insAll P []))
    have HSR := Lib.hid (show Srt (insAll P []) from insAll_srt P List.Pairwise.nil)
    clear hl400 hokl hlp HOK
    go_wp2_with fail
    refine (HLG.out _).mono ?_
    rintro e w' ⟨rfl, rfl⟩
    go_wp2_with fail
    refine (new_map seed w1).mono ?_
    rintro e w2 ⟨mb, bb, ra, rfl, hm2, hmb, hbb, hne, ht2⟩
    have HB1 := Lib.hid (show w1.heap.size ≤ mb ∧ w1.heap.size ≤ bb ∧ mb < w2.heap.size ∧ bb < w2.heap.size ∧ mb ≠ bb from ⟨hmb, hbb, lt_of_heap hm2.top, lt_of_heap hm2.body, hne⟩)
    have HM2 := Lib.hid hm2
    have HT2 := Lib.hid (show Touch Nil w1 w2 from ht2)
    clear hm2 hmb hbb hne ht2
    have HPU := Lib.hid (puts_any HM2.out (HP.out.keepN (HT1.out.trans HT2.out)) HL.out.2 (by have := HL.out.1; simp only [Tree.size]; omega) (fun b c => c.elim))
    go_wp2_with fail
    refine HPU.out.mono ?_
    rintro e w3 ⟨rfl, ⟨R3, ra3, t, hm3, htl, hr3⟩, ht3⟩
    have HM3 := Lib.hid hm3
    have HTL := Lib.hid (show t.toL = insAll P [] from htl)
    have HT3 := Lib.hid (touch_up HT2.out ht3 HB1.out.2.1)
    have HS3 := Lib.hid (show w2.heap.size ≤ w3.heap.size from ht3.size)
    have HRK := Lib.hid (rankR_any (HLP.out.keepN HT3.out) (OkL.short HOL.out) (by have := HLL.out; omega) (HK.out.keepN (HT1.out.trans HT3.out)) (by have := HL1.out; omega))
    have HRP := Lib.hid (rank_parts key HSR.out)
    have HRL := Lib.hid (rankF_le key (insAll P []))
    have HXN := Lib.hid (show xn = (insAll P []).length from HLP.out.len)
    obtain ⟨ch, cc, hcut, hct⟩ := HLP.out.cut_h slPair szPair (m := rankF key (insAll P [])) (by rw [HXN.out]; exact HRL.out)
    obtain ⟨da, dc, hcut2, hdt⟩ := HLP.out.cut_l slPair szPair (m := rankF key (insAll P [])) (by rw [HXN.out]; exact HRL.out)
    have HCH := Lib.hid hct
    have HCD := Lib.hid hdt
    generalize rankF key (insAll P []) = r at *
    clear hm3 htl hr3 ht3 HPU HM2 hct hdt
    go_wp2_with fail
    refine HRK.out.mono ?_
    rintro e w4 ⟨rfl, ht4⟩
    have HT4 := Lib.hid (HT3.out.trans ht4)
    have HS4 := Lib.hid (show w2.heap.size ≤ w4.heap.size from Nat.le_trans HS3.out ht4.size)
    have HCU := Lib.hid (cut_map (HM3.out.keepN ht4) (HK.out.keepN (HT1.out.trans HT4.out)))
    have HSP := Lib.hid (show (splitT key t).1.toL = (insAll P []).take r ∧ (splitT key t).2.toL = (insAll P []).drop r ∧ (splitT key t).1.size + (splitT key t).2.size ≤ 400 ∧ ∀ x ∈ (splitT key t).1.toL, ∀ y ∈ (splitT key t).2.toL, klt x.1 y.1 = true from by
      have e := split_toL key HM3.out.srt
      rw [HTL.out] at e
      have z := split_size key t
      have z2 : t.size ≤ 400 := by rw [size_toL, HTL.out]; exact HLL.out
      refine ⟨by rw [e.1, HRP.out.1], by rw [e.2, HRP.out.2], by omega, fun x hx y hy => ?_⟩
      rw [e.1] at hx
      rw [e.2] at hy
      have h1 := (List.mem_filter.1 hx).2
      have h2 : klt y.1 key = false := by simpa using (List.mem_filter.1 hy).2
      rcases klt_false.1 h2 with c | c
      · rw [c]; exact h1
      · exact klt_ko.trans _ _ _ h1 c)
    clear ht4 HRK HM3
    go_wp2_with fail
    refine HCU.out.mono ?_
    rintro e w5 ⟨ma, ba, ra5, mc, bc, rc5, R5, rfl, hA5, hC5, hM5, hR5, hd5, ht5⟩
    have HA5 := Lib.hid hA5
    have HC5 := Lib.hid hC5
    have HM5 := Lib.hid hM5
    have HD5 := Lib.hid (show w4.heap.size ≤ ma ∧ w4.heap.size ≤ ba ∧ w4.heap.size ≤ mc ∧ w4.heap.size ≤ bc ∧ ma < mc ∧ ba < bc ∧ ma < bc ∧ ba < mc ∧ mc < w5.heap.size ∧ bc < w5.heap.size from ⟨hd5.1, hd5.2.1, hd5.2.2.1, hd5.2.2.2.1, hd5.2.2.2.2.1, hd5.2.2.2.2.2.1, hd5.2.2.2.2.2.2.1, hd5.2.2.2.2.2.2.2, lt_of_heap hC5.top, lt_of_heap hC5.body⟩)
    have HT5 := Lib.hid (touch_up HT4.out ht5 HB1.out.2.1)
    generalize splitT key t = st at *
    clear hA5 hC5 hM5 hR5 hd5 ht5 HCU
    have HW6 := Lib.hid (whole_map HM5.out (RL.nil : PL w5 (.slice none 0 0) []))
    go_wp2_with fail
    refine HW6.out.mono ?_
    rintro e w6 ⟨rfl, ht6⟩
    have HT6 := Lib.hid (show Touch Nil w5 w6 from ht6)
    have HW7 := Lib.hid (whole_map (HA5.out.keepN HT6.out) (lx := .slice ch r cc) (by rw [HSP.out.1]; exact HCH.out.keepN (HT5.out.trans HT6.out)))
    clear ht6 HW6
    go_wp2_with fail
    refine HW7.out.mono ?_
    rintro e w7 ⟨rfl, ht7⟩
    have HT7 := Lib.hid (show Touch Nil w5 w7 from HT6.out.trans ht7)
    have HW8 := Lib.hid (whole_map (HC5.out.keepN HT7.out) (lx := .slice da (xn - r) dc) (by rw [HSP.out.2.1]; exact HCD.out.keepN (HT5.out.trans HT7.out)))
    clear ht7 HW7
    go_wp2_with fail
    refine HW8.out.mono ?_
    rintro e w8 ⟨rfl, ht8⟩
    have HT8 := Lib.hid (show Touch Nil w5 w8 from HT7.out.trans ht8)
    clear ht8 HW8 HT6 HT7
    have HJO := Lib.hid (join_map (HA5.out.keepN HT8.out) (HC5.out.keepN HT8.out) (by have := HD5.out; omega) (by have := HD5.out; omega) ⟨HA5.out.rb, HC5.out.rb⟩ HSP.out.2.2.2 (by have := HSP.out.2.2.1; omega))
    go_wp2_with fail
    refine HJO.out.mono ?_
    rintro e w9 ⟨mj, bj, rj, R9, rfl, hJ9, hA9, hC9, hR9, hd9, ht9⟩
    have HJ9 := Lib.hid hJ9
    have HA9 := Lib.hid hA9
    have HC9 := Lib.hid hC9
    have HR9 := Lib.hid (show ∀ b, R9 b → b ≠ ba from fun b hb e => by
      subst e
      rcases hR9 _ hb with c | c | c
      · exact HA5.out.rb c
      · exact HA5.out.rb c
      · have := HD5.out; have := HT8.out.size; omega)
    have HD9 := Lib.hid (show w8.heap.size ≤ mj ∧ w8.heap.size ≤ bj from hd9)
    have HM9 := Lib.hid ((HM5.out.keepN HT8.out).keep ht9 (fun _ c => c.elim) (fun c => by have c : mb = ba ∨ mb = bc := c; have := HB1.out; have := HD5.out; have := HS4.out; omega) (fun c => by have c : bb = ba ∨ bb = bc := c; have := HB1.out; have := HD5.out; have := HS4.out; omega))
    have HT9 := Lib.hid (show Touch Nil w1 w9 from (HT5.out.trans HT8.out).trans' ht9 fun b hb hs => by have hs : b = ba ∨ b = bc := hs; have := HD5.out; have := HT4.out.size; omega)
    have HTM := Lib.hid (show (mergeT (abv seed) st.1 st.2).toL = insAll P [] from by rw [merge_toL, HSP.out.1, HSP.out.2.1, List.take_append_drop])
    generalize mergeT (abv seed) st.1 st.2 = tj at *
    clear hJ9 hA9 hC9 hR9 hd9 ht9 HJO
    have HW10 := Lib.hid (whole_map HJ9.out (lx := .slice xa xn xc) (by rw [HTM.out]; exact HLP.out.keepN HT9.out))
    go_wp2_with fail
    refine HW10.out.mono ?_
    rintro e w10 ⟨rfl, ht10⟩
    have HT10 := Lib.hid (show Touch Nil w9 w10 from ht10)
    have HW11 := Lib.hid (whole_map (HA9.out.keepN HT10.out) (RL.nil : PL w10 (.slice none 0 0) []))
    clear ht10 HW10
    go_wp2_with fail
    refine HW11.out.mono ?_
    rintro e w11 ⟨rfl, ht11⟩
    have HT11 := Lib.hid (show Touch Nil w9 w11 from HT10.out.trans ht11)
    have HW12 := Lib.hid (whole_map (HC9.out.keepN HT11.out) (RL.nil : PL w11 (.slice none 0 0) []))
    clear ht11 HW11
    go_wp2_with fail
    refine HW12.out.mono ?_
    rintro e w12 ⟨rfl, ht12⟩
    have HT12 := Lib.hid (show Touch Nil w9 w12 from HT11.out.trans ht12)
    have HPB := Lib.hid (putsB_any (HA9.out.keepN HT12.out) (HLP.out.keepN (HT9.out.trans HT12.out)) HOL.out (by have := HLL.out; simp only [Tree.size]; omega) (fun b c => c.elim))
    clear ht12 HW12 HT10 HT11
    go_wp2_with fail
    refine HPB.out.mono ?_
    rintro e w13 ⟨rfl, ⟨R13, ra13, t13, hA13, htl13, _⟩, ht13⟩
    have HA13 := Lib.hid hA13
    have HTL13 := Lib.hid (show t13.toL = insAll P [] from htl13.trans (insAll_back _ HSR.out))
    have HT13 := Lib.hid (touch_up (HT9.out.trans HT12.out) ht13 (by have := HD5.out; have := HT4.out.size; omega))
    have HJ13 := Lib.hid ((HJ9.out.keepN HT12.out).keep ht13 (fun b hb c => HR9.out b hb c) (fun c => by have c : mj = ba := c; have := HD9.out; have := HD5.out; have := HT8.out.size; omega) (fun c => by have c : bj = ba := c; have := HD9.out; have := HD5.out; have := HT8.out.size; omega))
    have HM13 := Lib.hid ((HM9.out.keepN HT12.out).keep ht13 (fun _ c => c.elim) (fun c => by have c : mb = ba := c; have := HB1.out; have := HD5.out; have := HS4.out; omega) (fun c => by have c : bb = ba := c; have := HB1.out; have := HD5.out; have := HS4.out; omega))
    clear hA13 htl13 ht13 HPB HA9 HC9 HJ9 HM9
    have HW14 := Lib.hid (whole_map HA13.out (lx := .slice xa xn xc) (by rw [HTL13.out]; exact HLP.out.keepN HT13.out))
    go_wp2_with fail
    refine HW14.out.mono ?_
    rintro e w14 ⟨rfl, ht14⟩
    have HT14 := Lib.hid (show Touch Nil w13 w14 from ht14)
    have HKI := Lib.hid (kin_maps (HA13.out.keepN HT14.out) (HJ13.out.keepN HT14.out))
    rw [beq_self_eq_true] at HKI
    clear ht14 HW14
    go_wp2_with fail
    refine HKI.out.mono ?_
    rintro e w' ⟨rfl, k15, rfl⟩
    obtain ⟨w15, ew15⟩ : ∃ w15, w14.drewN k15 = w15 := ⟨_, rfl⟩
    have HT15 := Lib.hid (show Touch Nil w13 w15 from by rw [← ew15]; exact HT14.out.drewN _)
    rw [ew15]
    clear ew15 HKI HT14
    have HPU := Lib.hid (puts_any (HM13.out.keepN HT15.out) (HLP.out.keepN (HT13.out.trans HT15.out)) HOL.out (by have := HLL.out; simp only [Tree.size]; omega) (fun b c => c.elim))
    go_wp2_with fail
    refine HPU.out.mono ?_
    rintro e w16 ⟨rfl, ⟨R16, ra16, t16, hM16, htl16, _⟩, ht16⟩
    have HM16 := Lib.hid hM16
    have HTL16 := Lib.hid (show t16.toL = insAll P [] from htl16.trans ((insAll_self _ [] (by simpa using HSR.out)).trans (List.nil_append _)))
    have HT16 := Lib.hid (touch_up (HT13.out.trans HT15.out) ht16 HB1.out.2.1)
    clear hM16 htl16 ht16 HPU
    have HW17 := Lib.hid (whole_map HM16.out (lx := .slice xa xn xc) (by rw [HTL16.out]; exact HLP.out.keepN HT16.out))
    go_wp2_with fail
    refine HW17.out.mono ?_
    rintro e w17 ⟨rfl, ht17⟩
    go_wp2_with fail
    go_ret
    exact ⟨rfl, ((HT1.out.trans HT16.out).trans ht17).below_nil⟩

set_option maxRecDepth 100000 in
theorem orderHalves_lifted (os : Os) (started : os.Started) (H : Type) (enc : TypeId × Value → H) :
    ReturnsInHanded {} Try.checked os 4 .any (Rows.orderHalvesSpec.pre6 enc Try.prog Try.f4 Rows.orderHalvesRow.domain false) (Rows.orderHalvesSpec.post enc Try.prog Try.f4 false true false false) := by
  refine returnsInHanded_of_change (C := Try.checked) own started (by kernel_rfl) Try.func4
    (ChangeSpec.witness6 (enc := enc) (C := Try.checked) false ⟨#[], #[.int .u64 0, .slice none 0 0, .slice none 0 0], []⟩ 8 (by kernel_rfl) (by kernel_rfl) (by kernel_rfl) (by kernel_rfl)) ?_
  intro W base args ds gs before hval0 hW _ _
  have hval : ∀ (j : Nat) t v, Try.f4.params[j]? = some t → args[j]? = some v → Value.okWide Try.prog W .any base t v := hval0
  have hW' := hW
  obtain ⟨p, q, hA0, hV, rfl, hfz, hnd⟩ := hW
  have hA : DataW.TrodAll enc Try.prog W 0 (fun _ => true) true Try.f4.params.toList args.toList ds p := hA0
  rw [Try.params4] at hA hval
  obtain ⟨v0, vs0, d0, ds0, p0, q0, hargs, rfl, rfl, h0, r0⟩ := trodAll_cons hA
  obtain ⟨v1, vs1, d1, ds1, p1, q1, rfl, rfl, rfl, h1, r1⟩ := trodAll_cons r0
  obtain ⟨v2, vs2, d2, ds2, p2, q2, rfl, rfl, rfl, h2, r2⟩ := trodAll_cons r1
  obtain ⟨rfl, rfl, rfl⟩ := trodAll_nil r2
  obtain rfl : args = #[v0, v1, v2] := by cases args; simp_all
  obtain ⟨rfl, rfl⟩ := trodVars_none hV
  obtain ⟨seed, rfl, rfl, rfl, w0⟩ := open_int Try.underlying22 (hval 0 22 v0 rfl rfl) h0
  obtain ⟨ao, len, cap, rfl⟩ := okWide_slice Try.underlying23 (hval 1 23 v1 rfl rfl)
  have k1 := h1
  have lt1 : ∀ x ∈ p1, x.block < W.heap.size := by obtain ⟨m, hm⟩ := k1; exact DataW.trod_lt m _ _ _ hm
  obtain ⟨fuel, hf⟩ := h1
  obtain ⟨L, hpl, hm, hmm⟩ := open_pairs hf
  obtain ⟨qo, qn, qcc, rfl⟩ := okWide_slice Try.underlying24 (hval 2 24 v2 rfl rfl)
  have k2 := h2
  have lt2 : ∀ x ∈ p2, x.block < W.heap.size := by obtain ⟨m, hm⟩ := k2; exact DataW.trod_lt m _ _ _ hm
  obtain ⟨fuel2, hf2⟩ := h2
  obtain ⟨qk, hqb, hqm⟩ := open_bv Try.underlying24 Try.underlying5 (by kernel_rfl) hf2
  obtain ⟨qo', qcc', hqe⟩ := hqb.len'
  cases hqe
  clear hA0 hval0
  unfold maxLen at hm hmm
  refine (lawHalves_any seed hpl (by omega) (fun p hp => by have := hmm p hp; omega) hqb).mono fun e W' ⟨he, bel⟩ => ?_
  subst he
  exact ⟨_, rfl, _, _, _, [], _, [], hW', trodAll_mk1 (shut_bool Try.underlying4 _), (trodAll_cons_mk (shut_int Try.underlying22 w0) (trodAll_cons_mk (Below.trod laidOut (by kernel_rfl) (of_decide_eq_true (by kernel_rfl)) k1 bel lt1) (trodAll_cons_mk (Below.trod laidOut (by kernel_rfl) (of_decide_eq_true (by kernel_rfl)) k2 bel lt2) trodAll_mk0))), rfl, bel.frame _, fun h => by cases h⟩

theorem orderHalves_holds : Rows.OrderHalvesSaid :=
  OpenClaim.holds_of_wide 4 Try.f4 rfl rfl rfl rfl rfl rfl rfl ⟨rfl, rfl, rfl, rfl, rfl⟩ rfl rfl rfl rfl rfl (by kernel_rfl) Try.func4 (by kernel_rfl)
    (of_decide_eq_true (by kernel_rfl)) (by unfold Func.isWrapper; first | (rw [if_pos (by decide +kernel)]; kernel_rfl) | (rw [if_neg (by decide +kernel)]; exact ⟨rfl, rfl⟩))
    (fun os started H enc _ => orderHalves_lifted os started H enc)
end Go.Proofs.Ytejiijbmmpahhab
