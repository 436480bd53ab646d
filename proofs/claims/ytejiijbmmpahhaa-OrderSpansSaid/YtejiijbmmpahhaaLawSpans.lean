/-
  OrderSpans: for every seed, pairs and bounds the law returns true: of any span of keys the digest is that of a map which has the span's pairs alone, and the map stays what it was.
  No condition beside the statement's own.
-/
import Derived.Test.YtejiijbmmpahhaaWhole
import Derived.Test.YtejiijbmmpahhaaSpanD
import Derived.Test.YtejiijbmmpahhaaOpenP
import Derived.Test.YtejiijbmmpahhaaAggs
namespace Go.Proofs.Ytejiijbmmpahhaa
open Go.ChangeShapes Go.WideShapes Go.ChangeAt Go.RowKit Go.Deep

/-! ### The definition -/
set_option maxRecDepth 100000 in
set_option maxHeartbeats 4000000 in
theorem spanR_any {w : World} {x : Value} {L : Pairs} {la ha : Option Addr} {ll lc hl hc : Nat} {low high : Key} (h : PL w x L) (hs : Short L) (hn : L.length ≤ 1000000) (hlo : BV w (.slice la ll lc) low) (hlol : low.length ≤ 1000000) (hhi : BV w (.slice ha hl hc) high) (hhil : high.length ≤ 1000000) (bo : Bool) :
    Calls Try.prog 28 #[x, .slice la ll lc, .slice ha hl hc, .bool bo] w fun e w' => ∃ a c, e = .returned (.slice a (spanLen bo low high L) c) ∧ Touch Nil w w' := by
  obtain ⟨ao, cap, rfl⟩ := h.form
  have HP := Lib.hid h
  have HR1 := Lib.hid (rankR_any h hs hn hlo hlol)
  have HR2 := Lib.hid (fun w' (ht : Touch Nil w w') => rankR_any (h.keepN ht) hs hn (hhi.keepN ht) hhil)
  have hr1 := rankF_le low L
  have hr2 := rankF_le high L
  have HE : ∃ n, L.length = n := ⟨_, rfl⟩
  obtain ⟨n, en⟩ := HE
  unfold spanLen
  rw [en] at HP HR1 hr1 hr2 hn ⊢
  simp only [en] at HR2
  generalize rankF low L = r1 at *
  generalize rankF high L = r2 at *
  clear h hs hlo hhi hlol hhil en
  cases bo with
  | false =>
    obtain ⟨ca, cc, hcut, _⟩ := HP.out.cut_lh slPair szPair (i := r1) (j := n) hr1 (Nat.le_refl _)
    have q1 : decide ((n : Int) < (r1 : Int)) = false := by simp; omega
    have q2 : decide (n < r1) = false := by simp; omega
    go_enter Try.func28, Try.ntmps28
    go_wp2_with fail
    refine HR1.out.mono ?_
    rintro e w1 ⟨rfl, ht1⟩
    have HT1 := Lib.hid ht1
    clear ht1
    go_wp2_with fail
    go_ret
    first | exact ⟨_, _, rfl, HT1.out⟩ | exact ⟨⟨_, _, rfl⟩, HT1.out⟩
  | true =>
    by_cases hlt : r2 < r1
    · have q1 : decide ((r2 : Int) < (r1 : Int)) = true := by simp; omega
      have q2 : decide (r2 < r1) = true := by simpa using hlt
      have hz : r2 - r1 = 0 := by omega
      rw [if_pos rfl, hz]
      go_enter Try.func28, Try.ntmps28
      go_wp2_with fail
      refine HR1.out.mono ?_
      rintro e w1 ⟨rfl, ht1⟩
      have HT1 := Lib.hid ht1
      clear ht1
      go_wp2_with fail
      refine (HR2.out _ HT1.out).mono ?_
      rintro e w2 ⟨rfl, ht2⟩
      have HT2 := Lib.hid (HT1.out.trans ht2)
      clear ht2
      go_wp2_with fail
      go_ret
      exact ⟨_, _, rfl, HT2.out⟩
    · have q1 : decide ((r2 : Int) < (r1 : Int)) = false := by simp; omega
      have q2 : decide (r2 < r1) = false := by simpa using hlt
      obtain ⟨ca, cc, hcut, _⟩ := HP.out.cut_lh slPair szPair (i := r1) (j := r2) (by omega) hr2
      rw [if_pos rfl]
      go_enter Try.func28, Try.ntmps28
      go_wp2_with fail
      refine HR1.out.mono ?_
      rintro e w1 ⟨rfl, ht1⟩
      have HT1 := Lib.hid ht1
      clear ht1
      go_wp2_with fail
      refine (HR2.out _ HT1.out).mono ?_
      rintro e w2 ⟨rfl, ht2⟩
      have HT2 := Lib.hid (HT1.out.trans ht2)
      clear ht2
      go_wp2_with fail
      go_ret
      exact ⟨_, _, rfl, HT2.out⟩

/-! ### The law -/
theorem box5 (w : World) (x y z u v : Value) (t : Nat) : ((w.alloc (.cells #[x, y, z, u, v] t)).cell? ⟨w.heap.size, 0, none⟩ = some x) ∧ ((w.alloc (.cells #[x, y, z, u, v] t)).cell? ⟨w.heap.size, 1, none⟩ = some y) ∧ ((w.alloc (.cells #[x, y, z, u, v] t)).cell? ⟨w.heap.size, 2, none⟩ = some z) ∧ ((w.alloc (.cells #[x, y, z, u, v] t)).cell? ⟨w.heap.size, 3, none⟩ = some u) ∧ ((w.alloc (.cells #[x, y, z, u, v] t)).cell? ⟨w.heap.size, 4, none⟩ = some v) := by
  refine ⟨?_, ?_, ?_, ?_, ?_⟩ <;> (rw [cell_new]; rfl)
theorem array5 {α : Type} (cs : Array α) (h : cs.size = 5) : ∃ c0 c1 c2 c3 c4, cs = #[c0, c1, c2, c3, c4] := by
  obtain ⟨l⟩ := cs
  match l, h with
  | [c0, c1, c2, c3, c4], _ => exact ⟨c0, c1, c2, c3, c4, rfl⟩
set_option maxRecDepth 100000 in
set_option maxHeartbeats 8000000 in
theorem lawSpans_any (seed : Int) {w : World} {pa : Option Addr} {pn pc : Nat} {P : Pairs} {la ha : Option Addr} {ll lc hl hc : Nat} {low high : Key} (bo : Bool) (h : PL w (.slice pa pn pc) P) (hn : P.length ≤ 9223372036854775807) (hm : ∀ p ∈ P, p.1.length ≤ 9223372036854775807 ∧ p.2.length ≤ 9223372036854775807) (hlo : BV w (.slice la ll lc) low) (hhi : BV w (.slice ha hl hc) high) :
    Calls Try.prog 6 #[.agg #[.int .u64 seed, .slice pa pn pc, .slice la ll lc, .slice ha hl hc, .bool bo]] w fun e w' => e = .returned (.bool true) ∧ Below w.heap.size w w' := by
  have HP := Lib.hid h
  have HLO := Lib.hid hlo
  have HHI := Lib.hid hhi
  have HRI := Lib.hid (fun w' (ht : Touch Nil w w') => rising_any (h.keepN ht) hn hm)
  have HLN := Lib.hid (show low.length = ll ∧ high.length = hl from by
    obtain ⟨_, _, e1⟩ := hlo.len'
    obtain ⟨_, _, e2⟩ := hhi.len'
    injection e1 with _ e1 _
    injection e2 with _ e2 _
    exact ⟨e1.symm, e2.symm⟩)
  obtain ⟨x0, x1, x2, x3, x4⟩ := box5 w (.int .u64 seed) (.slice pa pn pc) (.slice la ll lc) (.slice ha hl hc) (.bool bo) 57
  have HTB := Lib.hid ((Touch.refl Nil w).alloc (.cells #[.int .u64 seed, .slice pa pn pc, .slice la ll lc, .slice ha hl hc, .bool bo] 57))
  clear h hm hn hlo hhi
  go_enter Try.func6, Try.ntmps6
  go_wp2_with (go_quiet (fail))
  refine (HRI.out _ (HTB.out.drewN _)).mono ?_
  rintro e w1 ⟨lx, ok, rfl, ⟨xa, xn, xc, rfl⟩, hok, ht1⟩
  have HT1 := Lib.hid ((HTB.out.drewN nq).trans ht1)
  have HOK := Lib.hid hok
  clear ht1 hok HRI x0 x1 x2 x3 x4 HTB
  cases ok with
  | false =>
    go_wp2_with fail
    go_ret
    exact ⟨rfl, HT1.out.below_nil⟩
  | true =>
    cases hlg : decide (2000 < ll) with
    | true =>
      have HLG := Lib.hid (fun w => by have := long_any la ll lc w; rw [hlg] at this; exact this)
      clear hlg
      go_wp2_with fail
      refine (HLG.out _).mono ?_
      rintro e w' ⟨rfl, rfl⟩
      go_wp2_with fail
      go_ret
      exact ⟨rfl, HT1.out.below_nil⟩
    | false =>
    have HLG := Lib.hid (fun w => by have := long_any la ll lc w; rw [hlg] at this; exact this)
    have HL1 := Lib.hid (show low.length ≤ 2000 by have := of_decide_eq_false hlg; have := HLN.out.1; omega)
    clear hlg
    cases hlg : decide (2000 < hl) with
    | true =>
      have HLG2 := Lib.hid (fun w => by have := long_any ha hl hc w; rw [hlg] at this; exact this)
      clear hlg
      go_wp2_with fail
      refine (HLG.out _).mono ?_
      rintro e w' ⟨rfl, rfl⟩
      go_wp2_with fail
      refine (HLG2.out _).mono ?_
      rintro e w' ⟨rfl, rfl⟩
      go_wp2_with fail
      go_ret
      exact ⟨rfl, HT1.out.below_nil⟩
    | false =>
    have HLG2 := Lib.hid (fun w => by have := long_any ha hl hc w; rw [hlg] at this; exact this)
    have HL2 := Lib.hid (show high.length ≤ 2000 by have := of_decide_eq_false hlg; have := HLN.out.2; omega)
    clear hlg
    obtain ⟨hl400, hokl, hlp⟩ := HOK.out rfl
    have HL := Lib.hid (And.intro hl400 hokl)
    have HLP := Lib.hid (show PL w1 (.slice xa xn xc) (insAll P []) from hlp)
    have HLL := Lib.hid (show (insAll P []).length ≤ 400 by have h1 := insAll_len P []; simp at h1; omega)
    have HSH := Lib.hid (OkL.short (OkL.ins hokl (fun p hp => by cases hp) : OkL (insAll P [])))
    clear hl400 hokl hlp HOK
    go_wp2_with fail
    refine (HLG.out _).mono ?_
    rintro e w' ⟨rfl, rfl⟩
    go_wp2_with fail
    refine (HLG2.out _).mono ?_
    rintro e w' ⟨rfl, rfl⟩
    go_wp2_with fail
    refine (new_map seed w1).mono ?_
    rintro e w2 ⟨mb, bb, ra, rfl, hm2, hmb, hbb, hne, ht2⟩
    have HB1 := Lib.hid (show w1.heap.size ≤ mb ∧ w1.heap.size ≤ bb ∧ mb < w2.heap.size ∧ bb < w2.heap.size from ⟨hmb, hbb, lt_of_heap hm2.top, lt_of_heap hm2.body⟩)
    have HM2 := Lib.hid hm2
    have HT2 := Lib.hid (show Touch Nil w1 w2 from ht2)
    clear hm2 hmb hbb hne ht2
    go_wp2_with fail
    refine (new_map seed w2).mono ?_
    rintro e w3 ⟨mb2, bb2, ra2, rfl, hm3, hmb, hbb, hne, ht3⟩
    have HB2 := Lib.hid (show w2.heap.size ≤ mb2 ∧ w2.heap.size ≤ bb2 ∧ mb2 < w3.heap.size ∧ bb2 < w3.heap.size from ⟨hmb, hbb, lt_of_heap hm3.top, lt_of_heap hm3.body⟩)
    have HA3 := Lib.hid hm3
    have HM3 := Lib.hid (HM2.out.keepN ht3)
    have HT3 := Lib.hid (HT2.out.trans ht3)
    clear hm3 hmb hbb hne ht3 HM2 HT2
    have HPU := Lib.hid (puts_any HM3.out (HP.out.keepN (HT1.out.trans HT3.out)) HL.out.2 (by have := HL.out.1; simp only [Tree.size]; omega) (fun b c => c.elim))
    go_wp2_with fail
    refine HPU.out.mono ?_
    rintro e w4 ⟨rfl, ⟨R4, ra4, t, hm4, htl, hr4⟩, ht4⟩
    have HM4 := Lib.hid hm4
    have HTL := Lib.hid (show t.toL = insAll P [] from htl)
    have HR4 := Lib.hid (show ∀ b, R4 b → w3.heap.size ≤ b from fun b hb => (hr4 b hb).elim (fun c => c.elim) fun c => c.1)
    have HT4 := Lib.hid (touch_up HT3.out ht4 HB1.out.2.1)
    have HS34 := Lib.hid (show w3.heap.size ≤ w4.heap.size from ht4.size)
    have HA4 := Lib.hid (HA3.out.keep ht4 (fun _ c => c.elim) (fun c => by have c : mb2 = bb := c; have := HB1.out; have := HB2.out; omega) (fun c => by have c : bb2 = bb := c; have := HB1.out; have := HB2.out; omega))
    have HSP := Lib.hid (span_map hm4 (HLO.out.keepN (HT1.out.trans HT4.out)) (HHI.out.keepN (HT1.out.trans HT4.out)) bo)
    have HPO := Lib.hid (part_ok (seed := seed) bo low high hm4.srt hm4.heap)
    have HPZ := Lib.hid (part_size bo low high t hm4.srt)
    have HOKT := Lib.hid (treeAt_ok hm4.tree)
    have HSZ := Lib.hid (show t.size ≤ 400 by rw [size_toL, htl]; exact HLL.out)
    clear hm4 htl hr4 ht4 HPU HA3 HM3
    go_wp2_with fail
    refine HSP.out.mono ?_
    rintro e w5 ⟨x5, rfl, ho5, ht5⟩
    obtain ⟨xa5, xl5, xc5, rfl⟩ := ho5.form3
    have HT5 := Lib.hid (HT4.out.trans ht5)
    have HM5 := Lib.hid (HM4.out.keepN ht5)
    have HA5 := Lib.hid (HA4.out.keepN ht5)
    have HPM := Lib.hid (show ∀ p ∈ (partT bo low high t).toL, p ∈ t.toL from part_mem bo low high t HM4.out.srt)
    have HPU := Lib.hid (puts_any HA5.out ho5.rl (fun p hp => HOKT.out p (HPM.out p hp)) (by rw [← size_toL]; have := HPO.out.2.2; have := HSZ.out; simp only [Tree.size]; omega) (fun b c => c.elim))
    have HR5 := Lib.hid (show w3.heap.size ≤ w5.heap.size from Nat.le_trans HS34.out ht5.size)
    clear ho5 ht5 HSP HA4 HM4
    go_wp2_with fail
    refine HPU.out.mono ?_
    rintro e w6 ⟨rfl, ⟨R6, ra6, u, hm6, hul, _⟩, ht6⟩
    have HT6 := Lib.hid (touch_up HT5.out ht6 (by have := HB1.out; have := HB2.out; omega))
    have HM6 := Lib.hid (HM5.out.keep ht6 (fun b hb c => by have c : b = bb2 := c; have := HR4.out b hb; have := HB2.out; omega) (fun c => by have c : mb = bb2 := c; have := HB1.out; have := HB2.out; omega) (fun c => by have c : bb = bb2 := c; have := HB1.out; have := HB2.out; omega))
    have hut : u = partT bo low high t := tree_unique (abv_ko seed) hm6.heap HPO.out.2.1 (by rw [hul]; exact (insAll_self _ [] (by simpa using HPO.out.1)).trans (List.nil_append _)) hm6.srt
    subst hut
    have HSD := Lib.hid (spanDigest_map HM6.out (HLO.out.keepN (HT1.out.trans HT6.out)) (HHI.out.keepN (HT1.out.trans HT6.out)) bo)
    have HLE := Lib.hid (fun w' (ht : Touch Nil w6 w') => len_map (hm6.keepN ht))
    have HDI := Lib.hid (fun w' (ht : Touch Nil w6 w') => digest_map (hm6.keepN ht))
    have HSR := Lib.hid (fun w' (ht : Touch Nil w6 w') => spanR_any (HLP.out.keepN (HT6.out.trans ht)) HSH.out (by have := HLL.out; omega) (HLO.out.keepN ((HT1.out.trans HT6.out).trans ht)) (by have := HL1.out; omega) (HHI.out.keepN ((HT1.out.trans HT6.out).trans ht)) (by have := HL2.out; omega) bo)
    have HWH := Lib.hid (fun w' (ht : Touch Nil w6 w') => whole_map (HM6.out.keepN ht) (show PL w' (.slice xa xn xc) t.toL from by rw [HTL.out]; exact HLP.out.keepN (HT6.out.trans ht)))
    have hpz := HPZ.out
    rw [HTL.out] at hpz
    rw [← hpz] at HSR
    obtain ⟨z, ez⟩ : ∃ z, (partT bo low high t).size = z := ⟨_, rfl⟩
    obtain ⟨d, ed⟩ : ∃ d, digT seed (partT bo low high t) = d := ⟨_, rfl⟩
    rw [ez, ed] at HSD
    rw [ez] at HSR
    simp only [ez] at HLE
    simp only [ed] at HDI
    have q1 : ((z : Int) == (z : Int)) = true := by simp
    have q2 : ((d : Int) == (d : Int)) = true := by simp
    clear hm6 hul ht6 hpz ez ed HPU HM5 HA5
    go_wp2_with fail
    refine HSD.out.mono ?_
    rintro e w7 ⟨rfl, ht7⟩
    have HT7 := Lib.hid (show Touch Nil w6 w7 from ht7)
    clear ht7
    go_wp2_with fail
    refine (HLE.out _ HT7.out).mono ?_
    rintro e w' ⟨rfl, rfl⟩
    go_wp2_with fail
    refine (HDI.out _ HT7.out).mono ?_
    rintro e w' ⟨rfl, rfl⟩
    go_wp2_with fail
    refine (HSR.out _ HT7.out).mono ?_
    rintro e w8 ⟨sa, sc, rfl, ht8⟩
    have HT8 := Lib.hid (HT7.out.trans ht8)
    clear ht8
    go_wp2_with fail
    refine (HWH.out _ HT8.out).mono ?_
    rintro e w9 ⟨rfl, ht9⟩
    go_wp2_with fail
    go_ret
    exact ⟨rfl, (((HT1.out.trans HT6.out).trans HT8.out).trans ht9).below_nil⟩

set_option maxRecDepth 100000 in
set_option maxHeartbeats 4000000 in
theorem orderSpans_lifted (os : Os) (started : os.Started) (H : Type) (enc : TypeId × Value → H) :
    ReturnsInHanded {} Try.checked os 6 .any (Rows.orderSpansSpec.pre6 enc Try.prog Try.f6 Rows.orderSpansRow.domain false) (Rows.orderSpansSpec.post enc Try.prog Try.f6 false true false false) := by
  refine returnsInHanded_of_change (C := Try.checked) own started (by kernel_rfl) Try.func6
    (ChangeSpec.witness6 (enc := enc) (C := Try.checked) false ⟨#[], #[.agg #[.int .u64 0, .slice none 0 0, .slice none 0 0, .slice none 0 0, .bool false]], []⟩ 8 (by kernel_rfl) (by kernel_rfl) (by kernel_rfl) (by kernel_rfl)) ?_
  intro W base args ds gs before hval0 hW _ _
  have hval : ∀ (j : Nat) t v, Try.f6.params[j]? = some t → args[j]? = some v → Value.okWide Try.prog W .any base t v := hval0
  have hW' := hW
  obtain ⟨p, q, hA0, hV, rfl, hfz, hnd⟩ := hW
  have hA : DataW.TrodAll enc Try.prog W 0 (fun _ => true) true Try.f6.params.toList args.toList ds p := hA0
  rw [Try.params6] at hA hval
  obtain ⟨v0, vs0, d0, ds0, p0, q0, hargs, rfl, rfl, h0, r0⟩ := trodAll_cons hA
  obtain ⟨rfl, rfl, rfl⟩ := trodAll_nil r0
  obtain rfl : args = #[v0] := by cases args; simp_all
  obtain ⟨rfl, rfl⟩ := trodVars_none hV
  have k0 := h0
  have lt0 : ∀ x ∈ p0, x.block < W.heap.size := by obtain ⟨m, hm⟩ := k0; exact DataW.trod_lt m _ _ _ hm
  obtain ⟨cs, rfl, hsz, hfl⟩ := open_aggs Try.underlying57 (by kernel_rfl) (by kernel_rfl) (hval 0 57 v0 rfl rfl) h0
  obtain ⟨c0, c1, c2, c3, c4, rfl⟩ := array5 cs hsz
  obtain ⟨n0, y0, e0⟩ := hfl 0 _ rfl
  obtain ⟨n1, y1, e1⟩ := hfl 1 _ rfl
  obtain ⟨n2, y2, e2⟩ := hfl 2 _ rfl
  obtain ⟨n3, y3, e3⟩ := hfl 3 _ rfl
  obtain ⟨n4, y4, e4⟩ := hfl 4 _ rfl
  have e0 : DataW.trod enc Try.prog W 0 (fun _ => true) true n0 22 [c0] = some y0 := e0
  have e1 : DataW.trod enc Try.prog W 0 (fun _ => true) true n1 26 [c1] = some y1 := e1
  have e2 : DataW.trod enc Try.prog W 0 (fun _ => true) true n2 29 [c2] = some y2 := e2
  have e3 : DataW.trod enc Try.prog W 0 (fun _ => true) true n3 29 [c3] = some y3 := e3
  have e4 : DataW.trod enc Try.prog W 0 (fun _ => true) true n4 4 [c4] = some y4 := e4
  obtain ⟨sN, e0', _⟩ := DataW.trod_int Try.underlying22 e0
  obtain ⟨pA, pLn, pC, hs1⟩ := Go.Joins.slice_form Try.underlying26 e1
  simp only [List.cons.injEq, and_true] at hs1
  subst hs1
  obtain ⟨LP, hpl, hpm, hpmm⟩ := open_pairs e1
  obtain ⟨lK, lH, _⟩ := open_bv Try.underlying29 Try.underlying5 (by kernel_rfl) e2
  obtain ⟨hK, hH, _⟩ := open_bv Try.underlying29 Try.underlying5 (by kernel_rfl) e3
  obtain ⟨bo, e4', _⟩ := DataW.trod_bool Try.underlying4 e4
  obtain rfl : c0 = .int .u64 sN := by simpa using e0'
  obtain rfl : c4 = .bool bo := by simpa using e4'
  have lH : BV W c2 lK := lH
  have hH : BV W c3 hK := hH
  obtain ⟨lA, lC, rfl, _, _⟩ := id lH
  obtain ⟨hA, hC, rfl, _, _⟩ := id hH
  clear hA0 hval0
  unfold maxLen at hpm hpmm
  refine (lawSpans_any sN bo hpl (by omega) (fun p hp => by have := hpmm p hp; omega) lH hH).mono fun e W' ⟨he, bel⟩ => ?_
  subst he
  exact ⟨_, rfl, _, _, _, [], _, [], hW', trodAll_mk1 (shut_bool Try.underlying4 _), (trodAll_cons_mk (Below.trod laidOut (by kernel_rfl) (of_decide_eq_true (by kernel_rfl)) k0 bel lt0) trodAll_mk0), rfl, bel.frame _, fun h => by cases h⟩

theorem orderSpans_holds : Rows.OrderSpansSaid :=
  OpenClaim.holds_of_wide 6 Try.f6 rfl rfl rfl rfl rfl rfl rfl ⟨rfl, rfl, rfl, rfl, rfl⟩ rfl rfl rfl rfl rfl (by kernel_rfl) Try.func6 (by kernel_rfl)
    (of_decide_eq_true (by kernel_rfl)) (by unfold Func.isWrapper; first | (rw [if_pos (by decide +kernel)]; kernel_rfl) | (rw [if_neg (by decide +kernel)]; exact ⟨rfl, rfl⟩))
    (fun os started H enc _ => orderSpans_lifted os started H enc)
end Go.Proofs.Ytejiijbmmpahhaa
