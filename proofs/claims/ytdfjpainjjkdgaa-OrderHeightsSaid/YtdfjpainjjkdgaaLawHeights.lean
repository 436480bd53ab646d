/-
  OrderHeights: for every seed and any pairs the law returns true: no node of a map stands below one of lesser height, or of the same height and a greater key; and the digest of each is the coin of its pair and of its children's digests.
  No condition beside the statement's own.
-/
import Derived.Test.YtdfjpainjjkdgaaHeights
import Derived.Test.YtdfjpainjjkdgaaOpenP
namespace Go.Proofs.Ytdfjpainjjkdgaa
open Go.ChangeShapes Go.WideShapes Go.ChangeAt Go.RowKit Go.Deep

theorem node6_cells {w : World} {b t : Nat} {x y z u v q : Value} (h : w.heap[b]? = some (.cells #[x, y, z, u, v, q] t (0, 0))) :
    w.cell? ⟨b, 0, none⟩ = some x ∧ w.cell? ⟨b, 1, none⟩ = some y ∧ w.cell? ⟨b, 2, none⟩ = some z ∧ w.cell? ⟨b, 3, none⟩ = some u ∧ w.cell? ⟨b, 4, none⟩ = some v ∧ w.cell? ⟨b, 5, none⟩ = some q := by
  refine ⟨?_, ?_, ?_, ?_, ?_, ?_⟩ <;> simp [World.cell?, h]
theorem node_size {seed : Int} {t : Tree} (hg : GoodT seed t) {i : Nat} {x : NodeC} (h : (nodesT seed 0 t)[i]? = some x) : x.s ≤ t.size := by
  obtain ⟨l, k, u, r, rest, g, e1, e2⟩ := nodes_at seed t 0 i x hg h
  have h1 := congrArg List.length e2
  rw [List.length_drop, List.length_append, nodesT_len, nodesT_len] at h1
  have h2 : x.s = (Tree.node l k u r).size := by rw [e1]; rfl
  omega
theorem touch_base {w0 w w' : World} {mb bb : Nat} (h : Touch Nil w0 w) (ht : Touch (Just bb) w w') (hb : w0.heap.size ≤ bb) : Touch Nil w0 w' := h.trans' ht fun b hb' hs => by have hs : b = bb := hs; omega
set_option maxRecDepth 100000 in
set_option maxHeartbeats 4000000 in
theorem lawHeights_any (seed : Int) {w : World} {x : Value} {P : Pairs} (h : PL w x P) (hn : P.length ≤ 9223372036854775807) (hm : ∀ p ∈ P, p.1.length ≤ 9223372036854775807 ∧ p.2.length ≤ 9223372036854775807) :
    Calls Try.prog 14 #[.int .u64 seed, x] w fun e w' => e = .returned (.bool true) ∧ Below w.heap.size w w' := by
  have HP := Lib.hid h
  have HRI := Lib.hid (rising_any h hn hm)
  obtain ⟨pa, pn, pc, rfl⟩ := h.form3
  clear h hm hn
  go_enter Try.func14, Try.ntmps14
  go_wp2_with fail
  refine HRI.out.mono ?_
  rintro e w1 ⟨lx, ok, rfl, ⟨la, ln, lc, rfl⟩, hok, ht1⟩
  have HT1 := Lib.hid ht1
  have HOK := Lib.hid hok
  clear ht1 hok HRI
  cases ok with
  | false =>
    go_wp2_with fail
    go_ret
    exact ⟨rfl, HT1.out.below_nil⟩
  | true =>
    obtain ⟨hl400, hokl, hlp⟩ := HOK.out rfl
    have HL := Lib.hid (And.intro hl400 hokl)
    have hlen := (show PL w1 (.slice la ln lc) (insAll P []) from hlp).len
    have hl8 : ln ≤ 400 := by have h1 := insAll_len P []; simp at h1; omega
    have HLEN := Lib.hid hlen
    clear hl400 hokl hlp hlen HOK
    go_wp2_with fail
    refine (new_map seed w1).mono ?_
    rintro e w2 ⟨mb, bb, ra, rfl, hm2, hmb, hbb, hne, ht2⟩
    have HM2 := Lib.hid hm2
    have HT2 := Lib.hid (HT1.out.trans ht2)
    have HB := Lib.hid (show w.heap.size ≤ bb from Nat.le_trans HT1.out.size hbb)
    have HPU := Lib.hid (puts_any hm2 (HP.out.keepN HT2.out) HL.out.2 (by have := HL.out.1; simp only [Tree.size]; omega) (fun b c => c.elim))
    clear hm2 hmb hbb hne ht2
    go_wp2_with fail
    refine HPU.out.mono ?_
    rintro e w3 ⟨rfl, ⟨R3, ra3, t, hm3, htl, _⟩, ht3⟩
    have HM3 := Lib.hid hm3
    have HTL := Lib.hid (show t.toL = insAll P [] from htl)
    have HT3 := Lib.hid (touch_base (mb := mb) HT2.out ht3 HB.out)
    have HG := Lib.hid (hm3.good (treeAt_ok hm3.tree))
    clear hm3 htl ht3 HPU
    go_wp2_with fail
    refine (nodes_map HM3.out).mono ?_
    rintro e w4 ⟨nx, rfl, hno, ht4⟩
    have hnl := hno.rl
    obtain ⟨na, nn, nc, rfl⟩ := hnl.form3
    have HNL := Lib.hid hnl
    have HT4 := Lib.hid (HT3.out.trans ht4)
    have HM4 := Lib.hid (HM3.out.keepN ht4)
    have HNN := Lib.hid (show nn = (nodesT seed 0 t).length from hnl.len)
    have HSZ := Lib.hid (show nn = t.size from by rw [hnl.len, nodesT_len])
    have hnl2 : ln = nn := by rw [HLEN.out, HSZ.out, size_toL, HTL.out]
    subst hnl2
    have HNOK := Lib.hid (fun i x hx => node_ok HG.out (i := i) (x := x) hx)
    have HNS := Lib.hid (fun i x hx => node_size HG.out (i := i) (x := x) hx)
    have e0 : ((ln : Int) != (ln : Int)) = false := by simp
    have HN0 := Lib.hid (show ∀ x, (nodesT seed 0 t)[0]? = some x → x.d = digT seed t ∧ x.s = t.size from fun x hx => by
      cases t with
      | nil => simp [nodesT] at hx
      | node l k u r => simp only [nodesT, List.getElem?_cons_zero, Option.some.injEq] at hx; rw [← hx]; exact ⟨rfl, rfl⟩)
    generalize nodesT seed 0 t = N at *
    clear hno hnl ht4 HM2 HM3 HT1 HT2 HT3 HP
    go_wp2_with fail
    go_loopw [9] (fun i wr => ∃ y : Nat, y ≤ ln ∧ i = .int .i64 (y : Int) ∧ Touch Nil w4 wr) (fun i _ => ln - (intOf i).toNat)
    case atStart => exact ⟨0, Nat.zero_le _, rfl, Touch.refl _ _⟩
    obtain ⟨y, hy, rfl, hto⟩ := hrel
    obtain ⟨wq, rfl⟩ : ∃ wq : World, wq = wr := ⟨_, rfl⟩
    have HTO := Lib.hid hto
    clear hto
    by_cases hlt : y < ln
    · obtain ⟨x, hx⟩ : ∃ x, N[y]? = some x := ⟨N[y]'(by have := HNN.out; omega), List.getElem?_eq_getElem _⟩
      have HX := Lib.hid hx
      obtain ⟨dl, dr, sl, sr, hnok⟩ := HNOK.out y x hx
      have HO := Lib.hid hnok
      obtain ⟨b, off, ka, kc, ua, uc, rfl, hb, ⟨c0, c1, c2, c3, c4, c5⟩, hbk, hbu⟩ := NL.el (HNL.out.keepN HTO.out) hx
      have HBK := Lib.hid hbk
      have HBU := Lib.hid hbu
      have i1 : (y : Int) < (ln : Int) := by omega
      have i2 : (0 : Int) ≤ (y : Int) := by omega
      have t1 : decide (y < ln) = true := by simpa using hlt
      generalize hkl : x.k.length = kl at *
      generalize hul : x.u.length = ul at *
      generalize hxd : x.d = xd at *
      generalize hxs : x.s = xs at *
      generalize hxl : x.l = xl at *
      generalize hxr : x.r = xr at *
      have HE := Lib.hid (And.intro hkl (And.intro hul (And.intro hxd (And.intro hxs (And.intro hxl hxr)))))
      clear hx hnok hbk hbu hkl hul hxd hxs hxl hxr
      --IN
      have HTI := Lib.hid (((Touch.refl Nil wq).alloc (.cells #[.slice ka kl kc, .slice ua ul uc, .int .u64 (xd : Int), .int .i64 (xs : Int), .int .i64 xl, .int .i64 xr] 109)).alloc (.cells #[.int .i64 xl, .int .i64 xr] 3))
      have HXB := Lib.hid (show ((wq.alloc (.cells #[.slice ka kl kc, .slice ua ul uc, .int .u64 (xd : Int), .int .i64 (xs : Int), .int .i64 xl, .int .i64 xr] 109)).alloc (.cells #[.int .i64 xl, .int .i64 xr] 3)).heap[wq.heap.size]? = some (.cells #[.slice ka kl kc, .slice ua ul uc, .int .u64 (xd : Int), .int .i64 (xs : Int), .int .i64 xl, .int .i64 xr] 109 (0, 0)) from
        (((Touch.refl Nil _).alloc _).same wq.heap.size (by simp) (fun c => c)).trans (heap_alloc_new _ _))
      have HBB := Lib.hid (show ((wq.alloc (.cells #[.slice ka kl kc, .slice ua ul uc, .int .u64 (xd : Int), .int .i64 (xs : Int), .int .i64 xl, .int .i64 xr] 109)).alloc (.cells #[.int .i64 xl, .int .i64 xr] 3)).heap[wq.heap.size + 1]? = some (.cells #[.int .i64 xl, .int .i64 xr] 3 (0, 0)) from by
        have := heap_alloc_new (wq.alloc (.cells #[.slice ka kl kc, .slice ua ul uc, .int .u64 (xd : Int), .int .i64 (xs : Int), .int .i64 xl, .int .i64 xr] 109)) (.cells #[.int .i64 xl, .int .i64 xr] 3)
        rw [nblk_alloc] at this; exact this)
      go_wp2_with fail
      obtain ⟨B, eB⟩ : ∃ B, wq.heap.size = B := ⟨_, rfl⟩
      obtain ⟨B1, eB1⟩ : ∃ B1, B + 1 = B1 := ⟨_, rfl⟩
      rw [eB] at HXB HBB
      rw [eB1] at HBB
      simp only [eB, eB1]
      generalize (wq.alloc (.cells #[.slice ka kl kc, .slice ua ul uc, .int .u64 (xd : Int), .int .i64 (xs : Int), .int .i64 xl, .int .i64 xr] 109)).alloc (.cells #[.int .i64 xl, .int .i64 xr] 3) = wI at *
      have HBK := Lib.hid (HBK.out.keepN HTI.out)
      have HBU := Lib.hid (HBU.out.keepN HTI.out)
      have HTO := Lib.hid (HTO.out.trans HTI.out)
      have HXS := Lib.hid (show xs ≤ 100000 from by
        have h1 := HSZ.out
        have h2 := HNS.out y x HX.out
        rw [HE.out.2.2.2.1] at h2
        omega)
      clear c0 c1 c2 c3 c4 c5 eB eB1 HTI
      go_loopw [11, 12, 13, 15] (fun s11 s12 s13 s15 wr => ∃ (z a11 a12 a13 : Nat), z ≤ 2 ∧ s15 = .int .i64 (z : Int) ∧ s11 = .int .u64 (a11 : Int) ∧ s12 = .int .u64 (a12 : Int) ∧ s13 = .int .i64 (a13 : Int) ∧ Hid ((z = 0 ∧ 0 = a11 ∧ 0 = a12 ∧ 1 = a13) ∨ (z = 1 ∧ dl = a11 ∧ 0 = a12 ∧ 1 + sl = a13) ∨ (z = 2 ∧ dl = a11 ∧ dr = a12 ∧ 1 + sl + sr = a13)) ∧ Touch Nil wI wr) (fun _ _ _ s15 _ => 2 - (intOf s15).toNat)
      case atStart => exact ⟨0, 0, 0, 1, by omega, rfl, rfl, rfl, rfl, Lib.hid (.inl ⟨rfl, rfl, rfl, rfl⟩), Touch.refl _ _⟩
      obtain ⟨z, a11, a12, a13, hz, rfl, rfl, rfl, rfl, HZ, hs⟩ := hrel
      have HS := Lib.hid hs
      clear hs
      have hxb := node6_cells (((HS.out.same B (Array.getElem?_eq_some_iff.1 HXB.out).1 (fun c => c)).trans HXB.out))
      obtain ⟨m0, m1, m2, m3, m4, m5⟩ := hxb
      have hBlt : B < wr.heap.size := Nat.lt_of_lt_of_le (Array.getElem?_eq_some_iff.1 HXB.out).1 HS.out.size
      obtain ⟨n0, n1⟩ := cells2 (((HS.out.same B1 (Array.getElem?_eq_some_iff.1 HBB.out).1 (fun c => c)).trans HBB.out))
      by_cases hz2 : z < 2
      · clear hz
        rcases HZ.out with ⟨hz0, rfl, rfl, rfl⟩ | ⟨hz0, rfl, rfl, rfl⟩ | ⟨hz0, _⟩
        · clear HZ hz2
          have hzz : ((z : Int) == 0) = true := by simp; omega
          have hzc : wr.cell? ⟨B1, z, none⟩ = some (.int .i64 xl) := by rw [hz0]; exact n0
          have hz2 : (z : Int) < 2 := by omega
          have hz3 : (0 : Int) ≤ (z : Int) := by omega
          have hz4 : decide ((z : Int) < 2) = true := by simp; omega
          have HZ0 := Lib.hid hz0
          have hch := HO.out.left
          rw [HE.out.2.2.2.2.1] at hch
          clear hz0 n0 n1
          rcases hch with ⟨e1, e2, e3⟩ | ⟨j, yy, e1, e2, e3, e4, e5, e6, e7, e8⟩
          · subst e1
            have hm1 : ((-1 : Int) == -1) = true := rfl
            have HD := Lib.hid (And.intro e2 e3)
            clear e2 e3
            go_wp2_with fail
            go_roundw
            case rel => exact ⟨z + 1, dl, 0, 1 + sl, by have := HZ0.out; omega, by go_num, by have h1 := HD.out.1; have h2 := HD.out.2; (first | rfl | (subst_vars; rfl) | (congr 1; omega) | (subst_vars; simp; done) | (subst_vars; go_num)), by have h1 := HD.out.1; have h2 := HD.out.2; (first | rfl | (subst_vars; rfl) | (congr 1; omega) | (subst_vars; simp; done) | (subst_vars; go_num)), by have h1 := HD.out.1; have h2 := HD.out.2; (first | rfl | (subst_vars; rfl) | (congr 1; omega) | (subst_vars; simp; done) | (subst_vars; go_num)), Lib.hid (by have := HZ0.out; exact .inr (.inl ⟨by omega, rfl, rfl, rfl⟩)), HS.out⟩
            case measure => simp [intOf] <;> omega
          · subst e1
            obtain ⟨b2, off2, kb, kbc, ub', ubc, hbb, _, ⟨g0, g1, g2, g3, g4, g5⟩, hbk2, _⟩ := NL.el (HNL.out.keepN (HTO.out.trans HS.out)) e3
            cases hbb
            have hjn : j < ln := by have := (List.getElem?_eq_some_iff.1 e3).1; have := HNN.out; omega
            have hnm : ((j : Int) == -1) = false := by simp <;> omega
            have hj1 : decide ((j : Int) ≤ (y : Int)) = false := by simp; omega
            have hj2 : decide ((ln : Int) ≤ (j : Int)) = false := by simp; omega
            have hj3 : (j : Int) < (ln : Int) := by omega
            have hj4 : (0 : Int) ≤ (j : Int) := by omega
            have hj5 : decide (j ≤ y) = false := by simp; omega
            have hj6 : decide (ln ≤ j) = false := by simp; omega
            have HYK := Lib.hid hbk2
            have HY := Lib.hid (And.intro e4 (And.intro e5 (And.intro e6 (And.intro e7 e8))))
            have hsl : sl ≤ 100000 := by
              have h2 := HO.out.size
              rw [HE.out.2.2.2.1] at h2
              have h3 := HXS.out
              omega
            have hys : yy.s ≤ 1000000 := by
              have h1 := e5
              have h2 := HO.out.size
              rw [HE.out.2.2.2.1] at h2
              have h3 := HXS.out
              omega
            have HHX := Lib.hid (show ∀ w', Touch Nil wr w' → Calls Try.prog 57 #[.int .u64 seed, .int .i64 3, .slice ka kl kc] w' (fun e w'' => e = .returned (.int .u64 (hgt seed x.k)) ∧ w'' = w') from fun w' ht => by
              obtain ⟨_, _, e, _, hs⟩ := (HBK.out.keepN (HS.out.trans ht))
              cases e
              have := coinR_any seed 3 (ub x.k) ka kc w' (by have := HO.out.ok.2.1; simp; omega) hs
              rw [ub_length, HE.out.1] at this
              exact this.mono fun _ _ h => ⟨h.1, h.2.symm⟩)
            have HHY := Lib.hid (show ∀ w', Touch Nil wr w' → Calls Try.prog 57 #[.int .u64 seed, .int .i64 3, .slice kb yy.k.length kbc] w' (fun e w'' => e = .returned (.int .u64 (hgt seed yy.k)) ∧ w'' = w') from fun w' ht => by
              obtain ⟨_, _, e, _, hs⟩ := (HYK.out.keepN ht)
              cases e
              have := coinR_any seed 3 (ub yy.k) kb kbc w' (by have := HY.out.2.2.2.2; simp; omega) hs
              rw [ub_length] at this
              exact this.mono fun _ _ h => ⟨h.1, h.2.symm⟩)
            have HCX := Lib.hid (fun w' (ht : Touch Nil wr w') => compareV_any (HBK.out.keepN (HS.out.trans ht)) (HYK.out.keepN ht) (by have := HO.out.ok.2.1; omega) (by have := HY.out.2.2.2.2; omega))
            have HCY := Lib.hid (fun w' (ht : Touch Nil wr w') => compareV_any (HYK.out.keepN ht) (HBK.out.keepN (HS.out.trans ht)) (by have := HY.out.2.2.2.2; omega) (by have := HO.out.ok.2.1; omega))
            have hab := abv_iff.1 HY.out.2.2.1
            have hcy : decide (cmpR yy.k x.k < 0) = true := by rw [← HY.out.2.2.2.1]; unfold klt; rw [decide_eq_decide]; exact cmpR_neg _ _
            have hcx : klt x.k yy.k = true → decide (0 < cmpR x.k yy.k) = false := fun hk => by
              have := (cmpR_neg x.k yy.k).2 (klt_iff.1 hk)
              rw [decide_eq_false_iff_not]; omega
            have HCXF := Lib.hid hcx
            generalize hgt seed x.k = hx at *
            generalize hgt seed yy.k = hy' at *
            generalize cmpR x.k yy.k = cx at *
            generalize cmpR yy.k x.k = cy at *
            have hlt0 : decide (hx < hy') = false := by rw [decide_eq_false_iff_not]; rcases hab with h | h <;> omega
            generalize hyl : yy.k.length = yl at *
            generalize hyd : yy.d = yd at *
            generalize hysz : yy.s = ys at *
            generalize hyu : yy.u.length = yul at *
            generalize yy.l = yl2 at *
            generalize yy.r = yr2 at *
            have HYD := Lib.hid (show yd = dl ∧ ys = sl from ⟨HY.out.1, HY.out.2.1⟩)
            clear e2 e3 e4 e5 e6 e7 e8 hbk2 hyl hyd hysz hyu hcx
            have hAB : (hx == hy') = false ∨ ((hx == hy') = true ∧ decide (0 < cx) = false) := by
              rcases hab with h | h
              · exact .inl (by simp; omega)
              · exact .inr ⟨by simp; omega, HCXF.out h.2⟩
            clear hab
            have HTA := Lib.hid ((Touch.refl Nil wr).alloc (.cells #[.slice kb yl kbc, .slice ub' yul ubc, .int .u64 (yd : Int), .int .i64 (ys : Int), .int .i64 yl2, .int .i64 yr2] 109))
            rcases hAB with hq1 | ⟨hq1, hq2⟩
            · go_wp2_with fail
              go_quiet ((first
                | (go_at_call_of 57 (Value.slice ka kl kc); exact Calls.quiet_of_same (HHX.out _ (HTA.out.drewN _)))
                | (go_at_call_of 57 (Value.slice kb yl kbc); exact Calls.quiet_of_same (HHY.out _ (HTA.out.drewN _)))))
              go_wp2_with fail
              refine (HCY.out _ (HTA.out.drewN _)).mono ?_
              rintro e w6 ⟨rfl, m6, rfl⟩
              go_wp2_with fail
              go_roundw
              case rel => exact ⟨z + 1, dl, 0, 1 + sl, by have := HZ0.out; omega, by go_num, by have h1 := HYD.out.1; have h2 := HYD.out.2; (first | rfl | (subst_vars; rfl) | (congr 1; omega) | (subst_vars; simp; done) | (subst_vars; go_num)), by have h1 := HYD.out.1; have h2 := HYD.out.2; (first | rfl | (subst_vars; rfl) | (congr 1; omega) | (subst_vars; simp; done) | (subst_vars; go_num)), by have h1 := HYD.out.1; have h2 := HYD.out.2; (first | rfl | (subst_vars; rfl) | (congr 1; omega) | (subst_vars; simp; done) | (subst_vars; go_num)), Lib.hid (by have := HZ0.out; exact .inr (.inl ⟨by omega, rfl, rfl, rfl⟩)), HS.out.trans (HTA.out.drewN _)⟩
              case measure => simp [intOf] <;> omega
            · go_wp2_with fail
              go_quiet ((first
                | (go_at_call_of 57 (Value.slice ka kl kc); exact Calls.quiet_of_same (HHX.out _ (HTA.out.drewN _)))
                | (go_at_call_of 57 (Value.slice kb yl kbc); exact Calls.quiet_of_same (HHY.out _ (HTA.out.drewN _)))))
              go_wp2_with fail
              refine (HCX.out _ (HTA.out.drewN _)).mono ?_
              rintro e w6 ⟨rfl, m6, rfl⟩
              go_wp2_with fail
              refine (HCY.out _ (HTA.out.drewN _)).mono ?_
              rintro e w7 ⟨rfl, m7, rfl⟩
              go_wp2_with fail
              go_roundw
              case rel => exact ⟨z + 1, dl, 0, 1 + sl, by have := HZ0.out; omega, by go_num, by have h1 := HYD.out.1; have h2 := HYD.out.2; (first | rfl | (subst_vars; rfl) | (congr 1; omega) | (subst_vars; simp; done) | (subst_vars; go_num)), by have h1 := HYD.out.1; have h2 := HYD.out.2; (first | rfl | (subst_vars; rfl) | (congr 1; omega) | (subst_vars; simp; done) | (subst_vars; go_num)), by have h1 := HYD.out.1; have h2 := HYD.out.2; (first | rfl | (subst_vars; rfl) | (congr 1; omega) | (subst_vars; simp; done) | (subst_vars; go_num)), Lib.hid (by have := HZ0.out; exact .inr (.inl ⟨by omega, rfl, rfl, rfl⟩)), HS.out.trans (HTA.out.drewN _)⟩
              case measure => simp [intOf] <;> omega
        · clear HZ hz2
          have hzz : ((z : Int) == 0) = false := by simp; omega
          have hzc : wr.cell? ⟨B1, z, none⟩ = some (.int .i64 xr) := by rw [hz0]; exact n1
          have hz2 : (z : Int) < 2 := by omega
          have hz3 : (0 : Int) ≤ (z : Int) := by omega
          have hz4 : decide ((z : Int) < 2) = true := by simp; omega
          have HZ0 := Lib.hid hz0
          have hch := HO.out.right
          rw [HE.out.2.2.2.2.2] at hch
          clear hz0 n0 n1
          rcases hch with ⟨e1, e2, e3⟩ | ⟨j, yy, e1, e2, e3, e4, e5, e6, e7, e8⟩
          · subst e1
            have hm1 : ((-1 : Int) == -1) = true := rfl
            have HD := Lib.hid (And.intro e2 e3)
            clear e2 e3
            go_wp2_with fail
            go_roundw
            case rel => exact ⟨z + 1, dl, dr, 1 + sl + sr, by have := HZ0.out; omega, by go_num, by have h1 := HD.out.1; have h2 := HD.out.2; (first | rfl | (subst_vars; rfl) | (congr 1; omega) | (subst_vars; simp; done) | (subst_vars; go_num)), by have h1 := HD.out.1; have h2 := HD.out.2; (first | rfl | (subst_vars; rfl) | (congr 1; omega) | (subst_vars; simp; done) | (subst_vars; go_num)), by have h1 := HD.out.1; have h2 := HD.out.2; (first | rfl | (subst_vars; rfl) | (congr 1; omega) | (subst_vars; simp; done) | (subst_vars; go_num)), Lib.hid (by have := HZ0.out; exact .inr (.inr ⟨by omega, rfl, rfl, rfl⟩)), HS.out⟩
            case measure => simp [intOf] <;> omega
          · subst e1
            obtain ⟨b2, off2, kb, kbc, ub', ubc, hbb, _, ⟨g0, g1, g2, g3, g4, g5⟩, hbk2, _⟩ := NL.el (HNL.out.keepN (HTO.out.trans HS.out)) e3
            cases hbb
            have hjn : j < ln := by have := (List.getElem?_eq_some_iff.1 e3).1; have := HNN.out; omega
            have hnm : ((j : Int) == -1) = false := by simp <;> omega
            have hj1 : decide ((j : Int) ≤ (y : Int)) = false := by simp; omega
            have hj2 : decide ((ln : Int) ≤ (j : Int)) = false := by simp; omega
            have hj3 : (j : Int) < (ln : Int) := by omega
            have hj4 : (0 : Int) ≤ (j : Int) := by omega
            have hj5 : decide (j ≤ y) = false := by simp; omega
            have hj6 : decide (ln ≤ j) = false := by simp; omega
            have HYK := Lib.hid hbk2
            have HY := Lib.hid (And.intro e4 (And.intro e5 (And.intro e6 (And.intro e7 e8))))
            have hsl : sl ≤ 100000 := by
              have h2 := HO.out.size
              rw [HE.out.2.2.2.1] at h2
              have h3 := HXS.out
              omega
            have hys : yy.s ≤ 1000000 := by
              have h1 := e5
              have h2 := HO.out.size
              rw [HE.out.2.2.2.1] at h2
              have h3 := HXS.out
              omega
            have HHX := Lib.hid (show ∀ w', Touch Nil wr w' → Calls Try.prog 57 #[.int .u64 seed, .int .i64 3, .slice ka kl kc] w' (fun e w'' => e = .returned (.int .u64 (hgt seed x.k)) ∧ w'' = w') from fun w' ht => by
              obtain ⟨_, _, e, _, hs⟩ := (HBK.out.keepN (HS.out.trans ht))
              cases e
              have := coinR_any seed 3 (ub x.k) ka kc w' (by have := HO.out.ok.2.1; simp; omega) hs
              rw [ub_length, HE.out.1] at this
              exact this.mono fun _ _ h => ⟨h.1, h.2.symm⟩)
            have HHY := Lib.hid (show ∀ w', Touch Nil wr w' → Calls Try.prog 57 #[.int .u64 seed, .int .i64 3, .slice kb yy.k.length kbc] w' (fun e w'' => e = .returned (.int .u64 (hgt seed yy.k)) ∧ w'' = w') from fun w' ht => by
              obtain ⟨_, _, e, _, hs⟩ := (HYK.out.keepN ht)
              cases e
              have := coinR_any seed 3 (ub yy.k) kb kbc w' (by have := HY.out.2.2.2.2; simp; omega) hs
              rw [ub_length] at this
              exact this.mono fun _ _ h => ⟨h.1, h.2.symm⟩)
            have HCX := Lib.hid (fun w' (ht : Touch Nil wr w') => compareV_any (HBK.out.keepN (HS.out.trans ht)) (HYK.out.keepN ht) (by have := HO.out.ok.2.1; omega) (by have := HY.out.2.2.2.2; omega))
            have HCY := Lib.hid (fun w' (ht : Touch Nil wr w') => compareV_any (HYK.out.keepN ht) (HBK.out.keepN (HS.out.trans ht)) (by have := HY.out.2.2.2.2; omega) (by have := HO.out.ok.2.1; omega))
            have hab := abv_iff.1 HY.out.2.2.1
            have hcy : decide (cmpR yy.k x.k < 0) = false := by rw [← HY.out.2.2.2.1]; unfold klt; rw [decide_eq_decide]; exact cmpR_neg _ _
            have hcx : klt x.k yy.k = true → decide (0 < cmpR x.k yy.k) = false := fun hk => by
              have := (cmpR_neg x.k yy.k).2 (klt_iff.1 hk)
              rw [decide_eq_false_iff_not]; omega
            have HCXF := Lib.hid hcx
            generalize hgt seed x.k = hx at *
            generalize hgt seed yy.k = hy' at *
            generalize cmpR x.k yy.k = cx at *
            generalize cmpR yy.k x.k = cy at *
            have hlt0 : decide (hx < hy') = false := by rw [decide_eq_false_iff_not]; rcases hab with h | h <;> omega
            generalize hyl : yy.k.length = yl at *
            generalize hyd : yy.d = yd at *
            generalize hysz : yy.s = ys at *
            generalize hyu : yy.u.length = yul at *
            generalize yy.l = yl2 at *
            generalize yy.r = yr2 at *
            have HYD := Lib.hid (show yd = dr ∧ ys = sr from ⟨HY.out.1, HY.out.2.1⟩)
            clear e2 e3 e4 e5 e6 e7 e8 hbk2 hyl hyd hysz hyu hcx
            have hAB : (hx == hy') = false ∨ ((hx == hy') = true ∧ decide (0 < cx) = false) := by
              rcases hab with h | h
              · exact .inl (by simp; omega)
              · exact .inr ⟨by simp; omega, HCXF.out h.2⟩
            clear hab
            have HTA := Lib.hid ((Touch.refl Nil wr).alloc (.cells #[.slice kb yl kbc, .slice ub' yul ubc, .int .u64 (yd : Int), .int .i64 (ys : Int), .int .i64 yl2, .int .i64 yr2] 109))
            rcases hAB with hq1 | ⟨hq1, hq2⟩
            · go_wp2_with fail
              go_quiet ((first
                | (go_at_call_of 57 (Value.slice ka kl kc); exact Calls.quiet_of_same (HHX.out _ (HTA.out.drewN _)))
                | (go_at_call_of 57 (Value.slice kb yl kbc); exact Calls.quiet_of_same (HHY.out _ (HTA.out.drewN _)))))
              go_wp2_with fail
              refine (HCY.out _ (HTA.out.drewN _)).mono ?_
              rintro e w6 ⟨rfl, m6, rfl⟩
              go_wp2_with fail
              go_roundw
              case rel => exact ⟨z + 1, dl, dr, 1 + sl + sr, by have := HZ0.out; omega, by go_num, by have h1 := HYD.out.1; have h2 := HYD.out.2; (first | rfl | (subst_vars; rfl) | (congr 1; omega) | (subst_vars; simp; done) | (subst_vars; go_num)), by have h1 := HYD.out.1; have h2 := HYD.out.2; (first | rfl | (subst_vars; rfl) | (congr 1; omega) | (subst_vars; simp; done) | (subst_vars; go_num)), by have h1 := HYD.out.1; have h2 := HYD.out.2; (first | rfl | (subst_vars; rfl) | (congr 1; omega) | (subst_vars; simp; done) | (subst_vars; go_num)), Lib.hid (by have := HZ0.out; exact .inr (.inr ⟨by omega, rfl, rfl, rfl⟩)), HS.out.trans (HTA.out.drewN _)⟩
              case measure => simp [intOf] <;> omega
            · go_wp2_with fail
              go_quiet ((first
                | (go_at_call_of 57 (Value.slice ka kl kc); exact Calls.quiet_of_same (HHX.out _ (HTA.out.drewN _)))
                | (go_at_call_of 57 (Value.slice kb yl kbc); exact Calls.quiet_of_same (HHY.out _ (HTA.out.drewN _)))))
              go_wp2_with fail
              refine (HCX.out _ (HTA.out.drewN _)).mono ?_
              rintro e w6 ⟨rfl, m6, rfl⟩
              go_wp2_with fail
              refine (HCY.out _ (HTA.out.drewN _)).mono ?_
              rintro e w7 ⟨rfl, m7, rfl⟩
              go_wp2_with fail
              go_roundw
              case rel => exact ⟨z + 1, dl, dr, 1 + sl + sr, by have := HZ0.out; omega, by go_num, by have h1 := HYD.out.1; have h2 := HYD.out.2; (first | rfl | (subst_vars; rfl) | (congr 1; omega) | (subst_vars; simp; done) | (subst_vars; go_num)), by have h1 := HYD.out.1; have h2 := HYD.out.2; (first | rfl | (subst_vars; rfl) | (congr 1; omega) | (subst_vars; simp; done) | (subst_vars; go_num)), by have h1 := HYD.out.1; have h2 := HYD.out.2; (first | rfl | (subst_vars; rfl) | (congr 1; omega) | (subst_vars; simp; done) | (subst_vars; go_num)), Lib.hid (by have := HZ0.out; exact .inr (.inr ⟨by omega, rfl, rfl, rfl⟩)), HS.out.trans (HTA.out.drewN _)⟩
              case measure => simp [intOf] <;> omega
        · omega
      · have HZ2 := Lib.hid (show dl = a11 ∧ dr = a12 ∧ 1 + sl + sr = a13 from by
          rcases HZ.out with ⟨hz0, _⟩ | ⟨hz0, _⟩ | ⟨_, h⟩
          · omega
          · omega
          · exact h)
        have hz4 : decide ((z : Int) < 2) = false := by simp; omega
        have hz5 : decide (z < 2) = false := by simp; omega
        obtain ⟨e1, e2, e3⟩ := HZ2.out
        have hq : ((xs : Int) != (a13 : Int)) = false := by
          have h2 := HO.out.size
          rw [HE.out.2.2.2.1] at h2
          simp; omega
        have hq2 : ((xd : Int) != (xd : Int)) = false := by simp
        have HMK := Lib.hid (show ∀ w', Touch Nil wr w' → Calls Try.prog 59 #[.int .u64 seed, .int .u64 (a11 : Int), .slice ka kl kc, .slice ua ul uc, .int .u64 (a12 : Int)] w' (DigPost xd w') from fun w' ht => by
          have h1 := mark_any seed x.k x.u (.slice ka kl kc) (.slice ua ul uc) a11 a12 w' (HBK.out.keepN (HS.out.trans ht)) (HBU.out.keepN (HS.out.trans ht)) (by have := HO.out.ok.2.1; omega) (by have := HO.out.ok.2.2; omega) (by rw [← e1]; exact HO.out.bl) (by rw [← e2]; exact HO.out.br)
          rw [← e1, ← e2, ← HO.out.dig, HE.out.2.2.1, e1, e2] at h1
          exact h1)
        have HST := Lib.hid (fun w' (ht : Touch Nil wr w') => show w'.cell? ⟨B, 0, none⟩ = some (.slice ka kl kc) ∧ w'.cell? ⟨B, 1, none⟩ = some (.slice ua ul uc) ∧ w'.cell? ⟨B, 2, none⟩ = some (.int .u64 (xd : Int)) ∧ w'.cell? ⟨B, 3, none⟩ = some (.int .i64 (xs : Int)) ∧ Hid (Touch Nil wr w') from ⟨cell_step m0 ht, cell_step m1 ht, cell_step m2 ht, cell_step m3 ht, Lib.hid ht⟩)
        clear e1 e2 e3 hz hz2 HZ HZ2 n0 n1 m4 m5 hBlt
        go_wp2_with fail
        go_region_held3 (fun w' => w'.cell? ⟨B, 0, none⟩ = some (.slice ka kl kc) ∧ w'.cell? ⟨B, 1, none⟩ = some (.slice ua ul uc) ∧ w'.cell? ⟨B, 2, none⟩ = some (.int .u64 (xd : Int)) ∧ w'.cell? ⟨B, 3, none⟩ = some (.int .i64 (xs : Int)) ∧ Hid (Touch Nil wr w'))
          (first | (with_reducible exact HST.out _ hT3) | (with_reducible exact HST.out _ (Touch.refl Nil wr).drew))
          (first
            | (go_at_call 59; refine (HMK.out _ (Hid.out (And.right (And.right (And.right (And.right (by assumption))))))).mono ?_; rintro e w3 ⟨rfl, ht3⟩; have hT3 : Touch Nil wr w3 := (by first | (with_reducible exact (Touch.refl Nil wr).drew.trans ht3) | (with_reducible exact Touch.trans ((Touch.refl Nil wr).drewN _) ht3)); clear ht3))
        all_goals
          go_wp2_with fail
          go_roundw
        case rel => exact ⟨y + 1, by omega, by go_num, (HTO.out.trans HS.out).trans hT3⟩
        case measure => simp [intOf] <;> omega
    · obtain rfl : y = ln := by omega
      have t1 : decide (y < y) = false := by simp
      have HMR := Lib.hid (HM4.out.keepN HTO.out)
      have HDG := Lib.hid (fun n => digest_map (HMR.out.keepN ((Touch.refl Nil wq).drewN n)))
      have HLE := Lib.hid (fun n => len_map (HMR.out.keepN ((Touch.refl Nil wq).drewN n)))
      have HTW := Lib.hid ((HT4.out.trans HTO.out).below_nil)
      rw [← HSZ.out] at HLE
      cases hz : ((y : Int) == 0) with
      | true =>
        go_wp2_with fail
        go_quiet (fail)
        go_wp2_with fail
        go_ret
        exact ⟨rfl, ((HT4.out.trans HTO.out).drewN _).below_nil⟩
      | false =>
        have hy0 : 0 < y := by
          rcases Nat.eq_zero_or_pos y with h | h
          · rw [h] at hz; simp at hz
          · exact h
        have hx : N[0]? = some (N[0]'(by have := HNN.out; omega)) := List.getElem?_eq_getElem _
        obtain ⟨hd, hs⟩ := HN0.out _ hx
        obtain ⟨b, off, ka, kc, ua, uc, rfl, hb, ⟨c0, c1, c2, c3, c4, c5⟩, _, _⟩ := NL.el (HNL.out.keepN HTO.out) hx
        rw [hd] at c2
        rw [hs, ← HSZ.out] at c3
        simp only [Nat.zero_mul, Nat.add_zero] at c2 c3
        have i1 : (0 : Int) < (y : Int) := by omega
        generalize digT seed t = D at *
        have z1 : ((D : Int) == (D : Int)) = true := by simp
        have z2 : ((y : Int) == (y : Int)) = true := by simp
        clear hd hs c0 c1 c4 c5 hx
        go_wp2_with fail
        go_quiet ((first
          | (go_at_call 28; refine Calls.quiet_of_same (v := .int .u64 (D : Int)) ?_; exact (HDG.out _).mono fun _ _ h => ⟨h.1, h.2.symm⟩)
          | (go_at_call 33; refine Calls.quiet_of_same (v := .int .i64 (y : Int)) ?_; exact (HLE.out _).mono fun _ _ h => ⟨h.1, h.2.symm⟩)))
        go_wp2_with fail
        go_ret
        exact ⟨rfl, ((HT4.out.trans HTO.out).drewN _).below_nil⟩

set_option maxRecDepth 100000 in
theorem orderHeights_lifted (os : Os) (started : os.Started) (H : Type) (enc : TypeId × Value → H) :
    ReturnsInHanded {} Try.checked os 14 .any (Rows.orderHeightsSpec.pre6 enc Try.prog Try.f14 Rows.orderHeightsRow.domain false) (Rows.orderHeightsSpec.post enc Try.prog Try.f14 false true false false) := by
  refine returnsInHanded_of_change (C := Try.checked) own started (by kernel_rfl) Try.func14
    (ChangeSpec.witness6 (enc := enc) (C := Try.checked) false ⟨#[], #[.int .u64 0, .slice none 0 0], []⟩ 8 (by kernel_rfl) (by kernel_rfl) (by kernel_rfl) (by kernel_rfl)) ?_
  intro W base args ds gs before hval0 hW _ _
  have hval : ∀ (j : Nat) t v, Try.f14.params[j]? = some t → args[j]? = some v → Value.okWide Try.prog W .any base t v := hval0
  have hW' := hW
  obtain ⟨p, q, hA0, hV, rfl, hfz, hnd⟩ := hW
  have hA : DataW.TrodAll enc Try.prog W 0 (fun _ => true) true Try.f14.params.toList args.toList ds p := hA0
  rw [Try.params14] at hA hval
  obtain ⟨v0, vs0, d0, ds0, p0, q0, hargs, rfl, rfl, h0, r0⟩ := trodAll_cons hA
  obtain ⟨v1, vs1, d1, ds1, p1, q1, rfl, rfl, rfl, h1, r1⟩ := trodAll_cons r0
  obtain ⟨rfl, rfl, rfl⟩ := trodAll_nil r1
  obtain rfl : args = #[v0, v1] := by cases args; simp_all
  obtain ⟨rfl, rfl⟩ := trodVars_none hV
  obtain ⟨seed, rfl, rfl, rfl, w0⟩ := open_int Try.underlying22 (hval 0 22 v0 rfl rfl) h0
  obtain ⟨ao, len, cap, rfl⟩ := okWide_slice Try.underlying26 (hval 1 26 v1 rfl rfl)
  have k1 := h1
  have lt1 : ∀ x ∈ p1, x.block < W.heap.size := by obtain ⟨m, hm⟩ := k1; exact DataW.trod_lt m _ _ _ hm
  obtain ⟨fuel, hf⟩ := h1
  obtain ⟨L, hpl, hm, hmm⟩ := open_pairs hf
  clear hA0 hval0
  unfold maxLen at hm hmm
  refine (lawHeights_any seed hpl (by omega) (fun p hp => by have := hmm p hp; omega)).mono fun e W' ⟨he, bel⟩ => ?_
  subst he
  exact ⟨_, rfl, _, _, _, [], _, [], hW', trodAll_mk1 (shut_bool Try.underlying4 _), (trodAll_cons_mk (shut_int Try.underlying22 w0) (trodAll_cons_mk (Below.trod laidOut (by kernel_rfl) (of_decide_eq_true (by kernel_rfl)) k1 bel lt1) trodAll_mk0)), rfl, bel.frame _, fun h => by cases h⟩

theorem orderHeights_holds : Rows.OrderHeightsSaid :=
  OpenClaim.holds_of_wide 14 Try.f14 rfl rfl rfl rfl rfl rfl rfl ⟨rfl, rfl, rfl, rfl, rfl⟩ rfl rfl rfl rfl rfl (by kernel_rfl) Try.func14 (by kernel_rfl)
    (of_decide_eq_true (by kernel_rfl)) (by unfold Func.isWrapper; first | (rw [if_pos (by decide +kernel)]; kernel_rfl) | (rw [if_neg (by decide +kernel)]; exact ⟨rfl, rfl⟩))
    (fun os started H enc _ => orderHeights_lifted os started H enc)
end Go.Proofs.Ytdfjpainjjkdgaa
