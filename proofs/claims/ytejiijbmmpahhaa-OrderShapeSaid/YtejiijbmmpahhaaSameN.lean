import Derived.Test.YtejiijbmmpahhaaSameP
import Derived.Test.YtejiijbmmpahhaaHeights
/- SameNodes of equal lists. -/
namespace Go.Proofs.Ytejiijbmmpahhaa
open Go.ChangeShapes Go.WideShapes Go.ChangeAt Go.RowKit Go.Deep

theorem pair_new (w : World) (c d : Array Value) (t : TypeId) : ((w.alloc (.cells c t)).alloc (.cells d t)).drew.heap[w.heap.size]? = some (.cells c t (0, 0)) ∧ ((w.alloc (.cells c t)).alloc (.cells d t)).drew.heap[w.heap.size + 1]? = some (.cells d t (0, 0)) ∧ Touch Nil w ((w.alloc (.cells c t)).alloc (.cells d t)).drew := by
  have ht := ((Touch.refl Nil (w.alloc (.cells c t))).alloc (.cells d t)).drew
  have h2 := heap_alloc_new (w.alloc (.cells c t)) (.cells d t)
  rw [nblk_alloc] at h2
  exact ⟨(ht.same w.heap.size (by simp) (fun c => c)).trans (heap_alloc_new _ _), h2, (((Touch.refl Nil w).alloc _).alloc _).drew⟩
theorem six_cells {w : World} {b t : Nat} {x0 x1 x2 x3 x4 x5 : Value} (h : w.heap[b]? = some (.cells #[x0, x1, x2, x3, x4, x5] t (0, 0))) : w.cell? ⟨b, 0, none⟩ = some x0 ∧ w.cell? ⟨b, 1, none⟩ = some x1 ∧ w.cell? ⟨b, 2, none⟩ = some x2 ∧ w.cell? ⟨b, 3, none⟩ = some x3 ∧ w.cell? ⟨b, 4, none⟩ = some x4 ∧ w.cell? ⟨b, 5, none⟩ = some x5 := by
  refine ⟨?_, ?_, ?_, ?_, ?_, ?_⟩ <;> simp [World.cell?, h]
set_option maxRecDepth 100000 in
set_option maxHeartbeats 4000000 in
theorem sameNodes_any {w : World} {x y : Value} {L : List NodeC} (h : NL w x L) (h' : NL w y L) (hk : ∀ q ∈ L, q.k.length ≤ 1000000 ∧ q.u.length ≤ 1000000) (hn : L.length ≤ 1000000) :
    Calls Try.prog 13 #[x, y] w (TrueP w) := by
  have HK := Lib.hid hk
  obtain ⟨xa, n, xc, rfl⟩ := h.form3
  obtain ⟨ya, n', yc, rfl⟩ := h'.form3
  have hl := h.len
  have hl' := h'.len
  obtain rfl : n = n' := by omega
  have HX := Lib.hid h
  have HY := Lib.hid h'
  have HL := Lib.hid hl
  have hn1 : n ≤ 1000000 := by omega
  have e0 : ((n : Int) != (n : Int)) = false := by simp
  clear h h' hk hn hl hl'
  go_enter Try.func13, Try.ntmps13
  go_wp2_with fail
  go_loopw [5] (fun i wr => ∃ z : Nat, z ≤ n ∧ i = .int .i64 (z : Int) ∧ Touch Nil w wr) (fun i _ => n - (intOf i).toNat)
  case atStart => exact ⟨0, Nat.zero_le _, rfl, Touch.refl _ _⟩
  obtain ⟨z, hz, rfl, hto⟩ := hrel
  have HT := Lib.hid hto
  clear hto
  by_cases hlt : z < n
  · obtain ⟨q, hq⟩ : ∃ q, L[z]? = some q := ⟨L[z]'(by have := HL.out; omega), List.getElem?_eq_getElem _⟩
    obtain ⟨b, off, ka, kc, ua, uc, rfl, hb, ⟨c0, c1, c2, c3, c4, c5⟩, hbk, hbu⟩ := NL.el (HX.out.keepN HT.out) hq
    obtain ⟨b', off', ka', kc', ua', uc', rfl, hb', ⟨d0, d1, d2, d3, d4, d5⟩, hbk', hbu'⟩ := NL.el (HY.out.keepN HT.out) hq
    have HBK := Lib.hid (And.intro hbk hbk')
    have HBU := Lib.hid (And.intro hbu hbu')
    have HQL := Lib.hid (HK.out q (List.mem_of_getElem? hq))
    clear hbk hbk' hbu hbu' hq
    generalize hkl : q.k.length = kl at *
    generalize hul : q.u.length = ul at *
    generalize q.d = qd at *
    generalize q.s = qs at *
    generalize q.l = ql at *
    generalize q.r = qr at *
    have HKL := Lib.hid (And.intro hkl hul)
    clear hkl hul
    have i1 : (z : Int) < (n : Int) := by omega
    have i2 : (0 : Int) ≤ (z : Int) := by omega
    go_upto_region 6 with fail
    go_cut [6, 7] (fun s6 s7 wx => ∃ A B : Nat, s6 = .pointer (some ⟨A, 0, none⟩) ∧ s7 = .pointer (some ⟨B, 0, none⟩) ∧ Hid (wx.heap[A]? = some (.cells #[.slice ka kl kc, .slice ua ul uc, .int .u64 (qd : Int), .int .i64 (qs : Int), .int .i64 ql, .int .i64 qr] 93 (0, 0)) ∧ wx.heap[B]? = some (.cells #[.slice ka' kl kc', .slice ua' ul uc', .int .u64 (qd : Int), .int .i64 (qs : Int), .int .i64 ql, .int .i64 qr] 93 (0, 0))) ∧ Touch Nil wr wx)
    case first =>
      go_region
      all_goals go_wp2_with fail
      all_goals go_meet
      all_goals first
        | exact ⟨_, _, rfl, rfl, Lib.hid ⟨(pair_new _ _ _ _).1, (pair_new _ _ _ _).2.1⟩, (pair_new _ _ _ _).2.2⟩
        | exact ⟨_, _, rfl, rfl, Lib.hid ⟨(pair_new _ _ _ _).2.1, (pair_new _ _ _ _).1⟩, (pair_new _ _ _ _).2.2⟩
    case rest =>
      obtain ⟨A, B, rfl, rfl, HAB, hTc⟩ := hcut
      obtain ⟨v0, v1, v2, v3, v4, v5⟩ := six_cells HAB.out.1
      obtain ⟨p0, p1, p2, p3, p4, p5⟩ := six_cells HAB.out.2
      have HTc := Lib.hid (HT.out.trans hTc)
      have HC1 := Lib.hid (compareV_any (HBK.out.1.keepN hTc) (HBK.out.2.keepN hTc) (by have := HQL.out.1; have := HKL.out.1; omega) (by have := HQL.out.1; have := HKL.out.1; omega))
      have HC2 := Lib.hid (fun n => compareV_any ((HBU.out.1.keepN hTc).keepN ((Touch.refl Nil wc).drewN n)) ((HBU.out.2.keepN hTc).keepN ((Touch.refl Nil wc).drewN n)) (by have := HQL.out.2; have := HKL.out.2; omega) (by have := HQL.out.2; have := HKL.out.2; omega))
      rw [(cmpR_zero q.k q.k).2 rfl] at HC1
      simp only [(cmpR_zero q.u q.u).2 rfl] at HC2
      have z1 : ((qd : Int) != (qd : Int)) = false := by simp
      have z2 : ((qs : Int) != (qs : Int)) = false := by simp
      have z3 : (ql != ql) = false := by simp
      have z4 : (qr != qr) = false := by simp
      clear hTc c0 c1 c2 c3 c4 c5 d0 d1 d2 d3 d4 d5
      go_wp2_with fail
      refine HC1.out.mono ?_
      rintro e w5 ⟨rfl, m5, rfl⟩
      go_wp2_with fail
      refine (HC2.out _).mono ?_
      rintro e w6 ⟨rfl, m6, rfl⟩
      go_wp2_with fail
      go_roundw
      case rel => exact ⟨z + 1, by omega, by go_num, HTc.out.drewN _⟩
      case measure => simp [intOf] <;> omega
  · obtain rfl : z = n := by omega
    have t1 : decide (z < z) = false := by simp
    go_wp2_with fail
    go_ret
    exact ⟨rfl, HT.out⟩
end Go.Proofs.Ytejiijbmmpahhaa
