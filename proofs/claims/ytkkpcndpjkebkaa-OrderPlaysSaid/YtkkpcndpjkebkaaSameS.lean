import Derived.Test.YtkkpcndpjkebkaaSameP
import Derived.Test.YtkkpcndpjkebkaaHeights
import Derived.Test.YtkkpcndpjkebkaaProveR
import Derived.Test.YtkkpcndpjkebkaaCheck
import Derived.Test.YtkkpcndpjkebkaaPart
import Derived.Test.YtkkpcndpjkebkaaRefP
/- SameNodes of equal lists. -/
namespace Go.Proofs.Ytkkpcndpjkebkaa
open Go.ChangeShapes Go.WideShapes Go.ChangeAt Go.RowKit Go.Deep

theorem pair_new (w : World) (c d : Array Value) (t : TypeId) : ((w.alloc (.cells c t)).alloc (.cells d t)).drew.heap[w.heap.size]? = some (.cells c t (0, 0)) ∧ ((w.alloc (.cells c t)).alloc (.cells d t)).drew.heap[w.heap.size + 1]? = some (.cells d t (0, 0)) ∧ Touch Nil w ((w.alloc (.cells c t)).alloc (.cells d t)).drew := by
  have ht := ((Touch.refl Nil (w.alloc (.cells c t))).alloc (.cells d t)).drew
  have h2 := heap_alloc_new (w.alloc (.cells c t)) (.cells d t)
  rw [nblk_alloc] at h2
  exact ⟨(ht.same w.heap.size (by simp) (fun c => c)).trans (heap_alloc_new _ _), h2, (((Touch.refl Nil w).alloc _).alloc _).drew⟩
theorem six_cells {w : World} {b t : Nat} {x0 x1 x2 x3 x4 x5 : Value} (h : w.heap[b]? = some (.cells #[x0, x1, x2, x3, x4, x5] t (0, 0))) : w.cell? ⟨b, 0, none⟩ = some x0 ∧ w.cell? ⟨b, 1, none⟩ = some x1 ∧ w.cell? ⟨b, 2, none⟩ = some x2 ∧ w.cell? ⟨b, 3, none⟩ = some x3 ∧ w.cell? ⟨b, 4, none⟩ = some x4 ∧ w.cell? ⟨b, 5, none⟩ = some x5 := by
  refine ⟨?_, ?_, ?_, ?_, ?_, ?_⟩ <;> simp [World.cell?, h]
set_option maxRecDepth 100000 in
set_option maxHeartbeats 4000000 in
theorem sameNodes_any {w : World} {x y : Value} {L : List NodeC} (h : NL w x L) (h' : NL w y L) (hk : ∀ q ∈ L, q.k.length ≤ 1000000 ∧ q.u.length ≤ 1000000) (hn : L.length ≤ 1000000) :
    Calls Try.prog 19 #[x, y] w (TrueP w) := by
  have HK := Lib.hid hk
  obtain ⟨xa, n, xc, rfl⟩ := h.form3
  obtain ⟨ya, n', yc, rfl⟩ := h'.form3
  have hl := h.len
  have hl' := h'.len
  obtain rfl : n = n' := by omega
  have HX := Lib.hid h
  have HY := Lib.hid h'
  have HL := Lib.hid hl
  have hn1 : n ≤ 1000000 := by omega
  have e0 : ((n : Int) != (n : Int)) = false := by simp
  clear h h' hk hn hl hl'
  go_enter Try.func19, Try.ntmps19
  go_wp2_with fail
  go_loopw [5] (fun i wr => ∃ z : Nat, z ≤ n ∧ i = .int .i64 (z : Int) ∧ Touch Nil w wr) (fun i _ => n - (intOf i).toNat)
  case atStart => exact ⟨0, Nat.zero_le _, rfl, Touch.refl _ _⟩
  obtain ⟨z, hz, rfl, hto⟩ := hrel
  have HT := Lib.hid hto
  clear hto
  by_cases hlt : z < n
  · obtain ⟨q, hq⟩ : ∃ q, L[z]? = some q := ⟨L[z]'(by have := HL.out; omega), List.getElem?_eq_getElem _⟩
    obtain ⟨b, off, ka, kc, ua, uc, rfl, hb, ⟨c0, c1, c2, c3, c4, c5⟩, hbk, hbu⟩ := NL.el (HX.out.keepN HT.out) hq
    obtain ⟨b', off', ka', kc', ua', uc', rfl, hb', ⟨d0, d1, d2, d3, d4, d5⟩, hbk', hbu'⟩ := NL.el (HY.out.keepN HT.out) hq
    have HBK := Lib.hid (And.intro hbk hbk')
    have HBU := Lib.hid (And.intro hbu hbu')
    have HQL := Lib.hid (HK.out q (List.mem_of_getElem? hq))
    clear hbk hbk' hbu hbu' hq
    generalize hkl : q.k.length = kl at *
    generalize hul : q.u.length = ul at *
    generalize q.d = qd at *
    generalize q.s = qs at *
    generalize q.l = ql at *
    generalize q.r = qr at *
    have HKL := Lib.hid (And.intro hkl hul)
    clear hkl hul
    have i1 : (z : Int) < (n : Int) := by omega
    have i2 : (0 : Int) ≤ (z : Int) := by omega
    go_upto_region 6 with fail
    go_cut [6, 7] (fun s6 s7 wx => ∃ A B : Nat, s6 = .pointer (some ⟨A, 0, none⟩) ∧ s7 = .pointer (some ⟨B, 0, none⟩) ∧ Hid (wx.heap[A]? = some (.cells #[.slice ka kl kc, .slice ua ul uc, .int .u64 (qd : Int), .int .i64 (qs : Int), .int .i64 ql, .int .i64 qr] 109 (0, 0)) ∧ wx.heap[B]? = some (.cells #[.slice ka' kl kc', .slice ua' ul uc', .int .u64 (qd : Int), .int .i64 (qs : Int), .int .i64 ql, .int .i64 qr] 109 (0, 0))) ∧ Touch Nil wr wx)
    case first =>
      go_region
      all_goals go_wp2_with fail
      all_goals go_meet
      all_goals first
        | exact ⟨_, _, rfl, rfl, Lib.hid ⟨(pair_new _ _ _ _).1, (pair_new _ _ _ _).2.1⟩, (pair_new _ _ _ _).2.2⟩
        | exact ⟨_, _, rfl, rfl, Lib.hid ⟨(pair_new _ _ _ _).2.1, (pair_new _ _ _ _).1⟩, (pair_new _ _ _ _).2.2⟩
    case rest =>
      obtain ⟨A, B, rfl, rfl, HAB, hTc⟩ := hcut
      obtain ⟨v0, v1, v2, v3, v4, v5⟩ := six_cells HAB.out.1
      obtain ⟨p0, p1, p2, p3, p4, p5⟩ := six_cells HAB.out.2
      have HTc := Lib.hid (HT.out.trans hTc)
      have HC1 := Lib.hid (compareV_any (HBK.out.1.keepN hTc) (HBK.out.2.keepN hTc) (by have := HQL.out.1; have := HKL.out.1; omega) (by have := HQL.out.1; have := HKL.out.1; omega))
      have HC2 := Lib.hid (fun n => compareV_any ((HBU.out.1.keepN hTc).keepN ((Touch.refl Nil wc).drewN n)) ((HBU.out.2.keepN hTc).keepN ((Touch.refl Nil wc).drewN n)) (by have := HQL.out.2; have := HKL.out.2; omega) (by have := HQL.out.2; have := HKL.out.2; omega))
      rw [(cmpR_zero q.k q.k).2 rfl] at HC1
      simp only [(cmpR_zero q.u q.u).2 rfl] at HC2
      have z1 : ((qd : Int) != (qd : Int)) = false := by simp
      have z2 : ((qs : Int) != (qs : Int)) = false := by simp
      have z3 : (ql != ql) = false := by simp
      have z4 : (qr != qr) = false := by simp
      clear hTc c0 c1 c2 c3 c4 c5 d0 d1 d2 d3 d4 d5
      go_wp2_with fail
      refine HC1.out.mono ?_
      rintro e w5 ⟨rfl, m5, rfl⟩
      go_wp2_with fail
      refine (HC2.out _).mono ?_
      rintro e w6 ⟨rfl, m6, rfl⟩
      go_wp2_with fail
      go_roundw
      case rel => exact ⟨z + 1, by omega, by go_num, HTc.out.drewN _⟩
      case measure => simp [intOf] <;> omega
  · obtain rfl : z = n := by omega
    have t1 : decide (z < z) = false := by simp
    go_wp2_with fail
    go_ret
    exact ⟨rfl, HT.out⟩
end Go.Proofs.Ytkkpcndpjkebkaa

/- A step of a proof as a variable. -/
namespace Go.Proofs.Ytkkpcndpjkebkaa
open Go.ChangeShapes Go.WideShapes Go.ChangeAt Go.RowKit Go.Deep

def StepsPost (seed : Int) (key : Key) (t : Tree) (w : World) (e : Ending) (w' : World) : Prop := ∃ x, e = .returned x ∧ SL w' x (pathT seed key t) ∧ Touch Nil w w'
/-- A step's variable, as far as it is filled. -/
structure StepV (w X : World) (A11 : Nat) (kx ux : Value) (dl dr : Nat) (A10 : Nat) (N6 : Array Value) : Prop where
  s : X.heap[A11]? = some (.cells #[kx, ux, .int .u64 (dl : Int), .int .u64 (dr : Int)] 76 (0, 0))
  n : X.heap[A10]? = some (.cells N6 109 (0, 0))
  t : Touch Nil w X
  a : w.heap.size ≤ A11
theorem side_cells {w : World} {b t : Nat} {x y z u : Value} (h : w.heap[b]? = some (.cells #[x, y, z, u] t (0, 0))) : (w.cell? ⟨b, 0, none⟩ = some x ∧ w.cell? ⟨b, 1, none⟩ = some y ∧ w.cell? ⟨b, 2, none⟩ = some z ∧ w.cell? ⟨b, 3, none⟩ = some u) ∧ w.frozen? ⟨b, 2, none⟩ = false ∧ w.frozen? ⟨b, 3, none⟩ = false := by
  refine ⟨⟨?_, ?_, ?_, ?_⟩, ?_, ?_⟩ <;> simp [World.cell?, World.frozen?, h]
theorem node6 {w : World} {b t : Nat} {x y z u v q : Value} (h : w.heap[b]? = some (.cells #[x, y, z, u, v, q] t (0, 0))) :
    w.cell? ⟨b, 0, none⟩ = some x ∧ w.cell? ⟨b, 1, none⟩ = some y ∧ w.cell? ⟨b, 2, none⟩ = some z ∧ w.cell? ⟨b, 3, none⟩ = some u ∧ w.cell? ⟨b, 4, none⟩ = some v ∧ w.cell? ⟨b, 5, none⟩ = some q := by
  refine ⟨?_, ?_, ?_, ?_, ?_, ?_⟩ <;> simp [World.cell?, h]
theorem stepvA {w : World} (kx ux : Value) (dl dr : Nat) (N6 : Array Value) : StepV w ((w.alloc (.cells N6 109)).alloc (.cells #[kx, ux, .int .u64 (dl : Int), .int .u64 (dr : Int)] 76)) (w.heap.size + 1) kx ux dl dr w.heap.size N6 :=
  ⟨by have := heap_alloc_new (w.alloc (.cells N6 109)) (.cells #[kx, ux, .int .u64 (dl : Int), .int .u64 (dr : Int)] 76); rw [nblk_alloc] at this; exact this,
    (((Touch.refl Nil (w.alloc (.cells N6 109))).alloc _).same w.heap.size (by simp) (fun c => c)).trans (heap_alloc_new _ _), ((Touch.refl Nil w).alloc _).alloc _, by omega⟩
theorem StepV.set {w X : World} {A11 A10 : Nat} {kx ux : Value} {dl dr : Nat} {N6 : Array Value} (h : StepV w X A11 kx ux dl dr A10 N6) (o d dl' dr' : Nat) (ho : (o = 2 ∧ dl' = d ∧ dr' = dr) ∨ (o = 3 ∧ dl' = dl ∧ dr' = d)) : StepV w (X.setCell ⟨A11, o, none⟩ (.int .u64 (d : Int))) A11 kx ux dl' dr' A10 N6 := by
  have hne : A10 ≠ A11 := fun e => by
    have h1 := h.s
    rw [← e, h.n] at h1
    injection h1 with h1
    injection h1 with _ h1
    exact absurd h1 (by decide)
  have hs : (⟨A11, o, none⟩ : Addr).block < X.heap.size → Just A11 (⟨A11, o, none⟩ : Addr).block := fun _ => rfl
  have ht := (Touch.refl (Just A11) X).setCell ⟨A11, o, none⟩ (.int .u64 (d : Int)) hs
  have hrow : X.rowIs A11 76 4 (fun i => #[kx, ux, .int .u64 (dl : Int), .int .u64 (dr : Int)].getD i undef) := ⟨_, h.s, rfl, fun i hi => by
    have : i = 0 ∨ i = 1 ∨ i = 2 ∨ i = 3 := by omega
    rcases this with rfl | rfl | rfl | rfl <;> rfl⟩
  refine ⟨row_block ((hrow.set o (.int .u64 (d : Int))).congr (g := fun i => #[kx, ux, .int .u64 (dl' : Int), .int .u64 (dr' : Int)].getD i undef) fun i hi => ?_), (ht.same A10 (Array.getElem?_eq_some_iff.1 h.n).1 (fun e => hne e)).trans h.n, h.t.setCell _ _ (fun hl => by have hl : A11 < w.heap.size := hl; have := h.a; omega), h.a⟩
  have : i = 0 ∨ i = 1 ∨ i = 2 ∨ i = 3 := by omega
  rcases ho with ⟨rfl, rfl, rfl⟩ | ⟨rfl, rfl, rfl⟩ <;> rcases this with rfl | rfl | rfl | rfl <;> rfl
end Go.Proofs.Ytkkpcndpjkebkaa

/- order.Check. -/
namespace Go.Proofs.Ytkkpcndpjkebkaa
open Go.ChangeShapes Go.WideShapes Go.ChangeAt Go.RowKit Go.Deep

theorem box_cells {w w' : World} {x y z u : Value} {t b : Nat} (h : w.heap[b]? = some (.cells #[x, y, z, u] t (0, 0))) (ht : Touch Nil w w') :
    w'.cell? ⟨b, 0, none⟩ = some x ∧ w'.cell? ⟨b, 1, none⟩ = some y ∧ w'.cell? ⟨b, 2, none⟩ = some z ∧ w'.cell? ⟨b, 3, none⟩ = some u := by
  have e := (ht.same b (Array.getElem?_eq_some_iff.1 h).1 (fun c => c)).trans h
  refine ⟨?_, ?_, ?_, ?_⟩ <;> simp [World.cell?, e]

theorem okK_len {a b : Nat} (h : allowB a b = true) : a ≤ 64 ∧ b ≤ 1000 := by
  unfold allowB at h
  have := of_decide_eq_true h
  omega
set_option maxRecDepth 100000 in
set_option maxHeartbeats 4000000 in
theorem checkP_any (seed : Int) (d0 : Nat) (hd0 : d0 ≤ 18446744073709551615) {w : World} {qx : Value} {key : Key} {ao : Option Addr} {n : Nat} (cap : Nat) {v : Nat → Nat → Value} {kk vv : Nat → Key} {dl dr : Nat → Nat} (hq : BV w qx key) (h : Sds w ao n v kk vv dl dr) (hn : n ≤ 100000) (hl : ∀ i, i < n → (kk i).length ≤ 9223372036854775807 ∧ (vv i).length ≤ 9223372036854775807) :
    Calls Try.prog 35 #[.int .u64 seed, .int .u64 (d0 : Int), qx, .slice ao n cap] w (ChkPost vv n (chk seed key kk vv dl dr n n 0 d0) w) := by
  have HS := Lib.hid h
  have HQ := Lib.hid hq
  have HL := Lib.hid hl
  have HR : ∃ R, chk seed key kk vv dl dr n n 0 d0 = R := ⟨_, rfl⟩
  obtain ⟨R, eR⟩ := HR
  rw [eR]
  have HR0 := Lib.hid eR
  obtain ⟨qa, qc, rfl, _, _⟩ := hq
  have HE : ∃ ql, key.length = ql := ⟨_, rfl⟩
  obtain ⟨ql, eql⟩ := HE
  rw [eql] at HQ ⊢
  have d1 : decide ((100000 : Int) < (n : Int)) = false := by rw [decide_eq_false_iff_not]; omega
  have d1' : decide (100000 < n) = false := by rw [decide_eq_false_iff_not]; omega
  clear h hl eR eql
  go_enter Try.func35, Try.ntmps35
  go_wp2_with fail
  go_loopw [1, 18] (fun d i wr => ∃ x D : Nat, x ≤ n ∧ i = .int .i64 (x : Int) ∧ d = .int .u64 (D : Int) ∧ D ≤ 18446744073709551615 ∧ Hid (chk seed key kk vv dl dr n (n - x) x D = R) ∧ Touch Nil w wr) (fun _ i _ => n - (intOf i).toNat)
  case atStart => exact ⟨0, d0, Nat.zero_le _, rfl, rfl, hd0, HR0, Touch.refl _ _⟩
  obtain ⟨x, D, hx, rfl, rfl, hD, HC, hto⟩ := hrel
  have HT := Lib.hid hto
  clear hto
  by_cases hlt : x < n
  · have HSR := Lib.hid (HS.out.keepN HT.out)
    obtain ⟨b, off, rfl, hb, hcell⟩ := HSR.out.cells (by omega)
    have c0 := hcell x hlt 0 (by omega)
    have c1 := hcell x hlt 1 (by omega)
    have c2 := hcell x hlt 2 (by omega)
    have c3 := hcell x hlt 3 (by omega)
    rw [Nat.add_zero] at c0
    have hk := HSR.out.keys x hlt
    have hv := HSR.out.vals x hlt
    obtain ⟨e2, hdl⟩ := HSR.out.left x hlt
    obtain ⟨e3, hdr⟩ := HSR.out.right x hlt
    obtain ⟨hkl, hvl⟩ := HL.out x hlt
    have HK := Lib.hid hk
    have HV := Lib.hid hv
    obtain ⟨a1, k1, e0, _, _⟩ := hk
    obtain ⟨a2, k2, e1, _, _⟩ := hv
    rw [e0] at c0 HK
    rw [e1] at c1 HV
    rw [e2] at c2
    rw [e3] at c3
    have HCS := Lib.hid (show chk seed key kk vv dl dr n (n - x) x D = (if allowB (kk x).length (vv x).length = true then
      if markN seed (dl x) (kk x) (vv x) (dr x) = D then
        if key = kk x then (if x + 1 < n then .form else .there x)
        else chk seed key kk vv dl dr n (n - (x + 1)) (x + 1) (if Lib.compareBytes key (kk x) < 0 then dl x else dr x)
      else .form
    else .form) from by rw [show n - x = (n - (x + 1)) + 1 by omega]; rfl)
    rw [HC.out] at HCS
    have HMB := Lib.hid (markN_bd seed (dl x) (kk x) (vv x) (dr x))
    have HSD := Lib.hid (fun (hal : allowB (kk x).length (vv x).length = true) w' (ht : Touch Nil wr w') => sideDigest_any seed (kk x) (vv x) _ _ (dl x) (dr x) w' (HK.out.keepN ht) (HV.out.keepN ht) (by have := okK_len hal; omega) (by have := okK_len hal; omega) hdl hdr)
    have HEQ := Lib.hid (fun w' (ht : Touch Nil wr w') => equalV_any (HQ.out.keepN (HT.out.trans ht)) (HK.out.keepN ht))
    have HLT := Lib.hid (fun w' (ht : Touch Nil wr w') => leadsTo_any (y := .slice a2 (vv x).length k2) (dl x) (dr x) (HK.out.keepN ht) rfl (HQ.out.keepN (HT.out.trans ht)))
    have HCL := Lib.hid (fun (hal : allowB (kk x).length (vv x).length = true) w' (ht : Touch Nil wr w') => bytesClone_any _ (vv x) w' (HV.out.keepN ht) (by have := okK_len hal; omega))
    have HND : ∃ nd, (if Lib.compareBytes key (kk x) < 0 then dl x else dr x) = nd := ⟨_, rfl⟩
    obtain ⟨nd, end_⟩ := HND
    have hnd : nd ≤ 18446744073709551615 := by rw [← end_]; split <;> assumption
    rw [end_] at HCS
    simp only [end_] at HLT
    generalize markN seed (dl x) (kk x) (vv x) (dr x) = M at *
    have HAL := Lib.hid (fun w => allowedP_any (kk x).length (vv x).length w (by omega) (by omega))
    have HE : ∃ kl, (kk x).length = kl := ⟨_, rfl⟩
    obtain ⟨kl, ekl⟩ := HE
    have HE : ∃ vl, (vv x).length = vl := ⟨_, rfl⟩
    obtain ⟨vl, evl⟩ := HE
    rw [ekl, evl] at HCS
    simp only [ekl, evl] at HSD HEQ HLT HCL HAL hkl hvl
    rw [ekl] at c0
    rw [evl] at c1
    have HE : ∃ dlx, dl x = dlx := ⟨_, rfl⟩
    obtain ⟨dlx, edl⟩ := HE
    have HE : ∃ drx, dr x = drx := ⟨_, rfl⟩
    obtain ⟨drx, edr⟩ := HE
    rw [edl] at c2 hdl
    rw [edr] at c3 hdr
    simp only [edl, edr] at HSD HLT
    have i1 : (x : Int) < (n : Int) := by omega
    have i2 : (0 : Int) ≤ (x : Int) := by omega
    have HTB := Lib.hid ((Touch.refl Nil wr).alloc (.cells #[.slice a1 kl k1, .slice a2 vl k2, .int .u64 (dlx : Int), .int .u64 (drx : Int)] 76))
    have HBX := Lib.hid (show (wr.alloc (.cells #[.slice a1 kl k1, .slice a2 vl k2, .int .u64 (dlx : Int), .int .u64 (drx : Int)] 76)).heap[wr.heap.size]? = some (.cells #[.slice a1 kl k1, .slice a2 vl k2, .int .u64 (dlx : Int), .int .u64 (drx : Int)] 76 (0, 0)) from heap_alloc_new _ _)
    have HTR := Lib.hid (HT.out.trans HTB.out)
    clear hcell e0 e1 e2 e3 ekl evl edl edr end_ HC hb hD HMB
    have hM0 := hx
    go_wp2_with fail
    refine (HAL.out _).mono ?_
    rintro e w2 ⟨rfl, rfl⟩
    clear c0 c1 c2 c3
    cases hal : allowB kl vl
    case false =>
      rw [hal] at HCS
      have HRF := Lib.hid (show R = .form from HCS.out)
      clear hal
      go_wp2_with fail
      ((try simp only [Exit.inBlock, Exit.then]); refine bodyPost_ret (results_tmp3 rfl _ _ _) rfl ?_)
      exact ⟨by rw [HRF.out]; rfl, HTR.out⟩
    case true =>
      rw [hal] at HCS
      have HSD := Lib.hid (HSD.out hal)
      have HCL := Lib.hid (HCL.out hal)
      clear hal
      obtain ⟨x0, x1, x2, x3⟩ := box_cells HBX.out (Touch.refl Nil _)
      go_wp2_with fail
      refine (HSD.out _ HTB.out).mono ?_
      rintro e w3 ⟨rfl, ht3⟩
      clear x0 x1 x2 x3
      obtain ⟨x0, x1, x2, x3⟩ := box_cells HBX.out ht3
      have HT3 := Lib.hid (HTB.out.trans ht3)
      clear ht3
      by_cases hM : M = D
      · have hb1 : ((M : Int) != (D : Int)) = false := by simp [hM]
        simp only [hM, if_true] at HCS
        clear hM
        go_wp2_with fail
        refine (HEQ.out _ HT3.out).mono ?_
        rintro e w4 ⟨rfl, rfl⟩
        by_cases hkq : key = kk x
        · rw [decide_eq_true hkq]
          rw [if_pos hkq] at HCS
          clear hkq
          by_cases hlast : x + 1 < n
          · have d2 : decide ((x : Int) < (n : Int) - 1) = true := by rw [decide_eq_true_iff]; omega
            have HRF := Lib.hid (show R = .form from by rw [HCS.out]; simp [hlast])
            go_wp2_with fail
            ((try simp only [Exit.inBlock, Exit.then]); refine bodyPost_ret (results_tmp3 rfl _ _ _) rfl ?_)
            exact ⟨by rw [HRF.out]; rfl, HT.out.trans HT3.out⟩
          · have d2 : decide ((x : Int) < (n : Int) - 1) = false := by rw [decide_eq_false_iff_not]; omega
            have HRF := Lib.hid (show R = .there x from by rw [HCS.out]; simp [hlast])
            go_wp2_with fail
            refine (HCL.out _ HT3.out).mono ?_
            rintro e w5 ⟨y, rfl, hy, ht5⟩
            go_wp2_with fail
            ((try simp only [Exit.inBlock, Exit.then]); refine bodyPost_ret (results_tmp3 rfl _ _ _) rfl ?_)
            exact ⟨by rw [HRF.out]; exact ⟨y, rfl, hy.bv, hlt⟩, (HT.out.trans HT3.out).trans ht5⟩
        · rw [decide_eq_false hkq]
          rw [if_neg hkq] at HCS
          clear hkq
          go_wp2_with fail
          refine (HLT.out _ HT3.out).mono ?_
          rintro e w5 ⟨rfl, ht5⟩
          have HT5 := Lib.hid ((HT.out.trans HT3.out).trans ht5)
          clear ht5 x0 x1 x2 x3
          go_wp2_with fail
          go_roundw
          case rel => exact ⟨x + 1, nd, by omega, by go_num, rfl, hnd, Lib.hid HCS.out.symm, HT5.out⟩
          case measure => simp [intOf]; omega
      · have hb1 : ((M : Int) != (D : Int)) = true := by simp; omega
        have HRF := Lib.hid (show R = .form from by rw [HCS.out]; simp [hM])
        clear hM
        go_wp2_with fail
        ((try simp only [Exit.inBlock, Exit.then]); refine bodyPost_ret (results_tmp3 rfl _ _ _) rfl ?_)
        exact ⟨by rw [HRF.out]; rfl, HT.out.trans HT3.out⟩
  · obtain rfl : x = n := by omega
    have HCE := Lib.hid (show (if D = 0 then Res.none else .form) = R from by have := HC.out; rw [Nat.sub_self] at this; exact this)
    clear HC
    by_cases h0 : D = 0
    · have hb1 : ((D : Int) != 0) = false := by simp [h0]
      have HRF := Lib.hid (show R = .none from by rw [← HCE.out]; simp [h0])
      clear h0
      go_wp2_with fail
      ((try simp only [Exit.inBlock, Exit.then]); refine bodyPost_ret (results_tmp3 rfl _ _ _) rfl ?_)
      exact ⟨by rw [HRF.out]; rfl, HT.out⟩
    · have hb1 : ((D : Int) != 0) = true := by simp; omega
      have HRF := Lib.hid (show R = .form from by rw [← HCE.out]; simp [h0])
      clear h0
      go_wp2_with fail
      ((try simp only [Exit.inBlock, Exit.then]); refine bodyPost_ret (results_tmp3 rfl _ _ _) rfl ?_)
      exact ⟨by rw [HRF.out]; rfl, HT.out⟩
end Go.Proofs.Ytkkpcndpjkebkaa

/- A map's own proof is a proof: mathematics, and the steps as Check reads them. -/
namespace Go.Proofs.Ytkkpcndpjkebkaa
open Go.ChangeShapes Go.WideShapes Go.ChangeAt Go.RowKit Go.Deep

/-- Steps as Check reads them. -/
theorem SL.sds {w : World} {ao : Option Addr} {n cap : Nat} {L : List SideC} (h : SL w (.slice ao n cap) L) (hb : ∀ q ∈ L, q.l ≤ 18446744073709551615 ∧ q.r ≤ 18446744073709551615) :
    ∃ v, Sds w ao n v (fun i => (L.getD i ⟨[], [], 0, 0⟩).k) (fun i => (L.getD i ⟨[], [], 0, 0⟩).u) (fun i => (L.getD i ⟨[], [], 0, 0⟩).l) (fun i => (L.getD i ⟨[], [], 0, 0⟩).r) := by
  obtain ⟨ao', cap', v, e, h1, h2, h3, h4⟩ := h
  cases e
  have hget : ∀ i, i < L.length → L[i]? = some (L.getD i ⟨[], [], 0, 0⟩) := fun i hi => by
    rw [List.getD_eq_getElem?_getD, List.getElem?_eq_getElem hi]; rfl
  refine ⟨v, h3, fun i hi => ?_, fun i hi => ?_, fun i hi => ?_, fun i hi => ?_⟩
  · exact h4 i _ (hget i hi) 0 (by omega)
  · exact h4 i _ (hget i hi) 1 (by omega)
  · exact ⟨h4 i _ (hget i hi) 2 (by omega), (hb _ (List.mem_of_getElem? (hget i hi))).1⟩
  · exact ⟨h4 i _ (hget i hi) 3 (by omega), (hb _ (List.mem_of_getElem? (hget i hi))).2⟩
theorem pathT_bd (seed : Int) (key : Key) : ∀ (t : Tree), OkL t.toL → ∀ q ∈ pathT seed key t, (q.l ≤ 18446744073709551615 ∧ q.r ≤ 18446744073709551615) ∧ okK q.k q.u
  | .nil, _, q, hq => by simp [pathT] at hq
  | .node l k u r, ho, q, hq => by
    simp only [pathT, List.mem_cons] at hq
    rcases hq with rfl | hq
    · exact ⟨⟨digT_bd _ _, digT_bd _ _⟩, ho (k, u) (by simp [Tree.toL])⟩
    · split at hq
      · simp at hq
      · split at hq
        · exact pathT_bd seed key l (fun p hp => ho p (by simp [Tree.toL, hp])) q hq
        · exact pathT_bd seed key r (fun p hp => ho p (by simp [Tree.toL, hp])) q hq
/-- What Check finds in a map's own steps. -/
theorem chk_path {seed : Int} {key : Key} {kk vv : Nat → Key} {dl dr : Nat → Nat} {n : Nat} : ∀ (s : Tree) (i : Nat), GoodT seed s → (∀ j q, (pathT seed key s)[j]? = some q → kk (i + j) = q.k ∧ vv (i + j) = q.u ∧ dl (i + j) = q.l ∧ dr (i + j) = q.r) → n = i + (pathT seed key s).length →
    (chk seed key kk vv dl dr n (pathT seed key s).length i (digT seed s) = .none ∧ ∀ p ∈ s.toL, p.1 ≠ key) ∨ ∃ j, chk seed key kk vv dl dr n (pathT seed key s).length i (digT seed s) = .there j ∧ j < n ∧ (key, vv j) ∈ s.toL
  | .nil, i, _, _, _ => .inl ⟨rfl, fun p hp => by simp [Tree.toL] at hp⟩
  | .node l k u r, i, hg, hP, hn => by
    obtain ⟨s1, s2, a1, a2⟩ := srt_node.1 hg.srt
    obtain ⟨e1, e2, e3, e4⟩ := hP 0 ⟨k, u, digT seed l, digT seed r⟩ (by simp [pathT])
    rw [Nat.add_zero] at e1 e2 e3 e4
    have hok : allowB k.length u.length = true := okK_iff.2 (hg.ok (k, u) (by simp [Tree.toL]))
    by_cases hk : key = k
    · have hp : pathT seed key (.node l k u r) = [⟨k, u, digT seed l, digT seed r⟩] := by simp only [pathT]; rw [if_pos hk]
      rw [hp] at hn ⊢
      refine .inr ⟨i, ?_, by simp at hn; omega, by rw [e2, hk]; simp [Tree.toL]⟩
      simp only [List.length_singleton, chk, e1, e2, e3, e4, hok, if_true, digT]
      rw [if_pos hk, if_neg (by simp at hn; omega)]
    · by_cases hlt : klt key k = true
      · have hp : pathT seed key (.node l k u r) = ⟨k, u, digT seed l, digT seed r⟩ :: pathT seed key l := by simp only [pathT]; rw [if_neg hk, if_pos hlt]
        rw [hp] at hn hP ⊢
        have hcmp : Lib.compareBytes key k < 0 := klt_iff.1 hlt
        have ih := chk_path (n := n) (kk := kk) (vv := vv) (dl := dl) (dr := dr) l (i + 1) hg.left (fun j q hq => by
          have := hP (j + 1) q (by simpa using hq)
          rwa [show i + (j + 1) = i + 1 + j by omega] at this) (by rw [hn, List.length_cons]; omega)
        have hc : chk seed key kk vv dl dr n (⟨k, u, digT seed l, digT seed r⟩ :: pathT seed key l : List SideC).length i (digT seed (.node l k u r)) = chk seed key kk vv dl dr n (pathT seed key l).length (i + 1) (digT seed l) := by
          simp only [List.length_cons, chk, e1, e2, e3, e4, hok, if_true, digT]
          rw [if_neg hk, if_pos hcmp]
        rw [hc]
        rcases ih with ⟨h1, h2⟩ | ⟨j, h1, h2, h3⟩
        · refine .inl ⟨h1, fun p hp => ?_⟩
          simp only [Tree.toL, List.mem_append, List.mem_cons] at hp
          rcases hp with hp | rfl | hp
          · exact h2 p hp
          · exact fun e => hk e.symm
          · intro e
            have := a2 p hp
            rw [e, klt_ko.asym hlt] at this
            cases this
        · exact .inr ⟨j, h1, h2, by simp [Tree.toL, h3]⟩
      · have hp : pathT seed key (.node l k u r) = ⟨k, u, digT seed l, digT seed r⟩ :: pathT seed key r := by simp only [pathT]; rw [if_neg hk, if_neg hlt]
        rw [hp] at hn hP ⊢
        have hcmp : ¬ Lib.compareBytes key k < 0 := fun h => hlt (klt_iff.2 h)
        have ih := chk_path (n := n) (kk := kk) (vv := vv) (dl := dl) (dr := dr) r (i + 1) hg.right (fun j q hq => by
          have := hP (j + 1) q (by simpa using hq)
          rwa [show i + (j + 1) = i + 1 + j by omega] at this) (by rw [hn, List.length_cons]; omega)
        have hc : chk seed key kk vv dl dr n (⟨k, u, digT seed l, digT seed r⟩ :: pathT seed key r : List SideC).length i (digT seed (.node l k u r)) = chk seed key kk vv dl dr n (pathT seed key r).length (i + 1) (digT seed r) := by
          simp only [List.length_cons, chk, e1, e2, e3, e4, hok, if_true, digT]
          rw [if_neg hk, if_neg hcmp]
        rw [hc]
        rcases ih with ⟨h1, h2⟩ | ⟨j, h1, h2, h3⟩
        · refine .inl ⟨h1, fun p hp => ?_⟩
          simp only [Tree.toL, List.mem_append, List.mem_cons] at hp
          rcases hp with hp | rfl | hp
          · intro e
            have := a1 p hp
            rw [e] at this
            exact hlt this
          · exact fun e => hk e.symm
          · exact h2 p hp
        · exact .inr ⟨j, h1, h2, by simp [Tree.toL, h3]⟩
end Go.Proofs.Ytkkpcndpjkebkaa

/- SameSides of equal lists. -/
namespace Go.Proofs.Ytkkpcndpjkebkaa
open Go.ChangeShapes Go.WideShapes Go.ChangeAt Go.RowKit Go.Deep

/-- An element of a list of steps. -/
theorem SL.el {w : World} {ao : Option Addr} {n cap : Nat} {L : List SideC} (h : SL w (.slice ao n cap) L) {i : Nat} {x : SideC} (hx : L[i]? = some x) :
    ∃ b off ka kc ua uc, ao = some ⟨b, off, none⟩ ∧ b < w.heap.size ∧ (w.cell? ⟨b, off + i * 4, none⟩ = some (.slice ka x.k.length kc) ∧ w.cell? ⟨b, off + i * 4 + 1, none⟩ = some (.slice ua x.u.length uc) ∧ w.cell? ⟨b, off + i * 4 + 2, none⟩ = some (.int .u64 (x.l : Int)) ∧ w.cell? ⟨b, off + i * 4 + 3, none⟩ = some (.int .u64 (x.r : Int))) ∧ BV w (.slice ka x.k.length kc) x.k ∧ BV w (.slice ua x.u.length uc) x.u := by
  obtain ⟨b, off, e, hb, f, hc, hf⟩ := h.at hx
  have h0 : BV w (f 0) x.k := hf 0 (by omega)
  have h1 : BV w (f 1) x.u := hf 1 (by omega)
  have h2 : f 2 = .int .u64 (x.l : Int) := hf 2 (by omega)
  have h3 : f 3 = .int .u64 (x.r : Int) := hf 3 (by omega)
  obtain ⟨ka, kc, e0⟩ := h0.len'
  obtain ⟨ua, uc, e1⟩ := h1.len'
  rw [e0] at h0
  rw [e1] at h1
  refine ⟨b, off, ka, kc, ua, uc, e, hb, ⟨?_, ?_, ?_, ?_⟩, h0, h1⟩
  · rw [← e0]; exact hc 0 (by omega)
  · rw [← e1]; exact hc 1 (by omega)
  · rw [← h2]; exact hc 2 (by omega)
  · rw [← h3]; exact hc 3 (by omega)
theorem two_new (w : World) (c d : Array Value) (t : TypeId) : ((w.alloc (.cells c t)).alloc (.cells d t)).drew.heap[w.heap.size]? = some (.cells c t (0, 0)) ∧ ((w.alloc (.cells c t)).alloc (.cells d t)).drew.heap[w.heap.size + 1]? = some (.cells d t (0, 0)) ∧ Touch Nil w ((w.alloc (.cells c t)).alloc (.cells d t)).drew := by
  have ht := ((Touch.refl Nil (w.alloc (.cells c t))).alloc (.cells d t)).drew
  have h2 := heap_alloc_new (w.alloc (.cells c t)) (.cells d t)
  rw [nblk_alloc] at h2
  exact ⟨(ht.same w.heap.size (by simp) (fun c => c)).trans (heap_alloc_new _ _), h2, (((Touch.refl Nil w).alloc _).alloc _).drew⟩
def TrueT (w : World) (e : Ending) (w' : World) : Prop := e = .returned (.bool true) ∧ Touch Nil w w'
set_option maxRecDepth 100000 in
set_option maxHeartbeats 4000000 in
theorem sameSides_any {w : World} {x y : Value} {L : List SideC} (h : SL w x L) (h' : SL w y L) (hk : ∀ q ∈ L, q.k.length ≤ 1000000 ∧ q.u.length ≤ 1000000) (hn : L.length ≤ 1000000) :
    Calls Try.prog 38 #[x, y] w (TrueT w) := by
  have HK := Lib.hid hk
  obtain ⟨xa, n, xc, rfl⟩ := h.form3
  obtain ⟨ya, n', yc, rfl⟩ := h'.form3
  have hl := h.len
  have hl' := h'.len
  obtain rfl : n = n' := by omega
  have HX := Lib.hid h
  have HY := Lib.hid h'
  have HL := Lib.hid hl
  have hn1 : n ≤ 1000000 := by omega
  have e0 : ((n : Int) != (n : Int)) = false := by simp
  clear h h' hk hn hl hl'
  go_enter Try.func38, Try.ntmps38
  go_wp2_with fail
  go_loopw [5] (fun i wr => ∃ z : Nat, z ≤ n ∧ i = .int .i64 (z : Int) ∧ Touch Nil w wr) (fun i _ => n - (intOf i).toNat)
  case atStart => exact ⟨0, Nat.zero_le _, rfl, Touch.refl _ _⟩
  obtain ⟨z, hz, rfl, hto⟩ := hrel
  have HT := Lib.hid hto
  clear hto
  by_cases hlt : z < n
  · obtain ⟨q, hq⟩ : ∃ q, L[z]? = some q := ⟨L[z]'(by have := HL.out; omega), List.getElem?_eq_getElem _⟩
    obtain ⟨b, off, ka, kc, ua, uc, rfl, hb, ⟨c0, c1, c2, c3⟩, hbk, hbu⟩ := SL.el (HX.out.keepN HT.out) hq
    obtain ⟨b', off', ka', kc', ua', uc', rfl, hb', ⟨d0, d1, d2, d3⟩, hbk', hbu'⟩ := SL.el (HY.out.keepN HT.out) hq
    have HBK := Lib.hid (And.intro hbk hbk')
    have HBU := Lib.hid (And.intro hbu hbu')
    have HQL := Lib.hid (HK.out q (List.mem_of_getElem? hq))
    clear hbk hbk' hbu hbu' hq
    generalize hkl : q.k.length = kl at *
    generalize hul : q.u.length = ul at *
    generalize q.l = ql at *
    generalize q.r = qr at *
    have HKL := Lib.hid (And.intro hkl hul)
    clear hkl hul
    have i1 : (z : Int) < (n : Int) := by omega
    have i2 : (0 : Int) ≤ (z : Int) := by omega
    have HST := Lib.hid (fun w' (ht : Touch Nil wr w') => show w'.cell? ⟨b, off + z * 4, none⟩ = some (.slice ka kl kc) ∧ w'.cell? ⟨b, off + z * 4 + 1, none⟩ = some (.slice ua ul uc) ∧ w'.cell? ⟨b, off + z * 4 + 2, none⟩ = some (.int .u64 (ql : Int)) ∧ w'.cell? ⟨b, off + z * 4 + 3, none⟩ = some (.int .u64 (qr : Int)) ∧ w'.cell? ⟨b', off' + z * 4, none⟩ = some (.slice ka' kl kc') ∧ w'.cell? ⟨b', off' + z * 4 + 1, none⟩ = some (.slice ua' ul uc') ∧ w'.cell? ⟨b', off' + z * 4 + 2, none⟩ = some (.int .u64 (ql : Int)) ∧ w'.cell? ⟨b', off' + z * 4 + 3, none⟩ = some (.int .u64 (qr : Int)) ∧ Hid (Touch Nil wr w') from ⟨cell_step c0 ht, cell_step c1 ht, cell_step c2 ht, cell_step c3 ht, cell_step d0 ht, cell_step d1 ht, cell_step d2 ht, cell_step d3 ht, Lib.hid ht⟩)
    go_upto_region 6 with fail
    go_cut [6, 7] (fun s6 s7 wx => ∃ A B : Nat, s6 = .pointer (some ⟨A, 0, none⟩) ∧ s7 = .pointer (some ⟨B, 0, none⟩) ∧ Hid (wx.heap[A]? = some (.cells #[.slice ka kl kc, .slice ua ul uc, .int .u64 (ql : Int), .int .u64 (qr : Int)] 76 (0, 0)) ∧ wx.heap[B]? = some (.cells #[.slice ka' kl kc', .slice ua' ul uc', .int .u64 (ql : Int), .int .u64 (qr : Int)] 76 (0, 0))) ∧ Touch Nil wr wx)
    case first =>
      go_region
      all_goals go_wp2_with fail
      all_goals go_meet
      all_goals first
        | exact ⟨_, _, rfl, rfl, Lib.hid ⟨(two_new _ _ _ _).1, (two_new _ _ _ _).2.1⟩, (two_new _ _ _ _).2.2⟩
        | exact ⟨_, _, rfl, rfl, Lib.hid ⟨(two_new _ _ _ _).2.1, (two_new _ _ _ _).1⟩, (two_new _ _ _ _).2.2⟩
    case rest =>
      obtain ⟨A, B, rfl, rfl, HAB, hTc⟩ := hcut
      obtain ⟨⟨v0, v1, v2, v3⟩, _, _⟩ := side_cells HAB.out.1
      obtain ⟨⟨p0, p1, p2, p3⟩, _, _⟩ := side_cells HAB.out.2
      have HTc := Lib.hid (HT.out.trans hTc)
      have HC1 := Lib.hid (compareV_any (HBK.out.1.keepN hTc) (HBK.out.2.keepN hTc) (by have := HQL.out.1; have := HKL.out.1; omega) (by have := HQL.out.1; have := HKL.out.1; omega))
      have HC2 := Lib.hid (fun n => compareV_any ((HBU.out.1.keepN hTc).keepN ((Touch.refl Nil wc).drewN n)) ((HBU.out.2.keepN hTc).keepN ((Touch.refl Nil wc).drewN n)) (by have := HQL.out.2; have := HKL.out.2; omega) (by have := HQL.out.2; have := HKL.out.2; omega))
      rw [(cmpR_zero q.k q.k).2 rfl] at HC1
      simp only [(cmpR_zero q.u q.u).2 rfl] at HC2
      have z1 : ((ql : Int) != (ql : Int)) = false := by simp
      have z2 : ((qr : Int) != (qr : Int)) = false := by simp
      clear hTc c0 c1 c2 c3 d0 d1 d2 d3
      go_wp2_with fail
      refine HC1.out.mono ?_
      rintro e w5 ⟨rfl, m5, rfl⟩
      go_wp2_with fail
      refine (HC2.out _).mono ?_
      rintro e w6 ⟨rfl, m6, rfl⟩
      go_wp2_with fail
      go_roundw
      case rel => exact ⟨z + 1, by omega, by go_num, HTc.out.drewN _⟩
      case measure => simp [intOf] <;> omega
  · obtain rfl : z = n := by omega
    have t1 : decide (z < z) = false := by simp
    go_wp2_with fail
    go_ret
    exact ⟨rfl, HT.out⟩
end Go.Proofs.Ytkkpcndpjkebkaa

/- The proof of a key, as the definition makes it. -/
namespace Go.Proofs.Ytkkpcndpjkebkaa
open Go.ChangeShapes Go.WideShapes Go.ChangeAt Go.RowKit Go.Deep

set_option maxRecDepth 100000 in
set_option maxHeartbeats 4000000 in
theorem proveR_any {seed : Int} {t : Tree} {w : World} {lx qx : Value} {key : Key} (hg : GoodT seed t) (hp : PL w lx t.toL) (hz : t.size ≤ 100000) (hq : BV w qx key) (hql : key.length ≤ 1000000) :
    Calls Try.prog 39 #[.int .u64 seed, lx, qx] w (StepsPost seed key t w) := by
  have HND := Lib.hid (nodesR_any hg.srt hg.heap hg.ok hp (by omega))
  have HQ := Lib.hid hq
  have HZ := Lib.hid hz
  have HQL := Lib.hid hql
  have HGD := Lib.hid hg
  obtain ⟨la, ln, lc, rfl⟩ := hp.form3
  obtain ⟨qa, qc, rfl⟩ := hq.len'
  have HE : ∃ ql, key.length = ql := ⟨_, rfl⟩
  obtain ⟨ql, eql⟩ := HE
  rw [eql] at HQ ⊢
  have HKE := Lib.hid eql
  clear hg hp hz hq hql eql
  go_enter Try.func39, Try.ntmps39
  go_wp2_with fail
  refine HND.out.mono ?_
  rintro e w1 ⟨nx, rfl, hno, ht1⟩
  have hnl := hno.rl
  obtain ⟨na, nn, nc, rfl⟩ := hnl.form3
  have HNL := Lib.hid (show NL w1 (.slice na nn nc) (nodesT seed 0 t) from hnl)
  have HT1 := Lib.hid ht1
  have HNN := Lib.hid (show nn = t.size from by have h := hnl.len; rw [nodesT_len] at h; exact h)
  obtain ⟨base, hbase⟩ : ∃ base, w1.heap.size = base := ⟨_, rfl⟩
  have HB := Lib.hid hbase
  clear hno hnl ht1 hbase
  cases t with
  | nil =>
    obtain rfl : nn = 0 := HNN.out
    go_wp2_with fail
    go_loopg [8, 9] 0 (fun j x n wr => x = .slice none 0 0 ∧ n = .int .i64 (-1) ∧ w1 = wr)
    case atStart => exact ⟨rfl, rfl, rfl⟩
    obtain ⟨rfl, rfl, rfl⟩ := hrel
    go_wp2_with fail
    go_ret
    exact ⟨_, rfl, (OL.nil (T := 76) (base := 0) (k := 4) (fld := sideF)).rl, HT1.out⟩
  | node l0 k0 u0 r0 =>
    have hnn : decide (0 < nn) = true := by have := HNN.out; simp only [Tree.size] at this; simp; omega
    have hnn2 : 0 < nn := by have := HNN.out; simp only [Tree.size] at this; omega
    obtain ⟨t, et⟩ : ∃ t, Tree.node l0 k0 u0 r0 = t := ⟨_, rfl⟩
    have HTN := Lib.hid (show t ≠ .nil from by rw [← et]; exact fun h => by cases h)
    rw [et] at HNL HNN HZ HGD
    have HTE := Lib.hid et
    clear et
    obtain ⟨N, eN⟩ : ∃ N, nodesT seed 0 t = N := ⟨_, rfl⟩
    rw [eN] at HNL
    have HDR := Lib.hid (show N.drop 0 = nodesT seed 0 t ++ [] from by rw [← eN]; simp)
    have HNLEN := Lib.hid (show N.length = nn from by rw [← eN, nodesT_len, HNN.out])
    clear eN
    go_wp2_with fail
    go_loopg [8, 9] t.size (fun j x n wr => ∃ (xa : Option Addr) (xl xc : Nat) (at' : Int) (L1 : List SideC), x = .slice xa xl xc ∧ n = .int .i64 at' ∧ Hid (SO base wr (.slice xa xl xc) L1 ∧ ((at' = -1 ∧ L1 = pathT seed key t) ∨ ∃ (i : Nat) (s : Tree) (rest : List NodeC), at' = (i : Int) ∧ s ≠ .nil ∧ s.size ≤ j ∧ GoodT seed s ∧ N.drop i = nodesT seed i s ++ rest ∧ L1 ++ pathT seed key s = pathT seed key t ∧ L1.length + s.size ≤ t.size)) ∧ Touch (From base) w1 wr)
    case atStart => exact ⟨none, 0, 0, 0, [], rfl, rfl, Lib.hid ⟨OL.nil, .inr ⟨0, t, [], rfl, HTN.out, Nat.le_refl _, HGD.out, HDR.out, rfl, by simp⟩⟩, Touch.refl _ _⟩
    obtain ⟨xa, xl, xc, at', L1, rfl, rfl, HR, hto⟩ := hrel
    have HT := Lib.hid hto
    clear hto
    obtain ⟨hso, ⟨rfl, hfin⟩ | ⟨i, s, rest, rfl, hsn, hsj, hsg, hdr, hpath, hln⟩⟩ := HR.out
    · have HF := Lib.hid (And.intro hso hfin)
      clear hso hfin HR
      go_wp2_with fail
      go_ret
      exact ⟨_, rfl, by rw [HTE.out, ← HF.out.2]; exact HF.out.1.rl, HT1.out.trans (HT.out.mono fun b hb hs => by have hs : base ≤ b := hs; have := HB.out; omega)⟩
    · cases s with
      | nil => exact absurd rfl hsn
      | node l k u r =>
      obtain ⟨hxi, hdl, hdr2⟩ := nodes_left seed hdr
      have HSO := Lib.hid hso
      have HPATH := Lib.hid (show L1 ++ (⟨k, u, digT seed l, digT seed r⟩ :: (if key = k then [] else if klt key k = true then pathT seed key l else pathT seed key r)) = pathT seed key t from hpath)
      have HSJ := Lib.hid (And.intro hsj hln)
      have HSG := Lib.hid hsg
      have HDL := Lib.hid hdl
      have HDR2 := Lib.hid hdr2
      have hok : okK k u := hsg.ok (k, u) (by simp [Tree.toL])
      have HOK := Lib.hid hok
      obtain ⟨b, off, ka, kc, ua, uc, rfl, hbB, ⟨c0, c1, c2, c3, c4, c5⟩, hbk, hbu⟩ := NL.el HNL.out hxi
      have hbb : b < base := by have := HB.out; omega
      have hkf : KF base w1 (.slice ka k.length kc) (.b k) := KF.of (w := w1) (f := .b k) hbk (Nat.le_of_eq HB.out)
      have huf : KF base w1 (.slice ua u.length uc) (.b u) := KF.of (w := w1) (f := .b u) hbu (Nat.le_of_eq HB.out)
      have HLOW := Lib.hid (show (∀ b, k ≠ [] → OwnOf (.slice ka k.length kc) b → b < base) ∧ (∀ b, u ≠ [] → OwnOf (.slice ua u.length uc) b → b < base) from ⟨fun b hl ho => by have := BV.low hbk hl b ho; have := HB.out; omega, fun b hl ho => by have := BV.low hbu hl b ho; have := HB.out; omega⟩)
      replace hbk : BV wr (.slice ka k.length kc) k := BV.keepE hbk HT.out fun hl b ho hs => by have := HLOW.out.1 b hl ho; have hs : base ≤ b := hs; omega
      replace hbu : BV wr (.slice ua u.length uc) u := BV.keepE hbu HT.out fun hl b ho hs => by have := HLOW.out.2 b hl ho; have hs : base ≤ b := hs; omega
      replace c0 := cell_stepF c0 hbb HT.out
      replace c1 := cell_stepF c1 hbb HT.out
      replace c2 := cell_stepF c2 hbb HT.out
      replace c3 := cell_stepF c3 hbb HT.out
      replace c4 := cell_stepF c4 hbb HT.out
      replace c5 := cell_stepF c5 hbb HT.out
      have hb : b < wr.heap.size := Nat.lt_of_lt_of_le hbB HT.out.size
      clear hkf huf
      have i1 : (i : Int) < (nn : Int) := by have h := (List.getElem?_eq_some_iff.1 hxi).1; have := HNLEN.out; omega
      have i2 : (0 : Int) ≤ (i : Int) := by omega
      replace c0 : wr.cell? ⟨b, off + i * 6, none⟩ = some (.slice ka k.length kc) := c0
      replace c1 : wr.cell? ⟨b, off + i * 6 + 1, none⟩ = some (.slice ua u.length uc) := c1
      have HBK := Lib.hid hbk
      have HBU := Lib.hid hbu
      obtain ⟨kl, ekl⟩ : ∃ kl, k.length = kl := ⟨_, rfl⟩
      obtain ⟨ul, eul⟩ : ∃ ul, u.length = ul := ⟨_, rfl⟩
      rw [ekl] at c0 HBK
      rw [eul] at c1 HBU
      rw [ekl, eul] at HLOW
      have HKL := Lib.hid ekl
      obtain ⟨dN, edN⟩ : ∃ dN, (nodeAt seed i l k u r).d = dN := ⟨_, rfl⟩
      obtain ⟨sN, esN⟩ : ∃ sN, (nodeAt seed i l k u r).s = sN := ⟨_, rfl⟩
      obtain ⟨lv, elv⟩ : ∃ lv, (nodeAt seed i l k u r).l = lv := ⟨_, rfl⟩
      obtain ⟨rv, erv⟩ : ∃ rv, (nodeAt seed i l k u r).r = rv := ⟨_, rfl⟩
      rw [edN] at c2
      rw [esN] at c3
      rw [elv] at c4
      rw [erv] at c5
      have HLV := Lib.hid (show childAt l (i + 1) = lv from elv)
      have HRV := Lib.hid (show childAt r (i + 1 + l.size) = rv from erv)
      obtain ⟨dl, edl⟩ : ∃ dl, digT seed l = dl := ⟨_, rfl⟩
      obtain ⟨dr, edr⟩ : ∃ dr, digT seed r = dr := ⟨_, rfl⟩
      have HDLE := Lib.hid edl
      have HDRE := Lib.hid edr
      have HLVC := Lib.hid (show (l = .nil ∧ lv = -1) ∨ (lv = ((i + 1 : Nat) : Int) ∧ ∃ y, N[i + 1]? = some y ∧ y.d = dl) from by
        rw [← HLV.out]
        cases l with
        | nil => exact .inl ⟨rfl, rfl⟩
        | node l9 k9 u9 r9 => exact .inr ⟨rfl, _, (nodes_left seed hdl).1, by rw [← HDLE.out]; rfl⟩)
      have HRVC := Lib.hid (show (r = .nil ∧ rv = -1) ∨ (rv = ((i + 1 + l.size : Nat) : Int) ∧ ∃ y, N[i + 1 + l.size]? = some y ∧ y.d = dr) from by
        rw [← HRV.out]
        cases r with
        | nil => exact .inl ⟨rfl, rfl⟩
        | node l9 k9 u9 r9 => exact .inr ⟨rfl, _, (nodes_left seed hdr2).1, by rw [← HDRE.out]; rfl⟩)
      clear hso hdr hpath hsj hln hsg hok hbk hbu ekl eul edN esN elv erv edl edr hxi hdl hdr2 hsn HR
      go_upto_if 32 with fail
      go_cut [10, 11] (fun s10 s11 wx => ∃ A10 A11 : Nat, s10 = .pointer (some ⟨A10, 0, none⟩) ∧ s11 = .pointer (some ⟨A11, 0, none⟩) ∧ Hid (StepV wr wx A11 (.slice ka kl kc) (.slice ua ul uc) dl 0 A10 #[.slice ka kl kc, .slice ua ul uc, .int .u64 (dN : Int), .int .i64 (sN : Int), .int .i64 lv, .int .i64 rv]))
      case first =>
        rcases HLVC.out with ⟨hl, hlv⟩ | ⟨hlv, y, hy, hyd⟩
        · have HDV := Lib.hid (show dl = 0 from by rw [← HDLE.out, hl]; rfl)
          clear hl
          subst hlv
          go_wp2_with fail
          go_meet
          exact ⟨_, _, rfl, rfl, Lib.hid (by rw [HDV.out]; exact stepvA _ _ 0 0 _)⟩
        · obtain ⟨j, ej⟩ : ∃ j, i + 1 = j := ⟨_, rfl⟩
          rw [ej] at hlv hy
          have hjn : j < nn := by have h := (List.getElem?_eq_some_iff.1 hy).1; have := HNLEN.out; omega
          obtain ⟨b9, off9, _, _, _, _, e9, _, ⟨_, _, g2, _, _, _⟩, _, _⟩ := NL.el (HNL.out.keepF (Nat.le_of_eq HB.out) HT.out) hy
          cases e9
          rw [hyd] at g2
          subst hlv
          have j1 : (j : Int) < (nn : Int) := by omega
          have j2 : (0 : Int) ≤ (j : Int) := by omega
          have j3 : decide ((0 : Int) ≤ (j : Int)) = true := by simp
          clear ej hy hyd
          go_wp2_with fail
          go_meet
          exact ⟨_, _, rfl, rfl, Lib.hid (by first | exact (stepvA _ _ 0 0 _).set 2 dl dl 0 (.inl ⟨rfl, rfl, rfl⟩) | exact stepvA _ _ _ _ _)⟩
      case rest =>
      obtain ⟨A1, B1, rfl, rfl, HV1⟩ := hcut
      obtain ⟨⟨v0, v1, v2, v3⟩, fz2, fz3⟩ := side_cells HV1.out.s
      obtain ⟨n0, n1, n2, n3, n4, n5⟩ := node6 HV1.out.n
      have hbw : b < wc.heap.size := Nat.lt_of_lt_of_le hb HV1.out.t.size
      have v2' : wc.cell? ⟨B1, 2, none⟩ = some (.int .u64 (dl : Int)) := v2
      clear c0 c1 c2 c3 c4 c5
      go_upto_if 42 with fail
      go_cut [10, 11] (fun s10 s11 wx => ∃ A10 A11 : Nat, s10 = .pointer (some ⟨A10, 0, none⟩) ∧ s11 = .pointer (some ⟨A11, 0, none⟩) ∧ Hid (StepV wr wx A11 (.slice ka kl kc) (.slice ua ul uc) dl dr A10 #[.slice ka kl kc, .slice ua ul uc, .int .u64 (dN : Int), .int .i64 (sN : Int), .int .i64 lv, .int .i64 rv]))
      case first =>
        rcases HRVC.out with ⟨hl, hlv⟩ | ⟨hlv, y, hy, hyd⟩
        · have HDV := Lib.hid (show dr = 0 from by rw [← HDRE.out, hl]; rfl)
          clear hl
          subst hlv
          go_wp2_with fail
          go_meet
          exact ⟨_, _, rfl, rfl, Lib.hid (by rw [HDV.out]; exact HV1.out)⟩
        · obtain ⟨j, ej⟩ : ∃ j, i + 1 + l.size = j := ⟨_, rfl⟩
          rw [ej] at hlv hy
          have hjn : j < nn := by have h := (List.getElem?_eq_some_iff.1 hy).1; have := HNLEN.out; omega
          obtain ⟨b9, off9, _, _, _, _, e9, _, ⟨_, _, g2, _, _, _⟩, _, _⟩ := NL.el (HNL.out.keepF (Nat.le_of_eq HB.out) (HT.out.trans HV1.out.t.of_nil)) hy
          cases e9
          rw [hyd] at g2
          subst hlv
          have j1 : (j : Int) < (nn : Int) := by omega
          have j2 : (0 : Int) ≤ (j : Int) := by omega
          have j3 : decide ((0 : Int) ≤ (j : Int)) = true := by simp
          clear ej hy hyd
          go_wp2_with fail
          go_meet
          exact ⟨_, _, rfl, rfl, Lib.hid (by first | exact HV1.out.set 3 dr dl dr (.inr ⟨rfl, rfl, rfl⟩) | exact stepvA _ _ _ _ _)⟩
      case rest =>
      obtain ⟨A2, B2, rfl, rfl, HV2⟩ := hcut
      clear v0 v1 v2 v2' v3 fz2 fz3 n0 n1 n2 n3 n4 n5
      obtain ⟨⟨v0, v1, v2, v3⟩, fz2, fz3⟩ := side_cells HV2.out.s
      obtain ⟨n0, n1, n2, n3, n4, n5⟩ := node6 HV2.out.n
      have HTA := Lib.hid ((Touch.refl Nil wc).alloc (.cells #[.slice ka kl kc, .slice ua ul uc, .int .u64 (dl : Int), .int .u64 (dr : Int)] 76))
      have HXX := Lib.hid ((HSO.out.keepN HV2.out.t).keepN HTA.out)
      have HBW := Lib.hid (show base ≤ (wc.alloc (.cells #[.slice ka kl kc, .slice ua ul uc, .int .u64 (dl : Int), .int .u64 (dr : Int)] 76)).heap.size from by have h1 := HB.out; have h2 := HT.out.size; have h3 := (HV2.out.t.trans HTA.out).size; omega)
      have HUS := Lib.hid (show ∀ j v, ([.slice ka kl kc, .slice ua ul uc, .int .u64 (dl : Int), .int .u64 (dr : Int)] : List Value)[j]? = some v → (wc.alloc (.cells #[.slice ka kl kc, .slice ua ul uc, .int .u64 (dl : Int), .int .u64 (dr : Int)] 76)).cell? ⟨wc.heap.size, j, none⟩ = some v ∧ KF base (wc.alloc (.cells #[.slice ka kl kc, .slice ua ul uc, .int .u64 (dl : Int), .int .u64 (dr : Int)] 76)) v (sideF ⟨k, u, dl, dr⟩ j) from fun j v hj => by
        refine ⟨by rw [cell_new]; simpa using hj, ?_⟩
        match j, hj with
        | 0, hj => cases hj; exact ⟨(HBK.out.keepN HV2.out.t).keepN HTA.out, fun l e hl b ho => by cases e; exact .inl (HLOW.out.1 b hl ho)⟩
        | 1, hj => cases hj; exact ⟨(HBU.out.keepN HV2.out.t).keepN HTA.out, fun l e hl b ho => by cases e; exact .inl (HLOW.out.2 b hl ho)⟩
        | 2, hj => cases hj; exact KF.num
        | 3, hj => cases hj; exact KF.num)
      have HA2 := Lib.hid (show (wc.alloc (.cells #[.slice ka kl kc, .slice ua ul uc, .int .u64 (dl : Int), .int .u64 (dr : Int)] 76)).heap[A2]? = some (.cells #[.slice ka kl kc, .slice ua ul uc, .int .u64 (dN : Int), .int .i64 (sN : Int), .int .i64 lv, .int .i64 rv] 109 (0, 0)) from (HTA.out.same A2 (Array.getElem?_eq_some_iff.1 HV2.out.n).1 (fun c => c)).trans HV2.out.n)
      go_wp2_with (refine wpList_append_el rfl (.tmp 50) (.tmp 52) rfl (.agg #[.slice none 0 0, .slice none 0 0, .int .u64 0, .int .u64 0]) Try.underlying66 infoSide rfl (by decide) (by decide) (by decide) (.slice xa xl xc) rfl HXX.out wc.heap.size 1 rfl [.slice ka kl kc, .slice ua ul uc, .int .u64 (dl : Int), .int .u64 (dr : Int)] ⟨k, u, dl, dr⟩ rfl HUS.out (by have := HSJ.out.2; have := HZ.out; omega) HBW.out ?e1)
      intro v5 w5 ho5 ht5
      have HO5 := Lib.hid (show SO base w5 v5 (L1 ++ [⟨k, u, dl, dr⟩]) from ho5.out)
      have hT5 : Touch (From base) wr w5 := (HV2.out.t.trans HTA.out).of_nil.trans (ht5.out.mono fun b _ hs => HXX.out.base' b hs)
      have HTT := Lib.hid (HT.out.trans hT5)
      have hA5 : w5.heap[A2]? = some (.cells #[.slice ka kl kc, .slice ua ul uc, .int .u64 (dN : Int), .int .i64 (sN : Int), .int .i64 lv, .int .i64 rv] 109 (0, 0)) := by
        obtain ⟨V, hrow, _⟩ := HXX.out
        exact (ht5.out.same A2 (Array.getElem?_eq_some_iff.1 HA2.out).1 (fun hs => own_other hrow (by decide) A2 hs _ _ HA2.out)).trans HA2.out
      obtain ⟨p0, p1, p2, p3, p4, p5⟩ := node6 hA5
      have HKW := Lib.hid (show BV w5 (.slice ka kl kc) k from BV.keepE HBK.out hT5 fun hl b ho hs => by have := HLOW.out.1 b hl ho; have hs : base ≤ b := hs; omega)
      have HQ1 := Lib.hid (HQ.out.keepN HT1.out)
      have HQW := Lib.hid (show BV w5 (.slice qa ql qc) key from BV.keepE HQ1.out HTT.out fun hl b ho hs => by have := BV.low HQ1.out hl b ho; have hs : base ≤ b := hs; have := HB.out; omega)
      have HCP := Lib.hid (compareV_any HQW.out HKW.out (by have := HQL.out; omega) (by have := HOK.out.2.1; omega))
      have hz0 : cmpR key k = 0 ↔ key = k := cmpR_zero key k
      have hzn : cmpR key k < 0 ↔ klt key k = true := by rw [cmpR_neg]; exact klt_iff.symm
      obtain ⟨va5, vl5, vc5, rfl⟩ := HO5.out.form3
      have HP1 := Lib.hid (show L1 ++ [(⟨k, u, dl, dr⟩ : SideC)] ++ (if key = k then [] else if klt key k = true then pathT seed key l else pathT seed key r) = pathT seed key t from by rw [← HPATH.out, HDLE.out, HDRE.out]; simp)
      generalize cmpR key k = z at *
      have HZ0 := Lib.hid (And.intro hz0 hzn)
      clear ho5 ht5 hT5 hA5 v0 v1 v2 v3 fz2 fz3 n0 n1 n2 n3 n4 n5 HUS HXX hz0 hzn
      by_cases hkk : key = k
      · have hz : z = 0 := HZ0.out.1.2 hkk
        have HP2 := Lib.hid (show L1 ++ [(⟨k, u, dl, dr⟩ : SideC)] = pathT seed key t from by have h := HP1.out; rw [if_pos hkk, List.append_nil] at h; exact h)
        subst hz
        clear hkk
        go_wp2_with fail
        refine HCP.out.mono ?_
        rintro e w6 ⟨rfl, m6, rfl⟩
        go_wp2_with fail
        go_roundg 0
        case measure => have := HSJ.out.1; simp only [Tree.size] at this; omega
        case rel => exact ⟨va5, vl5, vc5, -1, _, rfl, rfl, Lib.hid ⟨HO5.out.keepN ((Touch.refl Nil w5).drewN _), .inl ⟨rfl, HP2.out⟩⟩, HTT.out.drewN _⟩
      · have HP2 := Lib.hid (show L1 ++ [(⟨k, u, dl, dr⟩ : SideC)] ++ (if klt key k = true then pathT seed key l else pathT seed key r) = pathT seed key t from by have h := HP1.out; rw [if_neg hkk] at h; exact h)
        have hzz : (z == 0) = false := by simp; intro e; exact hkk (HZ0.out.1.1 e)
        have hzz2 : z ≠ 0 := fun e => hkk (HZ0.out.1.1 e)
        clear hkk
        by_cases hlt : klt key k = true
        · have hzl : decide (z < 0) = true := by simpa using HZ0.out.2.2 hlt
          have HLT := Lib.hid hlt
          clear hlt
          go_wp2_with fail
          refine HCP.out.mono ?_
          rintro e w6 ⟨rfl, m6, rfl⟩
          go_wp2_with fail
          have hlt := HLT.out
          go_roundg l.size
          case measure => have := HSJ.out.1; simp only [Tree.size] at this; omega
          case rel =>
            refine ⟨va5, vl5, vc5, lv, _, rfl, rfl, Lib.hid ⟨HO5.out.keepN ((Touch.refl Nil w5).drewN _), ?_⟩, HTT.out.drewN _⟩
            have hp := HP2.out
            rw [if_pos hlt] at hp
            rcases HLVC.out with ⟨hl, hlv⟩ | ⟨hlv, _⟩
            · exact .inl ⟨hlv, by rw [← hp, hl]; simp [pathT]⟩
            · exact .inr ⟨i + 1, l, _, hlv, fun e => (by have h := HLV.out; rw [e] at h; have h : (-1 : Int) = lv := h; omega), Nat.le_refl _, HSG.out.left, HDL.out, hp, by have := HSJ.out.2; simp only [Tree.size, List.length_append, List.length_singleton] at this ⊢; omega⟩
        · have hzl : decide (z < 0) = false := by simp only [decide_eq_false_iff_not]; exact fun h => hlt (HZ0.out.2.1 h)
          have HLT := Lib.hid hlt
          clear hlt
          go_wp2_with fail
          refine HCP.out.mono ?_
          rintro e w6 ⟨rfl, m6, rfl⟩
          go_wp2_with fail
          have hlt := HLT.out
          go_roundg r.size
          case measure => have := HSJ.out.1; simp only [Tree.size] at this; omega
          case rel =>
            refine ⟨va5, vl5, vc5, rv, _, rfl, rfl, Lib.hid ⟨HO5.out.keepN ((Touch.refl Nil w5).drewN _), ?_⟩, HTT.out.drewN _⟩
            have hp := HP2.out
            rw [if_neg hlt] at hp
            rcases HRVC.out with ⟨hl, hlv⟩ | ⟨hlv, _⟩
            · exact .inl ⟨hlv, by rw [← hp, hl]; simp [pathT]⟩
            · exact .inr ⟨i + 1 + l.size, r, _, hlv, fun e => (by have h := HRV.out; rw [e] at h; have h : (-1 : Int) = rv := h; omega), Nat.le_refl _, HSG.out.right, HDR2.out, hp, by have := HSJ.out.2; simp only [Tree.size, List.length_append, List.length_singleton] at this ⊢; omega⟩
end Go.Proofs.Ytkkpcndpjkebkaa

/- The digest of a span. -/
namespace Go.Proofs.Ytkkpcndpjkebkaa
open Go.ChangeShapes Go.WideShapes Go.ChangeAt Go.RowKit Go.Deep

/-! ### Mathematics -/
theorem rankF_zero (key : Key) : ∀ {L : Pairs}, (∀ y ∈ L, klt y.1 key = false) → rankF key L = 0
  | [], _ => rfl
  | p :: L, h => by simp [rankF, h p (by simp)]
theorem rankF_drop (key : Key) : ∀ {L : Pairs}, Srt L → ∀ x, rankF key (L.drop x) = rankF key L - x
  | L, _, 0 => by simp
  | [], _, x + 1 => by simp [rankF]
  | p :: L, hs, x + 1 => by
    unfold Srt at hs
    rw [List.pairwise_cons] at hs
    have ih := rankF_drop key (L := L) hs.2 x
    rw [List.drop_succ_cons, ih]
    cases c : klt p.1 key with
    | true => simp only [rankF, c, if_true]; omega
    | false =>
      have h0 : rankF key L = 0 := rankF_zero key fun y hy => by
        rcases klt_false.1 c with e | e
        · rw [← e]; exact klt_ko.asym (hs.1 y hy)
        · exact klt_ko.asym (klt_ko.trans _ _ _ e (hs.1 y hy))
      simp only [rankF, c]
      rw [h0]
      simp
/-- How many pairs of a list a span has. -/
def spanLen (bo : Bool) (low high : Key) (L : Pairs) : Nat := (if bo = true then rankF high L else L.length) - rankF low L
theorem part_size (bo : Bool) (low high : Key) (t : Tree) (hs : Srt t.toL) : (partT bo low high t).size = spanLen bo low high t.toL := by
  have e1 := (split_toL low hs).2
  rw [← (rank_parts low hs).2] at e1
  cases bo with
  | false =>
    simp only [partT, spanLen, Bool.false_eq_true, if_false]
    rw [size_toL, e1, List.length_drop]
  | true =>
    have h1 : Srt (splitT low t).2.toL := by rw [e1]; exact List.Pairwise.sublist (List.drop_sublist _ _) hs
    have e2 := (split_toL high h1).1
    rw [← (rank_parts high h1).1] at e2
    simp only [partT, spanLen, if_true]
    rw [size_toL, e2, List.length_take, e1, rankF_drop high hs, List.length_drop]
    have := rankF_le high t.toL
    omega
/-- What a list of pairs that is in order makes, put in one after another. -/
theorem insL_last (k v : Key) {L : Pairs} (h : ∀ x ∈ L, klt x.1 k = true) : insL k v L = L ++ [(k, v)] := by
  unfold insL
  rw [filter_all h, filter_none fun x hx => klt_ko.asym (h x hx)]
theorem insAll_self : ∀ (L S : Pairs), Srt (S ++ L) → insAll L S = S ++ L
  | [], S, _ => by simp [insAll]
  | (k, v) :: L, S, h => by
    have h1 := (srt_node.1 h).2.2.1
    show insAll L (insL k v S) = _
    rw [insL_last k v h1, insAll_self L (S ++ [(k, v)]) (by simpa using h)]
    simp

theorem part_mem (bo : Bool) (low high : Key) (t : Tree) (hs : Srt t.toL) : ∀ p ∈ (partT bo low high t).toL, p ∈ t.toL := by
  intro p hp
  have e1 := (split_toL low hs).2
  cases bo with
  | false =>
    simp only [partT, Bool.false_eq_true, if_false] at hp
    rw [e1] at hp
    exact (List.mem_filter.1 hp).1
  | true =>
    have h1 : Srt (splitT low t).2.toL := by rw [e1]; exact List.Pairwise.filter _ hs
    simp only [partT, if_true] at hp
    rw [(split_toL high h1).1] at hp
    have := (List.mem_filter.1 hp).1
    rw [e1] at this
    exact (List.mem_filter.1 this).1

theorem touch_up {w0 w w' : World} {bb : Nat} (h : Touch Nil w0 w) (ht : Touch (Just bb) w w') (hb : w0.heap.size ≤ bb) : Touch Nil w0 w' := h.trans' ht fun b hb' hs => by have hs : b = bb := hs; omega

/-! ### The program -/
set_option maxRecDepth 100000 in
set_option maxHeartbeats 4000000 in
theorem spanDigest_map {seed : Int} {R : Nat → Prop} {w : World} {mb bb : Nat} {ra : Option Addr} {t : Tree} (h : MapAt seed R w mb bb ra t) {la ha : Option Addr} {ll lc hl hc : Nat} {low high : Key} (hlo : BV w (.slice la ll lc) low) (hhi : BV w (.slice ha hl hc) high) (bo : Bool) :
    Calls Try.prog 32 #[.pointer (some ⟨mb, 0, none⟩), .slice la ll lc, .slice ha hl hc, .bool bo] w fun e w' => e = .returned (.tuple #[.int .i64 (((partT bo low high t).size : Nat) : Int), .int .u64 ((digT seed (partT bo low high t) : Nat) : Int)]) ∧ Touch Nil w w' := by
  have HP := Lib.hid (part_map h hlo hhi bo)
  clear h hlo hhi
  generalize partT bo low high t = u at *
  obtain ⟨d, ed⟩ : ∃ d, digT seed u = d := ⟨_, rfl⟩
  obtain ⟨z, ez⟩ : ∃ z, u.size = z := ⟨_, rfl⟩
  rw [ed, ez]
  go_enter Try.func32, Try.ntmps32
  go_wp2_with fail
  refine HP.out.mono ?_
  rintro e w1 ⟨mb1, bb1, ra1, R1, rfl, hm1, _, ht1⟩
  have HT1 := Lib.hid ht1
  have HLE := Lib.hid (len_map hm1)
  have HDI := Lib.hid (digest_map hm1)
  rw [ed] at HDI
  rw [ez] at HLE
  clear hm1 ht1 ed ez
  go_wp2_with fail
  refine HLE.out.mono ?_
  rintro e w' ⟨rfl, rfl⟩
  go_wp2_with fail
  refine HDI.out.mono ?_
  rintro e w' ⟨rfl, rfl⟩
  go_wp2_with fail
  ((try simp only [Exit.inBlock, Exit.then]); refine bodyPost_ret (results_tmp2 rfl _ _ _) rfl ?_)
  exact ⟨rfl, HT1.out⟩

end Go.Proofs.Ytkkpcndpjkebkaa
