import Derived.Test.YtdfjpainjjkdgaaProveR
/- The proof of a key, as the definition makes it. -/
namespace Go.Proofs.Ytdfjpainjjkdgaa
open Go.ChangeShapes Go.WideShapes Go.ChangeAt Go.RowKit Go.Deep

def StepsPost (seed : Int) (key : Key) (t : Tree) (w : World) (e : Ending) (w' : World) : Prop := ∃ x, e = .returned x ∧ SL w' x (pathT seed key t) ∧ Touch Nil w w'
/-- A step's variable, as far as it is filled. -/
structure StepV (w X : World) (A11 : Nat) (kx ux : Value) (dl dr : Nat) (A10 : Nat) (N6 : Array Value) : Prop where
  s : X.heap[A11]? = some (.cells #[kx, ux, .int .u64 (dl : Int), .int .u64 (dr : Int)] 76 (0, 0))
  n : X.heap[A10]? = some (.cells N6 109 (0, 0))
  t : Touch Nil w X
  a : w.heap.size ≤ A11
theorem side_cells {w : World} {b t : Nat} {x y z u : Value} (h : w.heap[b]? = some (.cells #[x, y, z, u] t (0, 0))) : (w.cell? ⟨b, 0, none⟩ = some x ∧ w.cell? ⟨b, 1, none⟩ = some y ∧ w.cell? ⟨b, 2, none⟩ = some z ∧ w.cell? ⟨b, 3, none⟩ = some u) ∧ w.frozen? ⟨b, 2, none⟩ = false ∧ w.frozen? ⟨b, 3, none⟩ = false := by
  refine ⟨⟨?_, ?_, ?_, ?_⟩, ?_, ?_⟩ <;> simp [World.cell?, World.frozen?, h]
theorem node6 {w : World} {b t : Nat} {x y z u v q : Value} (h : w.heap[b]? = some (.cells #[x, y, z, u, v, q] t (0, 0))) :
    w.cell? ⟨b, 0, none⟩ = some x ∧ w.cell? ⟨b, 1, none⟩ = some y ∧ w.cell? ⟨b, 2, none⟩ = some z ∧ w.cell? ⟨b, 3, none⟩ = some u ∧ w.cell? ⟨b, 4, none⟩ = some v ∧ w.cell? ⟨b, 5, none⟩ = some q := by
  refine ⟨?_, ?_, ?_, ?_, ?_, ?_⟩ <;> simp [World.cell?, h]
theorem stepvA {w : World} (kx ux : Value) (dl dr : Nat) (N6 : Array Value) : StepV w ((w.alloc (.cells N6 109)).alloc (.cells #[kx, ux, .int .u64 (dl : Int), .int .u64 (dr : Int)] 76)) (w.heap.size + 1) kx ux dl dr w.heap.size N6 :=
  ⟨by have := heap_alloc_new (w.alloc (.cells N6 109)) (.cells #[kx, ux, .int .u64 (dl : Int), .int .u64 (dr : Int)] 76); rw [nblk_alloc] at this; exact this,
    (((Touch.refl Nil (w.alloc (.cells N6 109))).alloc _).same w.heap.size (by simp) (fun c => c)).trans (heap_alloc_new _ _), ((Touch.refl Nil w).alloc _).alloc _, by omega⟩
theorem StepV.set {w X : World} {A11 A10 : Nat} {kx ux : Value} {dl dr : Nat} {N6 : Array Value} (h : StepV w X A11 kx ux dl dr A10 N6) (o d dl' dr' : Nat) (ho : (o = 2 ∧ dl' = d ∧ dr' = dr) ∨ (o = 3 ∧ dl' = dl ∧ dr' = d)) : StepV w (X.setCell ⟨A11, o, none⟩ (.int .u64 (d : Int))) A11 kx ux dl' dr' A10 N6 := by
  have hne : A10 ≠ A11 := fun e => by
    have h1 := h.s
    rw [← e, h.n] at h1
    injection h1 with h1
    injection h1 with _ h1
    exact absurd h1 (by decide)
  have hs : (⟨A11, o, none⟩ : Addr).block < X.heap.size → Just A11 (⟨A11, o, none⟩ : Addr).block := fun _ => rfl
  have ht := (Touch.refl (Just A11) X).setCell ⟨A11, o, none⟩ (.int .u64 (d : Int)) hs
  have hrow : X.rowIs A11 76 4 (fun i => #[kx, ux, .int .u64 (dl : Int), .int .u64 (dr : Int)].getD i undef) := ⟨_, h.s, rfl, fun i hi => by
    have : i = 0 ∨ i = 1 ∨ i = 2 ∨ i = 3 := by omega
    rcases this with rfl | rfl | rfl | rfl <;> rfl⟩
  refine ⟨row_block ((hrow.set o (.int .u64 (d : Int))).congr (g := fun i => #[kx, ux, .int .u64 (dl' : Int), .int .u64 (dr' : Int)].getD i undef) fun i hi => ?_), (ht.same A10 (Array.getElem?_eq_some_iff.1 h.n).1 (fun e => hne e)).trans h.n, h.t.setCell _ _ (fun hl => by have hl : A11 < w.heap.size := hl; have := h.a; omega), h.a⟩
  have : i = 0 ∨ i = 1 ∨ i = 2 ∨ i = 3 := by omega
  rcases ho with ⟨rfl, rfl, rfl⟩ | ⟨rfl, rfl, rfl⟩ <;> rcases this with rfl | rfl | rfl | rfl <;> rfl
set_option maxRecDepth 100000 in
set_option maxHeartbeats 4000000 in
theorem proveR_any {seed : Int} {t : Tree} {w : World} {lx qx : Value} {key : Key} (hg : GoodT seed t) (hp : PL w lx t.toL) (hz : t.size ≤ 100000) (hq : BV w qx key) (hql : key.length ≤ 1000000) :
    Calls Try.prog 39 #[.int .u64 seed, lx, qx] w (StepsPost seed key t w) := by
  have HND := Lib.hid (nodesR_any hg.srt hg.heap hg.ok hp (by omega))
  have HQ := Lib.hid hq
  have HZ := Lib.hid hz
  have HQL := Lib.hid hql
  have HGD := Lib.hid hg
  obtain ⟨la, ln, lc, rfl⟩ := hp.form3
  obtain ⟨qa, qc, rfl⟩ := hq.len'
  have HE : ∃ ql, key.length = ql := ⟨_, rfl⟩
  obtain ⟨ql, eql⟩ := HE
  rw [eql] at HQ ⊢
  have HKE := Lib.hid eql
  clear hg hp hz hq hql eql
  go_enter Try.func39, Try.ntmps39
  go_wp2_with fail
  refine HND.out.mono ?_
  rintro e w1 ⟨nx, rfl, hno, ht1⟩
  have hnl := hno.rl
  obtain ⟨na, nn, nc, rfl⟩ := hnl.form3
  have HNL := Lib.hid (show NL w1 (.slice na nn nc) (nodesT seed 0 t) from hnl)
  have HT1 := Lib.hid ht1
  have HNN := Lib.hid (show nn = t.size from by have h := hnl.len; rw [nodesT_len] at h; exact h)
  obtain ⟨base, hbase⟩ : ∃ base, w1.heap.size = base := ⟨_, rfl⟩
  have HB := Lib.hid hbase
  clear hno hnl ht1 hbase
  cases t with
  | nil =>
    obtain rfl : nn = 0 := HNN.out
    go_wp2_with fail
    go_loopg [8, 9] 0 (fun j x n wr => x = .slice none 0 0 ∧ n = .int .i64 (-1) ∧ w1 = wr)
    case atStart => exact ⟨rfl, rfl, rfl⟩
    obtain ⟨rfl, rfl, rfl⟩ := hrel
    go_wp2_with fail
    go_ret
    exact ⟨_, rfl, (OL.nil (T := 76) (base := 0) (k := 4) (fld := sideF)).rl, HT1.out⟩
  | node l0 k0 u0 r0 =>
    have hnn : decide (0 < nn) = true := by have := HNN.out; simp only [Tree.size] at this; simp; omega
    have hnn2 : 0 < nn := by have := HNN.out; simp only [Tree.size] at this; omega
    obtain ⟨t, et⟩ : ∃ t, Tree.node l0 k0 u0 r0 = t := ⟨_, rfl⟩
    have HTN := Lib.hid (show t ≠ .nil from by rw [← et]; exact fun h => by cases h)
    rw [et] at HNL HNN HZ HGD
    have HTE := Lib.hid et
    clear et
    obtain ⟨N, eN⟩ : ∃ N, nodesT seed 0 t = N := ⟨_, rfl⟩
    rw [eN] at HNL
    have HDR := Lib.hid (show N.drop 0 = nodesT seed 0 t ++ [] from by rw [← eN]; simp)
    have HNLEN := Lib.hid (show N.length = nn from by rw [← eN, nodesT_len, HNN.out])
    clear eN
    go_wp2_with fail
    go_loopg [8, 9] t.size (fun j x n wr => ∃ (xa : Option Addr) (xl xc : Nat) (at' : Int) (L1 : List SideC), x = .slice xa xl xc ∧ n = .int .i64 at' ∧ Hid (SO base wr (.slice xa xl xc) L1 ∧ ((at' = -1 ∧ L1 = pathT seed key t) ∨ ∃ (i : Nat) (s : Tree) (rest : List NodeC), at' = (i : Int) ∧ s ≠ .nil ∧ s.size ≤ j ∧ GoodT seed s ∧ N.drop i = nodesT seed i s ++ rest ∧ L1 ++ pathT seed key s = pathT seed key t ∧ L1.length + s.size ≤ t.size)) ∧ Touch (From base) w1 wr)
    case atStart => exact ⟨none, 0, 0, 0, [], rfl, rfl, Lib.hid ⟨OL.nil, .inr ⟨0, t, [], rfl, HTN.out, Nat.le_refl _, HGD.out, HDR.out, rfl, by simp⟩⟩, Touch.refl _ _⟩
    obtain ⟨xa, xl, xc, at', L1, rfl, rfl, HR, hto⟩ := hrel
    have HT := Lib.hid hto
    clear hto
    obtain ⟨hso, ⟨rfl, hfin⟩ | ⟨i, s, rest, rfl, hsn, hsj, hsg, hdr, hpath, hln⟩⟩ := HR.out
    · have HF := Lib.hid (And.intro hso hfin)
      clear hso hfin HR
      go_wp2_with fail
      go_ret
      exact ⟨_, rfl, by rw [HTE.out, ← HF.out.2]; exact HF.out.1.rl, HT1.out.trans (HT.out.mono fun b hb hs => by have hs : base ≤ b := hs; have := HB.out; omega)⟩
    · cases s with
      | nil => exact absurd rfl hsn
      | node l k u r =>
      obtain ⟨hxi, hdl, hdr2⟩ := nodes_left seed hdr
      have HSO := Lib.hid hso
      have HPATH := Lib.hid (show L1 ++ (⟨k, u, digT seed l, digT seed r⟩ :: (if key = k then [] else if klt key k = true then pathT seed key l else pathT seed key r)) = pathT seed key t from hpath)
      have HSJ := Lib.hid (And.intro hsj hln)
      have HSG := Lib.hid hsg
      have HDL := Lib.hid hdl
      have HDR2 := Lib.hid hdr2
      have hok : okK k u := hsg.ok (k, u) (by simp [Tree.toL])
      have HOK := Lib.hid hok
      obtain ⟨b, off, ka, kc, ua, uc, rfl, hbB, ⟨c0, c1, c2, c3, c4, c5⟩, hbk, hbu⟩ := NL.el HNL.out hxi
      have hbb : b < base := by have := HB.out; omega
      have hkf : KF base w1 (.slice ka k.length kc) (.b k) := KF.of (w := w1) (f := .b k) hbk (Nat.le_of_eq HB.out)
      have huf : KF base w1 (.slice ua u.length uc) (.b u) := KF.of (w := w1) (f := .b u) hbu (Nat.le_of_eq HB.out)
      have HLOW := Lib.hid (show (∀ b, k ≠ [] → OwnOf (.slice ka k.length kc) b → b < base) ∧ (∀ b, u ≠ [] → OwnOf (.slice ua u.length uc) b → b < base) from ⟨fun b hl ho => by have := BV.low hbk hl b ho; have := HB.out; omega, fun b hl ho => by have := BV.low hbu hl b ho; have := HB.out; omega⟩)
      replace hbk : BV wr (.slice ka k.length kc) k := BV.keepE hbk HT.out fun hl b ho hs => by have := HLOW.out.1 b hl ho; have hs : base ≤ b := hs; omega
      replace hbu : BV wr (.slice ua u.length uc) u := BV.keepE hbu HT.out fun hl b ho hs => by have := HLOW.out.2 b hl ho; have hs : base ≤ b := hs; omega
      replace c0 := cell_stepF c0 hbb HT.out
      replace c1 := cell_stepF c1 hbb HT.out
      replace c2 := cell_stepF c2 hbb HT.out
      replace c3 := cell_stepF c3 hbb HT.out
      replace c4 := cell_stepF c4 hbb HT.out
      replace c5 := cell_stepF c5 hbb HT.out
      have hb : b < wr.heap.size := Nat.lt_of_lt_of_le hbB HT.out.size
      clear hkf huf
      have i1 : (i : Int) < (nn : Int) := by have h := (List.getElem?_eq_some_iff.1 hxi).1; have := HNLEN.out; omega
      have i2 : (0 : Int) ≤ (i : Int) := by omega
      replace c0 : wr.cell? ⟨b, off + i * 6, none⟩ = some (.slice ka k.length kc) := c0
      replace c1 : wr.cell? ⟨b, off + i * 6 + 1, none⟩ = some (.slice ua u.length uc) := c1
      have HBK := Lib.hid hbk
      have HBU := Lib.hid hbu
      obtain ⟨kl, ekl⟩ : ∃ kl, k.length = kl := ⟨_, rfl⟩
      obtain ⟨ul, eul⟩ : ∃ ul, u.length = ul := ⟨_, rfl⟩
      rw [ekl] at c0 HBK
      rw [eul] at c1 HBU
      rw [ekl, eul] at HLOW
      have HKL := Lib.hid ekl
      obtain ⟨dN, edN⟩ : ∃ dN, (nodeAt seed i l k u r).d = dN := ⟨_, rfl⟩
      obtain ⟨sN, esN⟩ : ∃ sN, (nodeAt seed i l k u r).s = sN := ⟨_, rfl⟩
      obtain ⟨lv, elv⟩ : ∃ lv, (nodeAt seed i l k u r).l = lv := ⟨_, rfl⟩
      obtain ⟨rv, erv⟩ : ∃ rv, (nodeAt seed i l k u r).r = rv := ⟨_, rfl⟩
      rw [edN] at c2
      rw [esN] at c3
      rw [elv] at c4
      rw [erv] at c5
      have HLV := Lib.hid (show childAt l (i + 1) = lv from elv)
      have HRV := Lib.hid (show childAt r (i + 1 + l.size) = rv from erv)
      obtain ⟨dl, edl⟩ : ∃ dl, digT seed l = dl := ⟨_, rfl⟩
      obtain ⟨dr, edr⟩ : ∃ dr, digT seed r = dr := ⟨_, rfl⟩
      have HDLE := Lib.hid edl
      have HDRE := Lib.hid edr
      have HLVC := Lib.hid (show (l = .nil ∧ lv = -1) ∨ (lv = ((i + 1 : Nat) : Int) ∧ ∃ y, N[i + 1]? = some y ∧ y.d = dl) from by
        rw [← HLV.out]
        cases l with
        | nil => exact .inl ⟨rfl, rfl⟩
        | node l9 k9 u9 r9 => exact .inr ⟨rfl, _, (nodes_left seed hdl).1, by rw [← HDLE.out]; rfl⟩)
      have HRVC := Lib.hid (show (r = .nil ∧ rv = -1) ∨ (rv = ((i + 1 + l.size : Nat) : Int) ∧ ∃ y, N[i + 1 + l.size]? = some y ∧ y.d = dr) from by
        rw [← HRV.out]
        cases r with
        | nil => exact .inl ⟨rfl, rfl⟩
        | node l9 k9 u9 r9 => exact .inr ⟨rfl, _, (nodes_left seed hdr2).1, by rw [← HDRE.out]; rfl⟩)
      clear hso hdr hpath hsj hln hsg hok hbk hbu ekl eul edN esN elv erv edl edr hxi hdl hdr2 hsn HR
      go_upto_if 32 with fail
      go_cut [10, 11] (fun s10 s11 wx => ∃ A10 A11 : Nat, s10 = .pointer (some ⟨A10, 0, none⟩) ∧ s11 = .pointer (some ⟨A11, 0, none⟩) ∧ Hid (StepV wr wx A11 (.slice ka kl kc) (.slice ua ul uc) dl 0 A10 #[.slice ka kl kc, .slice ua ul uc, .int .u64 (dN : Int), .int .i64 (sN : Int), .int .i64 lv, .int .i64 rv]))
      case first =>
        rcases HLVC.out with ⟨hl, hlv⟩ | ⟨hlv, y, hy, hyd⟩
        · have HDV := Lib.hid (show dl = 0 from by rw [← HDLE.out, hl]; rfl)
          clear hl
          subst hlv
          go_wp2_with fail
          go_meet
          exact ⟨_, _, rfl, rfl, Lib.hid (by rw [HDV.out]; exact stepvA _ _ 0 0 _)⟩
        · obtain ⟨j, ej⟩ : ∃ j, i + 1 = j := ⟨_, rfl⟩
          rw [ej] at hlv hy
          have hjn : j < nn := by have h := (List.getElem?_eq_some_iff.1 hy).1; have := HNLEN.out; omega
          obtain ⟨b9, off9, _, _, _, _, e9, _, ⟨_, _, g2, _, _, _⟩, _, _⟩ := NL.el (HNL.out.keepF (Nat.le_of_eq HB.out) HT.out) hy
          cases e9
          rw [hyd] at g2
          subst hlv
          have j1 : (j : Int) < (nn : Int) := by omega
          have j2 : (0 : Int) ≤ (j : Int) := by omega
          have j3 : decide ((0 : Int) ≤ (j : Int)) = true := by simp
          clear ej hy hyd
          go_wp2_with fail
          go_meet
          exact ⟨_, _, rfl, rfl, Lib.hid (by first | exact (stepvA _ _ 0 0 _).set 2 dl dl 0 (.inl ⟨rfl, rfl, rfl⟩) | exact stepvA _ _ _ _ _)⟩
      case rest =>
      obtain ⟨A1, B1, rfl, rfl, HV1⟩ := hcut
      obtain ⟨⟨v0, v1, v2, v3⟩, fz2, fz3⟩ := side_cells HV1.out.s
      obtain ⟨n0, n1, n2, n3, n4, n5⟩ := node6 HV1.out.n
      have hbw : b < wc.heap.size := Nat.lt_of_lt_of_le hb HV1.out.t.size
      have v2' : wc.cell? ⟨B1, 2, none⟩ = some (.int .u64 (dl : Int)) := v2
      clear c0 c1 c2 c3 c4 c5
      go_upto_if 42 with fail
      go_cut [10, 11] (fun s10 s11 wx => ∃ A10 A11 : Nat, s10 = .pointer (some ⟨A10, 0, none⟩) ∧ s11 = .pointer (some ⟨A11, 0, none⟩) ∧ Hid (StepV wr wx A11 (.slice ka kl kc) (.slice ua ul uc) dl dr A10 #[.slice ka kl kc, .slice ua ul uc, .int .u64 (dN : Int), .int .i64 (sN : Int), .int .i64 lv, .int .i64 rv]))
      case first =>
        rcases HRVC.out with ⟨hl, hlv⟩ | ⟨hlv, y, hy, hyd⟩
        · have HDV := Lib.hid (show dr = 0 from by rw [← HDRE.out, hl]; rfl)
          clear hl
          subst hlv
          go_wp2_with fail
          go_meet
          exact ⟨_, _, rfl, rfl, Lib.hid (by rw [HDV.out]; exact HV1.out)⟩
        · obtain ⟨j, ej⟩ : ∃ j, i + 1 + l.size = j := ⟨_, rfl⟩
          rw [ej] at hlv hy
          have hjn : j < nn := by have h := (List.getElem?_eq_some_iff.1 hy).1; have := HNLEN.out; omega
          obtain ⟨b9, off9, _, _, _, _, e9, _, ⟨_, _, g2, _, _, _⟩, _, _⟩ := NL.el (HNL.out.keepF (Nat.le_of_eq HB.out) (HT.out.trans HV1.out.t.of_nil)) hy
          cases e9
          rw [hyd] at g2
          subst hlv
          have j1 : (j : Int) < (nn : Int) := by omega
          have j2 : (0 : Int) ≤ (j : Int) := by omega
          have j3 : decide ((0 : Int) ≤ (j : Int)) = true := by simp
          clear ej hy hyd
          go_wp2_with fail
          go_meet
          exact ⟨_, _, rfl, rfl, Lib.hid (by first | exact HV1.out.set 3 dr dl dr (.inr ⟨rfl, rfl, rfl⟩) | exact stepvA _ _ _ _ _)⟩
      case rest =>
      obtain ⟨A2, B2, rfl, rfl, HV2⟩ := hcut
      clear v0 v1 v2 v2' v3 fz2 fz3 n0 n1 n2 n3 n4 n5
      obtain ⟨⟨v0, v1, v2, v3⟩, fz2, fz3⟩ := side_cells HV2.out.s
      obtain ⟨n0, n1, n2, n3, n4, n5⟩ := node6 HV2.out.n
      have HTA := Lib.hid ((Touch.refl Nil wc).alloc (.cells #[.slice ka kl kc, .slice ua ul uc, .int .u64 (dl : Int), .int .u64 (dr : Int)] 76))
      have HXX := Lib.hid ((HSO.out.keepN HV2.out.t).keepN HTA.out)
      have HBW := Lib.hid (show base ≤ (wc.alloc (.cells #[.slice ka kl kc, .slice ua ul uc, .int .u64 (dl : Int), .int .u64 (dr : Int)] 76)).heap.size from by have h1 := HB.out; have h2 := HT.out.size; have h3 := (HV2.out.t.trans HTA.out).size; omega)
      have HUS := Lib.hid (show ∀ j v, ([.slice ka kl kc, .slice ua ul uc, .int .u64 (dl : Int), .int .u64 (dr : Int)] : List Value)[j]? = some v → (wc.alloc (.cells #[.slice ka kl kc, .slice ua ul uc, .int .u64 (dl : Int), .int .u64 (dr : Int)] 76)).cell? ⟨wc.heap.size, j, none⟩ = some v ∧ KF base (wc.alloc (.cells #[.slice ka kl kc, .slice ua ul uc, .int .u64 (dl : Int), .int .u64 (dr : Int)] 76)) v (sideF ⟨k, u, dl, dr⟩ j) from fun j v hj => by
        refine ⟨by rw [cell_new]; simpa using hj, ?_⟩
        match j, hj with
        | 0, hj => cases hj; exact ⟨(HBK.out.keepN HV2.out.t).keepN HTA.out, fun l e hl b ho => by cases e; exact .inl (HLOW.out.1 b hl ho)⟩
        | 1, hj => cases hj; exact ⟨(HBU.out.keepN HV2.out.t).keepN HTA.out, fun l e hl b ho => by cases e; exact .inl (HLOW.out.2 b hl ho)⟩
        | 2, hj => cases hj; exact KF.num
        | 3, hj => cases hj; exact KF.num)
      have HA2 := Lib.hid (show (wc.alloc (.cells #[.slice ka kl kc, .slice ua ul uc, .int .u64 (dl : Int), .int .u64 (dr : Int)] 76)).heap[A2]? = some (.cells #[.slice ka kl kc, .slice ua ul uc, .int .u64 (dN : Int), .int .i64 (sN : Int), .int .i64 lv, .int .i64 rv] 109 (0, 0)) from (HTA.out.same A2 (Array.getElem?_eq_some_iff.1 HV2.out.n).1 (fun c => c)).trans HV2.out.n)
      go_wp2_with (refine wpList_append_el rfl (.tmp 50) (.tmp 52) rfl (.agg #[.slice none 0 0, .slice none 0 0, .int .u64 0, .int .u64 0]) Try.underlying66 infoSide rfl (by decide) (by decide) (by decide) (.slice xa xl xc) rfl HXX.out wc.heap.size 1 rfl [.slice ka kl kc, .slice ua ul uc, .int .u64 (dl : Int), .int .u64 (dr : Int)] ⟨k, u, dl, dr⟩ rfl HUS.out (by have := HSJ.out.2; have := HZ.out; omega) HBW.out ?e1)
      intro v5 w5 ho5 ht5
      have HO5 := Lib.hid (show SO base w5 v5 (L1 ++ [⟨k, u, dl, dr⟩]) from ho5.out)
      have hT5 : Touch (From base) wr w5 := (HV2.out.t.trans HTA.out).of_nil.trans (ht5.out.mono fun b _ hs => HXX.out.base' b hs)
      have HTT := Lib.hid (HT.out.trans hT5)
      have hA5 : w5.heap[A2]? = some (.cells #[.slice ka kl kc, .slice ua ul uc, .int .u64 (dN : Int), .int .i64 (sN : Int), .int .i64 lv, .int .i64 rv] 109 (0, 0)) := by
        obtain ⟨V, hrow, _⟩ := HXX.out
        exact (ht5.out.same A2 (Array.getElem?_eq_some_iff.1 HA2.out).1 (fun hs => own_other hrow (by decide) A2 hs _ _ HA2.out)).trans HA2.out
      obtain ⟨p0, p1, p2, p3, p4, p5⟩ := node6 hA5
      have HKW := Lib.hid (show BV w5 (.slice ka kl kc) k from BV.keepE HBK.out hT5 fun hl b ho hs => by have := HLOW.out.1 b hl ho; have hs : base ≤ b := hs; omega)
      have HQ1 := Lib.hid (HQ.out.keepN HT1.out)
      have HQW := Lib.hid (show BV w5 (.slice qa ql qc) key from BV.keepE HQ1.out HTT.out fun hl b ho hs => by have := BV.low HQ1.out hl b ho; have hs : base ≤ b := hs; have := HB.out; omega)
      have HCP := Lib.hid (compareV_any HQW.out HKW.out (by have := HQL.out; omega) (by have := HOK.out.2.1; omega))
      have hz0 : cmpR key k = 0 ↔ key = k := cmpR_zero key k
      have hzn : cmpR key k < 0 ↔ klt key k = true := by rw [cmpR_neg]; exact klt_iff.symm
      obtain ⟨va5, vl5, vc5, rfl⟩ := HO5.out.form3
      have HP1 := Lib.hid (show L1 ++ [(⟨k, u, dl, dr⟩ : SideC)] ++ (if key = k then [] else if klt key k = true then pathT seed key l else pathT seed key r) = pathT seed key t from by rw [← HPATH.out, HDLE.out, HDRE.out]; simp)
      generalize cmpR key k = z at *
      have HZ0 := Lib.hid (And.intro hz0 hzn)
      clear ho5 ht5 hT5 hA5 v0 v1 v2 v3 fz2 fz3 n0 n1 n2 n3 n4 n5 HUS HXX hz0 hzn
      by_cases hkk : key = k
      · have hz : z = 0 := HZ0.out.1.2 hkk
        have HP2 := Lib.hid (show L1 ++ [(⟨k, u, dl, dr⟩ : SideC)] = pathT seed key t from by have h := HP1.out; rw [if_pos hkk, List.append_nil] at h; exact h)
        subst hz
        clear hkk
        go_wp2_with fail
        refine HCP.out.mono ?_
        rintro e w6 ⟨rfl, m6, rfl⟩
        go_wp2_with fail
        go_roundg 0
        case measure => have := HSJ.out.1; simp only [Tree.size] at this; omega
        case rel => exact ⟨va5, vl5, vc5, -1, _, rfl, rfl, Lib.hid ⟨HO5.out.keepN ((Touch.refl Nil w5).drewN _), .inl ⟨rfl, HP2.out⟩⟩, HTT.out.drewN _⟩
      · have HP2 := Lib.hid (show L1 ++ [(⟨k, u, dl, dr⟩ : SideC)] ++ (if klt key k = true then pathT seed key l else pathT seed key r) = pathT seed key t from by have h := HP1.out; rw [if_neg hkk] at h; exact h)
        have hzz : (z == 0) = false := by simp; intro e; exact hkk (HZ0.out.1.1 e)
        have hzz2 : z ≠ 0 := fun e => hkk (HZ0.out.1.1 e)
        clear hkk
        by_cases hlt : klt key k = true
        · have hzl : decide (z < 0) = true := by simpa using HZ0.out.2.2 hlt
          have HLT := Lib.hid hlt
          clear hlt
          go_wp2_with fail
          refine HCP.out.mono ?_
          rintro e w6 ⟨rfl, m6, rfl⟩
          go_wp2_with fail
          have hlt := HLT.out
          go_roundg l.size
          case measure => have := HSJ.out.1; simp only [Tree.size] at this; omega
          case rel =>
            refine ⟨va5, vl5, vc5, lv, _, rfl, rfl, Lib.hid ⟨HO5.out.keepN ((Touch.refl Nil w5).drewN _), ?_⟩, HTT.out.drewN _⟩
            have hp := HP2.out
            rw [if_pos hlt] at hp
            rcases HLVC.out with ⟨hl, hlv⟩ | ⟨hlv, _⟩
            · exact .inl ⟨hlv, by rw [← hp, hl]; simp [pathT]⟩
            · exact .inr ⟨i + 1, l, _, hlv, fun e => (by have h := HLV.out; rw [e] at h; have h : (-1 : Int) = lv := h; omega), Nat.le_refl _, HSG.out.left, HDL.out, hp, by have := HSJ.out.2; simp only [Tree.size, List.length_append, List.length_singleton] at this ⊢; omega⟩
        · have hzl : decide (z < 0) = false := by simp only [decide_eq_false_iff_not]; exact fun h => hlt (HZ0.out.2.1 h)
          have HLT := Lib.hid hlt
          clear hlt
          go_wp2_with fail
          refine HCP.out.mono ?_
          rintro e w6 ⟨rfl, m6, rfl⟩
          go_wp2_with fail
          have hlt := HLT.out
          go_roundg r.size
          case measure => have := HSJ.out.1; simp only [Tree.size] at this; omega
          case rel =>
            refine ⟨va5, vl5, vc5, rv, _, rfl, rfl, Lib.hid ⟨HO5.out.keepN ((Touch.refl Nil w5).drewN _), ?_⟩, HTT.out.drewN _⟩
            have hp := HP2.out
            rw [if_neg hlt] at hp
            rcases HRVC.out with ⟨hl, hlv⟩ | ⟨hlv, _⟩
            · exact .inl ⟨hlv, by rw [← hp, hl]; simp [pathT]⟩
            · exact .inr ⟨i + 1 + l.size, r, _, hlv, fun e => (by have h := HRV.out; rw [e] at h; have h : (-1 : Int) = rv := h; omega), Nat.le_refl _, HSG.out.right, HDR2.out, hp, by have := HSJ.out.2; simp only [Tree.size, List.length_append, List.length_singleton] at this ⊢; omega⟩
end Go.Proofs.Ytdfjpainjjkdgaa
