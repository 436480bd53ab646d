import Derived.Test.YticddcnlafbkoaaDoorVdone
/- What the definition does to nothing: Xor of bytes, Put into no pads. -/
namespace Go.Proofs.YticddcnlafbkoaaDoor
open Go.ChangeShapes Go.WideShapes Go.ChangeAt Go.RowKit Go.Deep
attribute [local go_sem] Oper.semAt_some

structure X1 (base : Nat) (xo : Option Addr) (xc : Nat) (yo : Option Addr) (yc n i xb xf yb yf p q : Nat) (r : UInt8) (V : Value) (l : Key) (w1 : World) (J : Array Bool) (W : World) (v5 v14 v15 v16 v17 v18 v19 v20 v21 v22 v23 v24 v25 : Value) : Prop where
  f0 : J.getD 0 false = true → v14 = V
  f1 : J.getD 1 false = true → v15 = .slice xo n xc
  f2 : J.getD 2 false = true → v16 = .int .i64 (i : Int)
  f3 : J.getD 3 false = true → v17 = .pointer (some ⟨xb, xf + i, none⟩)
  f4 : J.getD 4 false = true → v18 = .int .u8 (p : Int)
  f5 : J.getD 5 false = true → v19 = .slice yo n yc
  f6 : J.getD 6 false = true → v20 = .int .i64 (i : Int)
  f7 : J.getD 7 false = true → v21 = .pointer (some ⟨yb, yf + i, none⟩)
  f8 : J.getD 8 false = true → v22 = .int .u8 (q : Int)
  f9 : J.getD 9 false = true → v23 = .int .u8 ((r.toNat : Nat) : Int)
  f10 : J.getD 10 false = true → ¬ J.getD 11 false = true → BV W v24 [r]
  f11 : J.getD 11 false = true → OwnB base W v25 (l ++ [r])
  f12 : J.getD 12 false = true → v5 = v25 ∧ J.getD 11 false = true
  g12 : ¬ J.getD 12 false = true → v5 = V
  c11 : J.getD 11 false = true → J.getD 0 false = true
  own : ¬ J.getD 11 false = true → OwnB base W V l
  t : Touch (From base) w1 W
  n : base ≤ W.heap.size
theorem xorL_take {a b : Key} {i : Nat} (ha : i < a.length) (hb : i < b.length) : (xorL a b).take (i + 1) = (xorL a b).take i ++ [a.getD i 0 ^^^ b.getD i 0] := by
  have hl : i < (xorL a b).length := by simp [xorL]; omega
  rw [List.take_add_one, ← xorL_get ha hb]
  simp [List.getD_eq_getElem?_getD, hl]
set_option maxRecDepth 100000 in
set_option maxHeartbeats 4000000 in
theorem xorR_any {w : World} {x y : Value} {a b : Key} (hx : BV w x a) (hy : BV w y b) (hl : a.length = b.length) (hm : a.length ≤ 100000) : Calls Tryd.prog 28 #[x, y] w (ClonePost (xorL a b) w) := by
  have HX := Lib.hid hx
  have HY := Lib.hid hy
  obtain ⟨xo, xc, rfl, _, _⟩ := hx
  obtain ⟨yo, yc, rfl, _, _⟩ := hy
  obtain ⟨n, en⟩ : ∃ n, a.length = n := ⟨_, rfl⟩
  have HLN := Lib.hid (show a.length = n ∧ b.length = n from ⟨en, hl.symm.trans en⟩)
  have HM := Lib.hid (show n ≤ 100000 from by omega)
  rw [show b.length = n from HLN.out.2, en]
  have HTA := Lib.hid ((Touch.refl Nil w).alloc (.cells #[] 5))
  have HON := Lib.hid (own_new w)
  clear hl hm en
  go_enter Tryd.func28, Tryd.ntmps28
  go_wp2_with fail
  go_loopw [5, 6] (fun v s wr => ∃ (i : Nat) (V : Value), i ≤ n ∧ v = V ∧ s = .int .i64 (i : Int) ∧ Hid (OwnB w.heap.size wr V ((xorL a b).take i) ∧ Touch Nil w wr)) (fun _ s _ => n - (intOf s).toNat)
  case atStart => exact ⟨0, _, Nat.zero_le _, rfl, rfl, Lib.hid ⟨HON.out, HTA.out⟩⟩
  obtain ⟨i, V, hi, hv, rfl, HK⟩ := hrel
  have hv' := hv.symm
  subst hv'
  by_cases hlt : i < n
  · have tw := HK.out.2
    have ha : i < a.length := by rw [HLN.out.1]; exact hlt
    have hb : i < b.length := by rw [HLN.out.2]; exact hlt
    obtain ⟨_, _, ex, _, sx⟩ := HX.out.keepN tw
    cases ex
    obtain ⟨_, _, ey, _, sy⟩ := HY.out.keepN tw
    cases ey
    obtain ⟨xb, xf, rfl, cx⟩ := sx i (by simpa using ha)
    obtain ⟨yb, yf, rfl, cy⟩ := sy i (by simpa using hb)
    rw [ub_getD a i ha] at cx
    rw [ub_getD b i hb] at cy
    have HTK := Lib.hid (xorL_take ha hb)
    have HBX := Lib.hid (bits_xor8 (a.getD i 0) (b.getD i 0))
    have i1 : (i : Int) < (n : Int) := by omega
    have i2 : (0 : Int) ≤ (i : Int) := by omega
    have hnm : n ≤ 100000 := HM.out
    have HCX := Lib.hid cx
    have HCY := Lib.hid cy
    have HXB := Lib.hid (show xb < w.heap.size from by
      obtain ⟨ao', c', e, _, s⟩ := HX.out
      obtain ⟨b', o', e2, c2⟩ := s i (by simpa using ha)
      injection e with e3; rw [← e3] at e2; cases e2
      exact World.block_lt_of_cell? w _ c2)
    have HYB := Lib.hid (show yb < w.heap.size from by
      obtain ⟨ao', c', e, _, s⟩ := HY.out
      obtain ⟨b', o', e2, c2⟩ := s i (by simpa using hb)
      injection e with e3; rw [← e3] at e2; cases e2
      exact World.block_lt_of_cell? w _ c2)
    generalize a.getD i 0 ^^^ b.getD i 0 = r at *
    have hxl := (a.getD i 0).toNat_lt
    have hyl := (b.getD i 0).toNat_lt
    generalize (a.getD i 0).toNat = p at *
    generalize (b.getD i 0).toNat = q at *
    obtain ⟨xo, exo⟩ : ∃ xo : Option Addr, some ⟨xb, xf, none⟩ = xo := ⟨_, rfl⟩
    obtain ⟨yo, eyo⟩ : ∃ yo : Option Addr, some ⟨yb, yf, none⟩ = yo := ⟨_, rfl⟩
    have HXO := Lib.hid exo
    have HYO := Lib.hid eyo
    obtain ⟨l, el⟩ : ∃ l, (xorL a b).take i = l := ⟨_, rfl⟩
    rw [el] at HTK
    have HLL := Lib.hid (show l.length ≤ 100000 from by rw [← el, List.length_take]; omega)
    have HK' := Lib.hid (show OwnB w.heap.size wr V l ∧ Touch Nil w wr from by rw [← el]; exact HK.out)
    obtain ⟨base, ebase⟩ : ∃ base, w.heap.size = base := ⟨_, rfl⟩
    rw [ebase] at HK' HXB HYB ⊢
    have HBS := Lib.hid ebase
    have HNS := Lib.hid (show base ≤ wr.heap.size from by rw [← ebase]; exact tw.size)
    clear sx sy ha hb tw cx cy el HK ebase
    rw [exo, eyo]
    clear exo eyo
    go_wp2_with fail
    refine (wpIn_wide (n := 7)).1 (region_inv (by kernel_rfl) (by kernel_rfl) (fun J a W => J.size = 13 ∧ ∃ v5 v14 v15 v16 v17 v18 v19 v20 v21 v22 v23 v24 v25 j8 j9 j10 j11 j12 j13, a = { tmps := #[.slice xo n xc, .slice yo n yc, undef, undef, .slice none 0 0, v5, .int .i64 (i : Int), .slice (some ⟨base, 0, none⟩) 0 0, j8, j9, j10, j11, j12, j13, v14, v15, v16, v17, v18, v19, v20, v21, v22, v23, v24, v25, undef], defers := [] } ∧ X1 base xo xc yo yc n i xb xf yb yf p q r V l wr J W v5 v14 v15 v16 v17 v18 v19 v20 v21 v22 v23 v24 v25) ?_ ?_ ?_)
    · exact ⟨rfl, _, _, _, _, _, _, _, _, _, _, _, _, _, _, _, _, _, _, _, rfl, { f0 := fun h => absurd h (by decide), f1 := fun h => absurd h (by decide), f2 := fun h => absurd h (by decide), f3 := fun h => absurd h (by decide), f4 := fun h => absurd h (by decide), f5 := fun h => absurd h (by decide), f6 := fun h => absurd h (by decide), f7 := fun h => absurd h (by decide), f8 := fun h => absurd h (by decide), f9 := fun h => absurd h (by decide), f10 := fun h => absurd h (by decide), f11 := fun h => absurd h (by decide), f12 := fun h => absurd h (by decide), g12 := fun _ => rfl, c11 := fun h => absurd h (by decide), own := fun _ => HK'.out.1.keep (Touch.refl Nil _).drew (fun _ _ c => c), t := (Touch.refl (From base) wr).drew, n := HNS.out }⟩
    · rintro J a W ⟨hs, v5, v14, v15, v16, v17, v18, v19, v20, v21, v22, v23, v24, v25, j8, j9, j10, j11, j12, j13, rfl, y⟩ hall
      have hL := allL hs hall
      have e5 := (y.f12 (hL 12 (by decide))).1
      have h11 := y.f11 (hL 11 (by decide))
      rw [← e5] at h11
      have HF := Lib.hid (show OwnB base W v5 ((xorL a b).take (i + 1)) ∧ Touch Nil w W from ⟨by rw [HTK.out]; exact h11, HK'.out.2.trans' y.t fun b hb hs => by have hs : base ≤ b := hs; have := HBS.out; omega⟩)
      clear y hL hall hs e5 h11
      go_wp2_with fail
      go_roundw
      case rel => exact ⟨i + 1, _, by omega, rfl, by go_num, HF⟩
      case measure => simp [intOf]; omega
    · rintro J a W k o' ho ⟨hs, v5, v14, v15, v16, v17, v18, v19, v20, v21, v22, v23, v24, v25, j8, j9, j10, j11, j12, j13, rfl, y⟩ hl hd K hK
      have hi : k < 13 := (Array.getElem?_eq_some_iff.1 ho).1
      rcases (by omega : k = 0 ∨ k = 1 ∨ k = 2 ∨ k = 3 ∨ k = 4 ∨ k = 5 ∨ k = 6 ∨ k = 7 ∨ k = 8 ∨ k = 9 ∨ k = 10 ∨ k = 11 ∨ k = 12) with rfl | rfl | rfl | rfl | rfl | rfl | rfl | rfl | rfl | rfl | rfl | rfl | rfl
      · obtain rfl := Option.some.inj (show some _ = some o' from ho)
        have h12 : ¬ J.getD 12 false = true := fun h => ngd hl (y.c11 (y.f12 h).2)
        have e := (y.g12 h12).symm
        subst e
        go_simp
        refine hK _ _ ⟨by simpa using hs, _, _, _, _, _, _, _, _, _, _, _, _, _, _, _, _, _, _, _, rfl, { f0 := fun _ => rfl, f1 := fun h => y.f1 (stp h (by decide)), f2 := fun h => y.f2 (stp h (by decide)), f3 := fun h => y.f3 (stp h (by decide)), f4 := fun h => y.f4 (stp h (by decide)), f5 := fun h => y.f5 (stp h (by decide)), f6 := fun h => y.f6 (stp h (by decide)), f7 := fun h => y.f7 (stp h (by decide)), f8 := fun h => y.f8 (stp h (by decide)), f9 := fun h => y.f9 (stp h (by decide)), f10 := fun h h' => by have k := y.f10 (stp h (by decide)) (mon' h'); exact k, f11 := fun h => by have k := y.f11 (stp h (by decide)); exact k, f12 := fun h => ⟨(y.f12 (stp h (by decide))).1, mon (y.f12 (stp h (by decide))).2⟩, g12 := fun _ => rfl, c11 := fun h => mon (y.c11 (stp h (by decide))), own := fun h => by have k := y.own (mon' h); exact k, t := y.t, n := y.n }⟩
      · obtain rfl := Option.some.inj (show some _ = some o' from ho)
        go_simp
        refine hK _ _ ⟨by simpa using hs, _, _, _, _, _, _, _, _, _, _, _, _, _, _, _, _, _, _, _, rfl, { f0 := fun h => y.f0 (stp h (by decide)), f1 := fun _ => rfl, f2 := fun h => y.f2 (stp h (by decide)), f3 := fun h => y.f3 (stp h (by decide)), f4 := fun h => y.f4 (stp h (by decide)), f5 := fun h => y.f5 (stp h (by decide)), f6 := fun h => y.f6 (stp h (by decide)), f7 := fun h => y.f7 (stp h (by decide)), f8 := fun h => y.f8 (stp h (by decide)), f9 := fun h => y.f9 (stp h (by decide)), f10 := fun h h' => by have k := y.f10 (stp h (by decide)) (mon' h'); exact k, f11 := fun h => by have k := y.f11 (stp h (by decide)); exact k, f12 := fun h => ⟨(y.f12 (stp h (by decide))).1, mon (y.f12 (stp h (by decide))).2⟩, g12 := fun h => y.g12 (mon' h), c11 := fun h => mon (y.c11 (stp h (by decide))), own := fun h => by have k := y.own (mon' h); exact k, t := y.t, n := y.n }⟩
      · obtain rfl := Option.some.inj (show some _ = some o' from ho)
        go_simp
        refine hK _ _ ⟨by simpa using hs, _, _, _, _, _, _, _, _, _, _, _, _, _, _, _, _, _, _, _, rfl, { f0 := fun h => y.f0 (stp h (by decide)), f1 := fun h => y.f1 (stp h (by decide)), f2 := fun _ => rfl, f3 := fun h => y.f3 (stp h (by decide)), f4 := fun h => y.f4 (stp h (by decide)), f5 := fun h => y.f5 (stp h (by decide)), f6 := fun h => y.f6 (stp h (by decide)), f7 := fun h => y.f7 (stp h (by decide)), f8 := fun h => y.f8 (stp h (by decide)), f9 := fun h => y.f9 (stp h (by decide)), f10 := fun h h' => by have k := y.f10 (stp h (by decide)) (mon' h'); exact k, f11 := fun h => by have k := y.f11 (stp h (by decide)); exact k, f12 := fun h => ⟨(y.f12 (stp h (by decide))).1, mon (y.f12 (stp h (by decide))).2⟩, g12 := fun h => y.g12 (mon' h), c11 := fun h => mon (y.c11 (stp h (by decide))), own := fun h => by have k := y.own (mon' h); exact k, t := y.t, n := y.n }⟩
      · obtain rfl := Option.some.inj (show some _ = some o' from ho)
        have e := (y.f1 (hd ⟨1, .data⟩ (by simp) rfl)).symm
        subst e
        have e := (y.f2 (hd ⟨2, .data⟩ (by simp) rfl)).symm
        subst e
        have exo := HXO.out
        subst exo
        go_simp
        refine hK _ _ ⟨by simpa using hs, _, _, _, _, _, _, _, _, _, _, _, _, _, _, _, _, _, _, _, rfl, { f0 := fun h => y.f0 (stp h (by decide)), f1 := fun h => y.f1 (stp h (by decide)), f2 := fun h => y.f2 (stp h (by decide)), f3 := fun _ => rfl, f4 := fun h => y.f4 (stp h (by decide)), f5 := fun h => y.f5 (stp h (by decide)), f6 := fun h => y.f6 (stp h (by decide)), f7 := fun h => y.f7 (stp h (by decide)), f8 := fun h => y.f8 (stp h (by decide)), f9 := fun h => y.f9 (stp h (by decide)), f10 := fun h h' => by have k := y.f10 (stp h (by decide)) (mon' h'); exact k, f11 := fun h => by have k := y.f11 (stp h (by decide)); exact k, f12 := fun h => ⟨(y.f12 (stp h (by decide))).1, mon (y.f12 (stp h (by decide))).2⟩, g12 := fun h => y.g12 (mon' h), c11 := fun h => mon (y.c11 (stp h (by decide))), own := fun h => by have k := y.own (mon' h); exact k, t := y.t, n := y.n }⟩
      · obtain rfl := Option.some.inj (show some _ = some o' from ho)
        have e := (y.f3 (hd ⟨3, .data⟩ (by simp) rfl)).symm
        subst e
        have b0 : W.cell? ⟨xb, xf + i, none⟩ = some (.int .u8 (p : Int)) := ((y.t).cell (Nat.lt_of_lt_of_le HXB.out HNS.out) (fun h => by have h : base ≤ xb := h; have := HXB.out; omega) _).trans HCX.out
        go_simp
        refine hK _ _ ⟨by simpa using hs, _, _, _, _, _, _, _, _, _, _, _, _, _, _, _, _, _, _, _, rfl, { f0 := fun h => y.f0 (stp h (by decide)), f1 := fun h => y.f1 (stp h (by decide)), f2 := fun h => y.f2 (stp h (by decide)), f3 := fun h => y.f3 (stp h (by decide)), f4 := fun _ => rfl, f5 := fun h => y.f5 (stp h (by decide)), f6 := fun h => y.f6 (stp h (by decide)), f7 := fun h => y.f7 (stp h (by decide)), f8 := fun h => y.f8 (stp h (by decide)), f9 := fun h => y.f9 (stp h (by decide)), f10 := fun h h' => by have k := y.f10 (stp h (by decide)) (mon' h'); exact k, f11 := fun h => by have k := y.f11 (stp h (by decide)); exact k, f12 := fun h => ⟨(y.f12 (stp h (by decide))).1, mon (y.f12 (stp h (by decide))).2⟩, g12 := fun h => y.g12 (mon' h), c11 := fun h => mon (y.c11 (stp h (by decide))), own := fun h => by have k := y.own (mon' h); exact k, t := y.t, n := y.n }⟩
      · obtain rfl := Option.some.inj (show some _ = some o' from ho)
        go_simp
        refine hK _ _ ⟨by simpa using hs, _, _, _, _, _, _, _, _, _, _, _, _, _, _, _, _, _, _, _, rfl, { f0 := fun h => y.f0 (stp h (by decide)), f1 := fun h => y.f1 (stp h (by decide)), f2 := fun h => y.f2 (stp h (by decide)), f3 := fun h => y.f3 (stp h (by decide)), f4 := fun h => y.f4 (stp h (by decide)), f5 := fun _ => rfl, f6 := fun h => y.f6 (stp h (by decide)), f7 := fun h => y.f7 (stp h (by decide)), f8 := fun h => y.f8 (stp h (by decide)), f9 := fun h => y.f9 (stp h (by decide)), f10 := fun h h' => by have k := y.f10 (stp h (by decide)) (mon' h'); exact k, f11 := fun h => by have k := y.f11 (stp h (by decide)); exact k, f12 := fun h => ⟨(y.f12 (stp h (by decide))).1, mon (y.f12 (stp h (by decide))).2⟩, g12 := fun h => y.g12 (mon' h), c11 := fun h => mon (y.c11 (stp h (by decide))), own := fun h => by have k := y.own (mon' h); exact k, t := y.t, n := y.n }⟩
      · obtain rfl := Option.some.inj (show some _ = some o' from ho)
        go_simp
        refine hK _ _ ⟨by simpa using hs, _, _, _, _, _, _, _, _, _, _, _, _, _, _, _, _, _, _, _, rfl, { f0 := fun h => y.f0 (stp h (by decide)), f1 := fun h => y.f1 (stp h (by decide)), f2 := fun h => y.f2 (stp h (by decide)), f3 := fun h => y.f3 (stp h (by decide)), f4 := fun h => y.f4 (stp h (by decide)), f5 := fun h => y.f5 (stp h (by decide)), f6 := fun _ => rfl, f7 := fun h => y.f7 (stp h (by decide)), f8 := fun h => y.f8 (stp h (by decide)), f9 := fun h => y.f9 (stp h (by decide)), f10 := fun h h' => by have k := y.f10 (stp h (by decide)) (mon' h'); exact k, f11 := fun h => by have k := y.f11 (stp h (by decide)); exact k, f12 := fun h => ⟨(y.f12 (stp h (by decide))).1, mon (y.f12 (stp h (by decide))).2⟩, g12 := fun h => y.g12 (mon' h), c11 := fun h => mon (y.c11 (stp h (by decide))), own := fun h => by have k := y.own (mon' h); exact k, t := y.t, n := y.n }⟩
      · obtain rfl := Option.some.inj (show some _ = some o' from ho)
        have e := (y.f5 (hd ⟨5, .data⟩ (by simp) rfl)).symm
        subst e
        have e := (y.f6 (hd ⟨6, .data⟩ (by simp) rfl)).symm
        subst e
        have eyo := HYO.out
        subst eyo
        go_simp
        refine hK _ _ ⟨by simpa using hs, _, _, _, _, _, _, _, _, _, _, _, _, _, _, _, _, _, _, _, rfl, { f0 := fun h => y.f0 (stp h (by decide)), f1 := fun h => y.f1 (stp h (by decide)), f2 := fun h => y.f2 (stp h (by decide)), f3 := fun h => y.f3 (stp h (by decide)), f4 := fun h => y.f4 (stp h (by decide)), f5 := fun h => y.f5 (stp h (by decide)), f6 := fun h => y.f6 (stp h (by decide)), f7 := fun _ => rfl, f8 := fun h => y.f8 (stp h (by decide)), f9 := fun h => y.f9 (stp h (by decide)), f10 := fun h h' => by have k := y.f10 (stp h (by decide)) (mon' h'); exact k, f11 := fun h => by have k := y.f11 (stp h (by decide)); exact k, f12 := fun h => ⟨(y.f12 (stp h (by decide))).1, mon (y.f12 (stp h (by decide))).2⟩, g12 := fun h => y.g12 (mon' h), c11 := fun h => mon (y.c11 (stp h (by decide))), own := fun h => by have k := y.own (mon' h); exact k, t := y.t, n := y.n }⟩
      · obtain rfl := Option.some.inj (show some _ = some o' from ho)
        have e := (y.f7 (hd ⟨7, .data⟩ (by simp) rfl)).symm
        subst e
        have b0 : W.cell? ⟨yb, yf + i, none⟩ = some (.int .u8 (q : Int)) := ((y.t).cell (Nat.lt_of_lt_of_le HYB.out HNS.out) (fun h => by have h : base ≤ yb := h; have := HYB.out; omega) _).trans HCY.out
        go_simp
        refine hK _ _ ⟨by simpa using hs, _, _, _, _, _, _, _, _, _, _, _, _, _, _, _, _, _, _, _, rfl, { f0 := fun h => y.f0 (stp h (by decide)), f1 := fun h => y.f1 (stp h (by decide)), f2 := fun h => y.f2 (stp h (by decide)), f3 := fun h => y.f3 (stp h (by decide)), f4 := fun h => y.f4 (stp h (by decide)), f5 := fun h => y.f5 (stp h (by decide)), f6 := fun h => y.f6 (stp h (by decide)), f7 := fun h => y.f7 (stp h (by decide)), f8 := fun _ => rfl, f9 := fun h => y.f9 (stp h (by decide)), f10 := fun h h' => by have k := y.f10 (stp h (by decide)) (mon' h'); exact k, f11 := fun h => by have k := y.f11 (stp h (by decide)); exact k, f12 := fun h => ⟨(y.f12 (stp h (by decide))).1, mon (y.f12 (stp h (by decide))).2⟩, g12 := fun h => y.g12 (mon' h), c11 := fun h => mon (y.c11 (stp h (by decide))), own := fun h => by have k := y.own (mon' h); exact k, t := y.t, n := y.n }⟩
      · obtain rfl := Option.some.inj (show some _ = some o' from ho)
        have e := (y.f4 (hd ⟨4, .data⟩ (by simp) rfl)).symm
        subst e
        have e := (y.f8 (hd ⟨8, .data⟩ (by simp) rfl)).symm
        subst e
        have hbx := HBX.out
        go_simp
        refine hK _ _ ⟨by simpa using hs, _, _, _, _, _, _, _, _, _, _, _, _, _, _, _, _, _, _, _, rfl, { f0 := fun h => y.f0 (stp h (by decide)), f1 := fun h => y.f1 (stp h (by decide)), f2 := fun h => y.f2 (stp h (by decide)), f3 := fun h => y.f3 (stp h (by decide)), f4 := fun h => y.f4 (stp h (by decide)), f5 := fun h => y.f5 (stp h (by decide)), f6 := fun h => y.f6 (stp h (by decide)), f7 := fun h => y.f7 (stp h (by decide)), f8 := fun h => y.f8 (stp h (by decide)), f9 := fun _ => rfl, f10 := fun h h' => by have k := y.f10 (stp h (by decide)) (mon' h'); exact k, f11 := fun h => by have k := y.f11 (stp h (by decide)); exact k, f12 := fun h => ⟨(y.f12 (stp h (by decide))).1, mon (y.f12 (stp h (by decide))).2⟩, g12 := fun h => y.g12 (mon' h), c11 := fun h => mon (y.c11 (stp h (by decide))), own := fun h => by have k := y.own (mon' h); exact k, t := y.t, n := y.n }⟩
      · obtain rfl := Option.some.inj (show some _ = some o' from ho)
        have e := (y.f9 (hd ⟨9, .data⟩ (by simp) rfl)).symm
        subst e
        have ta := (Touch.refl Nil W).alloc (.cells #[.int .u8 ((r.toNat : Nat) : Int)] 5)
        have ol : OwnB base (W.alloc (.cells #[.int .u8 ((r.toNat : Nat) : Int)] 5)) (.slice (some ⟨W.heap.size, 0, none⟩) 1 1) [r] := (own_lit W [r] _ (by simp [ub]) (by simp)).base y.n
        go_simp
        refine hK _ _ ⟨by simpa using hs, _, _, _, _, _, _, _, _, _, _, _, _, _, _, _, _, _, _, _, rfl, { f0 := fun h => y.f0 (stp h (by decide)), f1 := fun h => y.f1 (stp h (by decide)), f2 := fun h => y.f2 (stp h (by decide)), f3 := fun h => y.f3 (stp h (by decide)), f4 := fun h => y.f4 (stp h (by decide)), f5 := fun h => y.f5 (stp h (by decide)), f6 := fun h => y.f6 (stp h (by decide)), f7 := fun h => y.f7 (stp h (by decide)), f8 := fun h => y.f8 (stp h (by decide)), f9 := fun h => y.f9 (stp h (by decide)), f10 := fun _ _ => ol.bv, f11 := fun h => by have k := y.f11 (stp h (by decide)); exact k.keep ta (fun _ _ c => c), f12 := fun h => ⟨(y.f12 (stp h (by decide))).1, mon (y.f12 (stp h (by decide))).2⟩, g12 := fun h => y.g12 (mon' h), c11 := fun h => mon (y.c11 (stp h (by decide))), own := fun h => by have k := y.own (mon' h); exact k.keep ta (fun _ _ c => c), t := y.t.trans ta.of_nil, n := Nat.le_trans y.n ta.size }⟩
      · obtain rfl := Option.some.inj (show some _ = some o' from ho)
        have l0 := hd ⟨0, .data⟩ (by simp) rfl
        have e := (y.f0 l0).symm
        subst e
        have h11 : ¬ J.getD 11 false = true := fun h => ngd hl h
        have hb := y.f10 (hd ⟨10, .data⟩ (by simp) rfl) h11
        have ho := y.own h11
        rw [if_pos (by simp [Region.wanted])]
        refine opIn_append_bytes (.tmp 14) (.tmp 24) rfl V v24 l [r] rfl ho rfl hb (by have := HLL.out; simp; omega) y.n ?_
        intro v' W' h1 h2 h3
        have t2 : Touch (From base) W W' := h2.mono fun b _ hb => (ho.block b hb).1
        go_simp
        refine hK _ _ ⟨by simpa using hs, _, _, _, _, _, _, _, _, _, _, _, _, _, _, _, _, _, _, _, rfl, { f0 := fun h => y.f0 (stp h (by decide)), f1 := fun h => y.f1 (stp h (by decide)), f2 := fun h => y.f2 (stp h (by decide)), f3 := fun h => y.f3 (stp h (by decide)), f4 := fun h => y.f4 (stp h (by decide)), f5 := fun h => y.f5 (stp h (by decide)), f6 := fun h => y.f6 (stp h (by decide)), f7 := fun h => y.f7 (stp h (by decide)), f8 := fun h => y.f8 (stp h (by decide)), f9 := fun h => y.f9 (stp h (by decide)), f10 := fun h hn => absurd (set_of (i := 11) (by rw [hs]; decide)) hn, f11 := fun _ => h1, f12 := fun h => (ngd hl (y.f12 (stp h (by decide))).2).elim, g12 := fun h => y.g12 (mon' h), c11 := fun _ => mon l0, own := fun hn => absurd (set_of (i := 11) (by rw [hs]; decide)) hn, t := y.t.trans t2, n := Nat.le_trans y.n h2.size }⟩
      · obtain rfl := Option.some.inj (show some _ = some o' from ho)
        have l11 := hd ⟨11, .data⟩ (by simp) rfl
        go_simp
        refine hK _ _ ⟨by simpa using hs, _, _, _, _, _, _, _, _, _, _, _, _, _, _, _, _, _, _, _, rfl, { f0 := fun h => y.f0 (stp h (by decide)), f1 := fun h => y.f1 (stp h (by decide)), f2 := fun h => y.f2 (stp h (by decide)), f3 := fun h => y.f3 (stp h (by decide)), f4 := fun h => y.f4 (stp h (by decide)), f5 := fun h => y.f5 (stp h (by decide)), f6 := fun h => y.f6 (stp h (by decide)), f7 := fun h => y.f7 (stp h (by decide)), f8 := fun h => y.f8 (stp h (by decide)), f9 := fun h => y.f9 (stp h (by decide)), f10 := fun h h' => by have k := y.f10 (stp h (by decide)) (mon' h'); exact k, f11 := fun h => by have k := y.f11 (stp h (by decide)); exact k, f12 := fun _ => ⟨rfl, mon l11⟩, g12 := fun hn => absurd (set_of (i := 12) (by rw [hs]; decide)) hn, c11 := fun h => mon (y.c11 (stp h (by decide))), own := fun h => by have k := y.own (mon' h); exact k, t := y.t, n := y.n }⟩
  · obtain rfl : i = n := by omega
    have HE := Lib.hid (show (xorL a b).take i = xorL a b from List.take_of_length_le (by rw [xorL_len (by rw [HLN.out.1, HLN.out.2]), HLN.out.1]; exact Nat.le_refl _))
    rw [HE.out] at HK
    go_wp2_with fail
    go_ret
    exact ⟨_, rfl, HK.out.1, HK.out.2⟩
end Go.Proofs.YticddcnlafbkoaaDoor
