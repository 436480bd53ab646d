import Derived.Test.YtkkpcndpjkebkaaGrowB
/- The nodes of the map of some pairs, as the definition grows them. -/
namespace Go.Proofs.Ytkkpcndpjkebkaa
open Go.ChangeShapes Go.WideShapes Go.ChangeAt Go.RowKit Go.Deep

theorem finA0 {w w4 : World} {kx ux : Value} {k u : Key} {sz : Nat} (hk : OwnB w.heap.size w4 kx k) (hu : OwnB w.heap.size w4 ux u) (ht : Touch Nil w w4) :
    ∃ (g : Nat) (kx' ux' : Value), Value.pointer (some ⟨w4.heap.size, 0, none⟩) = .pointer (some ⟨g, 0, none⟩) ∧ Hid (FirstN w (w4.alloc (.cells #[kx, ux, .int .u64 0, .int .i64 (sz : Int), .int .i64 (-1), .int .i64 (-1)] 109)) g kx' ux' k u 0 sz) ∧ Touch Nil w (w4.alloc (.cells #[kx, ux, .int .u64 0, .int .i64 (sz : Int), .int .i64 (-1), .int .i64 (-1)] 109)) := finA (d := 0) hk hu ht
theorem finB0 {w w4 : World} {g : Nat} {kx ux : Value} {k u : Key} {sz : Nat} (hg : ToldN g w4) (hle : w.heap.size ≤ g) (hk : OwnB w.heap.size w4 kx k) (hu : OwnB w.heap.size w4 ux u) (ht : Touch Nil w w4) :
    ∃ (g' : Nat) (kx' ux' : Value), Value.pointer (some ⟨g, 0, none⟩) = .pointer (some ⟨g', 0, none⟩) ∧ Hid (FirstN w ((((((w4.setCell ⟨g, 0, none⟩ kx).setCell ⟨g, 1, none⟩ ux).setCell ⟨g, 2, none⟩ (.int .u64 0)).setCell ⟨g, 3, none⟩ (.int .i64 (sz : Int))).setCell ⟨g, 4, none⟩ (.int .i64 (-1))).setCell ⟨g, 5, none⟩ (.int .i64 (-1))) g' kx' ux' k u 0 sz) ∧ Touch Nil w ((((((w4.setCell ⟨g, 0, none⟩ kx).setCell ⟨g, 1, none⟩ ux).setCell ⟨g, 2, none⟩ (.int .u64 0)).setCell ⟨g, 3, none⟩ (.int .i64 (sz : Int))).setCell ⟨g, 4, none⟩ (.int .i64 (-1))).setCell ⟨g, 5, none⟩ (.int .i64 (-1))) := finB (d := 0) hg hle hk hu ht
theorem OL.lt {α : Type} {T base k : Nat} {fld : α → Nat → Fv} {w : World} {x : Value} {L : List α} (h : OL T base k fld w x L) : ∀ b, OwnOf x b → b < w.heap.size := by
  obtain ⟨V, ⟨_, ⟨rfl, _⟩ | ⟨g, cap, cur, rfl, hb, hg, _⟩⟩, _⟩ := h
  · intro b hb; cases hb
  · intro b hb
    obtain rfl : b = g := by simpa [OwnOf, Value.ownBlock] using hb
    exact (Array.getElem?_eq_some_iff.1 hg).1
theorem OL.formP {α : Type} {T base k : Nat} {fld : α → Nat → Fv} {w : World} {x : Value} {L : List α} (h : OL T base k fld w x L) (hp : 0 < L.length) : ∃ g cap, x = .slice (some ⟨g, 0, none⟩) L.length cap := by
  obtain ⟨V, ⟨_, ⟨rfl, h0⟩ | ⟨g, cap, cur, rfl, hb, hg, _⟩⟩, _⟩ := h
  · omega
  · exact ⟨g, cap, rfl⟩
/-- A list stays while another variable is written. -/
theorem OL.keepV {α : Type} {T base k g : Nat} {fld : α → Nat → Fv} {w w' : World} {x : Value} {L : List α} (h : OL T base k fld w x L) (ht : Touch (Just g) w w') (hg : base ≤ g) (hn : ∃ cs z, w.heap[g]? = some (.cells cs 109 z)) (hne : ¬ OwnOf x g) : OL T base k fld w' x L := by
  obtain ⟨V, h1, h2⟩ := h
  obtain ⟨hl, hcase⟩ := h1
  refine ⟨V, ⟨hl, hcase.imp (fun h => h) fun ⟨g0, cap, cur, r1, r2, r3, r4⟩ => ⟨g0, cap, cur, r1, r2, (ht.same g0 (Array.getElem?_eq_some_iff.1 r3).1 (fun hs => hne (by have hs : g0 = g := hs; rw [r1, hs]; rfl))).trans r3, r4⟩⟩, fun i a ha c hc => ?_⟩
  have hk := h2 i a ha c hc
  have far : ∀ l, (fld a c).key = some l → l ≠ [] → ∀ b, OwnOf (V i c) b → ¬ Just g b := fun l e hl b ho hs => by
    have hs : b = g := hs
    subst hs
    obtain ⟨cs', z', hn⟩ := hn
    rcases hk.2 l e hl b ho with c | ⟨cs, z, c⟩
    · omega
    · rw [c] at hn
      injection hn with hn
      injection hn with _ hn
      exact absurd hn (by decide)
  refine ⟨?_, fun l e hl b ho => (hk.2 l e hl b ho).imp (fun h => h) fun ⟨cs, z, hh⟩ => ⟨cs, z, (ht.same b (Array.getElem?_eq_some_iff.1 hh).1 (far l e hl b ho)).trans hh⟩⟩
  have hf := hk.1
  cases e : fld a c with
  | b l => rw [e] at hf; exact BV.keepE hf ht fun hne b ho => far l (by rw [e]; rfl) hne b ho
  | o lo l => rw [e] at hf; exact ⟨BV.keepE hf.1 ht fun hne b ho => far l (by rw [e]; rfl) hne b ho, fun hne b ho => ⟨(hf.2 hne b ho).1, (hf.2 hne b ho).2.keep ht (far l (by rw [e]; rfl) hne b ho)⟩⟩
  | u n => rw [e] at hf; exact hf
  | i n => rw [e] at hf; exact hf
  | f n => rw [e] at hf; exact hf
def GrowPost (B : Nat) (x : Value) (N : List NodeC) (w : World) (e : Ending) (w' : World) : Prop := ∃ x', e = .returned x' ∧ NG B B w' x' N ∧ Touch (OwnOf x) w w' ∧ ∀ b, OwnOf x' b → OwnOf x b ∨ w.heap.size ≤ b
set_option maxRecDepth 100000 in
set_option maxHeartbeats 1000000 in
theorem growR_nil {seed : Int} {B : Nat} {w : World} {x lx : Value} {N0 : List NodeC} (hp : PL w lx []) (hx : NG B B w x N0) :
    Calls Try.prog 71 #[x, .int .u64 seed, lx] w (GrowPost B x (N0 ++ nodesT seed N0.length .nil) w) := by
  have HTOP := Lib.hid (topR_any seed hp (fun p h => by cases h) (by simp))
  have HX := Lib.hid hx
  obtain ⟨xa, xl, xc, rfl⟩ := hx.form3
  obtain ⟨la, ln, lc, rfl⟩ := hp.form3
  clear hp hx
  go_enter Try.func71, Try.ntmps71
  go_wp2_with fail
  refine HTOP.out.mono ?_
  rintro e w1 ⟨b, rfl, hb, rfl⟩
  obtain rfl : b = -1 := by
    rcases hb with ⟨_, h⟩ | ⟨i, p, _, h, _⟩
    · exact h
    · simp at h
  clear hb
  go_wp2_with fail
  go_ret
  exact ⟨_, rfl, by simpa [nodesT] using HX.out, Touch.refl _ _, fun b hb => .inl hb⟩

set_option maxRecDepth 100000 in
set_option maxHeartbeats 20000000 in
theorem growR_any {seed : Int} {B : Nat} {w0 : World} (hw0 : w0.heap.size ≤ B) : ∀ (m : Nat) (t : Tree) {w : World} {x lx : Value} {N0 : List NodeC}, t.size ≤ m → Srt t.toL → t.Heap (abv seed) → OkL t.toL → PL w0 lx t.toL → Touch (From B) w0 w → B ≤ w.heap.size → NG B B w x N0 → N0.length + t.size ≤ 1000000 →
    Calls Try.prog 71 #[x, .int .u64 seed, lx] w (GrowPost B x (N0 ++ nodesT seed N0.length t) w) := by
  intro m
  induction m with
  | zero =>
    intro t w x lx N0 hm hs hh ho hp hto hb hx hN
    cases t with
    | node l k u r => simp only [Tree.size] at hm; omega
    | nil => exact growR_nil (hp.keepF hw0 hto) hx
  | succ m ih =>
    intro t w x lx N0 hm hs hh ho hp hto hb hx hN
    cases t with
    | nil => exact growR_nil (hp.keepF hw0 hto) hx
    | node l k u r =>
    have HX := Lib.hid hx
    have IH := Lib.hid @ih
    have HM := Lib.hid hm
    have HNN := Lib.hid hN
    have HSRT := Lib.hid hs
    have HHP := Lib.hid hh
    have HOK := Lib.hid ho
    have HP0 := Lib.hid hp
    have HT0 := Lib.hid hto
    have HBW := Lib.hid hb
    have hlen : (Tree.node l k u r).toL.length = l.size + 1 + r.size := by rw [← size_toL]; simp only [Tree.size]
    have hL : (Tree.node l k u r).toL[l.size]? = some (k, u) := by
      simp only [Tree.toL]
      rw [List.getElem?_append_right (by rw [← size_toL]; omega), ← size_toL, Nat.sub_self]; rfl
    have hok : okK k u := ho (k, u) (by simp [Tree.toL])
    have HTOP := Lib.hid (topR_any seed (hp.keepF hw0 hto) (fun p h => by have := ho p h; unfold okK at this; omega) (by simp only [Tree.size] at hN; omega))
    have HROOT := Lib.hid (fun b (h : TopAt seed (Tree.node l k u r).toL b) => top_root hs hh h)
    obtain ⟨la, ln, lc, rfl⟩ := hp.form3
    have hln : ln = l.size + 1 + r.size := by rw [hp.len, hlen]
    have HLN := Lib.hid hln
    obtain ⟨ch, cc, hcutL, hpl⟩ := hp.cut_h slPair szPair (m := l.size) (by omega)
    obtain ⟨dh, dc, hcutR, hpr⟩ := hp.cut_l slPair szPair (m := l.size + 1) (by omega)
    have HPL := Lib.hid (show PL w0 (.slice ch l.size cc) l.toL from by
      have e : ((Tree.node l k u r).toL).take l.size = l.toL := by
        simp only [Tree.toL]
        rw [List.take_append_of_le_length (by rw [← size_toL]; omega), List.take_of_length_le (by rw [← size_toL]; omega)]
      rw [← e]; exact hpl)
    have HPR := Lib.hid (show PL w0 (.slice dh (ln - (l.size + 1)) dc) r.toL from by
      have e : ((Tree.node l k u r).toL).drop (l.size + 1) = r.toL := by
        simp only [Tree.toL]
        rw [List.drop_append, List.drop_of_length_le (by rw [← size_toL]; omega), ← size_toL, show l.size + 1 - l.size = 1 by omega]; rfl
      rw [← e]; exact hpr)
    obtain ⟨b, off, rfl, hbl, f, hc, hf⟩ := hp.at hL
    have c0 := hc 0 (by omega)
    have c1 := hc 1 (by omega)
    rw [Nat.add_zero] at c0
    have hk0 : BV w0 (f 0) k := hf 0 (by omega)
    have hu0 : BV w0 (f 1) u := hf 1 (by omega)
    have HKB := Lib.hid (show ∀ w', Touch Nil w w' → BV w' (f 0) k ∧ BV w' (f 1) u from fun w' ht => by
      have ht' := hto.trans ht.of_nil
      exact ⟨hk0.keepE ht' fun hne b ho hs => by have := hk0.low hne b ho; have hs : B ≤ b := hs; omega, hu0.keepE ht' fun hne b ho hs => by have := hu0.low hne b ho; have hs : B ≤ b := hs; omega⟩)
    obtain ⟨fa, fc, ef⟩ := hk0.len'
    obtain ⟨ga, gc, eg⟩ := hu0.len'
    rw [ef] at c0
    rw [eg] at c1
    rw [ef, eg] at HKB
    have HST := Lib.hid (fun w' (ht : Touch Nil w w') => show w'.cell? ⟨b, off + l.size * 2, none⟩ = some (.slice fa k.length fc) ∧ w'.cell? ⟨b, off + l.size * 2 + 1, none⟩ = some (.slice ga u.length gc) ∧ Hid (Touch Nil w w') from ⟨cell_stepF c0 (by omega) (hto.trans ht.of_nil), cell_stepF c1 (by omega) (hto.trans ht.of_nil), Lib.hid ht⟩)
    have HCK := Lib.hid (fun w' (ht : Touch Nil w w') => copyR_any (HKB.out w' ht).1 (by have := hok.2.1; omega))
    have HCU := Lib.hid (fun w' (ht : Touch Nil w w') => copyR_any (HKB.out w' ht).2 (by have := hok.2.2; omega))
    have HOKK := Lib.hid hok
    obtain ⟨a, ea⟩ : ∃ a, l.size = a := ⟨_, rfl⟩
    have HA := Lib.hid ea
    rw [ea] at HST HPL HPR hcutL hcutR hln HLN
    simp only [ea] at HROOT
    have hca : ((a + 1 : Nat) : Int) = (a : Int) + 1 := by omega
    rw [hca] at hcutR
    generalize hkl : k.length = kl at *
    generalize hul : u.length = ul at *
    obtain ⟨xa, xl, xc, rfl⟩ := hx.form3
    have HXL := Lib.hid (show xl = N0.length from hx.rl.len)
    have i1 : (a : Int) < (ln : Int) := by omega
    have i2 : (0 : Int) ≤ (a : Int) := by omega
    have i3 : decide ((a : Int) < 0) = false := by simp
    clear hx ih hm hN hs hh ho hp hto hb hlen hL hok hpl hpr hc hf c0 c1 hk0 hu0 ef eg ea hca hkl hul hbl hln
    go_enter Try.func71, Try.ntmps71
    go_wp2_with fail
    refine HTOP.out.mono ?_
    rintro e w1 ⟨bt, rfl, hbt, rfl⟩
    obtain rfl := HROOT.out bt hbt
    clear hbt HTOP HROOT
    go_upto_region 5 with fail
    go_cut [9] (fun s9 wx => ∃ (g : Nat) (kx ux : Value), s9 = .pointer (some ⟨g, 0, none⟩) ∧ Hid (FirstN w wx g kx ux k u 0 ln) ∧ Touch Nil w wx)
    case first =>
      go_region_held3 (fun w' => w'.cell? ⟨b, off + a * 2, none⟩ = some (.slice fa kl fc) ∧ w'.cell? ⟨b, off + a * 2 + 1, none⟩ = some (.slice ga ul gc) ∧ Hid (Touch Nil w w'))
        (first | (with_reducible exact HST.out _ (stTouch6 HT4.out HG.out)) | (with_reducible exact HST.out _ (Touch.refl Nil w).drew) | (with_reducible exact HST.out _ ((Touch.refl Nil w).alloc _).drew) | (with_reducible exact HST.out _ hT3) | (with_reducible exact HST.out _ (hT3.alloc _)) | (with_reducible exact HST.out _ HT4.out) | (with_reducible exact HST.out _ (HT4.out.alloc _)))
        (first
          | (go_at_call_of 48 (Value.slice fa kl fc); refine (HCK.out _ (Hid.out (And.right (And.right (by assumption))))).mono ?_; rintro e w3 ⟨v3, rfl, h3, ht3⟩; obtain ⟨va3, vl3, vc3, rfl⟩ := h3.form; have hT3 : Touch Nil w w3 := (by first | (with_reducible exact (Touch.refl Nil w).drew.trans ht3) | (with_reducible exact ((Touch.refl Nil w).alloc _).drew.trans ht3)); have H3 := Lib.hid (show OwnB w.heap.size w3 (.slice va3 vl3 vc3) k from by first | (with_reducible exact h3) | exact h3.base (by first | exact Nat.le_refl _ | exact ((Touch.refl Nil w).alloc _).size)); clear h3; (first | ((with_reducible have TN0 := told_newD ht3); have TN := Lib.hid TN0; clear TN0) | skip))
          | (go_at_call_of 48 (Value.slice ga ul gc); refine (HCU.out _ (Hid.out (And.right (And.right (by assumption))))).mono ?_; rintro e w4 ⟨v4, rfl, h4, ht4⟩; obtain ⟨va4, vl4, vc4, rfl⟩ := h4.form; have hle3 : w.heap.size ≤ w3.heap.size := hT3.size; have H4 := Lib.hid (show OwnB w.heap.size w4 (.slice va4 vl4 vc4) u from by first | (with_reducible exact h4.base hle3) | (with_reducible refine h4.base ?_; rw [nblk_alloc]; omega)); have HK4 := Lib.hid (show OwnB w.heap.size w4 (.slice va3 vl3 vc3) k from by first | (with_reducible exact H3.out.keep ht4 (fun _ _ c => c)) | (with_reducible exact H3.out.keep (((Touch.refl Nil w3).alloc _).trans ht4) (fun _ _ c => c))); have HT4 := Lib.hid (show Touch Nil w w4 from by first | (with_reducible exact hT3.trans ht4) | (with_reducible exact hT3.trans (((Touch.refl Nil w3).alloc _).trans ht4))); clear h4; (first | ((with_reducible have TN0 := told_new ht4); have TN2 := Lib.hid TN0; have HG := Lib.hid (show w.heap.size ≤ w3.heap.size from hT3.size); obtain ⟨⟨z0, z1, z2, z3, z4, z5⟩, f0, f1, f2, f3, f4, f5⟩ := TN0.cells; clear TN0) | (have TN2 := Lib.hid (TN.out.step ht4); have HG := Lib.hid (Nat.le_refl w.heap.size); obtain ⟨⟨z0, z1, z2, z3, z4, z5⟩, f0, f1, f2, f3, f4, f5⟩ := TN2.out.cells) | skip)))
      all_goals
        (try clear z0 z1 z2 z3 z4 z5 f0 f1 f2 f3 f4 f5)
        go_wp2_with fail
        go_meet
        first
          | (with_reducible exact finB0 TN2.out HG.out HK4.out H4.out HT4.out)
          | (with_reducible exact finA0 HK4.out H4.out HT4.out)
    case rest =>
      obtain ⟨g, kx, ux, rfl, HF, hTc⟩ := hcut
      have hL0 := HF.out.loc
      obtain ⟨kxa, kxl, kxc, rfl⟩ := HF.out.key.form
      obtain ⟨uxa, uxl, uxc, rfl⟩ := HF.out.val.form
      have HXW := Lib.hid (fun b hb => HX.out.lt b hb)
      obtain ⟨M1, eM1⟩ : ∃ M1, w.heap.size = M1 := ⟨_, rfl⟩
      obtain ⟨M2, eM2⟩ : ∃ M2, wc.heap.size = M2 := ⟨_, rfl⟩
      rw [eM1, eM2] at hL0
      rw [eM1] at HXW
      have HM1 := Lib.hid eM1
      have HM2 := Lib.hid eM2
      have HL0 := Lib.hid hL0
      obtain ⟨⟨d0, d1, d2, d3, d4, d5⟩, _, _, _⟩ := hL0.cells
      have d2 : wc.cell? ⟨g, 2, none⟩ = some (.int .u64 0) := d2
      have HTA := Lib.hid (hTc.alloc (.cells #[.slice kxa kxl kxc, .slice uxa uxl uxc, .int .u64 0, .int .i64 (ln : Int), .int .i64 (-1), .int .i64 (-1)] 109))
      have HXX := Lib.hid (HX.out.keepN HTA.out)
      have HUS := Lib.hid (show ∀ j v, ([.slice kxa kxl kxc, .slice uxa uxl uxc, .int .u64 0, .int .i64 (ln : Int), .int .i64 (-1), .int .i64 (-1)] : List Value)[j]? = some v → (wc.alloc (.cells #[.slice kxa kxl kxc, .slice uxa uxl uxc, .int .u64 0, .int .i64 (ln : Int), .int .i64 (-1), .int .i64 (-1)] 109)).cell? ⟨wc.heap.size, j, none⟩ = some v ∧ KF B (wc.alloc (.cells #[.slice kxa kxl kxc, .slice uxa uxl uxc, .int .u64 0, .int .i64 (ln : Int), .int .i64 (-1), .int .i64 (-1)] 109)) v (nodeG B ⟨k, u, 0, ln, -1, -1⟩ j) from hL0.usA (base := B) (lo := B) (by have := HBW.out; have := HM1.out; omega))
      have HBM := Lib.hid (show B ≤ M1 from by have := HBW.out; have := HM1.out; omega)
      obtain ⟨n1, en1⟩ : ∃ n1, N0.length + 1 = n1 := ⟨_, rfl⟩
      obtain ⟨n2, en2⟩ : ∃ n2, n2 = n1 + a := ⟨_, rfl⟩
      obtain ⟨rn, ern⟩ : ∃ rn, ln - (a + 1) = rn := ⟨_, rfl⟩
      rw [ern] at hcutR HPR
      obtain ⟨n3, en3⟩ : ∃ n3, n3 = n2 + rn := ⟨_, rfl⟩
      have HRN := Lib.hid (show r.size = rn from by have := HLN.out; omega)
      have Hn1 := Lib.hid en1
      have Hn2 := Lib.hid en2
      have Hn3 := Lib.hid en3
      have Hn1L := Lib.hid (show (N0 ++ [(⟨k, u, 0, ln, -1, -1⟩ : NodeC)]).length = n1 from by simp; omega)
      have Hn2L := Lib.hid (show (N0 ++ [(⟨k, u, 0, ln, -1, -1⟩ : NodeC)] ++ nodesT seed n1 l).length = n2 from by rw [List.length_append, nodesT_len, Hn1L.out, HA.out]; omega)
      obtain ⟨dl, edl⟩ : ∃ dl, digT seed l = dl := ⟨_, rfl⟩
      obtain ⟨dr, edr⟩ : ∃ dr, digT seed r = dr := ⟨_, rfl⟩
      have Hdl := Lib.hid edl
      have Hdr := Lib.hid edr
      have HTc := Lib.hid hTc
      clear hTc hL0 HF eM1 eM2 en2 ern en3 edl edr HTA
      have HTA := Lib.hid (HTc.out.alloc (.cells #[.slice kxa kxl kxc, .slice uxa uxl uxc, .int .u64 0, .int .i64 (ln : Int), .int .i64 (-1), .int .i64 (-1)] 109))
      go_wp2_with (refine wpList_append_elF rfl (.tmp 35) (.tmp 37) rfl (.agg #[.slice none 0 0, .slice none 0 0, .int .u64 0, .int .i64 0, .int .i64 0, .int .i64 0]) Try.underlying36 infoNode rfl (by decide) (by decide) (by decide) (.slice xa xl xc) rfl HXX.out wc.heap.size 1 rfl [.slice kxa kxl kxc, .slice uxa uxl uxc, .int .u64 0, .int .i64 (ln : Int), .int .i64 (-1), .int .i64 (-1)] ⟨k, u, 0, ln, -1, -1⟩ rfl HUS.out (by have := HNN.out; omega) (Nat.le_trans HBW.out HTA.out.size) ?e1)
      intro g1 cap1 w1 ho1 ht1 hf1
      (try rw [en1] at ho1)
      (try rw [en1])
      clear en1
      have hgx : OwnOf (.slice xa xl xc) g1 ∨ M1 ≤ g1 := by
        rcases hf1.out with c | c
        · exact .inl c
        · have h1 := HTc.out.size; have h2 := HM1.out; exact .inr (by omega)
      have hg1 : g1 < M1 ∨ M2 ≤ g1 := by
        rcases hf1.out with c | c
        · exact .inl (HXW.out g1 c)
        · have h2 := HM2.out; exact .inr (by omega)
      have HO1 := Lib.hid ho1.out
      have HTC1 := Lib.hid (show Touch (OwnOf (.slice xa xl xc)) wc w1 from ((Touch.refl Nil wc).alloc _).of_nil.trans ht1.out)
      have HT1 := Lib.hid (show Touch (OwnOf (.slice xa xl xc)) w w1 from HTc.out.of_nil.trans HTC1.out)
      have HL1 := Lib.hid (HL0.out.keep HTC1.out fun b h1 h2 hs => by have := HXW.out b hs; omega)
      have HM2W := Lib.hid (show M2 ≤ w1.heap.size from by rw [← HM2.out]; exact HTC1.out.size)
      clear ho1 ht1 hf1 d0 d1 d2 d3 d4 d5 HUS HXX HTA
      have hlb : ln ≤ 1000000 := by have h1 := HNN.out; have h2 := HLN.out; have h3 := HA.out; simp only [Tree.size] at h1; omega
      have hlb1 : 1 ≤ ln := by have h2 := HLN.out; omega
      go_upto_if 40 with fail
      go_cut [0, 10] (fun s0 s10 wx => ∃ (gg capp : Nat), s0 = .slice (some ⟨gg, 0, none⟩) n2 capp ∧ s10 = .int .u64 (dl : Int) ∧ Hid (NG B B wx (.slice (some ⟨gg, 0, none⟩) n2 capp) ((N0 ++ [(⟨k, u, 0, ln, -1, -1⟩ : NodeC)]) ++ nodesT seed n1 l) ∧ Loc M1 M2 wx g (.slice kxa kxl kxc) (.slice uxa uxl uxc) k u 0 ln (childAt l n1) (-1) ∧ (gg < M1 ∨ M2 ≤ gg) ∧ (OwnOf (.slice xa xl xc) gg ∨ M1 ≤ gg) ∧ M2 ≤ wx.heap.size) ∧ Touch (OwnOf (.slice xa xl xc)) w wx)
      case first =>
        cases l with
        | nil =>
          have hz : a = 0 := by have := HA.out; simp only [Tree.size] at this; omega
          have hq : decide ((0 : Int) < (a : Int)) = false := by have h1 := HLN.out; (try simp only [Tree.size] at h1); simp; omega
          have hq2 : decide (0 < a) = false := by have h1 := HLN.out; (try simp only [Tree.size] at h1); simp; omega
          have HDD := Lib.hid (show dl = 0 from by have := Hdl.out; simp only [digT] at this; omega)
          have HNE := Lib.hid (show n2 = n1 from by have := Hn2.out; omega)
          skip
          go_wp2_with fail
          go_meet
          rw [HNE.out, HDD.out]
          exact ⟨g1, cap1, rfl, rfl, Lib.hid ⟨by simpa [nodesT] using HO1.out, HL1.out, hg1, hgx, HM2W.out⟩, HT1.out⟩
        | node l7 k7 u7 r7 =>
          have HSZ := Lib.hid (show 0 < a from by have := HA.out; simp only [Tree.size] at this; omega)
          have hq : decide ((0 : Int) < (a : Int)) = true := by have := HSZ.out; have := HLN.out; have := HRN.out; simp; omega
          have hq2 : decide (0 < a) = true := by have := HSZ.out; have := HLN.out; have := HRN.out; simp; omega
          have hzz : 0 < a := by have := HSZ.out; have := HLN.out; have := HRN.out; omega
          obtain ⟨⟨e0, e1, e2, e3, e4, e5⟩, fz2, fz4, fz5⟩ := HL1.out.cells
          have hgne : ¬ OwnOf (.slice (some ⟨g1, 0, none⟩) n1 cap1) g := fun e => by
            obtain rfl : g = g1 := by simpa [OwnOf, Value.ownBlock] using e
            have := HL1.out.lo; have := HL1.out.hi; omega
          have HGB := Lib.hid (show B ≤ g from by have := HL1.out.lo; have := HBW.out; have := HM1.out; omega)
          have HTS := Lib.hid ((Touch.refl (Just g) w1).setCell ⟨g, 4, none⟩ (.int .i64 (n1 : Int)) (fun _ => rfl))
          have HL9 := Lib.hid (HL1.out.set 4 (.int .i64 (n1 : Int)) 0 (n1 : Int) (-1) (.inr (.inl ⟨rfl, rfl, rfl, rfl⟩)))
          have HO9 := Lib.hid (HO1.out.keepV HTS.out HGB.out ⟨_, _, HL1.out.blk⟩ hgne)
          have HT9 := Lib.hid (show Touch (OwnOf (.slice xa xl xc)) w (w1.setCell ⟨g, 4, none⟩ (.int .i64 (n1 : Int))) from HT1.out.setCell _ _ (fun hl => by have hl : g < w.heap.size := hl; have := HL1.out.lo; have := HM1.out; omega))
          have HREC := Lib.hid (IH.out (.node l7 k7 u7 r7) (w := w1.setCell ⟨g, 4, none⟩ (.int .i64 (n1 : Int))) (x := .slice (some ⟨g1, 0, none⟩) n1 cap1) (lx := (.slice ch a cc)) (N0 := (N0 ++ [(⟨k, u, 0, ln, -1, -1⟩ : NodeC)])) (by have := HM.out; simp only [Tree.size] at this ⊢; omega) (srt_node.1 HSRT.out).1 HHP.out.2.2.1 (fun p hp => HOK.out p (by rw [Tree.toL, List.mem_append]; exact .inl hp)) HPL.out (HT0.out.trans (HT9.out.mono fun b _ hs => HX.out.base' b hs)) (Nat.le_trans HBW.out HT9.out.size) HO9.out (by have h1 := HNN.out; have h2 := Hn1L.out; have h3 := Hn1.out; have h4 := Hn2.out; have h5 := HA.out; simp only [Tree.size] at h1 h5 ⊢; omega))
          rw [Hn1L.out] at HREC
          clear hgne
          go_wp2_with fail
          refine HREC.out.mono ?_
          rintro e w8 ⟨x8, rfl, ho8, ht8, hf8⟩
          obtain ⟨g8, cap8, rfl⟩ := ho8.formP (by rw [List.length_append, Hn1L.out]; have h3 := Hn1.out; have h4 := Hn2.out; omega)
          have hl8 : ((N0 ++ [(⟨k, u, 0, ln, -1, -1⟩ : NodeC)]) ++ nodesT seed n1 (.node l7 k7 u7 r7)).length = n2 := by
            rw [List.length_append, nodesT_len, Hn1L.out, Hn2.out, ← HA.out]
          rw [hl8] at ho8 hf8 ⊢
          have HO8 := Lib.hid ho8
          have hown : ∀ b, OwnOf (.slice (some ⟨g1, 0, none⟩) n1 cap1) b → b = g1 := fun b e => by simpa [OwnOf, Value.ownBlock] using e
          have hg8 : g8 = g1 ∨ w1.heap.size ≤ g8 := by
            rcases hf8 g8 rfl with c | c
            · exact .inl (hown g8 c)
            · rw [nblk_setCell] at c; exact .inr c
          have hsz1 : M1 ≤ w1.heap.size ∧ M2 ≤ w1.heap.size := ⟨by rw [← HM1.out]; exact HT1.out.size, HM2W.out⟩
          have hw8 : g8 < M1 ∨ M2 ≤ g8 := by rcases hg8 with rfl | c <;> omega
          have hx8 : OwnOf (.slice xa xl xc) g8 ∨ M1 ≤ g8 := by
            rcases hg8 with rfl | c
            · exact hgx
            · exact .inr (by omega)
          have HL8 := Lib.hid (HL9.out.keep ht8 fun b h1 h2 hs => by have := hown b hs; omega)
          have HT8 := Lib.hid (show Touch (OwnOf (.slice xa xl xc)) w w8 from HT9.out.trans' ht8 fun b hlt hs => by
            have e := hown b hs
            subst e
            rcases hgx with c | c
            · exact c
            · have := HM1.out; omega)
          have HW8 := Lib.hid (And.intro hw8 (And.intro hx8 (show M2 ≤ w8.heap.size from by have h1 := ht8.size; rw [nblk_setCell] at h1; omega)))
          have hnd : ((N0 ++ [(⟨k, u, 0, ln, -1, -1⟩ : NodeC)]) ++ nodesT seed n1 (.node l7 k7 u7 r7))[n1]? = some (nodeAt seed n1 l7 k7 u7 r7) := by
            rw [List.getElem?_append_right (by rw [Hn1L.out]; exact Nat.le_refl _), Hn1L.out, Nat.sub_self]; rfl
          obtain ⟨b3, off3, e33, hb3, q3, hc3, hq3⟩ := ho8.rl.at hnd
          cases e33
          have y2 := hc3 2 (by omega)
          have hv2 : q3 2 = .int .u64 (dl : Int) := by have h : q3 2 = .int .u64 _ := hq3 2 (by omega); rw [h, ← Hdl.out]; rfl
          rw [hv2, Nat.zero_add] at y2
          obtain ⟨⟨_, _, _, _, v4, v5⟩, _, _, _⟩ := HL8.out.cells
          have j1 : (n1 : Int) < (n2 : Int) := by have := Hn2.out; have := HSZ.out; omega
          have j2 : (0 : Int) ≤ (n1 : Int) := by omega
          clear ho8 ht8 hf8 hl8 hown hg8 hsz1 hw8 hx8 hnd hc3 hq3 hv2 hb3 e0 e1 e2 e3 e4 e5 fz2 fz4 fz5 HREC
          go_wp2_with fail
          go_meet
          exact ⟨g8, cap8, rfl, rfl, Lib.hid ⟨HO8.out, HL8.out, HW8.out.1, HW8.out.2.1, HW8.out.2.2⟩, HT8.out⟩
      case rest =>
      obtain ⟨g2, cap2, rfl, rfl, HC2, hTc2⟩ := hcut
      obtain ⟨ho2, hl2, hg2, hgx2, hm2⟩ := HC2.out
      have HO2 := Lib.hid ho2
      have HL2 := Lib.hid hl2
      have HT2 := Lib.hid hTc2
      have HM2W := Lib.hid hm2
      clear ho2 hl2 hTc2 HC2 hcutL hm2
      have hlb : ln ≤ 1000000 := by have h1 := HNN.out; have h2 := HLN.out; have h3 := HA.out; simp only [Tree.size] at h1; omega
      have hlb1 : 1 ≤ ln := by have h2 := HLN.out; omega
      go_upto_if 60 with fail
      go_cut [0, 11] (fun s0 s10 wx => ∃ (gg capp : Nat), s0 = .slice (some ⟨gg, 0, none⟩) n3 capp ∧ s10 = .int .u64 (dr : Int) ∧ Hid (NG B B wx (.slice (some ⟨gg, 0, none⟩) n3 capp) ((N0 ++ [(⟨k, u, 0, ln, -1, -1⟩ : NodeC)] ++ nodesT seed n1 l) ++ nodesT seed n2 r) ∧ Loc M1 M2 wx g (.slice kxa kxl kxc) (.slice uxa uxl uxc) k u 0 ln (childAt l n1) (childAt r n2) ∧ (gg < M1 ∨ M2 ≤ gg) ∧ (OwnOf (.slice xa xl xc) gg ∨ M1 ≤ gg) ∧ M2 ≤ wx.heap.size) ∧ Touch (OwnOf (.slice xa xl xc)) w wx)
      case first =>
        cases r with
        | nil =>
          have hz : rn = 0 := by have := HRN.out; simp only [Tree.size] at this; omega
          have hq : decide ((a : Int) < (ln : Int) - 1) = false := by have h1 := HLN.out; (try simp only [Tree.size] at h1); simp; omega
          have hq2 : decide (a < ln - 1) = false := by have h1 := HLN.out; (try simp only [Tree.size] at h1); simp; omega
          have HDD := Lib.hid (show dr = 0 from by have := Hdr.out; simp only [digT] at this; omega)
          have HNE := Lib.hid (show n3 = n2 from by have := Hn3.out; omega)
          have hz3 : (ln : Int) - 1 = (a : Int) := by have h1 := HLN.out; simp only [Tree.size] at h1; omega
          clear hz
          go_wp2_with fail
          go_meet
          rw [HNE.out, HDD.out]
          exact ⟨g2, cap2, rfl, rfl, Lib.hid ⟨by simpa [nodesT] using HO2.out, HL2.out, hg2, hgx2, HM2W.out⟩, HT2.out⟩
        | node l7 k7 u7 r7 =>
          have HSZ := Lib.hid (show 0 < rn from by have := HRN.out; simp only [Tree.size] at this; omega)
          have hq : decide ((a : Int) < (ln : Int) - 1) = true := by have := HSZ.out; have := HLN.out; have := HRN.out; simp; omega
          have hq2 : decide (a < ln - 1) = true := by have := HSZ.out; have := HLN.out; have := HRN.out; simp; omega
          have hzz : (a : Int) < (ln : Int) - 1 := by have := HSZ.out; have := HLN.out; have := HRN.out; omega
          obtain ⟨⟨e0, e1, e2, e3, e4, e5⟩, fz2, fz4, fz5⟩ := HL2.out.cells
          have hgne : ¬ OwnOf (.slice (some ⟨g2, 0, none⟩) n2 cap2) g := fun e => by
            obtain rfl : g = g2 := by simpa [OwnOf, Value.ownBlock] using e
            have := HL2.out.lo; have := HL2.out.hi; omega
          have HGB := Lib.hid (show B ≤ g from by have := HL2.out.lo; have := HBW.out; have := HM1.out; omega)
          have HTS := Lib.hid ((Touch.refl (Just g) wc).setCell ⟨g, 5, none⟩ (.int .i64 (n2 : Int)) (fun _ => rfl))
          have HL9 := Lib.hid (HL2.out.set 5 (.int .i64 (n2 : Int)) 0 (childAt l n1) (n2 : Int) (.inr (.inr ⟨rfl, rfl, rfl, rfl⟩)))
          have HO9 := Lib.hid (HO2.out.keepV HTS.out HGB.out ⟨_, _, HL2.out.blk⟩ hgne)
          have HT9 := Lib.hid (show Touch (OwnOf (.slice xa xl xc)) w (wc.setCell ⟨g, 5, none⟩ (.int .i64 (n2 : Int))) from HT2.out.setCell _ _ (fun hl => by have hl : g < w.heap.size := hl; have := HL2.out.lo; have := HM1.out; omega))
          have HREC := Lib.hid (IH.out (.node l7 k7 u7 r7) (w := wc.setCell ⟨g, 5, none⟩ (.int .i64 (n2 : Int))) (x := .slice (some ⟨g2, 0, none⟩) n2 cap2) (lx := (.slice dh rn dc)) (N0 := (N0 ++ [(⟨k, u, 0, ln, -1, -1⟩ : NodeC)] ++ nodesT seed n1 l)) (by have := HM.out; simp only [Tree.size] at this ⊢; omega) (srt_node.1 HSRT.out).2.1 HHP.out.2.2.2 (fun p hp => HOK.out p (by rw [Tree.toL, List.mem_append, List.mem_cons]; exact .inr (.inr hp))) HPR.out (HT0.out.trans (HT9.out.mono fun b _ hs => HX.out.base' b hs)) (Nat.le_trans HBW.out HT9.out.size) HO9.out (by have h1 := HNN.out; have h2 := Hn2L.out; have h3 := Hn1.out; have h4 := Hn2.out; have h5 := HA.out; simp only [Tree.size] at h1 h5 ⊢; omega))
          rw [Hn2L.out] at HREC
          clear hgne
          go_wp2_with fail
          refine HREC.out.mono ?_
          rintro e w8 ⟨x8, rfl, ho8, ht8, hf8⟩
          obtain ⟨g8, cap8, rfl⟩ := ho8.formP (by rw [List.length_append, Hn2L.out]; have h3 := Hn1.out; have h4 := Hn2.out; omega)
          have hl8 : ((N0 ++ [(⟨k, u, 0, ln, -1, -1⟩ : NodeC)] ++ nodesT seed n1 l) ++ nodesT seed n2 (.node l7 k7 u7 r7)).length = n3 := by
            rw [List.length_append, nodesT_len, Hn2L.out, Hn3.out, ← HRN.out]
          rw [hl8] at ho8 hf8 ⊢
          have HO8 := Lib.hid ho8
          have hown : ∀ b, OwnOf (.slice (some ⟨g2, 0, none⟩) n2 cap2) b → b = g2 := fun b e => by simpa [OwnOf, Value.ownBlock] using e
          have hg8 : g8 = g2 ∨ wc.heap.size ≤ g8 := by
            rcases hf8 g8 rfl with c | c
            · exact .inl (hown g8 c)
            · rw [nblk_setCell] at c; exact .inr c
          have hsz1 : M1 ≤ wc.heap.size ∧ M2 ≤ wc.heap.size := ⟨by rw [← HM1.out]; exact HT2.out.size, HM2W.out⟩
          have hw8 : g8 < M1 ∨ M2 ≤ g8 := by rcases hg8 with rfl | c <;> omega
          have hx8 : OwnOf (.slice xa xl xc) g8 ∨ M1 ≤ g8 := by
            rcases hg8 with rfl | c
            · exact hgx2
            · exact .inr (by omega)
          have HL8 := Lib.hid (HL9.out.keep ht8 fun b h1 h2 hs => by have := hown b hs; omega)
          have HT8 := Lib.hid (show Touch (OwnOf (.slice xa xl xc)) w w8 from HT9.out.trans' ht8 fun b hlt hs => by
            have e := hown b hs
            subst e
            rcases hgx2 with c | c
            · exact c
            · have := HM1.out; omega)
          have HW8 := Lib.hid (And.intro hw8 (And.intro hx8 (show M2 ≤ w8.heap.size from by have h1 := ht8.size; rw [nblk_setCell] at h1; omega)))
          have hnd : ((N0 ++ [(⟨k, u, 0, ln, -1, -1⟩ : NodeC)] ++ nodesT seed n1 l) ++ nodesT seed n2 (.node l7 k7 u7 r7))[n2]? = some (nodeAt seed n2 l7 k7 u7 r7) := by
            rw [List.getElem?_append_right (by rw [Hn2L.out]; exact Nat.le_refl _), Hn2L.out, Nat.sub_self]; rfl
          obtain ⟨b3, off3, e33, hb3, q3, hc3, hq3⟩ := ho8.rl.at hnd
          cases e33
          have y2 := hc3 2 (by omega)
          have hv2 : q3 2 = .int .u64 (dr : Int) := by have h : q3 2 = .int .u64 _ := hq3 2 (by omega); rw [h, ← Hdr.out]; rfl
          rw [hv2, Nat.zero_add] at y2
          obtain ⟨⟨_, _, _, _, v4, v5⟩, _, _, _⟩ := HL8.out.cells
          have j1 : (n2 : Int) < (n3 : Int) := by have := Hn3.out; have := HSZ.out; omega
          have j2 : (0 : Int) ≤ (n2 : Int) := by omega
          clear ho8 ht8 hf8 hl8 hown hg8 hsz1 hw8 hx8 hnd hc3 hq3 hv2 hb3 e0 e1 e2 e3 e4 e5 fz2 fz4 fz5 HREC
          go_wp2_with fail
          go_meet
          exact ⟨g8, cap8, rfl, rfl, Lib.hid ⟨HO8.out, HL8.out, HW8.out.1, HW8.out.2.1, HW8.out.2.2⟩, HT8.out⟩
      case rest =>
      obtain ⟨g3, cap3, rfl, rfl, HC3, hTc3⟩ := hcut
      obtain ⟨ho3, hl3, hg3, hgx3, hm3⟩ := HC3.out
      have HX3 := Lib.hid hgx3
      have HT3 := Lib.hid hTc3
      have HMK := Lib.hid (show Calls Try.prog 59 #[.int .u64 seed, .int .u64 (dl : Int), .slice kxa kxl kxc, .slice uxa uxl uxc, .int .u64 (dr : Int)] wc (DigPost (markN seed dl k u dr) wc) from mark_any seed k u _ _ dl dr wc hl3.key.bv hl3.val.bv (by have := HOKK.out.2.1; omega) (by have := HOKK.out.2.2; omega) (by rw [← Hdl.out]; exact digT_bd _ _) (by rw [← Hdr.out]; exact digT_bd _ _))
      obtain ⟨dm, edm⟩ : ∃ dm, markN seed dl k u dr = dm := ⟨_, rfl⟩
      rw [edm] at HMK
      have HDM := Lib.hid edm
      have HO3 := Lib.hid ho3
      have HL3 := Lib.hid hl3
      have HNE := Lib.hid (show g3 ≠ g from by have := hl3.lo; have := hl3.hi; omega)
      have HLEN := Lib.hid (show (N0 ++ [(⟨k, u, 0, ln, -1, -1⟩ : NodeC)] ++ nodesT seed n1 l ++ nodesT seed n2 r).length = n3 from by rw [List.length_append, nodesT_len, Hn2L.out, HRN.out, Hn3.out])
      obtain ⟨⟨m0, m1, m2, m3, m4, m5⟩, _, _, _⟩ := hl3.cells
      clear edm ho3 hl3 hg3 hgx3 hm3 hTc3 HC3
      go_wp2_with fail
      refine HMK.out.mono ?_
      rintro e w5 ⟨rfl, ht5⟩
      have HT5 := Lib.hid ht5
      have HL5 := Lib.hid (HL3.out.keep ht5 fun _ _ _ c => c)
      have ho5 := HO3.out.keepN ht5
      have HO5 := Lib.hid ho5
      obtain ⟨V, hrow, _⟩ := ho5
      rw [HLEN.out] at hrow
      have j1 : (xl : Int) < (n3 : Int) := by have := HXL.out; have := Hn1.out; have := Hn2.out; have := Hn3.out; omega
      have j2 : (0 : Int) ≤ (xl : Int) := by omega
      have hcl : ∀ c, c < 6 → w5.cell? ⟨g3, xl * 6 + c, none⟩ = some (V xl c) := fun c hc => by
        have hxn : xl < n3 := by omega
        rw [hrow.cellAt (xl * 6 + c) (by omega)]
        exact flat_get 6 V n3 xl c hxn hc
      have y0 := hcl 0 (by omega)
      have y1 := hcl 1 (by omega)
      have y2 := hcl 2 (by omega)
      have y3 := hcl 3 (by omega)
      have y4 := hcl 4 (by omega)
      have y5 := hcl 5 (by omega)
      rw [Nat.add_zero] at y0
      have z0 := hrow.frozenAt (xl * 6)
      have z1 := hrow.frozenAt (xl * 6 + 1)
      have z2 := hrow.frozenAt (xl * 6 + 2)
      have z3 := hrow.frozenAt (xl * 6 + 3)
      have z4 := hrow.frozenAt (xl * 6 + 4)
      have z5 := hrow.frozenAt (xl * 6 + 5)
      obtain ⟨⟨e0, e1, e2, e3, e4, e5⟩, fz2, _, _⟩ := HL5.out.cells
      have hne := HNE.out
      have hne2 : g ≠ g3 := fun e => hne e.symm
      clear m0 m1 m2 m3 m4 m5 ht5 hcl hrow
      generalize V xl 0 = V0 at *
      generalize V xl 1 = V1 at *
      generalize V xl 2 = V2 at *
      generalize V xl 3 = V3 at *
      generalize V xl 4 = V4 at *
      generalize V xl 5 = V5 at *
      go_wp2_with fail
      go_ret
      have HL6 := HL5.out.set 2 (.int .u64 (dm : Int)) dm (childAt l n1) (childAt r n2) (.inl ⟨rfl, rfl, rfl, rfl⟩)
      have hgne : ¬ OwnOf (.slice (some ⟨g3, 0, none⟩) n3 cap3) g := fun e => hne2 (by simpa [OwnOf, Value.ownBlock] using e)
      have HO6 := HO5.out.keepV ((Touch.refl (Just g) w5).setCell ⟨g, 2, none⟩ (.int .u64 (dm : Int)) (fun _ => rfl)) (by have := HL5.out.lo; have := HBW.out; have := HM1.out; omega) ⟨_, _, HL5.out.blk⟩ hgne
      have hfin : (N0 ++ [(⟨k, u, 0, ln, -1, -1⟩ : NodeC)] ++ nodesT seed n1 l ++ nodesT seed n2 r).set xl ⟨k, u, dm, ln, childAt l n1, childAt r n2⟩ = N0 ++ nodesT seed N0.length (.node l k u r) := by
        rw [HXL.out, List.append_assoc, List.append_assoc, List.set_append_right _ _ (Nat.le_refl _), Nat.sub_self]
        have h1 : n1 = N0.length + 1 := Hn1.out.symm
        have h2 : n2 = N0.length + 1 + l.size := by rw [Hn2.out, h1, HA.out]
        have h3 : nodeAt seed N0.length l k u r = ⟨k, u, dm, ln, childAt l n1, childAt r n2⟩ := by
          unfold nodeAt
          rw [h2, h1, HLN.out, ← HDM.out, ← Hdl.out, ← Hdr.out]
          simp only [digT, Tree.size]
          congr 1
          have := HA.out; omega
        simp only [nodesT]
        rw [h3, h2, h1]
        rfl
      refine ⟨_, rfl, ?_, ?_, ?_⟩
      · have h := OL.set6 (i := xl) (cap := cap3) (g := g3) (L := N0 ++ [(⟨k, u, 0, ln, -1, -1⟩ : NodeC)] ++ nodesT seed n1 l ++ nodesT seed n2 r) (by rw [HLEN.out]; exact HO6) (by decide) (by rw [HLEN.out]; omega) ⟨k, u, dm, ln, childAt l n1, childAt r n2⟩ _ _ _ _ _ _ (HL6.us (base := B) (lo := B) HBM.out)
        rw [HLEN.out, hfin] at h
        exact h
      · have hs : ∀ o, (⟨g3, o, none⟩ : Addr).block < w.heap.size → OwnOf (.slice xa xl xc) (⟨g3, o, none⟩ : Addr).block := fun o h => by
          have h : g3 < w.heap.size := h
          rcases HX3.out with c | c
          · exact c
          · have := HM1.out; omega
        exact (((((((HT3.out.trans HT5.out.of_nil).setCell _ _ (fun hl => by have hl : g < w.heap.size := hl; have := HL5.out.lo; have := HM1.out; omega)).setCell _ _ (hs _)).setCell _ _ (hs _)).setCell _ _ (hs _)).setCell _ _ (hs _)).setCell _ _ (hs _)).setCell _ _ (hs _)
      · intro b hb
        obtain rfl : b = g3 := by simpa [OwnOf, Value.ownBlock] using hb
        rcases HX3.out with c | c
        · exact .inl c
        · exact .inr (by have := HM1.out; omega)
end Go.Proofs.Ytkkpcndpjkebkaa
