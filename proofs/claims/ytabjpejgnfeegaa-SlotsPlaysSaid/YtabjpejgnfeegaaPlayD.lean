import Derived.Test.YtabjpejgnfeegaaPlayB
/- SlotsPlays: what the law does in a round. -/
namespace Go.Proofs.Ytabjpejgnfeegaa
open Go.ChangeShapes Go.WideShapes Go.ChangeAt Go.RowKit Go.Deep
attribute [local go_sem] Oper.semAt_some
theorem mon {l : Array Bool} {i j : Nat} (h : l.getD j false = true) : (l.setIfInBounds i true).getD j false = true := by
  by_cases e : i = j
  · subst e
    have hlt : i < l.size := by
      rcases Nat.lt_or_ge i l.size with c | c
      · exact c
      · simp [Array.getD, Nat.not_lt.2 c] at h
    simp [Array.getD, hlt]
  · simpa only [Array.getD_eq_getD_getElem?, Array.getElem?_setIfInBounds_ne e] using h
theorem set_of {l : Array Bool} {i : Nat} (h : i < l.size) : (l.setIfInBounds i true).getD i false = true := by simp [Array.getD, h]
theorem lt_heap {w : World} {b : Nat} {o : Obj} (h : w.heap[b]? = some o) : b < w.heap.size := (Array.getElem?_eq_some_iff.1 h).1

set_option maxRecDepth 100000 in
set_option maxHeartbeats 8000000 in
theorem does0_ok {R Z : Nat → Prop} {B0 m : Nat} {n C : Nat} {T : Cells} {L : KVs} {w : World} {p : Option Addr} {seed : Int} {la : Option Addr} {ln lc : Nat} {kd : Int} {ka va : Option Addr} {kl kc vl vc : Nat} {key val : Key} (hk : BV w (.slice ka kl kc) key) (hv : BV w (.slice va vl vc) val) (hkl : key.length ≤ 1200) (hvl : val.length ≤ 1200) (h : StR R Z B0 w (.pointer p) seed (.slice la ln lc) n C T L) (hB : B0 ≤ w.heap.size) (hm : L.length + 1 ≤ m) (hm2 : m ≤ 1000) (hkd : kd.tmod 8 = 0) (hal : allowB key val = true) :
    Calls Try.prog 33 #[.pointer p, .int .u64 seed, .slice la ln lc, .agg #[.int .i64 kd, .slice ka kl kc, .slice va vl vc], .bool true] w (DoesP B0 m (.pointer p) seed w) := by
  have HST := Lib.hid h
  have HBB := Lib.hid hB
  have HM := Lib.hid hm
  have HM2 := Lib.hid hm2
  have HPE := Lib.hid (show putErr n (valAt (T (seekAt (bfS seed) (homS seed C) C T key)) key).isSome key val = 0 from by
    have h1 := (h.len (by omega)).1
    have h2 : 1 ≤ key.length ∧ key.length ≤ 64 ∧ val.length ≤ 1000 := of_decide_eq_true hal
    unfold putErr; rw [if_neg (by simpa using h2), if_pos (.inr (by omega))])
  have HAL := Lib.hid hal
  clear hal
  clear h hB hm hm2
  have HK := Lib.hid hk
  have HV := Lib.hid hv
  have HKL := Lib.hid hkl
  have HVL := Lib.hid hvl
  clear hk hv hkl hvl
  go_enter Try.func33, Try.ntmps33
  go_wp2_with fail
  have hbx := heap_alloc_new w (.cells #[.int .i64 kd, .slice ka kl kc, .slice va vl vc] 48)
  have HT2 := Lib.hid ((Touch.refl Nil w).alloc (.cells #[.int .i64 kd, .slice ka kl kc, .slice va vl vc] 48))
  have HE : ∃ B, w.heap.size = B := ⟨_, rfl⟩
  obtain ⟨B, eB⟩ := HE
  rw [eB] at hbx ⊢
  have HEB := Lib.hid eB
  have HE : ∃ w2, w.alloc (.cells #[.int .i64 kd, .slice ka kl kc, .slice va vl vc] 48) = w2 := ⟨_, rfl⟩
  obtain ⟨w2, ew2⟩ := HE
  rw [ew2] at hbx HT2 ⊢
  have HE : ∃ N, w2.heap.size = N := ⟨_, rfl⟩
  obtain ⟨N, eN⟩ := HE
  have HNN := Lib.hid eN
  have HBX := Lib.hid hbx
  have HKW := Lib.hid (HK.out.keepN HT2.out)
  have HVW := Lib.hid (HV.out.keepN HT2.out)
  have HNB := Lib.hid (show N = B + 1 from by rw [← eN, ← ew2, nblk_alloc, eB])
  clear hbx ew2 eN eB
  refine (wpIn_wide (n := 7)).1 (region_inv (by kernel_rfl) (by kernel_rfl) (fun J a W => J.size = 10 ∧ Touch Nil w2 W ∧ ∃ SA SB v12 v13 v32 v33 v34 v35 v36 v37 v38 v39, a = { tmps := #[.pointer p, .int .u64 seed, .slice la ln lc, .agg #[.int .i64 kd, .slice ka kl kc, .slice va vl vc], .bool true, undef, undef, undef, .pointer (some ⟨B, 0, none⟩), undef, .slice none 0 0, .bool false, v12, v13, undef, undef, undef, undef, undef, undef, undef, undef, undef, undef, undef, undef, undef, undef, undef, undef, undef, undef, v32, v33, v34, v35, v36, v37, v38, v39, undef, undef, undef, undef, undef, undef, undef, undef, undef, undef, undef, undef, undef, undef, undef, undef, undef, undef, undef, undef, undef, undef, undef, undef, undef, undef, undef, undef, undef, undef, undef, undef, undef, undef, undef, undef, undef, undef, undef, undef, undef, undef, undef, undef, undef, undef, undef, undef, undef, undef, undef, undef, undef, undef, undef, undef, undef, undef, undef, undef, undef, undef, undef, undef, undef, undef, undef, undef, undef, undef, undef, undef, undef, undef, undef, undef, undef, undef, undef, undef, undef, undef, undef, undef, undef, undef, undef, undef, undef, undef, undef, undef, undef, undef, undef, undef, undef, undef, undef, undef, undef, undef, undef, undef, undef, undef, undef, undef, undef, undef, undef, undef, undef, undef, undef, undef, undef, undef, undef, undef, undef, undef, undef, undef, undef, undef, undef, undef, undef, undef, undef, undef, undef, undef, undef, undef, undef, undef, undef, undef, undef, undef, undef, undef, undef, undef, undef, undef, undef, undef, undef, undef, undef, undef, undef, undef, undef, undef], defers := [] } ∧ D1 N B key val (.slice ka kl kc) (.slice va vl vc) J W SA SB v12 v13 v32 v33 v34 v35 v36 v37 v38 v39) ?_ ?_ ?_)
  · exact ⟨rfl, (Touch.refl Nil w2).drew, fun _ => False, fun _ => False, undef, undef, undef, undef, undef, undef, undef, undef, undef, undef, rfl, { f0 := fun h _ => absurd h (by decide), f1 := fun h => absurd h (by decide), f2 := fun h => absurd h (by decide), f3 := fun h => absurd h (by decide), f4 := fun h _ => absurd h (by decide), f5 := fun h => absurd h (by decide), f6 := fun h => absurd h (by decide), f7 := fun h => absurd h (by decide), f8 := fun h => absurd h (by decide), f9 := fun h => absurd h (by decide), t := Nat.le_of_eq HNN.out.symm, sa := fun b h => h.elim, sb := fun b h => h.elim, d := fun b h => h.elim }⟩
  · rintro J a w3 ⟨hs, ht, SA, SB, v12, v13, v32, v33, v34, v35, v36, v37, v38, v39, rfl, y⟩ hall
    have hL := allL hs hall
    have hk := y.f3 (hL 3 (by decide))
    have hv := y.f7 (hL 7 (by decide))
    have e1 := (y.f8 (hL 8 (by decide))).1
    have e2 := (y.f9 (hL 9 (by decide))).1
    subst e1 e2
    obtain ⟨xa, xl, xc, rfl⟩ := hk.1.form
    obtain ⟨ya, yl, yc, rfl⟩ := hv.1.form
    have HX := Lib.hid hk.1
    have HY := Lib.hid hv.1
    have HXY := Lib.hid (show ∀ b, OwnOf (.slice xa xl xc) b → ¬ OwnOf (.slice ya yl yc) b from fun b h1 h2 => y.d b (hk.2 b h1) (hv.2 b h2))
    have HT3 := Lib.hid (HT2.out.trans ht)
    have HTN := Lib.hid ht
    have hbx := (ht.same B (lt_heap HBX.out) fun c => c).trans HBX.out
    have HBX3 := Lib.hid hbx
    have b0 : w3.cell? ⟨B, 0, none⟩ = some (.int .i64 kd) := by simp [World.cell?, hbx]
    have b1 : w3.cell? ⟨B, 1, none⟩ = some (.slice ka kl kc) := by simp [World.cell?, hbx]
    have b2 : w3.cell? ⟨B, 2, none⟩ = some (.slice va vl vc) := by simp [World.cell?, hbx]
    have HK3 := Lib.hid (HKW.out.keepN ht)
    have HV3 := Lib.hid (HVW.out.keepN ht)
    have HN3 := Lib.hid y.t
    clear y hL hall hs hk hv hbx
    go_wp2_with fail
    refine (putR_ok (HST.out.lz.keepN HT3.out) (by have := HM.out; have := HM2.out; omega) HST.out.okay key val _ _ HK3.out HV3.out (by have := HKL.out; omega) (by have := HVL.out; omega) HAL.out).mono ?_
    rintro e w4 ⟨ao4, cap4, Z4, rfl, hz4, hZ4, ht4⟩
    have HE : ∃ L4, insP L key val = L4 := ⟨_, rfl⟩
    obtain ⟨L4, eL4⟩ := HE
    rw [eL4] at hz4 ⊢
    have HL4 := Lib.hid eL4
    have HE : ∃ n4, L4.length = n4 := ⟨_, rfl⟩
    obtain ⟨n4, en4⟩ := HE
    rw [en4] at hz4 ⊢
    have HZ4 := Lib.hid hz4
    have HZZ := Lib.hid hZ4
    have HT4 := Lib.hid (HT3.out.trans ht4)
    have HT34 := Lib.hid ht4
    have HX4 := Lib.hid (HX.out.keep ht4 (fun _ _ c => c))
    have HY4 := Lib.hid (HY.out.keep ht4 (fun _ _ c => c))
    clear hz4 hZ4 ht4 en4 eL4 b0 b1 b2
    go_wp2_with fail
    refine (put_any (HST.out.tab.keepN HT4.out) key val _ _ HX4.out.bv HY4.out.bv (by have := HKL.out; omega) (by have := HVL.out; omega)).mono ?_
    rintro e w5 ⟨he, R5, n5, C5, T5, hT5, ht5, _, hR5, _, hin5, hno5⟩
    rw [HPE.out] at he
    subst he
    have HXR := Lib.hid (show ∀ b, R b → b < N from fun b hb => by have h1 := HST.out.tab.low b hb; have h2 := HNB.out; have h3 := HEB.out; omega)
    have HX5 := Lib.hid (HX4.out.keep ht5 fun k hk hr => by have h1 := (HX4.out.block k hk).1; have h2 := HXR.out k hr; omega)
    have HY5 := Lib.hid (HY4.out.keep ht5 fun k hk hr => by have h1 := (HY4.out.block k hk).1; have h2 := HXR.out k hr; omega)
    have HT5 := Lib.hid (show Touch (From B0) w w5 from HT4.out.of_nil.trans' ht5 fun b hb hr => HST.out.rb b hr)
    have HS5 := Lib.hid (show StR R5 Z4 B0 w5 (.pointer p) seed (.slice ao4 n4 cap4) n5 C5 T5 L4 from
      HST.out.next (w3 := w3) (w4 := w4) HBB.out HT3.out.size HT34.out.size HZ4.out HZZ.out hT5 ht5 hR5 (fun x => by rw [hin5 (HPE.out) x, ← HL4.out, insP_mem HST.out.dist, HST.out.inn]) (by rw [← HL4.out]; exact insP_dist HST.out.dist) (by rw [← HL4.out]; exact insP_okay HST.out.dist HST.out.okay HAL.out))
    have HFX := Lib.hid (show ∀ b, (OwnOf (.slice xa xl xc) b ∨ OwnOf (.slice ya yl yc) b) → ¬ R5 b ∧ ¬ Z4 b from fun b hb => by
      have h1 : N ≤ b ∧ b < w3.heap.size := hb.elim (fun h => HX.out.block b h) (fun h => HY.out.block b h)
      have h2 := HNB.out
      have h3 := HEB.out
      refine ⟨fun hr => ?_, fun hz => ?_⟩
      · rcases hR5 b hr with c | c
        · have := HXR.out b c; omega
        · have := HT34.out.size; omega
      · rcases HZZ.out b hz with c | c
        · have := HST.out.lz.low b c; omega
        · omega)
    have HS8X := Lib.hid (HX5.out.s8 (Nat.le_refl _) (by have := HKL.out; omega))
    have HS8Y := Lib.hid (HY5.out.s8 (Nat.le_refl _) (by have := HVL.out; omega))
    clear hT5 ht5 hR5 hin5 hno5
    have HSP := Lib.hid (show Calls Try.prog 32 #[.slice xa xl xc, .int .u8 85] w5 _ from spoilS_any HS8X.out 85 (by decide))
    go_wp2_with fail
    refine HSP.out.mono ?_
    rintro e w6 ⟨rfl, hs6, ht6⟩
    have HSP2 := Lib.hid (show Calls Try.prog 32 #[.slice ya yl yc, .int .u8 170] w6 _ from spoilS_any (HS8Y.out.spl hs6) 170 (by decide))
    have HS6 := Lib.hid (HS5.out.keep ht6 fun b hb => HFX.out b (.inl hb))
    have HT6 := Lib.hid (show Touch (From B0) w w6 from HT5.out.trans' ht6 fun b hb hs => by have h1 := (HX.out.block b hs).1; have h2 := HNB.out; have h3 := HEB.out; omega)
    clear hs6 ht6 HSP
    go_wp2_with fail
    refine HSP2.out.mono ?_
    rintro e w7 ⟨rfl, hs7, ht7⟩
    have HS7 := Lib.hid (HS6.out.keep ht7 fun b hb => HFX.out b (.inr hb))
    have HT7 := Lib.hid (show Touch (From B0) w w7 from HT6.out.trans' ht7 fun b hb hs => by have h1 := (HY.out.block b hs).1; have h2 := HNB.out; have h3 := HEB.out; omega)
    clear hs7 ht7
    go_wp2_with fail
    go_ret2
    exact ⟨_, _, _, rfl, ⟨R5, Z4, n5, C5, T5, L4, HS7.out, by have h1 := HM.out; rw [← HL4.out]; exact Nat.le_trans insP_len h1⟩, HT7.out⟩
  · rintro J a W i o ho ⟨hs, ht, SA, SB, v12, v13, v32, v33, v34, v35, v36, v37, v38, v39, rfl, y⟩ hl hd K hK
    have hi : i < 10 := (Array.getElem?_eq_some_iff.1 ho).1
    have hbx := (ht.same B (lt_heap HBX.out) fun c => c).trans HBX.out
    have b1 : W.cell? ⟨B, 1, none⟩ = some (.slice ka kl kc) := by simp [World.cell?, hbx]
    have b2 : W.cell? ⟨B, 2, none⟩ = some (.slice va vl vc) := by simp [World.cell?, hbx]
    have hN := y.t
    rcases (by omega : i = 0 ∨ i = 1 ∨ i = 2 ∨ i = 3 ∨ i = 4 ∨ i = 5 ∨ i = 6 ∨ i = 7 ∨ i = 8 ∨ i = 9) with rfl | rfl | rfl | rfl | rfl | rfl | rfl | rfl | rfl | rfl
    · obtain rfl := Option.some.inj (show some _ = some o from ho)
      go_simp
      have ta := (Touch.refl Nil W).alloc (.cells #[] 5)
      refine hK _ _ ⟨by simpa using hs, ht.trans ta, (fun b => SA b ∨ b = W.heap.size), SB, _, _, _, _, _, _, _, _, _, _, rfl, { f0 := fun _ _ => ⟨(own_new W).base hN, fun b hb => .inr (by simpa [OwnOf, Value.ownBlock] using hb)⟩, f1 := fun h => y.f1 (stp h (by decide)), f2 := fun h => y.f2 (stp h (by decide)), f3 := fun h => by have k := y.f3 (stp h (by decide)); exact (k.keepN ta).wide (fun _ h => .inl h), f4 := fun h h7 => by have k := y.f4 (stp h (by decide)) (mon' h7); exact k.keepN ta, f5 := fun h => y.f5 (stp h (by decide)), f6 := fun h => y.f6 (stp h (by decide)), f7 := fun h => by have k := y.f7 (stp h (by decide)); exact k.keepN ta, f8 := fun h => ⟨(y.f8 (stp h (by decide))).1, mon (y.f8 (stp h (by decide))).2⟩, f9 := fun h => ⟨(y.f9 (stp h (by decide))).1, mon (y.f9 (stp h (by decide))).2⟩, t := by rw [nblk_alloc]; omega, sa := fun b h => by rw [nblk_alloc]; rcases h with h | h; (have := y.sa b h; omega); (subst h; omega), sb := fun b h => by rw [nblk_alloc]; have := y.sb b h; omega, d := fun b h hb => by rcases h with h | h; (exact y.d b h hb); (subst h; have := y.sb _ hb; omega) }⟩
    · obtain rfl := Option.some.inj (show some _ = some o from ho)
      go_simp
      refine hK _ _ ⟨by simpa using hs, ht, SA, SB, _, _, _, _, _, _, _, _, _, _, rfl, { f0 := fun h h3 => by have k := y.f0 (stp h (by decide)) (mon' h3); exact k, f1 := fun _ => rfl, f2 := fun h => y.f2 (stp h (by decide)), f3 := fun h => by have k := y.f3 (stp h (by decide)); exact k, f4 := fun h h7 => by have k := y.f4 (stp h (by decide)) (mon' h7); exact k, f5 := fun h => y.f5 (stp h (by decide)), f6 := fun h => y.f6 (stp h (by decide)), f7 := fun h => by have k := y.f7 (stp h (by decide)); exact k, f8 := fun h => ⟨(y.f8 (stp h (by decide))).1, mon (y.f8 (stp h (by decide))).2⟩, f9 := fun h => ⟨(y.f9 (stp h (by decide))).1, mon (y.f9 (stp h (by decide))).2⟩, t := hN, sa := y.sa, sb := y.sb, d := y.d }⟩
    · obtain rfl := Option.some.inj (show some _ = some o from ho)
      have e := (y.f1 (hd ⟨1, .data⟩ (by simp) rfl)).symm
      subst e
      go_simp
      refine hK _ _ ⟨by simpa using hs, ht, SA, SB, _, _, _, _, _, _, _, _, _, _, rfl, { f0 := fun h h3 => by have k := y.f0 (stp h (by decide)) (mon' h3); exact k, f1 := fun h => y.f1 (stp h (by decide)), f2 := fun _ => rfl, f3 := fun h => by have k := y.f3 (stp h (by decide)); exact k, f4 := fun h h7 => by have k := y.f4 (stp h (by decide)) (mon' h7); exact k, f5 := fun h => y.f5 (stp h (by decide)), f6 := fun h => y.f6 (stp h (by decide)), f7 := fun h => by have k := y.f7 (stp h (by decide)); exact k, f8 := fun h => ⟨(y.f8 (stp h (by decide))).1, mon (y.f8 (stp h (by decide))).2⟩, f9 := fun h => ⟨(y.f9 (stp h (by decide))).1, mon (y.f9 (stp h (by decide))).2⟩, t := hN, sa := y.sa, sb := y.sb, d := y.d }⟩
    · obtain rfl := Option.some.inj (show some _ = some o from ho)
      have e := (y.f2 (hd ⟨2, .data⟩ (by simp) rfl)).symm
      subst e
      have ho := y.f0 (hd ⟨0, .data⟩ (by simp) rfl) (fun h => ngd hl h)
      rw [if_pos (by simp [Region.wanted])]
      refine opIn_append_bytes (.tmp 32) (.tmp 34) rfl v32 (.slice ka kl kc) key rfl ho.1 rfl (HKW.out.keepN ht) (by have := HKL.out; omega) hN ?_
      intro v' W' h1 h2 h3
      have hx : ∀ b, SB b → ¬ OwnOf v32 b := fun b hb hs => y.d b (ho.2 b hs) hb
      have tn : Touch Nil w2 W' := ht.trans' h2 fun b hb hs => by have h4 := y.sa b (ho.2 b hs); have := HNN.out; omega
      go_simp
      refine hK _ _ ⟨by simpa using hs, tn, (fun b => SA b ∨ (W.heap.size ≤ b ∧ b < W'.heap.size)), SB, _, _, _, _, _, _, _, _, _, _, rfl, { f0 := fun h hn => absurd (set_of (i := 3) (by rw [hs]; decide)) hn, f1 := fun h => y.f1 (stp h (by decide)), f2 := fun h => y.f2 (stp h (by decide)), f3 := fun _ => ⟨h1, fun b hb => (h3 b hb).elim (fun h => .inl (ho.2 b h)) fun h => .inr ⟨h, (h1.block b hb).2⟩⟩, f4 := fun h h7 => by have k := y.f4 (stp h (by decide)) (mon' h7); exact k.keep h2 hx, f5 := fun h => y.f5 (stp h (by decide)), f6 := fun h => y.f6 (stp h (by decide)), f7 := fun h => by have k := y.f7 (stp h (by decide)); exact k.keep h2 hx, f8 := fun h => (ngd hl (y.f8 (stp h (by decide))).2).elim, f9 := fun h => ⟨(y.f9 (stp h (by decide))).1, mon (y.f9 (stp h (by decide))).2⟩, t := Nat.le_trans hN h2.size, sa := fun b h => by have := h2.size; rcases h with h | h; (have := y.sa b h; omega); omega, sb := fun b h => by have := h2.size; have := y.sb b h; omega, d := fun b h hb => by rcases h with h | h; (exact y.d b h hb); (have := y.sb b hb; omega) }⟩
    · obtain rfl := Option.some.inj (show some _ = some o from ho)
      go_simp
      have ta := (Touch.refl Nil W).alloc (.cells #[] 5)
      refine hK _ _ ⟨by simpa using hs, ht.trans ta, SA, (fun b => SB b ∨ b = W.heap.size), _, _, _, _, _, _, _, _, _, _, rfl, { f0 := fun h h3 => by have k := y.f0 (stp h (by decide)) (mon' h3); exact k.keepN ta, f1 := fun h => y.f1 (stp h (by decide)), f2 := fun h => y.f2 (stp h (by decide)), f3 := fun h => by have k := y.f3 (stp h (by decide)); exact k.keepN ta, f4 := fun _ _ => ⟨(own_new W).base hN, fun b hb => .inr (by simpa [OwnOf, Value.ownBlock] using hb)⟩, f5 := fun h => y.f5 (stp h (by decide)), f6 := fun h => y.f6 (stp h (by decide)), f7 := fun h => by have k := y.f7 (stp h (by decide)); exact (k.keepN ta).wide (fun _ h => .inl h), f8 := fun h => ⟨(y.f8 (stp h (by decide))).1, mon (y.f8 (stp h (by decide))).2⟩, f9 := fun h => ⟨(y.f9 (stp h (by decide))).1, mon (y.f9 (stp h (by decide))).2⟩, t := by rw [nblk_alloc]; omega, sa := fun b h => by rw [nblk_alloc]; have := y.sa b h; omega, sb := fun b h => by rw [nblk_alloc]; rcases h with h | h; (have := y.sb b h; omega); (subst h; omega), d := fun b h hb => by rcases hb with hb | hb; (exact y.d b h hb); (subst hb; have := y.sa _ h; omega) }⟩
    · obtain rfl := Option.some.inj (show some _ = some o from ho)
      go_simp
      refine hK _ _ ⟨by simpa using hs, ht, SA, SB, _, _, _, _, _, _, _, _, _, _, rfl, { f0 := fun h h3 => by have k := y.f0 (stp h (by decide)) (mon' h3); exact k, f1 := fun h => y.f1 (stp h (by decide)), f2 := fun h => y.f2 (stp h (by decide)), f3 := fun h => by have k := y.f3 (stp h (by decide)); exact k, f4 := fun h h7 => by have k := y.f4 (stp h (by decide)) (mon' h7); exact k, f5 := fun _ => rfl, f6 := fun h => y.f6 (stp h (by decide)), f7 := fun h => by have k := y.f7 (stp h (by decide)); exact k, f8 := fun h => ⟨(y.f8 (stp h (by decide))).1, mon (y.f8 (stp h (by decide))).2⟩, f9 := fun h => ⟨(y.f9 (stp h (by decide))).1, mon (y.f9 (stp h (by decide))).2⟩, t := hN, sa := y.sa, sb := y.sb, d := y.d }⟩
    · obtain rfl := Option.some.inj (show some _ = some o from ho)
      have e := (y.f5 (hd ⟨5, .data⟩ (by simp) rfl)).symm
      subst e
      go_simp
      refine hK _ _ ⟨by simpa using hs, ht, SA, SB, _, _, _, _, _, _, _, _, _, _, rfl, { f0 := fun h h3 => by have k := y.f0 (stp h (by decide)) (mon' h3); exact k, f1 := fun h => y.f1 (stp h (by decide)), f2 := fun h => y.f2 (stp h (by decide)), f3 := fun h => by have k := y.f3 (stp h (by decide)); exact k, f4 := fun h h7 => by have k := y.f4 (stp h (by decide)) (mon' h7); exact k, f5 := fun h => y.f5 (stp h (by decide)), f6 := fun _ => rfl, f7 := fun h => by have k := y.f7 (stp h (by decide)); exact k, f8 := fun h => ⟨(y.f8 (stp h (by decide))).1, mon (y.f8 (stp h (by decide))).2⟩, f9 := fun h => ⟨(y.f9 (stp h (by decide))).1, mon (y.f9 (stp h (by decide))).2⟩, t := hN, sa := y.sa, sb := y.sb, d := y.d }⟩
    · obtain rfl := Option.some.inj (show some _ = some o from ho)
      have e := (y.f6 (hd ⟨6, .data⟩ (by simp) rfl)).symm
      subst e
      have ho := y.f4 (hd ⟨4, .data⟩ (by simp) rfl) (fun h => ngd hl h)
      rw [if_pos (by simp [Region.wanted])]
      refine opIn_append_bytes (.tmp 36) (.tmp 38) rfl v36 (.slice va vl vc) val rfl ho.1 rfl (HVW.out.keepN ht) (by have := HVL.out; omega) hN ?_
      intro v' W' h1 h2 h3
      have hx : ∀ b, SA b → ¬ OwnOf v36 b := fun b hb hs => y.d b hb (ho.2 b hs)
      have tn : Touch Nil w2 W' := ht.trans' h2 fun b hb hs => by have h4 := y.sb b (ho.2 b hs); have := HNN.out; omega
      go_simp
      refine hK _ _ ⟨by simpa using hs, tn, SA, (fun b => SB b ∨ (W.heap.size ≤ b ∧ b < W'.heap.size)), _, _, _, _, _, _, _, _, _, _, rfl, { f0 := fun h h3 => by have k := y.f0 (stp h (by decide)) (mon' h3); exact k.keep h2 hx, f1 := fun h => y.f1 (stp h (by decide)), f2 := fun h => y.f2 (stp h (by decide)), f3 := fun h => by have k := y.f3 (stp h (by decide)); exact k.keep h2 hx, f4 := fun h hn => absurd (set_of (i := 7) (by rw [hs]; decide)) hn, f5 := fun h => y.f5 (stp h (by decide)), f6 := fun h => y.f6 (stp h (by decide)), f7 := fun _ => ⟨h1, fun b hb => (h3 b hb).elim (fun h => .inl (ho.2 b h)) fun h => .inr ⟨h, (h1.block b hb).2⟩⟩, f8 := fun h => ⟨(y.f8 (stp h (by decide))).1, mon (y.f8 (stp h (by decide))).2⟩, f9 := fun h => (ngd hl (y.f9 (stp h (by decide))).2).elim, t := Nat.le_trans hN h2.size, sa := fun b h => by have := h2.size; have := y.sa b h; omega, sb := fun b h => by have := h2.size; rcases h with h | h; (have := y.sb b h; omega); omega, d := fun b h hb => by rcases hb with hb | hb; (exact y.d b h hb); (have := y.sa b h; omega) }⟩
    · obtain rfl := Option.some.inj (show some _ = some o from ho)
      go_simp
      refine hK _ _ ⟨by simpa using hs, ht, SA, SB, _, _, _, _, _, _, _, _, _, _, rfl, { f0 := fun h h3 => by have k := y.f0 (stp h (by decide)) (mon' h3); exact k, f1 := fun h => y.f1 (stp h (by decide)), f2 := fun h => y.f2 (stp h (by decide)), f3 := fun h => by have k := y.f3 (stp h (by decide)); exact k, f4 := fun h h7 => by have k := y.f4 (stp h (by decide)) (mon' h7); exact k, f5 := fun h => y.f5 (stp h (by decide)), f6 := fun h => y.f6 (stp h (by decide)), f7 := fun h => by have k := y.f7 (stp h (by decide)); exact k, f8 := fun _ => ⟨rfl, mon (hd ⟨3, .data⟩ (by simp) rfl)⟩, f9 := fun h => ⟨(y.f9 (stp h (by decide))).1, mon (y.f9 (stp h (by decide))).2⟩, t := hN, sa := y.sa, sb := y.sb, d := y.d }⟩
    · obtain rfl := Option.some.inj (show some _ = some o from ho)
      go_simp
      refine hK _ _ ⟨by simpa using hs, ht, SA, SB, _, _, _, _, _, _, _, _, _, _, rfl, { f0 := fun h h3 => by have k := y.f0 (stp h (by decide)) (mon' h3); exact k, f1 := fun h => y.f1 (stp h (by decide)), f2 := fun h => y.f2 (stp h (by decide)), f3 := fun h => by have k := y.f3 (stp h (by decide)); exact k, f4 := fun h h7 => by have k := y.f4 (stp h (by decide)) (mon' h7); exact k, f5 := fun h => y.f5 (stp h (by decide)), f6 := fun h => y.f6 (stp h (by decide)), f7 := fun h => by have k := y.f7 (stp h (by decide)); exact k, f8 := fun h => ⟨(y.f8 (stp h (by decide))).1, mon (y.f8 (stp h (by decide))).2⟩, f9 := fun _ => ⟨rfl, mon (hd ⟨7, .data⟩ (by simp) rfl)⟩, t := hN, sa := y.sa, sb := y.sb, d := y.d }⟩

set_option maxRecDepth 100000 in
set_option maxHeartbeats 8000000 in
theorem does0_bad {R Z : Nat → Prop} {B0 m : Nat} {n C : Nat} {T : Cells} {L : KVs} {w : World} {p : Option Addr} {seed : Int} {la : Option Addr} {ln lc : Nat} {kd : Int} {ka va : Option Addr} {kl kc vl vc : Nat} {key val : Key} (hk : BV w (.slice ka kl kc) key) (hv : BV w (.slice va vl vc) val) (hkl : key.length ≤ 1200) (hvl : val.length ≤ 1200) (h : StR R Z B0 w (.pointer p) seed (.slice la ln lc) n C T L) (hB : B0 ≤ w.heap.size) (hm : L.length + 1 ≤ m) (hm2 : m ≤ 1000) (hkd : kd.tmod 8 = 0) (hal : allowB key val = false) :
    Calls Try.prog 33 #[.pointer p, .int .u64 seed, .slice la ln lc, .agg #[.int .i64 kd, .slice ka kl kc, .slice va vl vc], .bool true] w (DoesP B0 m (.pointer p) seed w) := by
  have HST := Lib.hid h
  have HBB := Lib.hid hB
  have HM := Lib.hid hm
  have HM2 := Lib.hid hm2
  have HPE := Lib.hid (show putErr n (valAt (T (seekAt (bfS seed) (homS seed C) C T key)) key).isSome key val = 1 from by
    have h2 : ¬ (1 ≤ key.length ∧ key.length ≤ 64 ∧ val.length ≤ 1000) := of_decide_eq_false hal
    unfold putErr; rw [if_pos h2])
  have HAL := Lib.hid hal
  clear hal
  clear h hB hm hm2
  have HK := Lib.hid hk
  have HV := Lib.hid hv
  have HKL := Lib.hid hkl
  have HVL := Lib.hid hvl
  clear hk hv hkl hvl
  go_enter Try.func33, Try.ntmps33
  go_wp2_with fail
  have hbx := heap_alloc_new w (.cells #[.int .i64 kd, .slice ka kl kc, .slice va vl vc] 48)
  have HT2 := Lib.hid ((Touch.refl Nil w).alloc (.cells #[.int .i64 kd, .slice ka kl kc, .slice va vl vc] 48))
  have HE : ∃ B, w.heap.size = B := ⟨_, rfl⟩
  obtain ⟨B, eB⟩ := HE
  rw [eB] at hbx ⊢
  have HEB := Lib.hid eB
  have HE : ∃ w2, w.alloc (.cells #[.int .i64 kd, .slice ka kl kc, .slice va vl vc] 48) = w2 := ⟨_, rfl⟩
  obtain ⟨w2, ew2⟩ := HE
  rw [ew2] at hbx HT2 ⊢
  have HE : ∃ N, w2.heap.size = N := ⟨_, rfl⟩
  obtain ⟨N, eN⟩ := HE
  have HNN := Lib.hid eN
  have HBX := Lib.hid hbx
  have HKW := Lib.hid (HK.out.keepN HT2.out)
  have HVW := Lib.hid (HV.out.keepN HT2.out)
  have HNB := Lib.hid (show N = B + 1 from by rw [← eN, ← ew2, nblk_alloc, eB])
  clear hbx ew2 eN eB
  refine (wpIn_wide (n := 7)).1 (region_inv (by kernel_rfl) (by kernel_rfl) (fun J a W => J.size = 10 ∧ Touch Nil w2 W ∧ ∃ SA SB v12 v13 v32 v33 v34 v35 v36 v37 v38 v39, a = { tmps := #[.pointer p, .int .u64 seed, .slice la ln lc, .agg #[.int .i64 kd, .slice ka kl kc, .slice va vl vc], .bool true, undef, undef, undef, .pointer (some ⟨B, 0, none⟩), undef, .slice none 0 0, .bool false, v12, v13, undef, undef, undef, undef, undef, undef, undef, undef, undef, undef, undef, undef, undef, undef, undef, undef, undef, undef, v32, v33, v34, v35, v36, v37, v38, v39, undef, undef, undef, undef, undef, undef, undef, undef, undef, undef, undef, undef, undef, undef, undef, undef, undef, undef, undef, undef, undef, undef, undef, undef, undef, undef, undef, undef, undef, undef, undef, undef, undef, undef, undef, undef, undef, undef, undef, undef, undef, undef, undef, undef, undef, undef, undef, undef, undef, undef, undef, undef, undef, undef, undef, undef, undef, undef, undef, undef, undef, undef, undef, undef, undef, undef, undef, undef, undef, undef, undef, undef, undef, undef, undef, undef, undef, undef, undef, undef, undef, undef, undef, undef, undef, undef, undef, undef, undef, undef, undef, undef, undef, undef, undef, undef, undef, undef, undef, undef, undef, undef, undef, undef, undef, undef, undef, undef, undef, undef, undef, undef, undef, undef, undef, undef, undef, undef, undef, undef, undef, undef, undef, undef, undef, undef, undef, undef, undef, undef, undef, undef, undef, undef, undef, undef, undef, undef, undef, undef, undef, undef, undef, undef, undef, undef, undef, undef, undef, undef, undef, undef, undef, undef, undef, undef, undef, undef], defers := [] } ∧ D1 N B key val (.slice ka kl kc) (.slice va vl vc) J W SA SB v12 v13 v32 v33 v34 v35 v36 v37 v38 v39) ?_ ?_ ?_)
  · exact ⟨rfl, (Touch.refl Nil w2).drew, fun _ => False, fun _ => False, undef, undef, undef, undef, undef, undef, undef, undef, undef, undef, rfl, { f0 := fun h _ => absurd h (by decide), f1 := fun h => absurd h (by decide), f2 := fun h => absurd h (by decide), f3 := fun h => absurd h (by decide), f4 := fun h _ => absurd h (by decide), f5 := fun h => absurd h (by decide), f6 := fun h => absurd h (by decide), f7 := fun h => absurd h (by decide), f8 := fun h => absurd h (by decide), f9 := fun h => absurd h (by decide), t := Nat.le_of_eq HNN.out.symm, sa := fun b h => h.elim, sb := fun b h => h.elim, d := fun b h => h.elim }⟩
  · rintro J a w3 ⟨hs, ht, SA, SB, v12, v13, v32, v33, v34, v35, v36, v37, v38, v39, rfl, y⟩ hall
    have hL := allL hs hall
    have hk := y.f3 (hL 3 (by decide))
    have hv := y.f7 (hL 7 (by decide))
    have e1 := (y.f8 (hL 8 (by decide))).1
    have e2 := (y.f9 (hL 9 (by decide))).1
    subst e1 e2
    obtain ⟨xa, xl, xc, rfl⟩ := hk.1.form
    obtain ⟨ya, yl, yc, rfl⟩ := hv.1.form
    have HX := Lib.hid hk.1
    have HY := Lib.hid hv.1
    have HXY := Lib.hid (show ∀ b, OwnOf (.slice xa xl xc) b → ¬ OwnOf (.slice ya yl yc) b from fun b h1 h2 => y.d b (hk.2 b h1) (hv.2 b h2))
    have HT3 := Lib.hid (HT2.out.trans ht)
    have HTN := Lib.hid ht
    have hbx := (ht.same B (lt_heap HBX.out) fun c => c).trans HBX.out
    have HBX3 := Lib.hid hbx
    have b0 : w3.cell? ⟨B, 0, none⟩ = some (.int .i64 kd) := by simp [World.cell?, hbx]
    have b1 : w3.cell? ⟨B, 1, none⟩ = some (.slice ka kl kc) := by simp [World.cell?, hbx]
    have b2 : w3.cell? ⟨B, 2, none⟩ = some (.slice va vl vc) := by simp [World.cell?, hbx]
    have HK3 := Lib.hid (HKW.out.keepN ht)
    have HV3 := Lib.hid (HVW.out.keepN ht)
    have HN3 := Lib.hid y.t
    clear y hL hall hs hk hv hbx
    go_wp2_with fail
    refine (putR_bad (HST.out.lz.keepN HT3.out) key val _ _ HK3.out HV3.out (by have := HKL.out; omega) (by have := HVL.out; omega) HAL.out).mono ?_
    rintro e w4 ⟨ao4, cap4, Z4, rfl, hz4, hZ4, ht4⟩
    have HE : ∃ L4, L = L4 := ⟨_, rfl⟩
    obtain ⟨L4, eL4⟩ := HE
    rw [eL4] at hz4 ⊢
    have HL4 := Lib.hid eL4
    have HE : ∃ n4, L4.length = n4 := ⟨_, rfl⟩
    obtain ⟨n4, en4⟩ := HE
    rw [en4] at hz4 ⊢
    have HZ4 := Lib.hid hz4
    have HZZ := Lib.hid hZ4
    have HT4 := Lib.hid (HT3.out.trans ht4)
    have HT34 := Lib.hid ht4
    have HX4 := Lib.hid (HX.out.keep ht4 (fun _ _ c => c))
    have HY4 := Lib.hid (HY.out.keep ht4 (fun _ _ c => c))
    clear hz4 hZ4 ht4 en4 eL4 b0 b1 b2
    go_wp2_with fail
    refine (put_any (HST.out.tab.keepN HT4.out) key val _ _ HX4.out.bv HY4.out.bv (by have := HKL.out; omega) (by have := HVL.out; omega)).mono ?_
    rintro e w5 ⟨he, R5, n5, C5, T5, hT5, ht5, _, hR5, _, hin5, hno5⟩
    rw [HPE.out] at he
    subst he
    have HXR := Lib.hid (show ∀ b, R b → b < N from fun b hb => by have h1 := HST.out.tab.low b hb; have h2 := HNB.out; have h3 := HEB.out; omega)
    have HX5 := Lib.hid (HX4.out.keep ht5 fun k hk hr => by have h1 := (HX4.out.block k hk).1; have h2 := HXR.out k hr; omega)
    have HY5 := Lib.hid (HY4.out.keep ht5 fun k hk hr => by have h1 := (HY4.out.block k hk).1; have h2 := HXR.out k hr; omega)
    have HT5 := Lib.hid (show Touch (From B0) w w5 from HT4.out.of_nil.trans' ht5 fun b hb hr => HST.out.rb b hr)
    have HS5 := Lib.hid (show StR R5 Z4 B0 w5 (.pointer p) seed (.slice ao4 n4 cap4) n5 C5 T5 L4 from
      HST.out.next (w3 := w3) (w4 := w4) HBB.out HT3.out.size HT34.out.size HZ4.out HZZ.out hT5 ht5 hR5 (fun x => by obtain ⟨h1, h2, h3⟩ := hno5 (by rw [HPE.out]; decide); rw [h2, h3, ← HL4.out, HST.out.inn]) (by rw [← HL4.out]; exact HST.out.dist) (by rw [← HL4.out]; exact HST.out.okay))
    have HFX := Lib.hid (show ∀ b, (OwnOf (.slice xa xl xc) b ∨ OwnOf (.slice ya yl yc) b) → ¬ R5 b ∧ ¬ Z4 b from fun b hb => by
      have h1 : N ≤ b ∧ b < w3.heap.size := hb.elim (fun h => HX.out.block b h) (fun h => HY.out.block b h)
      have h2 := HNB.out
      have h3 := HEB.out
      refine ⟨fun hr => ?_, fun hz => ?_⟩
      · rcases hR5 b hr with c | c
        · have := HXR.out b c; omega
        · have := HT34.out.size; omega
      · rcases HZZ.out b hz with c | c
        · have := HST.out.lz.low b c; omega
        · omega)
    have HS8X := Lib.hid (HX5.out.s8 (Nat.le_refl _) (by have := HKL.out; omega))
    have HS8Y := Lib.hid (HY5.out.s8 (Nat.le_refl _) (by have := HVL.out; omega))
    clear hT5 ht5 hR5 hin5 hno5
    have HSP := Lib.hid (show Calls Try.prog 32 #[.slice xa xl xc, .int .u8 85] w5 _ from spoilS_any HS8X.out 85 (by decide))
    go_wp2_with fail
    refine HSP.out.mono ?_
    rintro e w6 ⟨rfl, hs6, ht6⟩
    have HSP2 := Lib.hid (show Calls Try.prog 32 #[.slice ya yl yc, .int .u8 170] w6 _ from spoilS_any (HS8Y.out.spl hs6) 170 (by decide))
    have HS6 := Lib.hid (HS5.out.keep ht6 fun b hb => HFX.out b (.inl hb))
    have HT6 := Lib.hid (show Touch (From B0) w w6 from HT5.out.trans' ht6 fun b hb hs => by have h1 := (HX.out.block b hs).1; have h2 := HNB.out; have h3 := HEB.out; omega)
    clear hs6 ht6 HSP
    go_wp2_with fail
    refine HSP2.out.mono ?_
    rintro e w7 ⟨rfl, hs7, ht7⟩
    have HS7 := Lib.hid (HS6.out.keep ht7 fun b hb => HFX.out b (.inr hb))
    have HT7 := Lib.hid (show Touch (From B0) w w7 from HT6.out.trans' ht7 fun b hb hs => by have h1 := (HY.out.block b hs).1; have h2 := HNB.out; have h3 := HEB.out; omega)
    clear hs7 ht7
    go_wp2_with fail
    go_ret2
    exact ⟨_, _, _, rfl, ⟨R5, Z4, n5, C5, T5, L4, HS7.out, by have h1 := HM.out; rw [← HL4.out]; omega⟩, HT7.out⟩
  · rintro J a W i o ho ⟨hs, ht, SA, SB, v12, v13, v32, v33, v34, v35, v36, v37, v38, v39, rfl, y⟩ hl hd K hK
    have hi : i < 10 := (Array.getElem?_eq_some_iff.1 ho).1
    have hbx := (ht.same B (lt_heap HBX.out) fun c => c).trans HBX.out
    have b1 : W.cell? ⟨B, 1, none⟩ = some (.slice ka kl kc) := by simp [World.cell?, hbx]
    have b2 : W.cell? ⟨B, 2, none⟩ = some (.slice va vl vc) := by simp [World.cell?, hbx]
    have hN := y.t
    rcases (by omega : i = 0 ∨ i = 1 ∨ i = 2 ∨ i = 3 ∨ i = 4 ∨ i = 5 ∨ i = 6 ∨ i = 7 ∨ i = 8 ∨ i = 9) with rfl | rfl | rfl | rfl | rfl | rfl | rfl | rfl | rfl | rfl
    · obtain rfl := Option.some.inj (show some _ = some o from ho)
      go_simp
      have ta := (Touch.refl Nil W).alloc (.cells #[] 5)
      refine hK _ _ ⟨by simpa using hs, ht.trans ta, (fun b => SA b ∨ b = W.heap.size), SB, _, _, _, _, _, _, _, _, _, _, rfl, { f0 := fun _ _ => ⟨(own_new W).base hN, fun b hb => .inr (by simpa [OwnOf, Value.ownBlock] using hb)⟩, f1 := fun h => y.f1 (stp h (by decide)), f2 := fun h => y.f2 (stp h (by decide)), f3 := fun h => by have k := y.f3 (stp h (by decide)); exact (k.keepN ta).wide (fun _ h => .inl h), f4 := fun h h7 => by have k := y.f4 (stp h (by decide)) (mon' h7); exact k.keepN ta, f5 := fun h => y.f5 (stp h (by decide)), f6 := fun h => y.f6 (stp h (by decide)), f7 := fun h => by have k := y.f7 (stp h (by decide)); exact k.keepN ta, f8 := fun h => ⟨(y.f8 (stp h (by decide))).1, mon (y.f8 (stp h (by decide))).2⟩, f9 := fun h => ⟨(y.f9 (stp h (by decide))).1, mon (y.f9 (stp h (by decide))).2⟩, t := by rw [nblk_alloc]; omega, sa := fun b h => by rw [nblk_alloc]; rcases h with h | h; (have := y.sa b h; omega); (subst h; omega), sb := fun b h => by rw [nblk_alloc]; have := y.sb b h; omega, d := fun b h hb => by rcases h with h | h; (exact y.d b h hb); (subst h; have := y.sb _ hb; omega) }⟩
    · obtain rfl := Option.some.inj (show some _ = some o from ho)
      go_simp
      refine hK _ _ ⟨by simpa using hs, ht, SA, SB, _, _, _, _, _, _, _, _, _, _, rfl, { f0 := fun h h3 => by have k := y.f0 (stp h (by decide)) (mon' h3); exact k, f1 := fun _ => rfl, f2 := fun h => y.f2 (stp h (by decide)), f3 := fun h => by have k := y.f3 (stp h (by decide)); exact k, f4 := fun h h7 => by have k := y.f4 (stp h (by decide)) (mon' h7); exact k, f5 := fun h => y.f5 (stp h (by decide)), f6 := fun h => y.f6 (stp h (by decide)), f7 := fun h => by have k := y.f7 (stp h (by decide)); exact k, f8 := fun h => ⟨(y.f8 (stp h (by decide))).1, mon (y.f8 (stp h (by decide))).2⟩, f9 := fun h => ⟨(y.f9 (stp h (by decide))).1, mon (y.f9 (stp h (by decide))).2⟩, t := hN, sa := y.sa, sb := y.sb, d := y.d }⟩
    · obtain rfl := Option.some.inj (show some _ = some o from ho)
      have e := (y.f1 (hd ⟨1, .data⟩ (by simp) rfl)).symm
      subst e
      go_simp
      refine hK _ _ ⟨by simpa using hs, ht, SA, SB, _, _, _, _, _, _, _, _, _, _, rfl, { f0 := fun h h3 => by have k := y.f0 (stp h (by decide)) (mon' h3); exact k, f1 := fun h => y.f1 (stp h (by decide)), f2 := fun _ => rfl, f3 := fun h => by have k := y.f3 (stp h (by decide)); exact k, f4 := fun h h7 => by have k := y.f4 (stp h (by decide)) (mon' h7); exact k, f5 := fun h => y.f5 (stp h (by decide)), f6 := fun h => y.f6 (stp h (by decide)), f7 := fun h => by have k := y.f7 (stp h (by decide)); exact k, f8 := fun h => ⟨(y.f8 (stp h (by decide))).1, mon (y.f8 (stp h (by decide))).2⟩, f9 := fun h => ⟨(y.f9 (stp h (by decide))).1, mon (y.f9 (stp h (by decide))).2⟩, t := hN, sa := y.sa, sb := y.sb, d := y.d }⟩
    · obtain rfl := Option.some.inj (show some _ = some o from ho)
      have e := (y.f2 (hd ⟨2, .data⟩ (by simp) rfl)).symm
      subst e
      have ho := y.f0 (hd ⟨0, .data⟩ (by simp) rfl) (fun h => ngd hl h)
      rw [if_pos (by simp [Region.wanted])]
      refine opIn_append_bytes (.tmp 32) (.tmp 34) rfl v32 (.slice ka kl kc) key rfl ho.1 rfl (HKW.out.keepN ht) (by have := HKL.out; omega) hN ?_
      intro v' W' h1 h2 h3
      have hx : ∀ b, SB b → ¬ OwnOf v32 b := fun b hb hs => y.d b (ho.2 b hs) hb
      have tn : Touch Nil w2 W' := ht.trans' h2 fun b hb hs => by have h4 := y.sa b (ho.2 b hs); have := HNN.out; omega
      go_simp
      refine hK _ _ ⟨by simpa using hs, tn, (fun b => SA b ∨ (W.heap.size ≤ b ∧ b < W'.heap.size)), SB, _, _, _, _, _, _, _, _, _, _, rfl, { f0 := fun h hn => absurd (set_of (i := 3) (by rw [hs]; decide)) hn, f1 := fun h => y.f1 (stp h (by decide)), f2 := fun h => y.f2 (stp h (by decide)), f3 := fun _ => ⟨h1, fun b hb => (h3 b hb).elim (fun h => .inl (ho.2 b h)) fun h => .inr ⟨h, (h1.block b hb).2⟩⟩, f4 := fun h h7 => by have k := y.f4 (stp h (by decide)) (mon' h7); exact k.keep h2 hx, f5 := fun h => y.f5 (stp h (by decide)), f6 := fun h => y.f6 (stp h (by decide)), f7 := fun h => by have k := y.f7 (stp h (by decide)); exact k.keep h2 hx, f8 := fun h => (ngd hl (y.f8 (stp h (by decide))).2).elim, f9 := fun h => ⟨(y.f9 (stp h (by decide))).1, mon (y.f9 (stp h (by decide))).2⟩, t := Nat.le_trans hN h2.size, sa := fun b h => by have := h2.size; rcases h with h | h; (have := y.sa b h; omega); omega, sb := fun b h => by have := h2.size; have := y.sb b h; omega, d := fun b h hb => by rcases h with h | h; (exact y.d b h hb); (have := y.sb b hb; omega) }⟩
    · obtain rfl := Option.some.inj (show some _ = some o from ho)
      go_simp
      have ta := (Touch.refl Nil W).alloc (.cells #[] 5)
      refine hK _ _ ⟨by simpa using hs, ht.trans ta, SA, (fun b => SB b ∨ b = W.heap.size), _, _, _, _, _, _, _, _, _, _, rfl, { f0 := fun h h3 => by have k := y.f0 (stp h (by decide)) (mon' h3); exact k.keepN ta, f1 := fun h => y.f1 (stp h (by decide)), f2 := fun h => y.f2 (stp h (by decide)), f3 := fun h => by have k := y.f3 (stp h (by decide)); exact k.keepN ta, f4 := fun _ _ => ⟨(own_new W).base hN, fun b hb => .inr (by simpa [OwnOf, Value.ownBlock] using hb)⟩, f5 := fun h => y.f5 (stp h (by decide)), f6 := fun h => y.f6 (stp h (by decide)), f7 := fun h => by have k := y.f7 (stp h (by decide)); exact (k.keepN ta).wide (fun _ h => .inl h), f8 := fun h => ⟨(y.f8 (stp h (by decide))).1, mon (y.f8 (stp h (by decide))).2⟩, f9 := fun h => ⟨(y.f9 (stp h (by decide))).1, mon (y.f9 (stp h (by decide))).2⟩, t := by rw [nblk_alloc]; omega, sa := fun b h => by rw [nblk_alloc]; have := y.sa b h; omega, sb := fun b h => by rw [nblk_alloc]; rcases h with h | h; (have := y.sb b h; omega); (subst h; omega), d := fun b h hb => by rcases hb with hb | hb; (exact y.d b h hb); (subst hb; have := y.sa _ h; omega) }⟩
    · obtain rfl := Option.some.inj (show some _ = some o from ho)
      go_simp
      refine hK _ _ ⟨by simpa using hs, ht, SA, SB, _, _, _, _, _, _, _, _, _, _, rfl, { f0 := fun h h3 => by have k := y.f0 (stp h (by decide)) (mon' h3); exact k, f1 := fun h => y.f1 (stp h (by decide)), f2 := fun h => y.f2 (stp h (by decide)), f3 := fun h => by have k := y.f3 (stp h (by decide)); exact k, f4 := fun h h7 => by have k := y.f4 (stp h (by decide)) (mon' h7); exact k, f5 := fun _ => rfl, f6 := fun h => y.f6 (stp h (by decide)), f7 := fun h => by have k := y.f7 (stp h (by decide)); exact k, f8 := fun h => ⟨(y.f8 (stp h (by decide))).1, mon (y.f8 (stp h (by decide))).2⟩, f9 := fun h => ⟨(y.f9 (stp h (by decide))).1, mon (y.f9 (stp h (by decide))).2⟩, t := hN, sa := y.sa, sb := y.sb, d := y.d }⟩
    · obtain rfl := Option.some.inj (show some _ = some o from ho)
      have e := (y.f5 (hd ⟨5, .data⟩ (by simp) rfl)).symm
      subst e
      go_simp
      refine hK _ _ ⟨by simpa using hs, ht, SA, SB, _, _, _, _, _, _, _, _, _, _, rfl, { f0 := fun h h3 => by have k := y.f0 (stp h (by decide)) (mon' h3); exact k, f1 := fun h => y.f1 (stp h (by decide)), f2 := fun h => y.f2 (stp h (by decide)), f3 := fun h => by have k := y.f3 (stp h (by decide)); exact k, f4 := fun h h7 => by have k := y.f4 (stp h (by decide)) (mon' h7); exact k, f5 := fun h => y.f5 (stp h (by decide)), f6 := fun _ => rfl, f7 := fun h => by have k := y.f7 (stp h (by decide)); exact k, f8 := fun h => ⟨(y.f8 (stp h (by decide))).1, mon (y.f8 (stp h (by decide))).2⟩, f9 := fun h => ⟨(y.f9 (stp h (by decide))).1, mon (y.f9 (stp h (by decide))).2⟩, t := hN, sa := y.sa, sb := y.sb, d := y.d }⟩
    · obtain rfl := Option.some.inj (show some _ = some o from ho)
      have e := (y.f6 (hd ⟨6, .data⟩ (by simp) rfl)).symm
      subst e
      have ho := y.f4 (hd ⟨4, .data⟩ (by simp) rfl) (fun h => ngd hl h)
      rw [if_pos (by simp [Region.wanted])]
      refine opIn_append_bytes (.tmp 36) (.tmp 38) rfl v36 (.slice va vl vc) val rfl ho.1 rfl (HVW.out.keepN ht) (by have := HVL.out; omega) hN ?_
      intro v' W' h1 h2 h3
      have hx : ∀ b, SA b → ¬ OwnOf v36 b := fun b hb hs => y.d b hb (ho.2 b hs)
      have tn : Touch Nil w2 W' := ht.trans' h2 fun b hb hs => by have h4 := y.sb b (ho.2 b hs); have := HNN.out; omega
      go_simp
      refine hK _ _ ⟨by simpa using hs, tn, SA, (fun b => SB b ∨ (W.heap.size ≤ b ∧ b < W'.heap.size)), _, _, _, _, _, _, _, _, _, _, rfl, { f0 := fun h h3 => by have k := y.f0 (stp h (by decide)) (mon' h3); exact k.keep h2 hx, f1 := fun h => y.f1 (stp h (by decide)), f2 := fun h => y.f2 (stp h (by decide)), f3 := fun h => by have k := y.f3 (stp h (by decide)); exact k.keep h2 hx, f4 := fun h hn => absurd (set_of (i := 7) (by rw [hs]; decide)) hn, f5 := fun h => y.f5 (stp h (by decide)), f6 := fun h => y.f6 (stp h (by decide)), f7 := fun _ => ⟨h1, fun b hb => (h3 b hb).elim (fun h => .inl (ho.2 b h)) fun h => .inr ⟨h, (h1.block b hb).2⟩⟩, f8 := fun h => ⟨(y.f8 (stp h (by decide))).1, mon (y.f8 (stp h (by decide))).2⟩, f9 := fun h => (ngd hl (y.f9 (stp h (by decide))).2).elim, t := Nat.le_trans hN h2.size, sa := fun b h => by have := h2.size; have := y.sa b h; omega, sb := fun b h => by have := h2.size; rcases h with h | h; (have := y.sb b h; omega); omega, d := fun b h hb => by rcases hb with hb | hb; (exact y.d b h hb); (have := y.sa b h; omega) }⟩
    · obtain rfl := Option.some.inj (show some _ = some o from ho)
      go_simp
      refine hK _ _ ⟨by simpa using hs, ht, SA, SB, _, _, _, _, _, _, _, _, _, _, rfl, { f0 := fun h h3 => by have k := y.f0 (stp h (by decide)) (mon' h3); exact k, f1 := fun h => y.f1 (stp h (by decide)), f2 := fun h => y.f2 (stp h (by decide)), f3 := fun h => by have k := y.f3 (stp h (by decide)); exact k, f4 := fun h h7 => by have k := y.f4 (stp h (by decide)) (mon' h7); exact k, f5 := fun h => y.f5 (stp h (by decide)), f6 := fun h => y.f6 (stp h (by decide)), f7 := fun h => by have k := y.f7 (stp h (by decide)); exact k, f8 := fun _ => ⟨rfl, mon (hd ⟨3, .data⟩ (by simp) rfl)⟩, f9 := fun h => ⟨(y.f9 (stp h (by decide))).1, mon (y.f9 (stp h (by decide))).2⟩, t := hN, sa := y.sa, sb := y.sb, d := y.d }⟩
    · obtain rfl := Option.some.inj (show some _ = some o from ho)
      go_simp
      refine hK _ _ ⟨by simpa using hs, ht, SA, SB, _, _, _, _, _, _, _, _, _, _, rfl, { f0 := fun h h3 => by have k := y.f0 (stp h (by decide)) (mon' h3); exact k, f1 := fun h => y.f1 (stp h (by decide)), f2 := fun h => y.f2 (stp h (by decide)), f3 := fun h => by have k := y.f3 (stp h (by decide)); exact k, f4 := fun h h7 => by have k := y.f4 (stp h (by decide)) (mon' h7); exact k, f5 := fun h => y.f5 (stp h (by decide)), f6 := fun h => y.f6 (stp h (by decide)), f7 := fun h => by have k := y.f7 (stp h (by decide)); exact k, f8 := fun h => ⟨(y.f8 (stp h (by decide))).1, mon (y.f8 (stp h (by decide))).2⟩, f9 := fun _ => ⟨rfl, mon (hd ⟨7, .data⟩ (by simp) rfl)⟩, t := hN, sa := y.sa, sb := y.sb, d := y.d }⟩

end Go.Proofs.Ytabjpejgnfeegaa
