import Derived.Test.YtabjpejgnfeegaaPlayD
/- SlotsPlays: what the law does in a round. -/
namespace Go.Proofs.Ytabjpejgnfeegaa
open Go.ChangeShapes Go.WideShapes Go.ChangeAt Go.RowKit Go.Deep
attribute [local go_sem] Oper.semAt_some

set_option maxRecDepth 100000 in
set_option maxHeartbeats 8000000 in
theorem does5 {R Z : Nat → Prop} {B0 m : Nat} {n C : Nat} {T : Cells} {L : KVs} {w : World} {p : Option Addr} {seed : Int} {la : Option Addr} {ln lc : Nat} {kd : Int} {ka va : Option Addr} {kl kc vl vc : Nat} {key val : Key} (hk : BV w (.slice ka kl kc) key) (hv : BV w (.slice va vl vc) val) (hkl : key.length ≤ 1200) (hvl : val.length ≤ 1200) (h : StR R Z B0 w (.pointer p) seed (.slice la ln lc) n C T L) (hB : B0 ≤ w.heap.size) (hm : L.length + 1 ≤ m) (hm2 : m ≤ 1000) (hkd : kd.tmod 8 = 5) :
    Calls Try.prog 33 #[.pointer p, .int .u64 seed, .slice la ln lc, .agg #[.int .i64 kd, .slice ka kl kc, .slice va vl vc], .bool true] w (DoesP B0 m (.pointer p) seed w) := by
  have HST := Lib.hid h
  have HBB := Lib.hid hB
  have HM := Lib.hid hm
  have HM2 := Lib.hid hm2
  obtain ⟨en, eC, hTT⟩ := list_good h.tab.good h.inn h.dist (by omega)
  have HIQ := Lib.hid (show ∀ ord, Ordr (fun i j => bfS seed (atL L i).1 (atL L j).1) L.length ord → imageB n C T = imageB L.length (cellsN L.length) (refT seed (cellsN L.length) L.length ord (atL L)) from fun ord ho => by
    have := hTT ord ho
    rw [en, eC]
    exact imageB_congr fun c hc => this c (by rw [eC]; exact hc))
  have HIR := Lib.hid (show ∀ w', Touch Nil w w' → Calls Try.prog 62 #[.int .u64 seed, .slice la ln lc] w' (RImgPost seed (cellsN L.length) L.length (atL L) w') from fun w' ht => by
    obtain ⟨ao, cap, v, e, hrl⟩ := h.lz.pz.toRl
    cases e
    exact imageR_any seed lc (hrl.keepN ht) (by omega) fun i hi => h.okay _ (atL_mem hi))
  have HIL := Lib.hid (tab_img h.tab).2.2.1
  clear hTT en eC
  clear h hB hm hm2
  have HK := Lib.hid hk
  have HV := Lib.hid hv
  have HKL := Lib.hid hkl
  have HVL := Lib.hid hvl
  clear hk hv hkl hvl
  go_enter Try.func33, Try.ntmps33
  go_wp2_with fail
  have hbx := heap_alloc_new w (.cells #[.int .i64 kd, .slice ka kl kc, .slice va vl vc] 48)
  have HT2 := Lib.hid ((Touch.refl Nil w).alloc (.cells #[.int .i64 kd, .slice ka kl kc, .slice va vl vc] 48))
  have HE : ∃ B, w.heap.size = B := ⟨_, rfl⟩
  obtain ⟨B, eB⟩ := HE
  rw [eB] at hbx ⊢
  have HEB := Lib.hid eB
  have HE : ∃ w2, w.alloc (.cells #[.int .i64 kd, .slice ka kl kc, .slice va vl vc] 48) = w2 := ⟨_, rfl⟩
  obtain ⟨w2, ew2⟩ := HE
  rw [ew2] at hbx HT2 ⊢
  have HE : ∃ N, w2.heap.size = N := ⟨_, rfl⟩
  obtain ⟨N, eN⟩ := HE
  have HNN := Lib.hid eN
  have HBX := Lib.hid hbx
  have HKW := Lib.hid (HK.out.keepN HT2.out)
  have HVW := Lib.hid (HV.out.keepN HT2.out)
  have HNB := Lib.hid (show N = B + 1 from by rw [← eN, ← ew2, nblk_alloc, eB])
  clear hbx ew2 eN eB
  refine (wpIn_wide (n := 7)).1 (region_inv (by kernel_rfl) (by kernel_rfl) (fun J a W => J.size = 10 ∧ Touch Nil w2 W ∧ ∃ SA SB v12 v13 v32 v33 v34 v35 v36 v37 v38 v39, a = { tmps := #[.pointer p, .int .u64 seed, .slice la ln lc, .agg #[.int .i64 kd, .slice ka kl kc, .slice va vl vc], .bool true, undef, undef, undef, .pointer (some ⟨B, 0, none⟩), undef, .slice none 0 0, .bool false, v12, v13, undef, undef, undef, undef, undef, undef, undef, undef, undef, undef, undef, undef, undef, undef, undef, undef, undef, undef, v32, v33, v34, v35, v36, v37, v38, v39, undef, undef, undef, undef, undef, undef, undef, undef, undef, undef, undef, undef, undef, undef, undef, undef, undef, undef, undef, undef, undef, undef, undef, undef, undef, undef, undef, undef, undef, undef, undef, undef, undef, undef, undef, undef, undef, undef, undef, undef, undef, undef, undef, undef, undef, undef, undef, undef, undef, undef, undef, undef, undef, undef, undef, undef, undef, undef, undef, undef, undef, undef, undef, undef, undef, undef, undef, undef, undef, undef, undef, undef, undef, undef, undef, undef, undef, undef, undef, undef, undef, undef, undef, undef, undef, undef, undef, undef, undef, undef, undef, undef, undef, undef, undef, undef, undef, undef, undef, undef, undef, undef, undef, undef, undef, undef, undef, undef, undef, undef, undef, undef, undef, undef, undef, undef, undef, undef, undef, undef, undef, undef, undef, undef, undef, undef, undef, undef, undef, undef, undef, undef, undef, undef, undef, undef, undef, undef, undef, undef, undef, undef, undef, undef, undef, undef, undef, undef, undef, undef, undef, undef, undef, undef, undef, undef, undef, undef], defers := [] } ∧ D1 N B key val (.slice ka kl kc) (.slice va vl vc) J W SA SB v12 v13 v32 v33 v34 v35 v36 v37 v38 v39) ?_ ?_ ?_)
  · exact ⟨rfl, (Touch.refl Nil w2).drew, fun _ => False, fun _ => False, undef, undef, undef, undef, undef, undef, undef, undef, undef, undef, rfl, { f0 := fun h _ => absurd h (by decide), f1 := fun h => absurd h (by decide), f2 := fun h => absurd h (by decide), f3 := fun h => absurd h (by decide), f4 := fun h _ => absurd h (by decide), f5 := fun h => absurd h (by decide), f6 := fun h => absurd h (by decide), f7 := fun h => absurd h (by decide), f8 := fun h => absurd h (by decide), f9 := fun h => absurd h (by decide), t := Nat.le_of_eq HNN.out.symm, sa := fun b h => h.elim, sb := fun b h => h.elim, d := fun b h => h.elim }⟩
  · rintro J a w3 ⟨hs, ht, SA, SB, v12, v13, v32, v33, v34, v35, v36, v37, v38, v39, rfl, y⟩ hall
    have hL := allL hs hall
    have hk := y.f3 (hL 3 (by decide))
    have hv := y.f7 (hL 7 (by decide))
    have e1 := (y.f8 (hL 8 (by decide))).1
    have e2 := (y.f9 (hL 9 (by decide))).1
    subst e1 e2
    obtain ⟨xa, xl, xc, rfl⟩ := hk.1.form
    obtain ⟨ya, yl, yc, rfl⟩ := hv.1.form
    have HX := Lib.hid hk.1
    have HY := Lib.hid hv.1
    have HXY := Lib.hid (show ∀ b, OwnOf (.slice xa xl xc) b → ¬ OwnOf (.slice ya yl yc) b from fun b h1 h2 => y.d b (hk.2 b h1) (hv.2 b h2))
    have HT3 := Lib.hid (HT2.out.trans ht)
    have HTN := Lib.hid ht
    have hbx := (ht.same B (lt_heap HBX.out) fun c => c).trans HBX.out
    have HBX3 := Lib.hid hbx
    have b0 : w3.cell? ⟨B, 0, none⟩ = some (.int .i64 kd) := by simp [World.cell?, hbx]
    have b1 : w3.cell? ⟨B, 1, none⟩ = some (.slice ka kl kc) := by simp [World.cell?, hbx]
    have b2 : w3.cell? ⟨B, 2, none⟩ = some (.slice va vl vc) := by simp [World.cell?, hbx]
    have HK3 := Lib.hid (HKW.out.keepN ht)
    have HV3 := Lib.hid (HVW.out.keepN ht)
    have HN3 := Lib.hid y.t
    clear y hL hall hs hk hv hbx
    go_wp2_with fail
    refine (HIR.out _ (HT3.out.alloc (.cells #[] 5))).mono ?_
    rintro e w4 ⟨u4, ord, rfl, hord, ho4, ht4⟩
    obtain ⟨p4, n4, q4, rfl⟩ := ho4.form
    have HO4 := Lib.hid ho4
    have HT4 := Lib.hid ((HT3.out.alloc (.cells #[] 5)).trans ht4)
    have HEQ := Lib.hid (HIQ.out ord hord)
    clear ho4 ht4 hord b0 b1 b2
    go_wp2_with fail
    refine (image_any (HST.out.tab.keepN HT4.out)).mono ?_
    rintro e w5 ⟨v5, rfl, ho5, ht5⟩
    obtain ⟨p5, n5, q5, rfl⟩ := ho5.form
    have HO5 := Lib.hid ho5
    have HT5 := Lib.hid (HT4.out.trans ht5)
    have HSM := Lib.hid (sameB_true ho5.bv (show BV w5 (.slice p4 n4 q4) (imageB n C T) from by rw [HEQ.out]; exact HO4.out.bv.keepN ht5) HIL.out)
    have HS8 := Lib.hid (ho5.s8 (Nat.le_refl _) (by have := HIL.out; omega))
    clear ho5
    go_wp2_with fail
    refine HSM.out.mono ?_
    rintro e w6 ⟨rfl, ht6⟩
    have HT6 := Lib.hid (HT5.out.trans ht6)
    have HSP := Lib.hid (show Calls Try.prog 32 #[.slice p5 n5 q5, .int .u8 15] w6 _ from spoilS_any (HS8.out.spl (Spl.of_nil (lo := 0) ht6)) 15 (by decide))
    clear ht5 ht6 HSM
    go_wp2_with fail
    refine HSP.out.mono ?_
    rintro e w7 ⟨rfl, hs7, ht7⟩
    have HFR := Lib.hid (show ∀ b, OwnOf (.slice p5 n5 q5) b → w.heap.size ≤ b from fun b hb => Nat.le_trans HT4.out.size (HO5.out.block b hb).1)
    have HS7 := Lib.hid ((HST.out.keepN HT6.out).keep ht7 fun b hb => HST.out.far (HFR.out b hb))
    have HT7 := Lib.hid (show Touch (From B0) w w7 from HT6.out.of_nil.trans' ht7 fun b hb hs => Nat.le_trans HBB.out (HFR.out b hs))
    clear hs7 ht7
    go_wp2_with fail
    go_ret2
    exact ⟨_, _, _, rfl, ⟨R, Z, n, C, T, L, HS7.out, by have h1 := HM.out; omega⟩, HT7.out⟩
  · rintro J a W i o ho ⟨hs, ht, SA, SB, v12, v13, v32, v33, v34, v35, v36, v37, v38, v39, rfl, y⟩ hl hd K hK
    have hi : i < 10 := (Array.getElem?_eq_some_iff.1 ho).1
    have hbx := (ht.same B (lt_heap HBX.out) fun c => c).trans HBX.out
    have b1 : W.cell? ⟨B, 1, none⟩ = some (.slice ka kl kc) := by simp [World.cell?, hbx]
    have b2 : W.cell? ⟨B, 2, none⟩ = some (.slice va vl vc) := by simp [World.cell?, hbx]
    have hN := y.t
    rcases (by omega : i = 0 ∨ i = 1 ∨ i = 2 ∨ i = 3 ∨ i = 4 ∨ i = 5 ∨ i = 6 ∨ i = 7 ∨ i = 8 ∨ i = 9) with rfl | rfl | rfl | rfl | rfl | rfl | rfl | rfl | rfl | rfl
    · obtain rfl := Option.some.inj (show some _ = some o from ho)
      go_simp
      have ta := (Touch.refl Nil W).alloc (.cells #[] 5)
      refine hK _ _ ⟨by simpa using hs, ht.trans ta, (fun b => SA b ∨ b = W.heap.size), SB, _, _, _, _, _, _, _, _, _, _, rfl, { f0 := fun _ _ => ⟨(own_new W).base hN, fun b hb => .inr (by simpa [OwnOf, Value.ownBlock] using hb)⟩, f1 := fun h => y.f1 (stp h (by decide)), f2 := fun h => y.f2 (stp h (by decide)), f3 := fun h => by have k := y.f3 (stp h (by decide)); exact (k.keepN ta).wide (fun _ h => .inl h), f4 := fun h h7 => by have k := y.f4 (stp h (by decide)) (mon' h7); exact k.keepN ta, f5 := fun h => y.f5 (stp h (by decide)), f6 := fun h => y.f6 (stp h (by decide)), f7 := fun h => by have k := y.f7 (stp h (by decide)); exact k.keepN ta, f8 := fun h => ⟨(y.f8 (stp h (by decide))).1, mon (y.f8 (stp h (by decide))).2⟩, f9 := fun h => ⟨(y.f9 (stp h (by decide))).1, mon (y.f9 (stp h (by decide))).2⟩, t := by rw [nblk_alloc]; omega, sa := fun b h => by rw [nblk_alloc]; rcases h with h | h; (have := y.sa b h; omega); (subst h; omega), sb := fun b h => by rw [nblk_alloc]; have := y.sb b h; omega, d := fun b h hb => by rcases h with h | h; (exact y.d b h hb); (subst h; have := y.sb _ hb; omega) }⟩
    · obtain rfl := Option.some.inj (show some _ = some o from ho)
      go_simp
      refine hK _ _ ⟨by simpa using hs, ht, SA, SB, _, _, _, _, _, _, _, _, _, _, rfl, { f0 := fun h h3 => by have k := y.f0 (stp h (by decide)) (mon' h3); exact k, f1 := fun _ => rfl, f2 := fun h => y.f2 (stp h (by decide)), f3 := fun h => by have k := y.f3 (stp h (by decide)); exact k, f4 := fun h h7 => by have k := y.f4 (stp h (by decide)) (mon' h7); exact k, f5 := fun h => y.f5 (stp h (by decide)), f6 := fun h => y.f6 (stp h (by decide)), f7 := fun h => by have k := y.f7 (stp h (by decide)); exact k, f8 := fun h => ⟨(y.f8 (stp h (by decide))).1, mon (y.f8 (stp h (by decide))).2⟩, f9 := fun h => ⟨(y.f9 (stp h (by decide))).1, mon (y.f9 (stp h (by decide))).2⟩, t := hN, sa := y.sa, sb := y.sb, d := y.d }⟩
    · obtain rfl := Option.some.inj (show some _ = some o from ho)
      have e := (y.f1 (hd ⟨1, .data⟩ (by simp) rfl)).symm
      subst e
      go_simp
      refine hK _ _ ⟨by simpa using hs, ht, SA, SB, _, _, _, _, _, _, _, _, _, _, rfl, { f0 := fun h h3 => by have k := y.f0 (stp h (by decide)) (mon' h3); exact k, f1 := fun h => y.f1 (stp h (by decide)), f2 := fun _ => rfl, f3 := fun h => by have k := y.f3 (stp h (by decide)); exact k, f4 := fun h h7 => by have k := y.f4 (stp h (by decide)) (mon' h7); exact k, f5 := fun h => y.f5 (stp h (by decide)), f6 := fun h => y.f6 (stp h (by decide)), f7 := fun h => by have k := y.f7 (stp h (by decide)); exact k, f8 := fun h => ⟨(y.f8 (stp h (by decide))).1, mon (y.f8 (stp h (by decide))).2⟩, f9 := fun h => ⟨(y.f9 (stp h (by decide))).1, mon (y.f9 (stp h (by decide))).2⟩, t := hN, sa := y.sa, sb := y.sb, d := y.d }⟩
    · obtain rfl := Option.some.inj (show some _ = some o from ho)
      have e := (y.f2 (hd ⟨2, .data⟩ (by simp) rfl)).symm
      subst e
      have ho := y.f0 (hd ⟨0, .data⟩ (by simp) rfl) (fun h => ngd hl h)
      rw [if_pos (by simp [Region.wanted])]
      refine opIn_append_bytes (.tmp 32) (.tmp 34) rfl v32 (.slice ka kl kc) key rfl ho.1 rfl (HKW.out.keepN ht) (by have := HKL.out; omega) hN ?_
      intro v' W' h1 h2 h3
      have hx : ∀ b, SB b → ¬ OwnOf v32 b := fun b hb hs => y.d b (ho.2 b hs) hb
      have tn : Touch Nil w2 W' := ht.trans' h2 fun b hb hs => by have h4 := y.sa b (ho.2 b hs); have := HNN.out; omega
      go_simp
      refine hK _ _ ⟨by simpa using hs, tn, (fun b => SA b ∨ (W.heap.size ≤ b ∧ b < W'.heap.size)), SB, _, _, _, _, _, _, _, _, _, _, rfl, { f0 := fun h hn => absurd (set_of (i := 3) (by rw [hs]; decide)) hn, f1 := fun h => y.f1 (stp h (by decide)), f2 := fun h => y.f2 (stp h (by decide)), f3 := fun _ => ⟨h1, fun b hb => (h3 b hb).elim (fun h => .inl (ho.2 b h)) fun h => .inr ⟨h, (h1.block b hb).2⟩⟩, f4 := fun h h7 => by have k := y.f4 (stp h (by decide)) (mon' h7); exact k.keep h2 hx, f5 := fun h => y.f5 (stp h (by decide)), f6 := fun h => y.f6 (stp h (by decide)), f7 := fun h => by have k := y.f7 (stp h (by decide)); exact k.keep h2 hx, f8 := fun h => (ngd hl (y.f8 (stp h (by decide))).2).elim, f9 := fun h => ⟨(y.f9 (stp h (by decide))).1, mon (y.f9 (stp h (by decide))).2⟩, t := Nat.le_trans hN h2.size, sa := fun b h => by have := h2.size; rcases h with h | h; (have := y.sa b h; omega); omega, sb := fun b h => by have := h2.size; have := y.sb b h; omega, d := fun b h hb => by rcases h with h | h; (exact y.d b h hb); (have := y.sb b hb; omega) }⟩
    · obtain rfl := Option.some.inj (show some _ = some o from ho)
      go_simp
      have ta := (Touch.refl Nil W).alloc (.cells #[] 5)
      refine hK _ _ ⟨by simpa using hs, ht.trans ta, SA, (fun b => SB b ∨ b = W.heap.size), _, _, _, _, _, _, _, _, _, _, rfl, { f0 := fun h h3 => by have k := y.f0 (stp h (by decide)) (mon' h3); exact k.keepN ta, f1 := fun h => y.f1 (stp h (by decide)), f2 := fun h => y.f2 (stp h (by decide)), f3 := fun h => by have k := y.f3 (stp h (by decide)); exact k.keepN ta, f4 := fun _ _ => ⟨(own_new W).base hN, fun b hb => .inr (by simpa [OwnOf, Value.ownBlock] using hb)⟩, f5 := fun h => y.f5 (stp h (by decide)), f6 := fun h => y.f6 (stp h (by decide)), f7 := fun h => by have k := y.f7 (stp h (by decide)); exact (k.keepN ta).wide (fun _ h => .inl h), f8 := fun h => ⟨(y.f8 (stp h (by decide))).1, mon (y.f8 (stp h (by decide))).2⟩, f9 := fun h => ⟨(y.f9 (stp h (by decide))).1, mon (y.f9 (stp h (by decide))).2⟩, t := by rw [nblk_alloc]; omega, sa := fun b h => by rw [nblk_alloc]; have := y.sa b h; omega, sb := fun b h => by rw [nblk_alloc]; rcases h with h | h; (have := y.sb b h; omega); (subst h; omega), d := fun b h hb => by rcases hb with hb | hb; (exact y.d b h hb); (subst hb; have := y.sa _ h; omega) }⟩
    · obtain rfl := Option.some.inj (show some _ = some o from ho)
      go_simp
      refine hK _ _ ⟨by simpa using hs, ht, SA, SB, _, _, _, _, _, _, _, _, _, _, rfl, { f0 := fun h h3 => by have k := y.f0 (stp h (by decide)) (mon' h3); exact k, f1 := fun h => y.f1 (stp h (by decide)), f2 := fun h => y.f2 (stp h (by decide)), f3 := fun h => by have k := y.f3 (stp h (by decide)); exact k, f4 := fun h h7 => by have k := y.f4 (stp h (by decide)) (mon' h7); exact k, f5 := fun _ => rfl, f6 := fun h => y.f6 (stp h (by decide)), f7 := fun h => by have k := y.f7 (stp h (by decide)); exact k, f8 := fun h => ⟨(y.f8 (stp h (by decide))).1, mon (y.f8 (stp h (by decide))).2⟩, f9 := fun h => ⟨(y.f9 (stp h (by decide))).1, mon (y.f9 (stp h (by decide))).2⟩, t := hN, sa := y.sa, sb := y.sb, d := y.d }⟩
    · obtain rfl := Option.some.inj (show some _ = some o from ho)
      have e := (y.f5 (hd ⟨5, .data⟩ (by simp) rfl)).symm
      subst e
      go_simp
      refine hK _ _ ⟨by simpa using hs, ht, SA, SB, _, _, _, _, _, _, _, _, _, _, rfl, { f0 := fun h h3 => by have k := y.f0 (stp h (by decide)) (mon' h3); exact k, f1 := fun h => y.f1 (stp h (by decide)), f2 := fun h => y.f2 (stp h (by decide)), f3 := fun h => by have k := y.f3 (stp h (by decide)); exact k, f4 := fun h h7 => by have k := y.f4 (stp h (by decide)) (mon' h7); exact k, f5 := fun h => y.f5 (stp h (by decide)), f6 := fun _ => rfl, f7 := fun h => by have k := y.f7 (stp h (by decide)); exact k, f8 := fun h => ⟨(y.f8 (stp h (by decide))).1, mon (y.f8 (stp h (by decide))).2⟩, f9 := fun h => ⟨(y.f9 (stp h (by decide))).1, mon (y.f9 (stp h (by decide))).2⟩, t := hN, sa := y.sa, sb := y.sb, d := y.d }⟩
    · obtain rfl := Option.some.inj (show some _ = some o from ho)
      have e := (y.f6 (hd ⟨6, .data⟩ (by simp) rfl)).symm
      subst e
      have ho := y.f4 (hd ⟨4, .data⟩ (by simp) rfl) (fun h => ngd hl h)
      rw [if_pos (by simp [Region.wanted])]
      refine opIn_append_bytes (.tmp 36) (.tmp 38) rfl v36 (.slice va vl vc) val rfl ho.1 rfl (HVW.out.keepN ht) (by have := HVL.out; omega) hN ?_
      intro v' W' h1 h2 h3
      have hx : ∀ b, SA b → ¬ OwnOf v36 b := fun b hb hs => y.d b hb (ho.2 b hs)
      have tn : Touch Nil w2 W' := ht.trans' h2 fun b hb hs => by have h4 := y.sb b (ho.2 b hs); have := HNN.out; omega
      go_simp
      refine hK _ _ ⟨by simpa using hs, tn, SA, (fun b => SB b ∨ (W.heap.size ≤ b ∧ b < W'.heap.size)), _, _, _, _, _, _, _, _, _, _, rfl, { f0 := fun h h3 => by have k := y.f0 (stp h (by decide)) (mon' h3); exact k.keep h2 hx, f1 := fun h => y.f1 (stp h (by decide)), f2 := fun h => y.f2 (stp h (by decide)), f3 := fun h => by have k := y.f3 (stp h (by decide)); exact k.keep h2 hx, f4 := fun h hn => absurd (set_of (i := 7) (by rw [hs]; decide)) hn, f5 := fun h => y.f5 (stp h (by decide)), f6 := fun h => y.f6 (stp h (by decide)), f7 := fun _ => ⟨h1, fun b hb => (h3 b hb).elim (fun h => .inl (ho.2 b h)) fun h => .inr ⟨h, (h1.block b hb).2⟩⟩, f8 := fun h => ⟨(y.f8 (stp h (by decide))).1, mon (y.f8 (stp h (by decide))).2⟩, f9 := fun h => (ngd hl (y.f9 (stp h (by decide))).2).elim, t := Nat.le_trans hN h2.size, sa := fun b h => by have := h2.size; have := y.sa b h; omega, sb := fun b h => by have := h2.size; rcases h with h | h; (have := y.sb b h; omega); omega, d := fun b h hb => by rcases hb with hb | hb; (exact y.d b h hb); (have := y.sa b h; omega) }⟩
    · obtain rfl := Option.some.inj (show some _ = some o from ho)
      go_simp
      refine hK _ _ ⟨by simpa using hs, ht, SA, SB, _, _, _, _, _, _, _, _, _, _, rfl, { f0 := fun h h3 => by have k := y.f0 (stp h (by decide)) (mon' h3); exact k, f1 := fun h => y.f1 (stp h (by decide)), f2 := fun h => y.f2 (stp h (by decide)), f3 := fun h => by have k := y.f3 (stp h (by decide)); exact k, f4 := fun h h7 => by have k := y.f4 (stp h (by decide)) (mon' h7); exact k, f5 := fun h => y.f5 (stp h (by decide)), f6 := fun h => y.f6 (stp h (by decide)), f7 := fun h => by have k := y.f7 (stp h (by decide)); exact k, f8 := fun _ => ⟨rfl, mon (hd ⟨3, .data⟩ (by simp) rfl)⟩, f9 := fun h => ⟨(y.f9 (stp h (by decide))).1, mon (y.f9 (stp h (by decide))).2⟩, t := hN, sa := y.sa, sb := y.sb, d := y.d }⟩
    · obtain rfl := Option.some.inj (show some _ = some o from ho)
      go_simp
      refine hK _ _ ⟨by simpa using hs, ht, SA, SB, _, _, _, _, _, _, _, _, _, _, rfl, { f0 := fun h h3 => by have k := y.f0 (stp h (by decide)) (mon' h3); exact k, f1 := fun h => y.f1 (stp h (by decide)), f2 := fun h => y.f2 (stp h (by decide)), f3 := fun h => by have k := y.f3 (stp h (by decide)); exact k, f4 := fun h h7 => by have k := y.f4 (stp h (by decide)) (mon' h7); exact k, f5 := fun h => y.f5 (stp h (by decide)), f6 := fun h => y.f6 (stp h (by decide)), f7 := fun h => by have k := y.f7 (stp h (by decide)); exact k, f8 := fun h => ⟨(y.f8 (stp h (by decide))).1, mon (y.f8 (stp h (by decide))).2⟩, f9 := fun _ => ⟨rfl, mon (hd ⟨7, .data⟩ (by simp) rfl)⟩, t := hN, sa := y.sa, sb := y.sb, d := y.d }⟩

set_option maxRecDepth 100000 in
set_option maxHeartbeats 8000000 in
theorem does6 {R Z : Nat → Prop} {B0 m : Nat} {n C : Nat} {T : Cells} {L : KVs} {w : World} {p : Option Addr} {seed : Int} {la : Option Addr} {ln lc : Nat} {kd : Int} {ka va : Option Addr} {kl kc vl vc : Nat} {key val : Key} (hk : BV w (.slice ka kl kc) key) (hv : BV w (.slice va vl vc) val) (hkl : key.length ≤ 1200) (hvl : val.length ≤ 1200) (h : StR R Z B0 w (.pointer p) seed (.slice la ln lc) n C T L) (hB : B0 ≤ w.heap.size) (hm : L.length + 1 ≤ m) (hm2 : m ≤ 1000) (hkd : kd.tmod 8 = 6) :
    Calls Try.prog 33 #[.pointer p, .int .u64 seed, .slice la ln lc, .agg #[.int .i64 kd, .slice ka kl kc, .slice va vl vc], .bool true] w (DoesP B0 m (.pointer p) seed w) := by
  have HST := Lib.hid h
  have HBB := Lib.hid hB
  have HM := Lib.hid hm
  have HM2 := Lib.hid hm2
  clear h hB hm hm2
  have HK := Lib.hid hk
  have HV := Lib.hid hv
  have HKL := Lib.hid hkl
  have HVL := Lib.hid hvl
  clear hk hv hkl hvl
  go_enter Try.func33, Try.ntmps33
  go_wp2_with fail
  have hbx := heap_alloc_new w (.cells #[.int .i64 kd, .slice ka kl kc, .slice va vl vc] 48)
  have HT2 := Lib.hid ((Touch.refl Nil w).alloc (.cells #[.int .i64 kd, .slice ka kl kc, .slice va vl vc] 48))
  have HE : ∃ B, w.heap.size = B := ⟨_, rfl⟩
  obtain ⟨B, eB⟩ := HE
  rw [eB] at hbx ⊢
  have HEB := Lib.hid eB
  have HE : ∃ w2, w.alloc (.cells #[.int .i64 kd, .slice ka kl kc, .slice va vl vc] 48) = w2 := ⟨_, rfl⟩
  obtain ⟨w2, ew2⟩ := HE
  rw [ew2] at hbx HT2 ⊢
  have HE : ∃ N, w2.heap.size = N := ⟨_, rfl⟩
  obtain ⟨N, eN⟩ := HE
  have HNN := Lib.hid eN
  have HBX := Lib.hid hbx
  have HKW := Lib.hid (HK.out.keepN HT2.out)
  have HVW := Lib.hid (HV.out.keepN HT2.out)
  have HNB := Lib.hid (show N = B + 1 from by rw [← eN, ← ew2, nblk_alloc, eB])
  clear hbx ew2 eN eB
  refine (wpIn_wide (n := 7)).1 (region_inv (by kernel_rfl) (by kernel_rfl) (fun J a W => J.size = 10 ∧ Touch Nil w2 W ∧ ∃ SA SB v12 v13 v32 v33 v34 v35 v36 v37 v38 v39, a = { tmps := #[.pointer p, .int .u64 seed, .slice la ln lc, .agg #[.int .i64 kd, .slice ka kl kc, .slice va vl vc], .bool true, undef, undef, undef, .pointer (some ⟨B, 0, none⟩), undef, .slice none 0 0, .bool false, v12, v13, undef, undef, undef, undef, undef, undef, undef, undef, undef, undef, undef, undef, undef, undef, undef, undef, undef, undef, v32, v33, v34, v35, v36, v37, v38, v39, undef, undef, undef, undef, undef, undef, undef, undef, undef, undef, undef, undef, undef, undef, undef, undef, undef, undef, undef, undef, undef, undef, undef, undef, undef, undef, undef, undef, undef, undef, undef, undef, undef, undef, undef, undef, undef, undef, undef, undef, undef, undef, undef, undef, undef, undef, undef, undef, undef, undef, undef, undef, undef, undef, undef, undef, undef, undef, undef, undef, undef, undef, undef, undef, undef, undef, undef, undef, undef, undef, undef, undef, undef, undef, undef, undef, undef, undef, undef, undef, undef, undef, undef, undef, undef, undef, undef, undef, undef, undef, undef, undef, undef, undef, undef, undef, undef, undef, undef, undef, undef, undef, undef, undef, undef, undef, undef, undef, undef, undef, undef, undef, undef, undef, undef, undef, undef, undef, undef, undef, undef, undef, undef, undef, undef, undef, undef, undef, undef, undef, undef, undef, undef, undef, undef, undef, undef, undef, undef, undef, undef, undef, undef, undef, undef, undef, undef, undef, undef, undef, undef, undef, undef, undef, undef, undef, undef, undef], defers := [] } ∧ D1 N B key val (.slice ka kl kc) (.slice va vl vc) J W SA SB v12 v13 v32 v33 v34 v35 v36 v37 v38 v39) ?_ ?_ ?_)
  · exact ⟨rfl, (Touch.refl Nil w2).drew, fun _ => False, fun _ => False, undef, undef, undef, undef, undef, undef, undef, undef, undef, undef, rfl, { f0 := fun h _ => absurd h (by decide), f1 := fun h => absurd h (by decide), f2 := fun h => absurd h (by decide), f3 := fun h => absurd h (by decide), f4 := fun h _ => absurd h (by decide), f5 := fun h => absurd h (by decide), f6 := fun h => absurd h (by decide), f7 := fun h => absurd h (by decide), f8 := fun h => absurd h (by decide), f9 := fun h => absurd h (by decide), t := Nat.le_of_eq HNN.out.symm, sa := fun b h => h.elim, sb := fun b h => h.elim, d := fun b h => h.elim }⟩
  · rintro J a w3 ⟨hs, ht, SA, SB, v12, v13, v32, v33, v34, v35, v36, v37, v38, v39, rfl, y⟩ hall
    have hL := allL hs hall
    have hk := y.f3 (hL 3 (by decide))
    have hv := y.f7 (hL 7 (by decide))
    have e1 := (y.f8 (hL 8 (by decide))).1
    have e2 := (y.f9 (hL 9 (by decide))).1
    subst e1 e2
    obtain ⟨xa, xl, xc, rfl⟩ := hk.1.form
    obtain ⟨ya, yl, yc, rfl⟩ := hv.1.form
    have HX := Lib.hid hk.1
    have HY := Lib.hid hv.1
    have HXY := Lib.hid (show ∀ b, OwnOf (.slice xa xl xc) b → ¬ OwnOf (.slice ya yl yc) b from fun b h1 h2 => y.d b (hk.2 b h1) (hv.2 b h2))
    have HT3 := Lib.hid (HT2.out.trans ht)
    have HTN := Lib.hid ht
    have hbx := (ht.same B (lt_heap HBX.out) fun c => c).trans HBX.out
    have HBX3 := Lib.hid hbx
    have b0 : w3.cell? ⟨B, 0, none⟩ = some (.int .i64 kd) := by simp [World.cell?, hbx]
    have b1 : w3.cell? ⟨B, 1, none⟩ = some (.slice ka kl kc) := by simp [World.cell?, hbx]
    have b2 : w3.cell? ⟨B, 2, none⟩ = some (.slice va vl vc) := by simp [World.cell?, hbx]
    have HK3 := Lib.hid (HKW.out.keepN ht)
    have HV3 := Lib.hid (HVW.out.keepN ht)
    have HN3 := Lib.hid y.t
    clear y hL hall hs hk hv hbx
    go_wp2_with fail
    refine (looksR_any (HST.out.lz.keepN HT3.out).pz (by have := HM.out; have := HM2.out; omega) HST.out.okay HST.out.dist HST.out.tab.good HST.out.inn key _ HK3.out (by have := HKL.out; omega)).mono ?_
    rintro e w4 ⟨rfl, ht4⟩
    have HT4 := Lib.hid (HT3.out.trans ht4)
    have HX4 := Lib.hid (HX.out.keep ht4 (fun _ _ c => c))
    have HLK := Lib.hid (looks_any (HST.out.tab.keepN HT4.out) key _ HX4.out.bv (by have := HKL.out; omega))
    generalize seekN (bfS seed) (homS seed C) C T key + 1 = N1 at *
    clear ht4 b0 b1 b2
    go_wp2_with fail
    refine HLK.out.mono ?_
    rintro e w5 ⟨rfl, ht5⟩
    have HT5 := Lib.hid (HT4.out.trans ht5)
    clear ht5
    go_wp2_with fail
    go_ret2
    exact ⟨_, _, _, by simp, ⟨R, Z, n, C, T, L, HST.out.keepN HT5.out, by have h1 := HM.out; omega⟩, HT5.out.of_nil⟩
  · rintro J a W i o ho ⟨hs, ht, SA, SB, v12, v13, v32, v33, v34, v35, v36, v37, v38, v39, rfl, y⟩ hl hd K hK
    have hi : i < 10 := (Array.getElem?_eq_some_iff.1 ho).1
    have hbx := (ht.same B (lt_heap HBX.out) fun c => c).trans HBX.out
    have b1 : W.cell? ⟨B, 1, none⟩ = some (.slice ka kl kc) := by simp [World.cell?, hbx]
    have b2 : W.cell? ⟨B, 2, none⟩ = some (.slice va vl vc) := by simp [World.cell?, hbx]
    have hN := y.t
    rcases (by omega : i = 0 ∨ i = 1 ∨ i = 2 ∨ i = 3 ∨ i = 4 ∨ i = 5 ∨ i = 6 ∨ i = 7 ∨ i = 8 ∨ i = 9) with rfl | rfl | rfl | rfl | rfl | rfl | rfl | rfl | rfl | rfl
    · obtain rfl := Option.some.inj (show some _ = some o from ho)
      go_simp
      have ta := (Touch.refl Nil W).alloc (.cells #[] 5)
      refine hK _ _ ⟨by simpa using hs, ht.trans ta, (fun b => SA b ∨ b = W.heap.size), SB, _, _, _, _, _, _, _, _, _, _, rfl, { f0 := fun _ _ => ⟨(own_new W).base hN, fun b hb => .inr (by simpa [OwnOf, Value.ownBlock] using hb)⟩, f1 := fun h => y.f1 (stp h (by decide)), f2 := fun h => y.f2 (stp h (by decide)), f3 := fun h => by have k := y.f3 (stp h (by decide)); exact (k.keepN ta).wide (fun _ h => .inl h), f4 := fun h h7 => by have k := y.f4 (stp h (by decide)) (mon' h7); exact k.keepN ta, f5 := fun h => y.f5 (stp h (by decide)), f6 := fun h => y.f6 (stp h (by decide)), f7 := fun h => by have k := y.f7 (stp h (by decide)); exact k.keepN ta, f8 := fun h => ⟨(y.f8 (stp h (by decide))).1, mon (y.f8 (stp h (by decide))).2⟩, f9 := fun h => ⟨(y.f9 (stp h (by decide))).1, mon (y.f9 (stp h (by decide))).2⟩, t := by rw [nblk_alloc]; omega, sa := fun b h => by rw [nblk_alloc]; rcases h with h | h; (have := y.sa b h; omega); (subst h; omega), sb := fun b h => by rw [nblk_alloc]; have := y.sb b h; omega, d := fun b h hb => by rcases h with h | h; (exact y.d b h hb); (subst h; have := y.sb _ hb; omega) }⟩
    · obtain rfl := Option.some.inj (show some _ = some o from ho)
      go_simp
      refine hK _ _ ⟨by simpa using hs, ht, SA, SB, _, _, _, _, _, _, _, _, _, _, rfl, { f0 := fun h h3 => by have k := y.f0 (stp h (by decide)) (mon' h3); exact k, f1 := fun _ => rfl, f2 := fun h => y.f2 (stp h (by decide)), f3 := fun h => by have k := y.f3 (stp h (by decide)); exact k, f4 := fun h h7 => by have k := y.f4 (stp h (by decide)) (mon' h7); exact k, f5 := fun h => y.f5 (stp h (by decide)), f6 := fun h => y.f6 (stp h (by decide)), f7 := fun h => by have k := y.f7 (stp h (by decide)); exact k, f8 := fun h => ⟨(y.f8 (stp h (by decide))).1, mon (y.f8 (stp h (by decide))).2⟩, f9 := fun h => ⟨(y.f9 (stp h (by decide))).1, mon (y.f9 (stp h (by decide))).2⟩, t := hN, sa := y.sa, sb := y.sb, d := y.d }⟩
    · obtain rfl := Option.some.inj (show some _ = some o from ho)
      have e := (y.f1 (hd ⟨1, .data⟩ (by simp) rfl)).symm
      subst e
      go_simp
      refine hK _ _ ⟨by simpa using hs, ht, SA, SB, _, _, _, _, _, _, _, _, _, _, rfl, { f0 := fun h h3 => by have k := y.f0 (stp h (by decide)) (mon' h3); exact k, f1 := fun h => y.f1 (stp h (by decide)), f2 := fun _ => rfl, f3 := fun h => by have k := y.f3 (stp h (by decide)); exact k, f4 := fun h h7 => by have k := y.f4 (stp h (by decide)) (mon' h7); exact k, f5 := fun h => y.f5 (stp h (by decide)), f6 := fun h => y.f6 (stp h (by decide)), f7 := fun h => by have k := y.f7 (stp h (by decide)); exact k, f8 := fun h => ⟨(y.f8 (stp h (by decide))).1, mon (y.f8 (stp h (by decide))).2⟩, f9 := fun h => ⟨(y.f9 (stp h (by decide))).1, mon (y.f9 (stp h (by decide))).2⟩, t := hN, sa := y.sa, sb := y.sb, d := y.d }⟩
    · obtain rfl := Option.some.inj (show some _ = some o from ho)
      have e := (y.f2 (hd ⟨2, .data⟩ (by simp) rfl)).symm
      subst e
      have ho := y.f0 (hd ⟨0, .data⟩ (by simp) rfl) (fun h => ngd hl h)
      rw [if_pos (by simp [Region.wanted])]
      refine opIn_append_bytes (.tmp 32) (.tmp 34) rfl v32 (.slice ka kl kc) key rfl ho.1 rfl (HKW.out.keepN ht) (by have := HKL.out; omega) hN ?_
      intro v' W' h1 h2 h3
      have hx : ∀ b, SB b → ¬ OwnOf v32 b := fun b hb hs => y.d b (ho.2 b hs) hb
      have tn : Touch Nil w2 W' := ht.trans' h2 fun b hb hs => by have h4 := y.sa b (ho.2 b hs); have := HNN.out; omega
      go_simp
      refine hK _ _ ⟨by simpa using hs, tn, (fun b => SA b ∨ (W.heap.size ≤ b ∧ b < W'.heap.size)), SB, _, _, _, _, _, _, _, _, _, _, rfl, { f0 := fun h hn => absurd (set_of (i := 3) (by rw [hs]; decide)) hn, f1 := fun h => y.f1 (stp h (by decide)), f2 := fun h => y.f2 (stp h (by decide)), f3 := fun _ => ⟨h1, fun b hb => (h3 b hb).elim (fun h => .inl (ho.2 b h)) fun h => .inr ⟨h, (h1.block b hb).2⟩⟩, f4 := fun h h7 => by have k := y.f4 (stp h (by decide)) (mon' h7); exact k.keep h2 hx, f5 := fun h => y.f5 (stp h (by decide)), f6 := fun h => y.f6 (stp h (by decide)), f7 := fun h => by have k := y.f7 (stp h (by decide)); exact k.keep h2 hx, f8 := fun h => (ngd hl (y.f8 (stp h (by decide))).2).elim, f9 := fun h => ⟨(y.f9 (stp h (by decide))).1, mon (y.f9 (stp h (by decide))).2⟩, t := Nat.le_trans hN h2.size, sa := fun b h => by have := h2.size; rcases h with h | h; (have := y.sa b h; omega); omega, sb := fun b h => by have := h2.size; have := y.sb b h; omega, d := fun b h hb => by rcases h with h | h; (exact y.d b h hb); (have := y.sb b hb; omega) }⟩
    · obtain rfl := Option.some.inj (show some _ = some o from ho)
      go_simp
      have ta := (Touch.refl Nil W).alloc (.cells #[] 5)
      refine hK _ _ ⟨by simpa using hs, ht.trans ta, SA, (fun b => SB b ∨ b = W.heap.size), _, _, _, _, _, _, _, _, _, _, rfl, { f0 := fun h h3 => by have k := y.f0 (stp h (by decide)) (mon' h3); exact k.keepN ta, f1 := fun h => y.f1 (stp h (by decide)), f2 := fun h => y.f2 (stp h (by decide)), f3 := fun h => by have k := y.f3 (stp h (by decide)); exact k.keepN ta, f4 := fun _ _ => ⟨(own_new W).base hN, fun b hb => .inr (by simpa [OwnOf, Value.ownBlock] using hb)⟩, f5 := fun h => y.f5 (stp h (by decide)), f6 := fun h => y.f6 (stp h (by decide)), f7 := fun h => by have k := y.f7 (stp h (by decide)); exact (k.keepN ta).wide (fun _ h => .inl h), f8 := fun h => ⟨(y.f8 (stp h (by decide))).1, mon (y.f8 (stp h (by decide))).2⟩, f9 := fun h => ⟨(y.f9 (stp h (by decide))).1, mon (y.f9 (stp h (by decide))).2⟩, t := by rw [nblk_alloc]; omega, sa := fun b h => by rw [nblk_alloc]; have := y.sa b h; omega, sb := fun b h => by rw [nblk_alloc]; rcases h with h | h; (have := y.sb b h; omega); (subst h; omega), d := fun b h hb => by rcases hb with hb | hb; (exact y.d b h hb); (subst hb; have := y.sa _ h; omega) }⟩
    · obtain rfl := Option.some.inj (show some _ = some o from ho)
      go_simp
      refine hK _ _ ⟨by simpa using hs, ht, SA, SB, _, _, _, _, _, _, _, _, _, _, rfl, { f0 := fun h h3 => by have k := y.f0 (stp h (by decide)) (mon' h3); exact k, f1 := fun h => y.f1 (stp h (by decide)), f2 := fun h => y.f2 (stp h (by decide)), f3 := fun h => by have k := y.f3 (stp h (by decide)); exact k, f4 := fun h h7 => by have k := y.f4 (stp h (by decide)) (mon' h7); exact k, f5 := fun _ => rfl, f6 := fun h => y.f6 (stp h (by decide)), f7 := fun h => by have k := y.f7 (stp h (by decide)); exact k, f8 := fun h => ⟨(y.f8 (stp h (by decide))).1, mon (y.f8 (stp h (by decide))).2⟩, f9 := fun h => ⟨(y.f9 (stp h (by decide))).1, mon (y.f9 (stp h (by decide))).2⟩, t := hN, sa := y.sa, sb := y.sb, d := y.d }⟩
    · obtain rfl := Option.some.inj (show some _ = some o from ho)
      have e := (y.f5 (hd ⟨5, .data⟩ (by simp) rfl)).symm
      subst e
      go_simp
      refine hK _ _ ⟨by simpa using hs, ht, SA, SB, _, _, _, _, _, _, _, _, _, _, rfl, { f0 := fun h h3 => by have k := y.f0 (stp h (by decide)) (mon' h3); exact k, f1 := fun h => y.f1 (stp h (by decide)), f2 := fun h => y.f2 (stp h (by decide)), f3 := fun h => by have k := y.f3 (stp h (by decide)); exact k, f4 := fun h h7 => by have k := y.f4 (stp h (by decide)) (mon' h7); exact k, f5 := fun h => y.f5 (stp h (by decide)), f6 := fun _ => rfl, f7 := fun h => by have k := y.f7 (stp h (by decide)); exact k, f8 := fun h => ⟨(y.f8 (stp h (by decide))).1, mon (y.f8 (stp h (by decide))).2⟩, f9 := fun h => ⟨(y.f9 (stp h (by decide))).1, mon (y.f9 (stp h (by decide))).2⟩, t := hN, sa := y.sa, sb := y.sb, d := y.d }⟩
    · obtain rfl := Option.some.inj (show some _ = some o from ho)
      have e := (y.f6 (hd ⟨6, .data⟩ (by simp) rfl)).symm
      subst e
      have ho := y.f4 (hd ⟨4, .data⟩ (by simp) rfl) (fun h => ngd hl h)
      rw [if_pos (by simp [Region.wanted])]
      refine opIn_append_bytes (.tmp 36) (.tmp 38) rfl v36 (.slice va vl vc) val rfl ho.1 rfl (HVW.out.keepN ht) (by have := HVL.out; omega) hN ?_
      intro v' W' h1 h2 h3
      have hx : ∀ b, SA b → ¬ OwnOf v36 b := fun b hb hs => y.d b hb (ho.2 b hs)
      have tn : Touch Nil w2 W' := ht.trans' h2 fun b hb hs => by have h4 := y.sb b (ho.2 b hs); have := HNN.out; omega
      go_simp
      refine hK _ _ ⟨by simpa using hs, tn, SA, (fun b => SB b ∨ (W.heap.size ≤ b ∧ b < W'.heap.size)), _, _, _, _, _, _, _, _, _, _, rfl, { f0 := fun h h3 => by have k := y.f0 (stp h (by decide)) (mon' h3); exact k.keep h2 hx, f1 := fun h => y.f1 (stp h (by decide)), f2 := fun h => y.f2 (stp h (by decide)), f3 := fun h => by have k := y.f3 (stp h (by decide)); exact k.keep h2 hx, f4 := fun h hn => absurd (set_of (i := 7) (by rw [hs]; decide)) hn, f5 := fun h => y.f5 (stp h (by decide)), f6 := fun h => y.f6 (stp h (by decide)), f7 := fun _ => ⟨h1, fun b hb => (h3 b hb).elim (fun h => .inl (ho.2 b h)) fun h => .inr ⟨h, (h1.block b hb).2⟩⟩, f8 := fun h => ⟨(y.f8 (stp h (by decide))).1, mon (y.f8 (stp h (by decide))).2⟩, f9 := fun h => (ngd hl (y.f9 (stp h (by decide))).2).elim, t := Nat.le_trans hN h2.size, sa := fun b h => by have := h2.size; have := y.sa b h; omega, sb := fun b h => by have := h2.size; rcases h with h | h; (have := y.sb b h; omega); omega, d := fun b h hb => by rcases hb with hb | hb; (exact y.d b h hb); (have := y.sa b h; omega) }⟩
    · obtain rfl := Option.some.inj (show some _ = some o from ho)
      go_simp
      refine hK _ _ ⟨by simpa using hs, ht, SA, SB, _, _, _, _, _, _, _, _, _, _, rfl, { f0 := fun h h3 => by have k := y.f0 (stp h (by decide)) (mon' h3); exact k, f1 := fun h => y.f1 (stp h (by decide)), f2 := fun h => y.f2 (stp h (by decide)), f3 := fun h => by have k := y.f3 (stp h (by decide)); exact k, f4 := fun h h7 => by have k := y.f4 (stp h (by decide)) (mon' h7); exact k, f5 := fun h => y.f5 (stp h (by decide)), f6 := fun h => y.f6 (stp h (by decide)), f7 := fun h => by have k := y.f7 (stp h (by decide)); exact k, f8 := fun _ => ⟨rfl, mon (hd ⟨3, .data⟩ (by simp) rfl)⟩, f9 := fun h => ⟨(y.f9 (stp h (by decide))).1, mon (y.f9 (stp h (by decide))).2⟩, t := hN, sa := y.sa, sb := y.sb, d := y.d }⟩
    · obtain rfl := Option.some.inj (show some _ = some o from ho)
      go_simp
      refine hK _ _ ⟨by simpa using hs, ht, SA, SB, _, _, _, _, _, _, _, _, _, _, rfl, { f0 := fun h h3 => by have k := y.f0 (stp h (by decide)) (mon' h3); exact k, f1 := fun h => y.f1 (stp h (by decide)), f2 := fun h => y.f2 (stp h (by decide)), f3 := fun h => by have k := y.f3 (stp h (by decide)); exact k, f4 := fun h h7 => by have k := y.f4 (stp h (by decide)) (mon' h7); exact k, f5 := fun h => y.f5 (stp h (by decide)), f6 := fun h => y.f6 (stp h (by decide)), f7 := fun h => by have k := y.f7 (stp h (by decide)); exact k, f8 := fun h => ⟨(y.f8 (stp h (by decide))).1, mon (y.f8 (stp h (by decide))).2⟩, f9 := fun _ => ⟨rfl, mon (hd ⟨7, .data⟩ (by simp) rfl)⟩, t := hN, sa := y.sa, sb := y.sb, d := y.d }⟩

set_option maxRecDepth 100000 in
set_option maxHeartbeats 8000000 in
theorem does7 {R Z : Nat → Prop} {B0 m : Nat} {n C : Nat} {T : Cells} {L : KVs} {w : World} {p : Option Addr} {seed : Int} {la : Option Addr} {ln lc : Nat} {kd : Int} {ka va : Option Addr} {kl kc vl vc : Nat} {key val : Key} (hk : BV w (.slice ka kl kc) key) (hv : BV w (.slice va vl vc) val) (hkl : key.length ≤ 1200) (hvl : val.length ≤ 1200) (h : StR R Z B0 w (.pointer p) seed (.slice la ln lc) n C T L) (hB : B0 ≤ w.heap.size) (hm : L.length + 1 ≤ m) (hm2 : m ≤ 1000) {z : Int} (hkd : kd.tmod 8 = z) (z0 : (z == (0 : Int)) = false) (z1 : (z == (1 : Int)) = false) (z2 : (z == (2 : Int)) = false) (z4 : (z == (4 : Int)) = false) (z5 : (z == (5 : Int)) = false) (z6 : (z == (6 : Int)) = false) :
    Calls Try.prog 33 #[.pointer p, .int .u64 seed, .slice la ln lc, .agg #[.int .i64 kd, .slice ka kl kc, .slice va vl vc], .bool true] w (DoesP B0 m (.pointer p) seed w) := by
  have HST := Lib.hid h
  have HBB := Lib.hid hB
  have HM := Lib.hid hm
  have HM2 := Lib.hid hm2
  have HLN := Lib.hid (show n = ln from by
    have h1 := (h.len (by omega)).1
    obtain ⟨_, _, _, e, _⟩ := h.lz.pz
    cases e
    exact h1)
  clear h hB hm hm2
  have HK := Lib.hid hk
  have HV := Lib.hid hv
  have HKL := Lib.hid hkl
  have HVL := Lib.hid hvl
  clear hk hv hkl hvl
  go_enter Try.func33, Try.ntmps33
  go_wp2_with fail
  have hbx := heap_alloc_new w (.cells #[.int .i64 kd, .slice ka kl kc, .slice va vl vc] 48)
  have HT2 := Lib.hid ((Touch.refl Nil w).alloc (.cells #[.int .i64 kd, .slice ka kl kc, .slice va vl vc] 48))
  have HE : ∃ B, w.heap.size = B := ⟨_, rfl⟩
  obtain ⟨B, eB⟩ := HE
  rw [eB] at hbx ⊢
  have HEB := Lib.hid eB
  have HE : ∃ w2, w.alloc (.cells #[.int .i64 kd, .slice ka kl kc, .slice va vl vc] 48) = w2 := ⟨_, rfl⟩
  obtain ⟨w2, ew2⟩ := HE
  rw [ew2] at hbx HT2 ⊢
  have HE : ∃ N, w2.heap.size = N := ⟨_, rfl⟩
  obtain ⟨N, eN⟩ := HE
  have HNN := Lib.hid eN
  have HBX := Lib.hid hbx
  have HKW := Lib.hid (HK.out.keepN HT2.out)
  have HVW := Lib.hid (HV.out.keepN HT2.out)
  have HNB := Lib.hid (show N = B + 1 from by rw [← eN, ← ew2, nblk_alloc, eB])
  clear hbx ew2 eN eB
  refine (wpIn_wide (n := 7)).1 (region_inv (by kernel_rfl) (by kernel_rfl) (fun J a W => J.size = 10 ∧ Touch Nil w2 W ∧ ∃ SA SB v12 v13 v32 v33 v34 v35 v36 v37 v38 v39, a = { tmps := #[.pointer p, .int .u64 seed, .slice la ln lc, .agg #[.int .i64 kd, .slice ka kl kc, .slice va vl vc], .bool true, undef, undef, undef, .pointer (some ⟨B, 0, none⟩), undef, .slice none 0 0, .bool false, v12, v13, undef, undef, undef, undef, undef, undef, undef, undef, undef, undef, undef, undef, undef, undef, undef, undef, undef, undef, v32, v33, v34, v35, v36, v37, v38, v39, undef, undef, undef, undef, undef, undef, undef, undef, undef, undef, undef, undef, undef, undef, undef, undef, undef, undef, undef, undef, undef, undef, undef, undef, undef, undef, undef, undef, undef, undef, undef, undef, undef, undef, undef, undef, undef, undef, undef, undef, undef, undef, undef, undef, undef, undef, undef, undef, undef, undef, undef, undef, undef, undef, undef, undef, undef, undef, undef, undef, undef, undef, undef, undef, undef, undef, undef, undef, undef, undef, undef, undef, undef, undef, undef, undef, undef, undef, undef, undef, undef, undef, undef, undef, undef, undef, undef, undef, undef, undef, undef, undef, undef, undef, undef, undef, undef, undef, undef, undef, undef, undef, undef, undef, undef, undef, undef, undef, undef, undef, undef, undef, undef, undef, undef, undef, undef, undef, undef, undef, undef, undef, undef, undef, undef, undef, undef, undef, undef, undef, undef, undef, undef, undef, undef, undef, undef, undef, undef, undef, undef, undef, undef, undef, undef, undef, undef, undef, undef, undef, undef, undef, undef, undef, undef, undef, undef, undef], defers := [] } ∧ D1 N B key val (.slice ka kl kc) (.slice va vl vc) J W SA SB v12 v13 v32 v33 v34 v35 v36 v37 v38 v39) ?_ ?_ ?_)
  · exact ⟨rfl, (Touch.refl Nil w2).drew, fun _ => False, fun _ => False, undef, undef, undef, undef, undef, undef, undef, undef, undef, undef, rfl, { f0 := fun h _ => absurd h (by decide), f1 := fun h => absurd h (by decide), f2 := fun h => absurd h (by decide), f3 := fun h => absurd h (by decide), f4 := fun h _ => absurd h (by decide), f5 := fun h => absurd h (by decide), f6 := fun h => absurd h (by decide), f7 := fun h => absurd h (by decide), f8 := fun h => absurd h (by decide), f9 := fun h => absurd h (by decide), t := Nat.le_of_eq HNN.out.symm, sa := fun b h => h.elim, sb := fun b h => h.elim, d := fun b h => h.elim }⟩
  · rintro J a w3 ⟨hs, ht, SA, SB, v12, v13, v32, v33, v34, v35, v36, v37, v38, v39, rfl, y⟩ hall
    have hL := allL hs hall
    have hk := y.f3 (hL 3 (by decide))
    have hv := y.f7 (hL 7 (by decide))
    have e1 := (y.f8 (hL 8 (by decide))).1
    have e2 := (y.f9 (hL 9 (by decide))).1
    subst e1 e2
    obtain ⟨xa, xl, xc, rfl⟩ := hk.1.form
    obtain ⟨ya, yl, yc, rfl⟩ := hv.1.form
    have HX := Lib.hid hk.1
    have HY := Lib.hid hv.1
    have HXY := Lib.hid (show ∀ b, OwnOf (.slice xa xl xc) b → ¬ OwnOf (.slice ya yl yc) b from fun b h1 h2 => y.d b (hk.2 b h1) (hv.2 b h2))
    have HT3 := Lib.hid (HT2.out.trans ht)
    have HTN := Lib.hid ht
    have hbx := (ht.same B (lt_heap HBX.out) fun c => c).trans HBX.out
    have HBX3 := Lib.hid hbx
    have b0 : w3.cell? ⟨B, 0, none⟩ = some (.int .i64 kd) := by simp [World.cell?, hbx]
    have b1 : w3.cell? ⟨B, 1, none⟩ = some (.slice ka kl kc) := by simp [World.cell?, hbx]
    have b2 : w3.cell? ⟨B, 2, none⟩ = some (.slice va vl vc) := by simp [World.cell?, hbx]
    have HK3 := Lib.hid (HKW.out.keepN ht)
    have HV3 := Lib.hid (HVW.out.keepN ht)
    have HN3 := Lib.hid y.t
    clear y hL hall hs hk hv hbx
    go_wp2_with fail
    refine (len_any (HST.out.tab.keepN HT3.out)).mono ?_
    rintro e w4 ⟨rfl, rfl⟩
    clear b0 b1 b2
    go_wp2_with fail
    go_ret2
    exact ⟨_, _, _, by simp [HLN.out], ⟨R, Z, n, C, T, L, HST.out.keepN HT3.out, by have h1 := HM.out; omega⟩, HT3.out.of_nil⟩
  · rintro J a W i o ho ⟨hs, ht, SA, SB, v12, v13, v32, v33, v34, v35, v36, v37, v38, v39, rfl, y⟩ hl hd K hK
    have hi : i < 10 := (Array.getElem?_eq_some_iff.1 ho).1
    have hbx := (ht.same B (lt_heap HBX.out) fun c => c).trans HBX.out
    have b1 : W.cell? ⟨B, 1, none⟩ = some (.slice ka kl kc) := by simp [World.cell?, hbx]
    have b2 : W.cell? ⟨B, 2, none⟩ = some (.slice va vl vc) := by simp [World.cell?, hbx]
    have hN := y.t
    rcases (by omega : i = 0 ∨ i = 1 ∨ i = 2 ∨ i = 3 ∨ i = 4 ∨ i = 5 ∨ i = 6 ∨ i = 7 ∨ i = 8 ∨ i = 9) with rfl | rfl | rfl | rfl | rfl | rfl | rfl | rfl | rfl | rfl
    · obtain rfl := Option.some.inj (show some _ = some o from ho)
      go_simp
      have ta := (Touch.refl Nil W).alloc (.cells #[] 5)
      refine hK _ _ ⟨by simpa using hs, ht.trans ta, (fun b => SA b ∨ b = W.heap.size), SB, _, _, _, _, _, _, _, _, _, _, rfl, { f0 := fun _ _ => ⟨(own_new W).base hN, fun b hb => .inr (by simpa [OwnOf, Value.ownBlock] using hb)⟩, f1 := fun h => y.f1 (stp h (by decide)), f2 := fun h => y.f2 (stp h (by decide)), f3 := fun h => by have k := y.f3 (stp h (by decide)); exact (k.keepN ta).wide (fun _ h => .inl h), f4 := fun h h7 => by have k := y.f4 (stp h (by decide)) (mon' h7); exact k.keepN ta, f5 := fun h => y.f5 (stp h (by decide)), f6 := fun h => y.f6 (stp h (by decide)), f7 := fun h => by have k := y.f7 (stp h (by decide)); exact k.keepN ta, f8 := fun h => ⟨(y.f8 (stp h (by decide))).1, mon (y.f8 (stp h (by decide))).2⟩, f9 := fun h => ⟨(y.f9 (stp h (by decide))).1, mon (y.f9 (stp h (by decide))).2⟩, t := by rw [nblk_alloc]; omega, sa := fun b h => by rw [nblk_alloc]; rcases h with h | h; (have := y.sa b h; omega); (subst h; omega), sb := fun b h => by rw [nblk_alloc]; have := y.sb b h; omega, d := fun b h hb => by rcases h with h | h; (exact y.d b h hb); (subst h; have := y.sb _ hb; omega) }⟩
    · obtain rfl := Option.some.inj (show some _ = some o from ho)
      go_simp
      refine hK _ _ ⟨by simpa using hs, ht, SA, SB, _, _, _, _, _, _, _, _, _, _, rfl, { f0 := fun h h3 => by have k := y.f0 (stp h (by decide)) (mon' h3); exact k, f1 := fun _ => rfl, f2 := fun h => y.f2 (stp h (by decide)), f3 := fun h => by have k := y.f3 (stp h (by decide)); exact k, f4 := fun h h7 => by have k := y.f4 (stp h (by decide)) (mon' h7); exact k, f5 := fun h => y.f5 (stp h (by decide)), f6 := fun h => y.f6 (stp h (by decide)), f7 := fun h => by have k := y.f7 (stp h (by decide)); exact k, f8 := fun h => ⟨(y.f8 (stp h (by decide))).1, mon (y.f8 (stp h (by decide))).2⟩, f9 := fun h => ⟨(y.f9 (stp h (by decide))).1, mon (y.f9 (stp h (by decide))).2⟩, t := hN, sa := y.sa, sb := y.sb, d := y.d }⟩
    · obtain rfl := Option.some.inj (show some _ = some o from ho)
      have e := (y.f1 (hd ⟨1, .data⟩ (by simp) rfl)).symm
      subst e
      go_simp
      refine hK _ _ ⟨by simpa using hs, ht, SA, SB, _, _, _, _, _, _, _, _, _, _, rfl, { f0 := fun h h3 => by have k := y.f0 (stp h (by decide)) (mon' h3); exact k, f1 := fun h => y.f1 (stp h (by decide)), f2 := fun _ => rfl, f3 := fun h => by have k := y.f3 (stp h (by decide)); exact k, f4 := fun h h7 => by have k := y.f4 (stp h (by decide)) (mon' h7); exact k, f5 := fun h => y.f5 (stp h (by decide)), f6 := fun h => y.f6 (stp h (by decide)), f7 := fun h => by have k := y.f7 (stp h (by decide)); exact k, f8 := fun h => ⟨(y.f8 (stp h (by decide))).1, mon (y.f8 (stp h (by decide))).2⟩, f9 := fun h => ⟨(y.f9 (stp h (by decide))).1, mon (y.f9 (stp h (by decide))).2⟩, t := hN, sa := y.sa, sb := y.sb, d := y.d }⟩
    · obtain rfl := Option.some.inj (show some _ = some o from ho)
      have e := (y.f2 (hd ⟨2, .data⟩ (by simp) rfl)).symm
      subst e
      have ho := y.f0 (hd ⟨0, .data⟩ (by simp) rfl) (fun h => ngd hl h)
      rw [if_pos (by simp [Region.wanted])]
      refine opIn_append_bytes (.tmp 32) (.tmp 34) rfl v32 (.slice ka kl kc) key rfl ho.1 rfl (HKW.out.keepN ht) (by have := HKL.out; omega) hN ?_
      intro v' W' h1 h2 h3
      have hx : ∀ b, SB b → ¬ OwnOf v32 b := fun b hb hs => y.d b (ho.2 b hs) hb
      have tn : Touch Nil w2 W' := ht.trans' h2 fun b hb hs => by have h4 := y.sa b (ho.2 b hs); have := HNN.out; omega
      go_simp
      refine hK _ _ ⟨by simpa using hs, tn, (fun b => SA b ∨ (W.heap.size ≤ b ∧ b < W'.heap.size)), SB, _, _, _, _, _, _, _, _, _, _, rfl, { f0 := fun h hn => absurd (set_of (i := 3) (by rw [hs]; decide)) hn, f1 := fun h => y.f1 (stp h (by decide)), f2 := fun h => y.f2 (stp h (by decide)), f3 := fun _ => ⟨h1, fun b hb => (h3 b hb).elim (fun h => .inl (ho.2 b h)) fun h => .inr ⟨h, (h1.block b hb).2⟩⟩, f4 := fun h h7 => by have k := y.f4 (stp h (by decide)) (mon' h7); exact k.keep h2 hx, f5 := fun h => y.f5 (stp h (by decide)), f6 := fun h => y.f6 (stp h (by decide)), f7 := fun h => by have k := y.f7 (stp h (by decide)); exact k.keep h2 hx, f8 := fun h => (ngd hl (y.f8 (stp h (by decide))).2).elim, f9 := fun h => ⟨(y.f9 (stp h (by decide))).1, mon (y.f9 (stp h (by decide))).2⟩, t := Nat.le_trans hN h2.size, sa := fun b h => by have := h2.size; rcases h with h | h; (have := y.sa b h; omega); omega, sb := fun b h => by have := h2.size; have := y.sb b h; omega, d := fun b h hb => by rcases h with h | h; (exact y.d b h hb); (have := y.sb b hb; omega) }⟩
    · obtain rfl := Option.some.inj (show some _ = some o from ho)
      go_simp
      have ta := (Touch.refl Nil W).alloc (.cells #[] 5)
      refine hK _ _ ⟨by simpa using hs, ht.trans ta, SA, (fun b => SB b ∨ b = W.heap.size), _, _, _, _, _, _, _, _, _, _, rfl, { f0 := fun h h3 => by have k := y.f0 (stp h (by decide)) (mon' h3); exact k.keepN ta, f1 := fun h => y.f1 (stp h (by decide)), f2 := fun h => y.f2 (stp h (by decide)), f3 := fun h => by have k := y.f3 (stp h (by decide)); exact k.keepN ta, f4 := fun _ _ => ⟨(own_new W).base hN, fun b hb => .inr (by simpa [OwnOf, Value.ownBlock] using hb)⟩, f5 := fun h => y.f5 (stp h (by decide)), f6 := fun h => y.f6 (stp h (by decide)), f7 := fun h => by have k := y.f7 (stp h (by decide)); exact (k.keepN ta).wide (fun _ h => .inl h), f8 := fun h => ⟨(y.f8 (stp h (by decide))).1, mon (y.f8 (stp h (by decide))).2⟩, f9 := fun h => ⟨(y.f9 (stp h (by decide))).1, mon (y.f9 (stp h (by decide))).2⟩, t := by rw [nblk_alloc]; omega, sa := fun b h => by rw [nblk_alloc]; have := y.sa b h; omega, sb := fun b h => by rw [nblk_alloc]; rcases h with h | h; (have := y.sb b h; omega); (subst h; omega), d := fun b h hb => by rcases hb with hb | hb; (exact y.d b h hb); (subst hb; have := y.sa _ h; omega) }⟩
    · obtain rfl := Option.some.inj (show some _ = some o from ho)
      go_simp
      refine hK _ _ ⟨by simpa using hs, ht, SA, SB, _, _, _, _, _, _, _, _, _, _, rfl, { f0 := fun h h3 => by have k := y.f0 (stp h (by decide)) (mon' h3); exact k, f1 := fun h => y.f1 (stp h (by decide)), f2 := fun h => y.f2 (stp h (by decide)), f3 := fun h => by have k := y.f3 (stp h (by decide)); exact k, f4 := fun h h7 => by have k := y.f4 (stp h (by decide)) (mon' h7); exact k, f5 := fun _ => rfl, f6 := fun h => y.f6 (stp h (by decide)), f7 := fun h => by have k := y.f7 (stp h (by decide)); exact k, f8 := fun h => ⟨(y.f8 (stp h (by decide))).1, mon (y.f8 (stp h (by decide))).2⟩, f9 := fun h => ⟨(y.f9 (stp h (by decide))).1, mon (y.f9 (stp h (by decide))).2⟩, t := hN, sa := y.sa, sb := y.sb, d := y.d }⟩
    · obtain rfl := Option.some.inj (show some _ = some o from ho)
      have e := (y.f5 (hd ⟨5, .data⟩ (by simp) rfl)).symm
      subst e
      go_simp
      refine hK _ _ ⟨by simpa using hs, ht, SA, SB, _, _, _, _, _, _, _, _, _, _, rfl, { f0 := fun h h3 => by have k := y.f0 (stp h (by decide)) (mon' h3); exact k, f1 := fun h => y.f1 (stp h (by decide)), f2 := fun h => y.f2 (stp h (by decide)), f3 := fun h => by have k := y.f3 (stp h (by decide)); exact k, f4 := fun h h7 => by have k := y.f4 (stp h (by decide)) (mon' h7); exact k, f5 := fun h => y.f5 (stp h (by decide)), f6 := fun _ => rfl, f7 := fun h => by have k := y.f7 (stp h (by decide)); exact k, f8 := fun h => ⟨(y.f8 (stp h (by decide))).1, mon (y.f8 (stp h (by decide))).2⟩, f9 := fun h => ⟨(y.f9 (stp h (by decide))).1, mon (y.f9 (stp h (by decide))).2⟩, t := hN, sa := y.sa, sb := y.sb, d := y.d }⟩
    · obtain rfl := Option.some.inj (show some _ = some o from ho)
      have e := (y.f6 (hd ⟨6, .data⟩ (by simp) rfl)).symm
      subst e
      have ho := y.f4 (hd ⟨4, .data⟩ (by simp) rfl) (fun h => ngd hl h)
      rw [if_pos (by simp [Region.wanted])]
      refine opIn_append_bytes (.tmp 36) (.tmp 38) rfl v36 (.slice va vl vc) val rfl ho.1 rfl (HVW.out.keepN ht) (by have := HVL.out; omega) hN ?_
      intro v' W' h1 h2 h3
      have hx : ∀ b, SA b → ¬ OwnOf v36 b := fun b hb hs => y.d b hb (ho.2 b hs)
      have tn : Touch Nil w2 W' := ht.trans' h2 fun b hb hs => by have h4 := y.sb b (ho.2 b hs); have := HNN.out; omega
      go_simp
      refine hK _ _ ⟨by simpa using hs, tn, SA, (fun b => SB b ∨ (W.heap.size ≤ b ∧ b < W'.heap.size)), _, _, _, _, _, _, _, _, _, _, rfl, { f0 := fun h h3 => by have k := y.f0 (stp h (by decide)) (mon' h3); exact k.keep h2 hx, f1 := fun h => y.f1 (stp h (by decide)), f2 := fun h => y.f2 (stp h (by decide)), f3 := fun h => by have k := y.f3 (stp h (by decide)); exact k.keep h2 hx, f4 := fun h hn => absurd (set_of (i := 7) (by rw [hs]; decide)) hn, f5 := fun h => y.f5 (stp h (by decide)), f6 := fun h => y.f6 (stp h (by decide)), f7 := fun _ => ⟨h1, fun b hb => (h3 b hb).elim (fun h => .inl (ho.2 b h)) fun h => .inr ⟨h, (h1.block b hb).2⟩⟩, f8 := fun h => ⟨(y.f8 (stp h (by decide))).1, mon (y.f8 (stp h (by decide))).2⟩, f9 := fun h => (ngd hl (y.f9 (stp h (by decide))).2).elim, t := Nat.le_trans hN h2.size, sa := fun b h => by have := h2.size; have := y.sa b h; omega, sb := fun b h => by have := h2.size; rcases h with h | h; (have := y.sb b h; omega); omega, d := fun b h hb => by rcases hb with hb | hb; (exact y.d b h hb); (have := y.sa b h; omega) }⟩
    · obtain rfl := Option.some.inj (show some _ = some o from ho)
      go_simp
      refine hK _ _ ⟨by simpa using hs, ht, SA, SB, _, _, _, _, _, _, _, _, _, _, rfl, { f0 := fun h h3 => by have k := y.f0 (stp h (by decide)) (mon' h3); exact k, f1 := fun h => y.f1 (stp h (by decide)), f2 := fun h => y.f2 (stp h (by decide)), f3 := fun h => by have k := y.f3 (stp h (by decide)); exact k, f4 := fun h h7 => by have k := y.f4 (stp h (by decide)) (mon' h7); exact k, f5 := fun h => y.f5 (stp h (by decide)), f6 := fun h => y.f6 (stp h (by decide)), f7 := fun h => by have k := y.f7 (stp h (by decide)); exact k, f8 := fun _ => ⟨rfl, mon (hd ⟨3, .data⟩ (by simp) rfl)⟩, f9 := fun h => ⟨(y.f9 (stp h (by decide))).1, mon (y.f9 (stp h (by decide))).2⟩, t := hN, sa := y.sa, sb := y.sb, d := y.d }⟩
    · obtain rfl := Option.some.inj (show some _ = some o from ho)
      go_simp
      refine hK _ _ ⟨by simpa using hs, ht, SA, SB, _, _, _, _, _, _, _, _, _, _, rfl, { f0 := fun h h3 => by have k := y.f0 (stp h (by decide)) (mon' h3); exact k, f1 := fun h => y.f1 (stp h (by decide)), f2 := fun h => y.f2 (stp h (by decide)), f3 := fun h => by have k := y.f3 (stp h (by decide)); exact k, f4 := fun h h7 => by have k := y.f4 (stp h (by decide)) (mon' h7); exact k, f5 := fun h => y.f5 (stp h (by decide)), f6 := fun h => y.f6 (stp h (by decide)), f7 := fun h => by have k := y.f7 (stp h (by decide)); exact k, f8 := fun h => ⟨(y.f8 (stp h (by decide))).1, mon (y.f8 (stp h (by decide))).2⟩, f9 := fun _ => ⟨rfl, mon (hd ⟨7, .data⟩ (by simp) rfl)⟩, t := hN, sa := y.sa, sb := y.sb, d := y.d }⟩

end Go.Proofs.Ytabjpejgnfeegaa
