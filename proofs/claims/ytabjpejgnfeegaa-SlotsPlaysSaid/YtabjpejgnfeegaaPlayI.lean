import Derived.Test.YtabjpejgnfeegaaPlayD
/- SlotsPlays: what the law does with a table that there is not. -/
namespace Go.Proofs.Ytabjpejgnfeegaa
open Go.ChangeShapes Go.WideShapes Go.ChangeAt Go.RowKit Go.Deep
attribute [local go_sem] Oper.semAt_some
def DoesV (x : Value) (w : World) (e : Ending) (w' : World) : Prop := e = .returned (.tuple #[x, .bool true]) ∧ Touch Nil w w'
def AnyP (w : World) (e : Ending) (w' : World) : Prop := ∃ a n c k, e = .returned (.tuple #[.slice a n c, .int .i64 k]) ∧ Touch Nil w w'
theorem ListRP.any {Z : Nat → Prop} {c : Int} {L : KVs} {w w' : World} {e : Ending} (h : ListRP Z c L w e w') : AnyP w e w' := by
  obtain ⟨ao, cap, Z', he, _, _, ht⟩ := h
  exact ⟨ao, _, cap, c, he, ht⟩
theorem okay_nil : Okay ([] : KVs) := fun x hx => by cases hx
theorem LZ.nil_len {Z : Nat → Prop} {w : World} {la : Option Addr} {ln lc : Nat} (h : LZ Z w (.slice la ln lc) ([] : KVs)) : ln = 0 := by
  obtain ⟨_, _, _, e, _⟩ := h.pz
  cases e; rfl

set_option maxRecDepth 100000 in
set_option maxHeartbeats 8000000 in
theorem doesV0 {Z : Nat → Prop} {w : World} {p : Option Addr} {seed : Int} {la : Option Addr} {ln lc : Nat} {kd : Int} {ka va : Option Addr} {kl kc vl vc : Nat} {key val : Key} (hk : BV w (.slice ka kl kc) key) (hv : BV w (.slice va vl vc) val) (hkl : key.length ≤ 1200) (hvl : val.length ≤ 1200) (hvoid : Void w (.pointer p)) (hlz : LZ Z w (.slice la ln lc) ([] : KVs))  (hkd : kd.tmod 8 = 0) :
    Calls Try.prog 33 #[.pointer p, .int .u64 seed, .slice la ln lc, .agg #[.int .i64 kd, .slice ka kl kc, .slice va vl vc], .bool false] w (DoesV (.slice la ln lc) w) := by
  have HVD := Lib.hid hvoid
  have HLZ := Lib.hid hlz
  have HPR := Lib.hid (show ∀ w', Touch Nil w w' → BV w' (.slice ka kl kc) key → BV w' (.slice va vl vc) val → Calls Try.prog 59 #[.slice la ln lc, .slice ka kl kc, .slice va vl vc] w' (AnyP w') from fun w' ht hk' hv' => by
    cases hal : allowB key val with
    | true => exact (putR_ok (hlz.keepN ht) (by simp) okay_nil key val _ _ hk' hv' (by omega) (by omega) hal).mono fun e w'' h => h.any
    | false => exact (putR_bad (hlz.keepN ht) key val _ _ hk' hv' (by omega) (by omega) hal).mono fun e w'' h => h.any)
  clear hvoid hlz
  have HK := Lib.hid hk
  have HV := Lib.hid hv
  have HKL := Lib.hid hkl
  have HVL := Lib.hid hvl
  clear hk hv hkl hvl
  go_enter Try.func33, Try.ntmps33
  go_wp2_with fail
  have hbx := heap_alloc_new w (.cells #[.int .i64 kd, .slice ka kl kc, .slice va vl vc] 48)
  have HT2 := Lib.hid ((Touch.refl Nil w).alloc (.cells #[.int .i64 kd, .slice ka kl kc, .slice va vl vc] 48))
  have HE : ∃ B, w.heap.size = B := ⟨_, rfl⟩
  obtain ⟨B, eB⟩ := HE
  rw [eB] at hbx ⊢
  have HEB := Lib.hid eB
  have HE : ∃ w2, w.alloc (.cells #[.int .i64 kd, .slice ka kl kc, .slice va vl vc] 48) = w2 := ⟨_, rfl⟩
  obtain ⟨w2, ew2⟩ := HE
  rw [ew2] at hbx HT2 ⊢
  have HE : ∃ N, w2.heap.size = N := ⟨_, rfl⟩
  obtain ⟨N, eN⟩ := HE
  have HNN := Lib.hid eN
  have HBX := Lib.hid hbx
  have HKW := Lib.hid (HK.out.keepN HT2.out)
  have HVW := Lib.hid (HV.out.keepN HT2.out)
  have HNB := Lib.hid (show N = B + 1 from by rw [← eN, ← ew2, nblk_alloc, eB])
  clear hbx ew2 eN eB
  refine (wpIn_wide (n := 7)).1 (region_inv (by kernel_rfl) (by kernel_rfl) (fun J a W => J.size = 10 ∧ Touch Nil w2 W ∧ ∃ SA SB v12 v13 v32 v33 v34 v35 v36 v37 v38 v39, a = { tmps := #[.pointer p, .int .u64 seed, .slice la ln lc, .agg #[.int .i64 kd, .slice ka kl kc, .slice va vl vc], .bool false, undef, undef, undef, .pointer (some ⟨B, 0, none⟩), undef, .slice none 0 0, .bool false, v12, v13, undef, undef, undef, undef, undef, undef, undef, undef, undef, undef, undef, undef, undef, undef, undef, undef, undef, undef, v32, v33, v34, v35, v36, v37, v38, v39, undef, undef, undef, undef, undef, undef, undef, undef, undef, undef, undef, undef, undef, undef, undef, undef, undef, undef, undef, undef, undef, undef, undef, undef, undef, undef, undef, undef, undef, undef, undef, undef, undef, undef, undef, undef, undef, undef, undef, undef, undef, undef, undef, undef, undef, undef, undef, undef, undef, undef, undef, undef, undef, undef, undef, undef, undef, undef, undef, undef, undef, undef, undef, undef, undef, undef, undef, undef, undef, undef, undef, undef, undef, undef, undef, undef, undef, undef, undef, undef, undef, undef, undef, undef, undef, undef, undef, undef, undef, undef, undef, undef, undef, undef, undef, undef, undef, undef, undef, undef, undef, undef, undef, undef, undef, undef, undef, undef, undef, undef, undef, undef, undef, undef, undef, undef, undef, undef, undef, undef, undef, undef, undef, undef, undef, undef, undef, undef, undef, undef, undef, undef, undef, undef, undef, undef, undef, undef, undef, undef, undef, undef, undef, undef, undef, undef, undef, undef, undef, undef, undef, undef, undef, undef, undef, undef, undef, undef], defers := [] } ∧ D1 N B key val (.slice ka kl kc) (.slice va vl vc) J W SA SB v12 v13 v32 v33 v34 v35 v36 v37 v38 v39) ?_ ?_ ?_)
  · exact ⟨rfl, (Touch.refl Nil w2).drew, fun _ => False, fun _ => False, undef, undef, undef, undef, undef, undef, undef, undef, undef, undef, rfl, { f0 := fun h _ => absurd h (by decide), f1 := fun h => absurd h (by decide), f2 := fun h => absurd h (by decide), f3 := fun h => absurd h (by decide), f4 := fun h _ => absurd h (by decide), f5 := fun h => absurd h (by decide), f6 := fun h => absurd h (by decide), f7 := fun h => absurd h (by decide), f8 := fun h => absurd h (by decide), f9 := fun h => absurd h (by decide), t := Nat.le_of_eq HNN.out.symm, sa := fun b h => h.elim, sb := fun b h => h.elim, d := fun b h => h.elim }⟩
  · rintro J a w3 ⟨hs, ht, SA, SB, v12, v13, v32, v33, v34, v35, v36, v37, v38, v39, rfl, y⟩ hall
    have hL := allL hs hall
    have hk := y.f3 (hL 3 (by decide))
    have hv := y.f7 (hL 7 (by decide))
    have e1 := (y.f8 (hL 8 (by decide))).1
    have e2 := (y.f9 (hL 9 (by decide))).1
    subst e1 e2
    obtain ⟨xa, xl, xc, rfl⟩ := hk.1.form
    obtain ⟨ya, yl, yc, rfl⟩ := hv.1.form
    have HX := Lib.hid hk.1
    have HY := Lib.hid hv.1
    have HXY := Lib.hid (show ∀ b, OwnOf (.slice xa xl xc) b → ¬ OwnOf (.slice ya yl yc) b from fun b h1 h2 => y.d b (hk.2 b h1) (hv.2 b h2))
    have HT3 := Lib.hid (HT2.out.trans ht)
    have HTN := Lib.hid ht
    have hbx := (ht.same B (lt_heap HBX.out) fun c => c).trans HBX.out
    have HBX3 := Lib.hid hbx
    have b0 : w3.cell? ⟨B, 0, none⟩ = some (.int .i64 kd) := by simp [World.cell?, hbx]
    have b1 : w3.cell? ⟨B, 1, none⟩ = some (.slice ka kl kc) := by simp [World.cell?, hbx]
    have b2 : w3.cell? ⟨B, 2, none⟩ = some (.slice va vl vc) := by simp [World.cell?, hbx]
    have HK3 := Lib.hid (HKW.out.keepN ht)
    have HV3 := Lib.hid (HVW.out.keepN ht)
    have HN3 := Lib.hid y.t
    clear y hL hall hs hk hv hbx
    go_wp2_with fail
    refine (HPR.out w3 HT3.out HK3.out HV3.out).mono ?_
    rintro e w4 ⟨a4, n4, c4, k4, rfl, ht4⟩
    have HT4 := Lib.hid (HT3.out.trans ht4)
    have HX4 := Lib.hid (HX.out.keep ht4 (fun _ _ c => c))
    have HY4 := Lib.hid (HY.out.keep ht4 (fun _ _ c => c))
    clear ht4 b0 b1 b2
    go_wp2_with fail
    refine (put_void (HVD.out.keepN HT4.out) _ _).mono ?_
    rintro e w5 ⟨rfl, rfl⟩
    have HS8X := Lib.hid (HX4.out.s8 (Nat.le_refl _) (by have := HKL.out; omega))
    have HS8Y := Lib.hid (HY4.out.s8 (Nat.le_refl _) (by have := HVL.out; omega))
    have HSP := Lib.hid (show Calls Try.prog 32 #[.slice xa xl xc, .int .u8 85] w4 _ from spoilS_any HS8X.out 85 (by decide))
    go_wp2_with fail
    refine HSP.out.mono ?_
    rintro e w6 ⟨rfl, hs6, ht6⟩
    have HSP2 := Lib.hid (show Calls Try.prog 32 #[.slice ya yl yc, .int .u8 170] w6 _ from spoilS_any (HS8Y.out.spl hs6) 170 (by decide))
    have HT6 := Lib.hid (show Touch Nil w w6 from HT4.out.trans' ht6 fun b hb hs => by have h1 := (HX.out.block b hs).1; have h2 := HNB.out; have h3 := HEB.out; omega)
    clear hs6 ht6 HSP
    go_wp2_with fail
    refine HSP2.out.mono ?_
    rintro e w7 ⟨rfl, hs7, ht7⟩
    have HT7 := Lib.hid (show Touch Nil w w7 from HT6.out.trans' ht7 fun b hb hs => by have h1 := (HY.out.block b hs).1; have h2 := HNB.out; have h3 := HEB.out; omega)
    clear hs7 ht7
    go_wp2_with fail
    go_ret2
    exact ⟨rfl, HT7.out⟩
  · rintro J a W i o ho ⟨hs, ht, SA, SB, v12, v13, v32, v33, v34, v35, v36, v37, v38, v39, rfl, y⟩ hl hd K hK
    have hi : i < 10 := (Array.getElem?_eq_some_iff.1 ho).1
    have hbx := (ht.same B (lt_heap HBX.out) fun c => c).trans HBX.out
    have b1 : W.cell? ⟨B, 1, none⟩ = some (.slice ka kl kc) := by simp [World.cell?, hbx]
    have b2 : W.cell? ⟨B, 2, none⟩ = some (.slice va vl vc) := by simp [World.cell?, hbx]
    have hN := y.t
    rcases (by omega : i = 0 ∨ i = 1 ∨ i = 2 ∨ i = 3 ∨ i = 4 ∨ i = 5 ∨ i = 6 ∨ i = 7 ∨ i = 8 ∨ i = 9) with rfl | rfl | rfl | rfl | rfl | rfl | rfl | rfl | rfl | rfl
    · obtain rfl := Option.some.inj (show some _ = some o from ho)
      go_simp
      have ta := (Touch.refl Nil W).alloc (.cells #[] 5)
      refine hK _ _ ⟨by simpa using hs, ht.trans ta, (fun b => SA b ∨ b = W.heap.size), SB, _, _, _, _, _, _, _, _, _, _, rfl, { f0 := fun _ _ => ⟨(own_new W).base hN, fun b hb => .inr (by simpa [OwnOf, Value.ownBlock] using hb)⟩, f1 := fun h => y.f1 (stp h (by decide)), f2 := fun h => y.f2 (stp h (by decide)), f3 := fun h => by have k := y.f3 (stp h (by decide)); exact (k.keepN ta).wide (fun _ h => .inl h), f4 := fun h h7 => by have k := y.f4 (stp h (by decide)) (mon' h7); exact k.keepN ta, f5 := fun h => y.f5 (stp h (by decide)), f6 := fun h => y.f6 (stp h (by decide)), f7 := fun h => by have k := y.f7 (stp h (by decide)); exact k.keepN ta, f8 := fun h => ⟨(y.f8 (stp h (by decide))).1, mon (y.f8 (stp h (by decide))).2⟩, f9 := fun h => ⟨(y.f9 (stp h (by decide))).1, mon (y.f9 (stp h (by decide))).2⟩, t := by rw [nblk_alloc]; omega, sa := fun b h => by rw [nblk_alloc]; rcases h with h | h; (have := y.sa b h; omega); (subst h; omega), sb := fun b h => by rw [nblk_alloc]; have := y.sb b h; omega, d := fun b h hb => by rcases h with h | h; (exact y.d b h hb); (subst h; have := y.sb _ hb; omega) }⟩
    · obtain rfl := Option.some.inj (show some _ = some o from ho)
      go_simp
      refine hK _ _ ⟨by simpa using hs, ht, SA, SB, _, _, _, _, _, _, _, _, _, _, rfl, { f0 := fun h h3 => by have k := y.f0 (stp h (by decide)) (mon' h3); exact k, f1 := fun _ => rfl, f2 := fun h => y.f2 (stp h (by decide)), f3 := fun h => by have k := y.f3 (stp h (by decide)); exact k, f4 := fun h h7 => by have k := y.f4 (stp h (by decide)) (mon' h7); exact k, f5 := fun h => y.f5 (stp h (by decide)), f6 := fun h => y.f6 (stp h (by decide)), f7 := fun h => by have k := y.f7 (stp h (by decide)); exact k, f8 := fun h => ⟨(y.f8 (stp h (by decide))).1, mon (y.f8 (stp h (by decide))).2⟩, f9 := fun h => ⟨(y.f9 (stp h (by decide))).1, mon (y.f9 (stp h (by decide))).2⟩, t := hN, sa := y.sa, sb := y.sb, d := y.d }⟩
    · obtain rfl := Option.some.inj (show some _ = some o from ho)
      have e := (y.f1 (hd ⟨1, .data⟩ (by simp) rfl)).symm
      subst e
      go_simp
      refine hK _ _ ⟨by simpa using hs, ht, SA, SB, _, _, _, _, _, _, _, _, _, _, rfl, { f0 := fun h h3 => by have k := y.f0 (stp h (by decide)) (mon' h3); exact k, f1 := fun h => y.f1 (stp h (by decide)), f2 := fun _ => rfl, f3 := fun h => by have k := y.f3 (stp h (by decide)); exact k, f4 := fun h h7 => by have k := y.f4 (stp h (by decide)) (mon' h7); exact k, f5 := fun h => y.f5 (stp h (by decide)), f6 := fun h => y.f6 (stp h (by decide)), f7 := fun h => by have k := y.f7 (stp h (by decide)); exact k, f8 := fun h => ⟨(y.f8 (stp h (by decide))).1, mon (y.f8 (stp h (by decide))).2⟩, f9 := fun h => ⟨(y.f9 (stp h (by decide))).1, mon (y.f9 (stp h (by decide))).2⟩, t := hN, sa := y.sa, sb := y.sb, d := y.d }⟩
    · obtain rfl := Option.some.inj (show some _ = some o from ho)
      have e := (y.f2 (hd ⟨2, .data⟩ (by simp) rfl)).symm
      subst e
      have ho := y.f0 (hd ⟨0, .data⟩ (by simp) rfl) (fun h => ngd hl h)
      rw [if_pos (by simp [Region.wanted])]
      refine opIn_append_bytes (.tmp 32) (.tmp 34) rfl v32 (.slice ka kl kc) key rfl ho.1 rfl (HKW.out.keepN ht) (by have := HKL.out; omega) hN ?_
      intro v' W' h1 h2 h3
      have hx : ∀ b, SB b → ¬ OwnOf v32 b := fun b hb hs => y.d b (ho.2 b hs) hb
      have tn : Touch Nil w2 W' := ht.trans' h2 fun b hb hs => by have h4 := y.sa b (ho.2 b hs); have := HNN.out; omega
      go_simp
      refine hK _ _ ⟨by simpa using hs, tn, (fun b => SA b ∨ (W.heap.size ≤ b ∧ b < W'.heap.size)), SB, _, _, _, _, _, _, _, _, _, _, rfl, { f0 := fun h hn => absurd (set_of (i := 3) (by rw [hs]; decide)) hn, f1 := fun h => y.f1 (stp h (by decide)), f2 := fun h => y.f2 (stp h (by decide)), f3 := fun _ => ⟨h1, fun b hb => (h3 b hb).elim (fun h => .inl (ho.2 b h)) fun h => .inr ⟨h, (h1.block b hb).2⟩⟩, f4 := fun h h7 => by have k := y.f4 (stp h (by decide)) (mon' h7); exact k.keep h2 hx, f5 := fun h => y.f5 (stp h (by decide)), f6 := fun h => y.f6 (stp h (by decide)), f7 := fun h => by have k := y.f7 (stp h (by decide)); exact k.keep h2 hx, f8 := fun h => (ngd hl (y.f8 (stp h (by decide))).2).elim, f9 := fun h => ⟨(y.f9 (stp h (by decide))).1, mon (y.f9 (stp h (by decide))).2⟩, t := Nat.le_trans hN h2.size, sa := fun b h => by have := h2.size; rcases h with h | h; (have := y.sa b h; omega); omega, sb := fun b h => by have := h2.size; have := y.sb b h; omega, d := fun b h hb => by rcases h with h | h; (exact y.d b h hb); (have := y.sb b hb; omega) }⟩
    · obtain rfl := Option.some.inj (show some _ = some o from ho)
      go_simp
      have ta := (Touch.refl Nil W).alloc (.cells #[] 5)
      refine hK _ _ ⟨by simpa using hs, ht.trans ta, SA, (fun b => SB b ∨ b = W.heap.size), _, _, _, _, _, _, _, _, _, _, rfl, { f0 := fun h h3 => by have k := y.f0 (stp h (by decide)) (mon' h3); exact k.keepN ta, f1 := fun h => y.f1 (stp h (by decide)), f2 := fun h => y.f2 (stp h (by decide)), f3 := fun h => by have k := y.f3 (stp h (by decide)); exact k.keepN ta, f4 := fun _ _ => ⟨(own_new W).base hN, fun b hb => .inr (by simpa [OwnOf, Value.ownBlock] using hb)⟩, f5 := fun h => y.f5 (stp h (by decide)), f6 := fun h => y.f6 (stp h (by decide)), f7 := fun h => by have k := y.f7 (stp h (by decide)); exact (k.keepN ta).wide (fun _ h => .inl h), f8 := fun h => ⟨(y.f8 (stp h (by decide))).1, mon (y.f8 (stp h (by decide))).2⟩, f9 := fun h => ⟨(y.f9 (stp h (by decide))).1, mon (y.f9 (stp h (by decide))).2⟩, t := by rw [nblk_alloc]; omega, sa := fun b h => by rw [nblk_alloc]; have := y.sa b h; omega, sb := fun b h => by rw [nblk_alloc]; rcases h with h | h; (have := y.sb b h; omega); (subst h; omega), d := fun b h hb => by rcases hb with hb | hb; (exact y.d b h hb); (subst hb; have := y.sa _ h; omega) }⟩
    · obtain rfl := Option.some.inj (show some _ = some o from ho)
      go_simp
      refine hK _ _ ⟨by simpa using hs, ht, SA, SB, _, _, _, _, _, _, _, _, _, _, rfl, { f0 := fun h h3 => by have k := y.f0 (stp h (by decide)) (mon' h3); exact k, f1 := fun h => y.f1 (stp h (by decide)), f2 := fun h => y.f2 (stp h (by decide)), f3 := fun h => by have k := y.f3 (stp h (by decide)); exact k, f4 := fun h h7 => by have k := y.f4 (stp h (by decide)) (mon' h7); exact k, f5 := fun _ => rfl, f6 := fun h => y.f6 (stp h (by decide)), f7 := fun h => by have k := y.f7 (stp h (by decide)); exact k, f8 := fun h => ⟨(y.f8 (stp h (by decide))).1, mon (y.f8 (stp h (by decide))).2⟩, f9 := fun h => ⟨(y.f9 (stp h (by decide))).1, mon (y.f9 (stp h (by decide))).2⟩, t := hN, sa := y.sa, sb := y.sb, d := y.d }⟩
    · obtain rfl := Option.some.inj (show some _ = some o from ho)
      have e := (y.f5 (hd ⟨5, .data⟩ (by simp) rfl)).symm
      subst e
      go_simp
      refine hK _ _ ⟨by simpa using hs, ht, SA, SB, _, _, _, _, _, _, _, _, _, _, rfl, { f0 := fun h h3 => by have k := y.f0 (stp h (by decide)) (mon' h3); exact k, f1 := fun h => y.f1 (stp h (by decide)), f2 := fun h => y.f2 (stp h (by decide)), f3 := fun h => by have k := y.f3 (stp h (by decide)); exact k, f4 := fun h h7 => by have k := y.f4 (stp h (by decide)) (mon' h7); exact k, f5 := fun h => y.f5 (stp h (by decide)), f6 := fun _ => rfl, f7 := fun h => by have k := y.f7 (stp h (by decide)); exact k, f8 := fun h => ⟨(y.f8 (stp h (by decide))).1, mon (y.f8 (stp h (by decide))).2⟩, f9 := fun h => ⟨(y.f9 (stp h (by decide))).1, mon (y.f9 (stp h (by decide))).2⟩, t := hN, sa := y.sa, sb := y.sb, d := y.d }⟩
    · obtain rfl := Option.some.inj (show some _ = some o from ho)
      have e := (y.f6 (hd ⟨6, .data⟩ (by simp) rfl)).symm
      subst e
      have ho := y.f4 (hd ⟨4, .data⟩ (by simp) rfl) (fun h => ngd hl h)
      rw [if_pos (by simp [Region.wanted])]
      refine opIn_append_bytes (.tmp 36) (.tmp 38) rfl v36 (.slice va vl vc) val rfl ho.1 rfl (HVW.out.keepN ht) (by have := HVL.out; omega) hN ?_
      intro v' W' h1 h2 h3
      have hx : ∀ b, SA b → ¬ OwnOf v36 b := fun b hb hs => y.d b hb (ho.2 b hs)
      have tn : Touch Nil w2 W' := ht.trans' h2 fun b hb hs => by have h4 := y.sb b (ho.2 b hs); have := HNN.out; omega
      go_simp
      refine hK _ _ ⟨by simpa using hs, tn, SA, (fun b => SB b ∨ (W.heap.size ≤ b ∧ b < W'.heap.size)), _, _, _, _, _, _, _, _, _, _, rfl, { f0 := fun h h3 => by have k := y.f0 (stp h (by decide)) (mon' h3); exact k.keep h2 hx, f1 := fun h => y.f1 (stp h (by decide)), f2 := fun h => y.f2 (stp h (by decide)), f3 := fun h => by have k := y.f3 (stp h (by decide)); exact k.keep h2 hx, f4 := fun h hn => absurd (set_of (i := 7) (by rw [hs]; decide)) hn, f5 := fun h => y.f5 (stp h (by decide)), f6 := fun h => y.f6 (stp h (by decide)), f7 := fun _ => ⟨h1, fun b hb => (h3 b hb).elim (fun h => .inl (ho.2 b h)) fun h => .inr ⟨h, (h1.block b hb).2⟩⟩, f8 := fun h => ⟨(y.f8 (stp h (by decide))).1, mon (y.f8 (stp h (by decide))).2⟩, f9 := fun h => (ngd hl (y.f9 (stp h (by decide))).2).elim, t := Nat.le_trans hN h2.size, sa := fun b h => by have := h2.size; have := y.sa b h; omega, sb := fun b h => by have := h2.size; rcases h with h | h; (have := y.sb b h; omega); omega, d := fun b h hb => by rcases hb with hb | hb; (exact y.d b h hb); (have := y.sa b h; omega) }⟩
    · obtain rfl := Option.some.inj (show some _ = some o from ho)
      go_simp
      refine hK _ _ ⟨by simpa using hs, ht, SA, SB, _, _, _, _, _, _, _, _, _, _, rfl, { f0 := fun h h3 => by have k := y.f0 (stp h (by decide)) (mon' h3); exact k, f1 := fun h => y.f1 (stp h (by decide)), f2 := fun h => y.f2 (stp h (by decide)), f3 := fun h => by have k := y.f3 (stp h (by decide)); exact k, f4 := fun h h7 => by have k := y.f4 (stp h (by decide)) (mon' h7); exact k, f5 := fun h => y.f5 (stp h (by decide)), f6 := fun h => y.f6 (stp h (by decide)), f7 := fun h => by have k := y.f7 (stp h (by decide)); exact k, f8 := fun _ => ⟨rfl, mon (hd ⟨3, .data⟩ (by simp) rfl)⟩, f9 := fun h => ⟨(y.f9 (stp h (by decide))).1, mon (y.f9 (stp h (by decide))).2⟩, t := hN, sa := y.sa, sb := y.sb, d := y.d }⟩
    · obtain rfl := Option.some.inj (show some _ = some o from ho)
      go_simp
      refine hK _ _ ⟨by simpa using hs, ht, SA, SB, _, _, _, _, _, _, _, _, _, _, rfl, { f0 := fun h h3 => by have k := y.f0 (stp h (by decide)) (mon' h3); exact k, f1 := fun h => y.f1 (stp h (by decide)), f2 := fun h => y.f2 (stp h (by decide)), f3 := fun h => by have k := y.f3 (stp h (by decide)); exact k, f4 := fun h h7 => by have k := y.f4 (stp h (by decide)) (mon' h7); exact k, f5 := fun h => y.f5 (stp h (by decide)), f6 := fun h => y.f6 (stp h (by decide)), f7 := fun h => by have k := y.f7 (stp h (by decide)); exact k, f8 := fun h => ⟨(y.f8 (stp h (by decide))).1, mon (y.f8 (stp h (by decide))).2⟩, f9 := fun _ => ⟨rfl, mon (hd ⟨7, .data⟩ (by simp) rfl)⟩, t := hN, sa := y.sa, sb := y.sb, d := y.d }⟩

set_option maxRecDepth 100000 in
set_option maxHeartbeats 8000000 in
theorem doesV1 {Z : Nat → Prop} {w : World} {p : Option Addr} {seed : Int} {la : Option Addr} {ln lc : Nat} {kd : Int} {ka va : Option Addr} {kl kc vl vc : Nat} {key val : Key} (hk : BV w (.slice ka kl kc) key) (hv : BV w (.slice va vl vc) val) (hkl : key.length ≤ 1200) (hvl : val.length ≤ 1200) (hvoid : Void w (.pointer p)) (hlz : LZ Z w (.slice la ln lc) ([] : KVs))  (hkd : kd.tmod 8 = 1) :
    Calls Try.prog 33 #[.pointer p, .int .u64 seed, .slice la ln lc, .agg #[.int .i64 kd, .slice ka kl kc, .slice va vl vc], .bool false] w (DoesV (.slice la ln lc) w) := by
  have HVD := Lib.hid hvoid
  have HLZ := Lib.hid hlz
  have HDR := Lib.hid (show ∀ w', Touch Nil w w' → BV w' (.slice ka kl kc) key → Calls Try.prog 60 #[.slice la ln lc, .slice ka kl kc] w' (AnyP w') from fun w' ht hk' =>
    (dropR_any (hlz.keepN ht) (by simp) okay_nil key _ hk' (by omega)).mono fun e w'' h => h.any)
  clear hvoid hlz
  have HK := Lib.hid hk
  have HV := Lib.hid hv
  have HKL := Lib.hid hkl
  have HVL := Lib.hid hvl
  clear hk hv hkl hvl
  go_enter Try.func33, Try.ntmps33
  go_wp2_with fail
  have hbx := heap_alloc_new w (.cells #[.int .i64 kd, .slice ka kl kc, .slice va vl vc] 48)
  have HT2 := Lib.hid ((Touch.refl Nil w).alloc (.cells #[.int .i64 kd, .slice ka kl kc, .slice va vl vc] 48))
  have HE : ∃ B, w.heap.size = B := ⟨_, rfl⟩
  obtain ⟨B, eB⟩ := HE
  rw [eB] at hbx ⊢
  have HEB := Lib.hid eB
  have HE : ∃ w2, w.alloc (.cells #[.int .i64 kd, .slice ka kl kc, .slice va vl vc] 48) = w2 := ⟨_, rfl⟩
  obtain ⟨w2, ew2⟩ := HE
  rw [ew2] at hbx HT2 ⊢
  have HE : ∃ N, w2.heap.size = N := ⟨_, rfl⟩
  obtain ⟨N, eN⟩ := HE
  have HNN := Lib.hid eN
  have HBX := Lib.hid hbx
  have HKW := Lib.hid (HK.out.keepN HT2.out)
  have HVW := Lib.hid (HV.out.keepN HT2.out)
  have HNB := Lib.hid (show N = B + 1 from by rw [← eN, ← ew2, nblk_alloc, eB])
  clear hbx ew2 eN eB
  refine (wpIn_wide (n := 7)).1 (region_inv (by kernel_rfl) (by kernel_rfl) (fun J a W => J.size = 10 ∧ Touch Nil w2 W ∧ ∃ SA SB v12 v13 v32 v33 v34 v35 v36 v37 v38 v39, a = { tmps := #[.pointer p, .int .u64 seed, .slice la ln lc, .agg #[.int .i64 kd, .slice ka kl kc, .slice va vl vc], .bool false, undef, undef, undef, .pointer (some ⟨B, 0, none⟩), undef, .slice none 0 0, .bool false, v12, v13, undef, undef, undef, undef, undef, undef, undef, undef, undef, undef, undef, undef, undef, undef, undef, undef, undef, undef, v32, v33, v34, v35, v36, v37, v38, v39, undef, undef, undef, undef, undef, undef, undef, undef, undef, undef, undef, undef, undef, undef, undef, undef, undef, undef, undef, undef, undef, undef, undef, undef, undef, undef, undef, undef, undef, undef, undef, undef, undef, undef, undef, undef, undef, undef, undef, undef, undef, undef, undef, undef, undef, undef, undef, undef, undef, undef, undef, undef, undef, undef, undef, undef, undef, undef, undef, undef, undef, undef, undef, undef, undef, undef, undef, undef, undef, undef, undef, undef, undef, undef, undef, undef, undef, undef, undef, undef, undef, undef, undef, undef, undef, undef, undef, undef, undef, undef, undef, undef, undef, undef, undef, undef, undef, undef, undef, undef, undef, undef, undef, undef, undef, undef, undef, undef, undef, undef, undef, undef, undef, undef, undef, undef, undef, undef, undef, undef, undef, undef, undef, undef, undef, undef, undef, undef, undef, undef, undef, undef, undef, undef, undef, undef, undef, undef, undef, undef, undef, undef, undef, undef, undef, undef, undef, undef, undef, undef, undef, undef, undef, undef, undef, undef, undef, undef], defers := [] } ∧ D1 N B key val (.slice ka kl kc) (.slice va vl vc) J W SA SB v12 v13 v32 v33 v34 v35 v36 v37 v38 v39) ?_ ?_ ?_)
  · exact ⟨rfl, (Touch.refl Nil w2).drew, fun _ => False, fun _ => False, undef, undef, undef, undef, undef, undef, undef, undef, undef, undef, rfl, { f0 := fun h _ => absurd h (by decide), f1 := fun h => absurd h (by decide), f2 := fun h => absurd h (by decide), f3 := fun h => absurd h (by decide), f4 := fun h _ => absurd h (by decide), f5 := fun h => absurd h (by decide), f6 := fun h => absurd h (by decide), f7 := fun h => absurd h (by decide), f8 := fun h => absurd h (by decide), f9 := fun h => absurd h (by decide), t := Nat.le_of_eq HNN.out.symm, sa := fun b h => h.elim, sb := fun b h => h.elim, d := fun b h => h.elim }⟩
  · rintro J a w3 ⟨hs, ht, SA, SB, v12, v13, v32, v33, v34, v35, v36, v37, v38, v39, rfl, y⟩ hall
    have hL := allL hs hall
    have hk := y.f3 (hL 3 (by decide))
    have hv := y.f7 (hL 7 (by decide))
    have e1 := (y.f8 (hL 8 (by decide))).1
    have e2 := (y.f9 (hL 9 (by decide))).1
    subst e1 e2
    obtain ⟨xa, xl, xc, rfl⟩ := hk.1.form
    obtain ⟨ya, yl, yc, rfl⟩ := hv.1.form
    have HX := Lib.hid hk.1
    have HY := Lib.hid hv.1
    have HXY := Lib.hid (show ∀ b, OwnOf (.slice xa xl xc) b → ¬ OwnOf (.slice ya yl yc) b from fun b h1 h2 => y.d b (hk.2 b h1) (hv.2 b h2))
    have HT3 := Lib.hid (HT2.out.trans ht)
    have HTN := Lib.hid ht
    have hbx := (ht.same B (lt_heap HBX.out) fun c => c).trans HBX.out
    have HBX3 := Lib.hid hbx
    have b0 : w3.cell? ⟨B, 0, none⟩ = some (.int .i64 kd) := by simp [World.cell?, hbx]
    have b1 : w3.cell? ⟨B, 1, none⟩ = some (.slice ka kl kc) := by simp [World.cell?, hbx]
    have b2 : w3.cell? ⟨B, 2, none⟩ = some (.slice va vl vc) := by simp [World.cell?, hbx]
    have HK3 := Lib.hid (HKW.out.keepN ht)
    have HV3 := Lib.hid (HVW.out.keepN ht)
    have HN3 := Lib.hid y.t
    clear y hL hall hs hk hv hbx
    go_wp2_with fail
    refine (HDR.out w3 HT3.out HK3.out).mono ?_
    rintro e w4 ⟨a4, n4, c4, k4, rfl, ht4⟩
    have HT4 := Lib.hid (HT3.out.trans ht4)
    clear ht4 b0 b1 b2
    go_wp2_with fail
    refine (drop_void (HVD.out.keepN HT4.out) _).mono ?_
    rintro e w5 ⟨rfl, rfl⟩
    go_wp2_with fail
    go_ret2
    exact ⟨rfl, HT4.out⟩
  · rintro J a W i o ho ⟨hs, ht, SA, SB, v12, v13, v32, v33, v34, v35, v36, v37, v38, v39, rfl, y⟩ hl hd K hK
    have hi : i < 10 := (Array.getElem?_eq_some_iff.1 ho).1
    have hbx := (ht.same B (lt_heap HBX.out) fun c => c).trans HBX.out
    have b1 : W.cell? ⟨B, 1, none⟩ = some (.slice ka kl kc) := by simp [World.cell?, hbx]
    have b2 : W.cell? ⟨B, 2, none⟩ = some (.slice va vl vc) := by simp [World.cell?, hbx]
    have hN := y.t
    rcases (by omega : i = 0 ∨ i = 1 ∨ i = 2 ∨ i = 3 ∨ i = 4 ∨ i = 5 ∨ i = 6 ∨ i = 7 ∨ i = 8 ∨ i = 9) with rfl | rfl | rfl | rfl | rfl | rfl | rfl | rfl | rfl | rfl
    · obtain rfl := Option.some.inj (show some _ = some o from ho)
      go_simp
      have ta := (Touch.refl Nil W).alloc (.cells #[] 5)
      refine hK _ _ ⟨by simpa using hs, ht.trans ta, (fun b => SA b ∨ b = W.heap.size), SB, _, _, _, _, _, _, _, _, _, _, rfl, { f0 := fun _ _ => ⟨(own_new W).base hN, fun b hb => .inr (by simpa [OwnOf, Value.ownBlock] using hb)⟩, f1 := fun h => y.f1 (stp h (by decide)), f2 := fun h => y.f2 (stp h (by decide)), f3 := fun h => by have k := y.f3 (stp h (by decide)); exact (k.keepN ta).wide (fun _ h => .inl h), f4 := fun h h7 => by have k := y.f4 (stp h (by decide)) (mon' h7); exact k.keepN ta, f5 := fun h => y.f5 (stp h (by decide)), f6 := fun h => y.f6 (stp h (by decide)), f7 := fun h => by have k := y.f7 (stp h (by decide)); exact k.keepN ta, f8 := fun h => ⟨(y.f8 (stp h (by decide))).1, mon (y.f8 (stp h (by decide))).2⟩, f9 := fun h => ⟨(y.f9 (stp h (by decide))).1, mon (y.f9 (stp h (by decide))).2⟩, t := by rw [nblk_alloc]; omega, sa := fun b h => by rw [nblk_alloc]; rcases h with h | h; (have := y.sa b h; omega); (subst h; omega), sb := fun b h => by rw [nblk_alloc]; have := y.sb b h; omega, d := fun b h hb => by rcases h with h | h; (exact y.d b h hb); (subst h; have := y.sb _ hb; omega) }⟩
    · obtain rfl := Option.some.inj (show some _ = some o from ho)
      go_simp
      refine hK _ _ ⟨by simpa using hs, ht, SA, SB, _, _, _, _, _, _, _, _, _, _, rfl, { f0 := fun h h3 => by have k := y.f0 (stp h (by decide)) (mon' h3); exact k, f1 := fun _ => rfl, f2 := fun h => y.f2 (stp h (by decide)), f3 := fun h => by have k := y.f3 (stp h (by decide)); exact k, f4 := fun h h7 => by have k := y.f4 (stp h (by decide)) (mon' h7); exact k, f5 := fun h => y.f5 (stp h (by decide)), f6 := fun h => y.f6 (stp h (by decide)), f7 := fun h => by have k := y.f7 (stp h (by decide)); exact k, f8 := fun h => ⟨(y.f8 (stp h (by decide))).1, mon (y.f8 (stp h (by decide))).2⟩, f9 := fun h => ⟨(y.f9 (stp h (by decide))).1, mon (y.f9 (stp h (by decide))).2⟩, t := hN, sa := y.sa, sb := y.sb, d := y.d }⟩
    · obtain rfl := Option.some.inj (show some _ = some o from ho)
      have e := (y.f1 (hd ⟨1, .data⟩ (by simp) rfl)).symm
      subst e
      go_simp
      refine hK _ _ ⟨by simpa using hs, ht, SA, SB, _, _, _, _, _, _, _, _, _, _, rfl, { f0 := fun h h3 => by have k := y.f0 (stp h (by decide)) (mon' h3); exact k, f1 := fun h => y.f1 (stp h (by decide)), f2 := fun _ => rfl, f3 := fun h => by have k := y.f3 (stp h (by decide)); exact k, f4 := fun h h7 => by have k := y.f4 (stp h (by decide)) (mon' h7); exact k, f5 := fun h => y.f5 (stp h (by decide)), f6 := fun h => y.f6 (stp h (by decide)), f7 := fun h => by have k := y.f7 (stp h (by decide)); exact k, f8 := fun h => ⟨(y.f8 (stp h (by decide))).1, mon (y.f8 (stp h (by decide))).2⟩, f9 := fun h => ⟨(y.f9 (stp h (by decide))).1, mon (y.f9 (stp h (by decide))).2⟩, t := hN, sa := y.sa, sb := y.sb, d := y.d }⟩
    · obtain rfl := Option.some.inj (show some _ = some o from ho)
      have e := (y.f2 (hd ⟨2, .data⟩ (by simp) rfl)).symm
      subst e
      have ho := y.f0 (hd ⟨0, .data⟩ (by simp) rfl) (fun h => ngd hl h)
      rw [if_pos (by simp [Region.wanted])]
      refine opIn_append_bytes (.tmp 32) (.tmp 34) rfl v32 (.slice ka kl kc) key rfl ho.1 rfl (HKW.out.keepN ht) (by have := HKL.out; omega) hN ?_
      intro v' W' h1 h2 h3
      have hx : ∀ b, SB b → ¬ OwnOf v32 b := fun b hb hs => y.d b (ho.2 b hs) hb
      have tn : Touch Nil w2 W' := ht.trans' h2 fun b hb hs => by have h4 := y.sa b (ho.2 b hs); have := HNN.out; omega
      go_simp
      refine hK _ _ ⟨by simpa using hs, tn, (fun b => SA b ∨ (W.heap.size ≤ b ∧ b < W'.heap.size)), SB, _, _, _, _, _, _, _, _, _, _, rfl, { f0 := fun h hn => absurd (set_of (i := 3) (by rw [hs]; decide)) hn, f1 := fun h => y.f1 (stp h (by decide)), f2 := fun h => y.f2 (stp h (by decide)), f3 := fun _ => ⟨h1, fun b hb => (h3 b hb).elim (fun h => .inl (ho.2 b h)) fun h => .inr ⟨h, (h1.block b hb).2⟩⟩, f4 := fun h h7 => by have k := y.f4 (stp h (by decide)) (mon' h7); exact k.keep h2 hx, f5 := fun h => y.f5 (stp h (by decide)), f6 := fun h => y.f6 (stp h (by decide)), f7 := fun h => by have k := y.f7 (stp h (by decide)); exact k.keep h2 hx, f8 := fun h => (ngd hl (y.f8 (stp h (by decide))).2).elim, f9 := fun h => ⟨(y.f9 (stp h (by decide))).1, mon (y.f9 (stp h (by decide))).2⟩, t := Nat.le_trans hN h2.size, sa := fun b h => by have := h2.size; rcases h with h | h; (have := y.sa b h; omega); omega, sb := fun b h => by have := h2.size; have := y.sb b h; omega, d := fun b h hb => by rcases h with h | h; (exact y.d b h hb); (have := y.sb b hb; omega) }⟩
    · obtain rfl := Option.some.inj (show some _ = some o from ho)
      go_simp
      have ta := (Touch.refl Nil W).alloc (.cells #[] 5)
      refine hK _ _ ⟨by simpa using hs, ht.trans ta, SA, (fun b => SB b ∨ b = W.heap.size), _, _, _, _, _, _, _, _, _, _, rfl, { f0 := fun h h3 => by have k := y.f0 (stp h (by decide)) (mon' h3); exact k.keepN ta, f1 := fun h => y.f1 (stp h (by decide)), f2 := fun h => y.f2 (stp h (by decide)), f3 := fun h => by have k := y.f3 (stp h (by decide)); exact k.keepN ta, f4 := fun _ _ => ⟨(own_new W).base hN, fun b hb => .inr (by simpa [OwnOf, Value.ownBlock] using hb)⟩, f5 := fun h => y.f5 (stp h (by decide)), f6 := fun h => y.f6 (stp h (by decide)), f7 := fun h => by have k := y.f7 (stp h (by decide)); exact (k.keepN ta).wide (fun _ h => .inl h), f8 := fun h => ⟨(y.f8 (stp h (by decide))).1, mon (y.f8 (stp h (by decide))).2⟩, f9 := fun h => ⟨(y.f9 (stp h (by decide))).1, mon (y.f9 (stp h (by decide))).2⟩, t := by rw [nblk_alloc]; omega, sa := fun b h => by rw [nblk_alloc]; have := y.sa b h; omega, sb := fun b h => by rw [nblk_alloc]; rcases h with h | h; (have := y.sb b h; omega); (subst h; omega), d := fun b h hb => by rcases hb with hb | hb; (exact y.d b h hb); (subst hb; have := y.sa _ h; omega) }⟩
    · obtain rfl := Option.some.inj (show some _ = some o from ho)
      go_simp
      refine hK _ _ ⟨by simpa using hs, ht, SA, SB, _, _, _, _, _, _, _, _, _, _, rfl, { f0 := fun h h3 => by have k := y.f0 (stp h (by decide)) (mon' h3); exact k, f1 := fun h => y.f1 (stp h (by decide)), f2 := fun h => y.f2 (stp h (by decide)), f3 := fun h => by have k := y.f3 (stp h (by decide)); exact k, f4 := fun h h7 => by have k := y.f4 (stp h (by decide)) (mon' h7); exact k, f5 := fun _ => rfl, f6 := fun h => y.f6 (stp h (by decide)), f7 := fun h => by have k := y.f7 (stp h (by decide)); exact k, f8 := fun h => ⟨(y.f8 (stp h (by decide))).1, mon (y.f8 (stp h (by decide))).2⟩, f9 := fun h => ⟨(y.f9 (stp h (by decide))).1, mon (y.f9 (stp h (by decide))).2⟩, t := hN, sa := y.sa, sb := y.sb, d := y.d }⟩
    · obtain rfl := Option.some.inj (show some _ = some o from ho)
      have e := (y.f5 (hd ⟨5, .data⟩ (by simp) rfl)).symm
      subst e
      go_simp
      refine hK _ _ ⟨by simpa using hs, ht, SA, SB, _, _, _, _, _, _, _, _, _, _, rfl, { f0 := fun h h3 => by have k := y.f0 (stp h (by decide)) (mon' h3); exact k, f1 := fun h => y.f1 (stp h (by decide)), f2 := fun h => y.f2 (stp h (by decide)), f3 := fun h => by have k := y.f3 (stp h (by decide)); exact k, f4 := fun h h7 => by have k := y.f4 (stp h (by decide)) (mon' h7); exact k, f5 := fun h => y.f5 (stp h (by decide)), f6 := fun _ => rfl, f7 := fun h => by have k := y.f7 (stp h (by decide)); exact k, f8 := fun h => ⟨(y.f8 (stp h (by decide))).1, mon (y.f8 (stp h (by decide))).2⟩, f9 := fun h => ⟨(y.f9 (stp h (by decide))).1, mon (y.f9 (stp h (by decide))).2⟩, t := hN, sa := y.sa, sb := y.sb, d := y.d }⟩
    · obtain rfl := Option.some.inj (show some _ = some o from ho)
      have e := (y.f6 (hd ⟨6, .data⟩ (by simp) rfl)).symm
      subst e
      have ho := y.f4 (hd ⟨4, .data⟩ (by simp) rfl) (fun h => ngd hl h)
      rw [if_pos (by simp [Region.wanted])]
      refine opIn_append_bytes (.tmp 36) (.tmp 38) rfl v36 (.slice va vl vc) val rfl ho.1 rfl (HVW.out.keepN ht) (by have := HVL.out; omega) hN ?_
      intro v' W' h1 h2 h3
      have hx : ∀ b, SA b → ¬ OwnOf v36 b := fun b hb hs => y.d b hb (ho.2 b hs)
      have tn : Touch Nil w2 W' := ht.trans' h2 fun b hb hs => by have h4 := y.sb b (ho.2 b hs); have := HNN.out; omega
      go_simp
      refine hK _ _ ⟨by simpa using hs, tn, SA, (fun b => SB b ∨ (W.heap.size ≤ b ∧ b < W'.heap.size)), _, _, _, _, _, _, _, _, _, _, rfl, { f0 := fun h h3 => by have k := y.f0 (stp h (by decide)) (mon' h3); exact k.keep h2 hx, f1 := fun h => y.f1 (stp h (by decide)), f2 := fun h => y.f2 (stp h (by decide)), f3 := fun h => by have k := y.f3 (stp h (by decide)); exact k.keep h2 hx, f4 := fun h hn => absurd (set_of (i := 7) (by rw [hs]; decide)) hn, f5 := fun h => y.f5 (stp h (by decide)), f6 := fun h => y.f6 (stp h (by decide)), f7 := fun _ => ⟨h1, fun b hb => (h3 b hb).elim (fun h => .inl (ho.2 b h)) fun h => .inr ⟨h, (h1.block b hb).2⟩⟩, f8 := fun h => ⟨(y.f8 (stp h (by decide))).1, mon (y.f8 (stp h (by decide))).2⟩, f9 := fun h => (ngd hl (y.f9 (stp h (by decide))).2).elim, t := Nat.le_trans hN h2.size, sa := fun b h => by have := h2.size; have := y.sa b h; omega, sb := fun b h => by have := h2.size; rcases h with h | h; (have := y.sb b h; omega); omega, d := fun b h hb => by rcases hb with hb | hb; (exact y.d b h hb); (have := y.sa b h; omega) }⟩
    · obtain rfl := Option.some.inj (show some _ = some o from ho)
      go_simp
      refine hK _ _ ⟨by simpa using hs, ht, SA, SB, _, _, _, _, _, _, _, _, _, _, rfl, { f0 := fun h h3 => by have k := y.f0 (stp h (by decide)) (mon' h3); exact k, f1 := fun h => y.f1 (stp h (by decide)), f2 := fun h => y.f2 (stp h (by decide)), f3 := fun h => by have k := y.f3 (stp h (by decide)); exact k, f4 := fun h h7 => by have k := y.f4 (stp h (by decide)) (mon' h7); exact k, f5 := fun h => y.f5 (stp h (by decide)), f6 := fun h => y.f6 (stp h (by decide)), f7 := fun h => by have k := y.f7 (stp h (by decide)); exact k, f8 := fun _ => ⟨rfl, mon (hd ⟨3, .data⟩ (by simp) rfl)⟩, f9 := fun h => ⟨(y.f9 (stp h (by decide))).1, mon (y.f9 (stp h (by decide))).2⟩, t := hN, sa := y.sa, sb := y.sb, d := y.d }⟩
    · obtain rfl := Option.some.inj (show some _ = some o from ho)
      go_simp
      refine hK _ _ ⟨by simpa using hs, ht, SA, SB, _, _, _, _, _, _, _, _, _, _, rfl, { f0 := fun h h3 => by have k := y.f0 (stp h (by decide)) (mon' h3); exact k, f1 := fun h => y.f1 (stp h (by decide)), f2 := fun h => y.f2 (stp h (by decide)), f3 := fun h => by have k := y.f3 (stp h (by decide)); exact k, f4 := fun h h7 => by have k := y.f4 (stp h (by decide)) (mon' h7); exact k, f5 := fun h => y.f5 (stp h (by decide)), f6 := fun h => y.f6 (stp h (by decide)), f7 := fun h => by have k := y.f7 (stp h (by decide)); exact k, f8 := fun h => ⟨(y.f8 (stp h (by decide))).1, mon (y.f8 (stp h (by decide))).2⟩, f9 := fun _ => ⟨rfl, mon (hd ⟨7, .data⟩ (by simp) rfl)⟩, t := hN, sa := y.sa, sb := y.sb, d := y.d }⟩

set_option maxRecDepth 100000 in
set_option maxHeartbeats 8000000 in
theorem doesV2 {Z : Nat → Prop} {w : World} {p : Option Addr} {seed : Int} {la : Option Addr} {ln lc : Nat} {kd : Int} {ka va : Option Addr} {kl kc vl vc : Nat} {key val : Key} (hk : BV w (.slice ka kl kc) key) (hv : BV w (.slice va vl vc) val) (hkl : key.length ≤ 1200) (hvl : val.length ≤ 1200) (hvoid : Void w (.pointer p)) (hlz : LZ Z w (.slice la ln lc) ([] : KVs))  (hkd : kd.tmod 8 = 2) :
    Calls Try.prog 33 #[.pointer p, .int .u64 seed, .slice la ln lc, .agg #[.int .i64 kd, .slice ka kl kc, .slice va vl vc], .bool false] w (DoesV (.slice la ln lc) w) := by
  have HVD := Lib.hid hvoid
  have HLZ := Lib.hid hlz
  clear hvoid hlz
  have HK := Lib.hid hk
  have HV := Lib.hid hv
  have HKL := Lib.hid hkl
  have HVL := Lib.hid hvl
  clear hk hv hkl hvl
  go_enter Try.func33, Try.ntmps33
  go_wp2_with fail
  have hbx := heap_alloc_new w (.cells #[.int .i64 kd, .slice ka kl kc, .slice va vl vc] 48)
  have HT2 := Lib.hid ((Touch.refl Nil w).alloc (.cells #[.int .i64 kd, .slice ka kl kc, .slice va vl vc] 48))
  have HE : ∃ B, w.heap.size = B := ⟨_, rfl⟩
  obtain ⟨B, eB⟩ := HE
  rw [eB] at hbx ⊢
  have HEB := Lib.hid eB
  have HE : ∃ w2, w.alloc (.cells #[.int .i64 kd, .slice ka kl kc, .slice va vl vc] 48) = w2 := ⟨_, rfl⟩
  obtain ⟨w2, ew2⟩ := HE
  rw [ew2] at hbx HT2 ⊢
  have HE : ∃ N, w2.heap.size = N := ⟨_, rfl⟩
  obtain ⟨N, eN⟩ := HE
  have HNN := Lib.hid eN
  have HBX := Lib.hid hbx
  have HKW := Lib.hid (HK.out.keepN HT2.out)
  have HVW := Lib.hid (HV.out.keepN HT2.out)
  have HNB := Lib.hid (show N = B + 1 from by rw [← eN, ← ew2, nblk_alloc, eB])
  clear hbx ew2 eN eB
  refine (wpIn_wide (n := 7)).1 (region_inv (by kernel_rfl) (by kernel_rfl) (fun J a W => J.size = 10 ∧ Touch Nil w2 W ∧ ∃ SA SB v12 v13 v32 v33 v34 v35 v36 v37 v38 v39, a = { tmps := #[.pointer p, .int .u64 seed, .slice la ln lc, .agg #[.int .i64 kd, .slice ka kl kc, .slice va vl vc], .bool false, undef, undef, undef, .pointer (some ⟨B, 0, none⟩), undef, .slice none 0 0, .bool false, v12, v13, undef, undef, undef, undef, undef, undef, undef, undef, undef, undef, undef, undef, undef, undef, undef, undef, undef, undef, v32, v33, v34, v35, v36, v37, v38, v39, undef, undef, undef, undef, undef, undef, undef, undef, undef, undef, undef, undef, undef, undef, undef, undef, undef, undef, undef, undef, undef, undef, undef, undef, undef, undef, undef, undef, undef, undef, undef, undef, undef, undef, undef, undef, undef, undef, undef, undef, undef, undef, undef, undef, undef, undef, undef, undef, undef, undef, undef, undef, undef, undef, undef, undef, undef, undef, undef, undef, undef, undef, undef, undef, undef, undef, undef, undef, undef, undef, undef, undef, undef, undef, undef, undef, undef, undef, undef, undef, undef, undef, undef, undef, undef, undef, undef, undef, undef, undef, undef, undef, undef, undef, undef, undef, undef, undef, undef, undef, undef, undef, undef, undef, undef, undef, undef, undef, undef, undef, undef, undef, undef, undef, undef, undef, undef, undef, undef, undef, undef, undef, undef, undef, undef, undef, undef, undef, undef, undef, undef, undef, undef, undef, undef, undef, undef, undef, undef, undef, undef, undef, undef, undef, undef, undef, undef, undef, undef, undef, undef, undef, undef, undef, undef, undef, undef, undef], defers := [] } ∧ D1 N B key val (.slice ka kl kc) (.slice va vl vc) J W SA SB v12 v13 v32 v33 v34 v35 v36 v37 v38 v39) ?_ ?_ ?_)
  · exact ⟨rfl, (Touch.refl Nil w2).drew, fun _ => False, fun _ => False, undef, undef, undef, undef, undef, undef, undef, undef, undef, undef, rfl, { f0 := fun h _ => absurd h (by decide), f1 := fun h => absurd h (by decide), f2 := fun h => absurd h (by decide), f3 := fun h => absurd h (by decide), f4 := fun h _ => absurd h (by decide), f5 := fun h => absurd h (by decide), f6 := fun h => absurd h (by decide), f7 := fun h => absurd h (by decide), f8 := fun h => absurd h (by decide), f9 := fun h => absurd h (by decide), t := Nat.le_of_eq HNN.out.symm, sa := fun b h => h.elim, sb := fun b h => h.elim, d := fun b h => h.elim }⟩
  · rintro J a w3 ⟨hs, ht, SA, SB, v12, v13, v32, v33, v34, v35, v36, v37, v38, v39, rfl, y⟩ hall
    have hL := allL hs hall
    have hk := y.f3 (hL 3 (by decide))
    have hv := y.f7 (hL 7 (by decide))
    have e1 := (y.f8 (hL 8 (by decide))).1
    have e2 := (y.f9 (hL 9 (by decide))).1
    subst e1 e2
    obtain ⟨xa, xl, xc, rfl⟩ := hk.1.form
    obtain ⟨ya, yl, yc, rfl⟩ := hv.1.form
    have HX := Lib.hid hk.1
    have HY := Lib.hid hv.1
    have HXY := Lib.hid (show ∀ b, OwnOf (.slice xa xl xc) b → ¬ OwnOf (.slice ya yl yc) b from fun b h1 h2 => y.d b (hk.2 b h1) (hv.2 b h2))
    have HT3 := Lib.hid (HT2.out.trans ht)
    have HTN := Lib.hid ht
    have hbx := (ht.same B (lt_heap HBX.out) fun c => c).trans HBX.out
    have HBX3 := Lib.hid hbx
    have b0 : w3.cell? ⟨B, 0, none⟩ = some (.int .i64 kd) := by simp [World.cell?, hbx]
    have b1 : w3.cell? ⟨B, 1, none⟩ = some (.slice ka kl kc) := by simp [World.cell?, hbx]
    have b2 : w3.cell? ⟨B, 2, none⟩ = some (.slice va vl vc) := by simp [World.cell?, hbx]
    have HK3 := Lib.hid (HKW.out.keepN ht)
    have HV3 := Lib.hid (HVW.out.keepN ht)
    have HN3 := Lib.hid y.t
    clear y hL hall hs hk hv hbx
    go_wp2_with fail
    refine (getR_any (HLZ.out.keepN HT3.out).pz (by simp) okay_nil key _ HK3.out (by have := HKL.out; omega)).mono ?_
    rintro e w4 ⟨hn4, _, ht4⟩
    obtain rfl := hn4 rfl
    have HT4 := Lib.hid (HT3.out.trans ht4)
    clear ht4 hn4 b0 b1 b2
    go_wp2_with fail
    refine (get_void (HVD.out.keepN HT4.out) _).mono ?_
    rintro e w5 ⟨rfl, rfl⟩
    have HSM := Lib.hid (sameB_true (BV.nil w4) (BV.nil w4) (by simp))
    go_wp2_with fail
    refine HSM.out.mono ?_
    rintro e w6 ⟨rfl, ht6⟩
    have HT6 := Lib.hid (HT4.out.trans ht6)
    have HSP := Lib.hid (show Calls Try.prog 32 #[.slice none 0 0, .int .u8 255] w6 _ from spoilS_any (S8.nil 0 w6) 255 (by decide))
    clear ht6 HSM
    go_wp2_with fail
    refine HSP.out.mono ?_
    rintro e w7 ⟨rfl, hs7, ht7⟩
    have HT7 := Lib.hid (show Touch Nil w w7 from HT6.out.trans' ht7 fun b hb hs => by cases hs)
    clear hs7 ht7
    go_wp2_with fail
    go_ret2
    exact ⟨rfl, HT7.out⟩
  · rintro J a W i o ho ⟨hs, ht, SA, SB, v12, v13, v32, v33, v34, v35, v36, v37, v38, v39, rfl, y⟩ hl hd K hK
    have hi : i < 10 := (Array.getElem?_eq_some_iff.1 ho).1
    have hbx := (ht.same B (lt_heap HBX.out) fun c => c).trans HBX.out
    have b1 : W.cell? ⟨B, 1, none⟩ = some (.slice ka kl kc) := by simp [World.cell?, hbx]
    have b2 : W.cell? ⟨B, 2, none⟩ = some (.slice va vl vc) := by simp [World.cell?, hbx]
    have hN := y.t
    rcases (by omega : i = 0 ∨ i = 1 ∨ i = 2 ∨ i = 3 ∨ i = 4 ∨ i = 5 ∨ i = 6 ∨ i = 7 ∨ i = 8 ∨ i = 9) with rfl | rfl | rfl | rfl | rfl | rfl | rfl | rfl | rfl | rfl
    · obtain rfl := Option.some.inj (show some _ = some o from ho)
      go_simp
      have ta := (Touch.refl Nil W).alloc (.cells #[] 5)
      refine hK _ _ ⟨by simpa using hs, ht.trans ta, (fun b => SA b ∨ b = W.heap.size), SB, _, _, _, _, _, _, _, _, _, _, rfl, { f0 := fun _ _ => ⟨(own_new W).base hN, fun b hb => .inr (by simpa [OwnOf, Value.ownBlock] using hb)⟩, f1 := fun h => y.f1 (stp h (by decide)), f2 := fun h => y.f2 (stp h (by decide)), f3 := fun h => by have k := y.f3 (stp h (by decide)); exact (k.keepN ta).wide (fun _ h => .inl h), f4 := fun h h7 => by have k := y.f4 (stp h (by decide)) (mon' h7); exact k.keepN ta, f5 := fun h => y.f5 (stp h (by decide)), f6 := fun h => y.f6 (stp h (by decide)), f7 := fun h => by have k := y.f7 (stp h (by decide)); exact k.keepN ta, f8 := fun h => ⟨(y.f8 (stp h (by decide))).1, mon (y.f8 (stp h (by decide))).2⟩, f9 := fun h => ⟨(y.f9 (stp h (by decide))).1, mon (y.f9 (stp h (by decide))).2⟩, t := by rw [nblk_alloc]; omega, sa := fun b h => by rw [nblk_alloc]; rcases h with h | h; (have := y.sa b h; omega); (subst h; omega), sb := fun b h => by rw [nblk_alloc]; have := y.sb b h; omega, d := fun b h hb => by rcases h with h | h; (exact y.d b h hb); (subst h; have := y.sb _ hb; omega) }⟩
    · obtain rfl := Option.some.inj (show some _ = some o from ho)
      go_simp
      refine hK _ _ ⟨by simpa using hs, ht, SA, SB, _, _, _, _, _, _, _, _, _, _, rfl, { f0 := fun h h3 => by have k := y.f0 (stp h (by decide)) (mon' h3); exact k, f1 := fun _ => rfl, f2 := fun h => y.f2 (stp h (by decide)), f3 := fun h => by have k := y.f3 (stp h (by decide)); exact k, f4 := fun h h7 => by have k := y.f4 (stp h (by decide)) (mon' h7); exact k, f5 := fun h => y.f5 (stp h (by decide)), f6 := fun h => y.f6 (stp h (by decide)), f7 := fun h => by have k := y.f7 (stp h (by decide)); exact k, f8 := fun h => ⟨(y.f8 (stp h (by decide))).1, mon (y.f8 (stp h (by decide))).2⟩, f9 := fun h => ⟨(y.f9 (stp h (by decide))).1, mon (y.f9 (stp h (by decide))).2⟩, t := hN, sa := y.sa, sb := y.sb, d := y.d }⟩
    · obtain rfl := Option.some.inj (show some _ = some o from ho)
      have e := (y.f1 (hd ⟨1, .data⟩ (by simp) rfl)).symm
      subst e
      go_simp
      refine hK _ _ ⟨by simpa using hs, ht, SA, SB, _, _, _, _, _, _, _, _, _, _, rfl, { f0 := fun h h3 => by have k := y.f0 (stp h (by decide)) (mon' h3); exact k, f1 := fun h => y.f1 (stp h (by decide)), f2 := fun _ => rfl, f3 := fun h => by have k := y.f3 (stp h (by decide)); exact k, f4 := fun h h7 => by have k := y.f4 (stp h (by decide)) (mon' h7); exact k, f5 := fun h => y.f5 (stp h (by decide)), f6 := fun h => y.f6 (stp h (by decide)), f7 := fun h => by have k := y.f7 (stp h (by decide)); exact k, f8 := fun h => ⟨(y.f8 (stp h (by decide))).1, mon (y.f8 (stp h (by decide))).2⟩, f9 := fun h => ⟨(y.f9 (stp h (by decide))).1, mon (y.f9 (stp h (by decide))).2⟩, t := hN, sa := y.sa, sb := y.sb, d := y.d }⟩
    · obtain rfl := Option.some.inj (show some _ = some o from ho)
      have e := (y.f2 (hd ⟨2, .data⟩ (by simp) rfl)).symm
      subst e
      have ho := y.f0 (hd ⟨0, .data⟩ (by simp) rfl) (fun h => ngd hl h)
      rw [if_pos (by simp [Region.wanted])]
      refine opIn_append_bytes (.tmp 32) (.tmp 34) rfl v32 (.slice ka kl kc) key rfl ho.1 rfl (HKW.out.keepN ht) (by have := HKL.out; omega) hN ?_
      intro v' W' h1 h2 h3
      have hx : ∀ b, SB b → ¬ OwnOf v32 b := fun b hb hs => y.d b (ho.2 b hs) hb
      have tn : Touch Nil w2 W' := ht.trans' h2 fun b hb hs => by have h4 := y.sa b (ho.2 b hs); have := HNN.out; omega
      go_simp
      refine hK _ _ ⟨by simpa using hs, tn, (fun b => SA b ∨ (W.heap.size ≤ b ∧ b < W'.heap.size)), SB, _, _, _, _, _, _, _, _, _, _, rfl, { f0 := fun h hn => absurd (set_of (i := 3) (by rw [hs]; decide)) hn, f1 := fun h => y.f1 (stp h (by decide)), f2 := fun h => y.f2 (stp h (by decide)), f3 := fun _ => ⟨h1, fun b hb => (h3 b hb).elim (fun h => .inl (ho.2 b h)) fun h => .inr ⟨h, (h1.block b hb).2⟩⟩, f4 := fun h h7 => by have k := y.f4 (stp h (by decide)) (mon' h7); exact k.keep h2 hx, f5 := fun h => y.f5 (stp h (by decide)), f6 := fun h => y.f6 (stp h (by decide)), f7 := fun h => by have k := y.f7 (stp h (by decide)); exact k.keep h2 hx, f8 := fun h => (ngd hl (y.f8 (stp h (by decide))).2).elim, f9 := fun h => ⟨(y.f9 (stp h (by decide))).1, mon (y.f9 (stp h (by decide))).2⟩, t := Nat.le_trans hN h2.size, sa := fun b h => by have := h2.size; rcases h with h | h; (have := y.sa b h; omega); omega, sb := fun b h => by have := h2.size; have := y.sb b h; omega, d := fun b h hb => by rcases h with h | h; (exact y.d b h hb); (have := y.sb b hb; omega) }⟩
    · obtain rfl := Option.some.inj (show some _ = some o from ho)
      go_simp
      have ta := (Touch.refl Nil W).alloc (.cells #[] 5)
      refine hK _ _ ⟨by simpa using hs, ht.trans ta, SA, (fun b => SB b ∨ b = W.heap.size), _, _, _, _, _, _, _, _, _, _, rfl, { f0 := fun h h3 => by have k := y.f0 (stp h (by decide)) (mon' h3); exact k.keepN ta, f1 := fun h => y.f1 (stp h (by decide)), f2 := fun h => y.f2 (stp h (by decide)), f3 := fun h => by have k := y.f3 (stp h (by decide)); exact k.keepN ta, f4 := fun _ _ => ⟨(own_new W).base hN, fun b hb => .inr (by simpa [OwnOf, Value.ownBlock] using hb)⟩, f5 := fun h => y.f5 (stp h (by decide)), f6 := fun h => y.f6 (stp h (by decide)), f7 := fun h => by have k := y.f7 (stp h (by decide)); exact (k.keepN ta).wide (fun _ h => .inl h), f8 := fun h => ⟨(y.f8 (stp h (by decide))).1, mon (y.f8 (stp h (by decide))).2⟩, f9 := fun h => ⟨(y.f9 (stp h (by decide))).1, mon (y.f9 (stp h (by decide))).2⟩, t := by rw [nblk_alloc]; omega, sa := fun b h => by rw [nblk_alloc]; have := y.sa b h; omega, sb := fun b h => by rw [nblk_alloc]; rcases h with h | h; (have := y.sb b h; omega); (subst h; omega), d := fun b h hb => by rcases hb with hb | hb; (exact y.d b h hb); (subst hb; have := y.sa _ h; omega) }⟩
    · obtain rfl := Option.some.inj (show some _ = some o from ho)
      go_simp
      refine hK _ _ ⟨by simpa using hs, ht, SA, SB, _, _, _, _, _, _, _, _, _, _, rfl, { f0 := fun h h3 => by have k := y.f0 (stp h (by decide)) (mon' h3); exact k, f1 := fun h => y.f1 (stp h (by decide)), f2 := fun h => y.f2 (stp h (by decide)), f3 := fun h => by have k := y.f3 (stp h (by decide)); exact k, f4 := fun h h7 => by have k := y.f4 (stp h (by decide)) (mon' h7); exact k, f5 := fun _ => rfl, f6 := fun h => y.f6 (stp h (by decide)), f7 := fun h => by have k := y.f7 (stp h (by decide)); exact k, f8 := fun h => ⟨(y.f8 (stp h (by decide))).1, mon (y.f8 (stp h (by decide))).2⟩, f9 := fun h => ⟨(y.f9 (stp h (by decide))).1, mon (y.f9 (stp h (by decide))).2⟩, t := hN, sa := y.sa, sb := y.sb, d := y.d }⟩
    · obtain rfl := Option.some.inj (show some _ = some o from ho)
      have e := (y.f5 (hd ⟨5, .data⟩ (by simp) rfl)).symm
      subst e
      go_simp
      refine hK _ _ ⟨by simpa using hs, ht, SA, SB, _, _, _, _, _, _, _, _, _, _, rfl, { f0 := fun h h3 => by have k := y.f0 (stp h (by decide)) (mon' h3); exact k, f1 := fun h => y.f1 (stp h (by decide)), f2 := fun h => y.f2 (stp h (by decide)), f3 := fun h => by have k := y.f3 (stp h (by decide)); exact k, f4 := fun h h7 => by have k := y.f4 (stp h (by decide)) (mon' h7); exact k, f5 := fun h => y.f5 (stp h (by decide)), f6 := fun _ => rfl, f7 := fun h => by have k := y.f7 (stp h (by decide)); exact k, f8 := fun h => ⟨(y.f8 (stp h (by decide))).1, mon (y.f8 (stp h (by decide))).2⟩, f9 := fun h => ⟨(y.f9 (stp h (by decide))).1, mon (y.f9 (stp h (by decide))).2⟩, t := hN, sa := y.sa, sb := y.sb, d := y.d }⟩
    · obtain rfl := Option.some.inj (show some _ = some o from ho)
      have e := (y.f6 (hd ⟨6, .data⟩ (by simp) rfl)).symm
      subst e
      have ho := y.f4 (hd ⟨4, .data⟩ (by simp) rfl) (fun h => ngd hl h)
      rw [if_pos (by simp [Region.wanted])]
      refine opIn_append_bytes (.tmp 36) (.tmp 38) rfl v36 (.slice va vl vc) val rfl ho.1 rfl (HVW.out.keepN ht) (by have := HVL.out; omega) hN ?_
      intro v' W' h1 h2 h3
      have hx : ∀ b, SA b → ¬ OwnOf v36 b := fun b hb hs => y.d b hb (ho.2 b hs)
      have tn : Touch Nil w2 W' := ht.trans' h2 fun b hb hs => by have h4 := y.sb b (ho.2 b hs); have := HNN.out; omega
      go_simp
      refine hK _ _ ⟨by simpa using hs, tn, SA, (fun b => SB b ∨ (W.heap.size ≤ b ∧ b < W'.heap.size)), _, _, _, _, _, _, _, _, _, _, rfl, { f0 := fun h h3 => by have k := y.f0 (stp h (by decide)) (mon' h3); exact k.keep h2 hx, f1 := fun h => y.f1 (stp h (by decide)), f2 := fun h => y.f2 (stp h (by decide)), f3 := fun h => by have k := y.f3 (stp h (by decide)); exact k.keep h2 hx, f4 := fun h hn => absurd (set_of (i := 7) (by rw [hs]; decide)) hn, f5 := fun h => y.f5 (stp h (by decide)), f6 := fun h => y.f6 (stp h (by decide)), f7 := fun _ => ⟨h1, fun b hb => (h3 b hb).elim (fun h => .inl (ho.2 b h)) fun h => .inr ⟨h, (h1.block b hb).2⟩⟩, f8 := fun h => ⟨(y.f8 (stp h (by decide))).1, mon (y.f8 (stp h (by decide))).2⟩, f9 := fun h => (ngd hl (y.f9 (stp h (by decide))).2).elim, t := Nat.le_trans hN h2.size, sa := fun b h => by have := h2.size; have := y.sa b h; omega, sb := fun b h => by have := h2.size; rcases h with h | h; (have := y.sb b h; omega); omega, d := fun b h hb => by rcases hb with hb | hb; (exact y.d b h hb); (have := y.sa b h; omega) }⟩
    · obtain rfl := Option.some.inj (show some _ = some o from ho)
      go_simp
      refine hK _ _ ⟨by simpa using hs, ht, SA, SB, _, _, _, _, _, _, _, _, _, _, rfl, { f0 := fun h h3 => by have k := y.f0 (stp h (by decide)) (mon' h3); exact k, f1 := fun h => y.f1 (stp h (by decide)), f2 := fun h => y.f2 (stp h (by decide)), f3 := fun h => by have k := y.f3 (stp h (by decide)); exact k, f4 := fun h h7 => by have k := y.f4 (stp h (by decide)) (mon' h7); exact k, f5 := fun h => y.f5 (stp h (by decide)), f6 := fun h => y.f6 (stp h (by decide)), f7 := fun h => by have k := y.f7 (stp h (by decide)); exact k, f8 := fun _ => ⟨rfl, mon (hd ⟨3, .data⟩ (by simp) rfl)⟩, f9 := fun h => ⟨(y.f9 (stp h (by decide))).1, mon (y.f9 (stp h (by decide))).2⟩, t := hN, sa := y.sa, sb := y.sb, d := y.d }⟩
    · obtain rfl := Option.some.inj (show some _ = some o from ho)
      go_simp
      refine hK _ _ ⟨by simpa using hs, ht, SA, SB, _, _, _, _, _, _, _, _, _, _, rfl, { f0 := fun h h3 => by have k := y.f0 (stp h (by decide)) (mon' h3); exact k, f1 := fun h => y.f1 (stp h (by decide)), f2 := fun h => y.f2 (stp h (by decide)), f3 := fun h => by have k := y.f3 (stp h (by decide)); exact k, f4 := fun h h7 => by have k := y.f4 (stp h (by decide)) (mon' h7); exact k, f5 := fun h => y.f5 (stp h (by decide)), f6 := fun h => y.f6 (stp h (by decide)), f7 := fun h => by have k := y.f7 (stp h (by decide)); exact k, f8 := fun h => ⟨(y.f8 (stp h (by decide))).1, mon (y.f8 (stp h (by decide))).2⟩, f9 := fun _ => ⟨rfl, mon (hd ⟨7, .data⟩ (by simp) rfl)⟩, t := hN, sa := y.sa, sb := y.sb, d := y.d }⟩

set_option maxRecDepth 100000 in
set_option maxHeartbeats 8000000 in
theorem doesV4 {Z : Nat → Prop} {w : World} {p : Option Addr} {seed : Int} {la : Option Addr} {ln lc : Nat} {kd : Int} {ka va : Option Addr} {kl kc vl vc : Nat} {key val : Key} (hk : BV w (.slice ka kl kc) key) (hv : BV w (.slice va vl vc) val) (hkl : key.length ≤ 1200) (hvl : val.length ≤ 1200) (hvoid : Void w (.pointer p)) (hlz : LZ Z w (.slice la ln lc) ([] : KVs))  (hkd : kd.tmod 8 = 4) :
    Calls Try.prog 33 #[.pointer p, .int .u64 seed, .slice la ln lc, .agg #[.int .i64 kd, .slice ka kl kc, .slice va vl vc], .bool false] w (DoesV (.slice la ln lc) w) := by
  have HVD := Lib.hid hvoid
  have HLZ := Lib.hid hlz
  clear hvoid hlz
  have HK := Lib.hid hk
  have HV := Lib.hid hv
  have HKL := Lib.hid hkl
  have HVL := Lib.hid hvl
  clear hk hv hkl hvl
  go_enter Try.func33, Try.ntmps33
  go_wp2_with fail
  have hbx := heap_alloc_new w (.cells #[.int .i64 kd, .slice ka kl kc, .slice va vl vc] 48)
  have HT2 := Lib.hid ((Touch.refl Nil w).alloc (.cells #[.int .i64 kd, .slice ka kl kc, .slice va vl vc] 48))
  have HE : ∃ B, w.heap.size = B := ⟨_, rfl⟩
  obtain ⟨B, eB⟩ := HE
  rw [eB] at hbx ⊢
  have HEB := Lib.hid eB
  have HE : ∃ w2, w.alloc (.cells #[.int .i64 kd, .slice ka kl kc, .slice va vl vc] 48) = w2 := ⟨_, rfl⟩
  obtain ⟨w2, ew2⟩ := HE
  rw [ew2] at hbx HT2 ⊢
  have HE : ∃ N, w2.heap.size = N := ⟨_, rfl⟩
  obtain ⟨N, eN⟩ := HE
  have HNN := Lib.hid eN
  have HBX := Lib.hid hbx
  have HKW := Lib.hid (HK.out.keepN HT2.out)
  have HVW := Lib.hid (HV.out.keepN HT2.out)
  have HNB := Lib.hid (show N = B + 1 from by rw [← eN, ← ew2, nblk_alloc, eB])
  clear hbx ew2 eN eB
  refine (wpIn_wide (n := 7)).1 (region_inv (by kernel_rfl) (by kernel_rfl) (fun J a W => J.size = 10 ∧ Touch Nil w2 W ∧ ∃ SA SB v12 v13 v32 v33 v34 v35 v36 v37 v38 v39, a = { tmps := #[.pointer p, .int .u64 seed, .slice la ln lc, .agg #[.int .i64 kd, .slice ka kl kc, .slice va vl vc], .bool false, undef, undef, undef, .pointer (some ⟨B, 0, none⟩), undef, .slice none 0 0, .bool false, v12, v13, undef, undef, undef, undef, undef, undef, undef, undef, undef, undef, undef, undef, undef, undef, undef, undef, undef, undef, v32, v33, v34, v35, v36, v37, v38, v39, undef, undef, undef, undef, undef, undef, undef, undef, undef, undef, undef, undef, undef, undef, undef, undef, undef, undef, undef, undef, undef, undef, undef, undef, undef, undef, undef, undef, undef, undef, undef, undef, undef, undef, undef, undef, undef, undef, undef, undef, undef, undef, undef, undef, undef, undef, undef, undef, undef, undef, undef, undef, undef, undef, undef, undef, undef, undef, undef, undef, undef, undef, undef, undef, undef, undef, undef, undef, undef, undef, undef, undef, undef, undef, undef, undef, undef, undef, undef, undef, undef, undef, undef, undef, undef, undef, undef, undef, undef, undef, undef, undef, undef, undef, undef, undef, undef, undef, undef, undef, undef, undef, undef, undef, undef, undef, undef, undef, undef, undef, undef, undef, undef, undef, undef, undef, undef, undef, undef, undef, undef, undef, undef, undef, undef, undef, undef, undef, undef, undef, undef, undef, undef, undef, undef, undef, undef, undef, undef, undef, undef, undef, undef, undef, undef, undef, undef, undef, undef, undef, undef, undef, undef, undef, undef, undef, undef, undef], defers := [] } ∧ D1 N B key val (.slice ka kl kc) (.slice va vl vc) J W SA SB v12 v13 v32 v33 v34 v35 v36 v37 v38 v39) ?_ ?_ ?_)
  · exact ⟨rfl, (Touch.refl Nil w2).drew, fun _ => False, fun _ => False, undef, undef, undef, undef, undef, undef, undef, undef, undef, undef, rfl, { f0 := fun h _ => absurd h (by decide), f1 := fun h => absurd h (by decide), f2 := fun h => absurd h (by decide), f3 := fun h => absurd h (by decide), f4 := fun h _ => absurd h (by decide), f5 := fun h => absurd h (by decide), f6 := fun h => absurd h (by decide), f7 := fun h => absurd h (by decide), f8 := fun h => absurd h (by decide), f9 := fun h => absurd h (by decide), t := Nat.le_of_eq HNN.out.symm, sa := fun b h => h.elim, sb := fun b h => h.elim, d := fun b h => h.elim }⟩
  · rintro J a w3 ⟨hs, ht, SA, SB, v12, v13, v32, v33, v34, v35, v36, v37, v38, v39, rfl, y⟩ hall
    have hL := allL hs hall
    have hk := y.f3 (hL 3 (by decide))
    have hv := y.f7 (hL 7 (by decide))
    have e1 := (y.f8 (hL 8 (by decide))).1
    have e2 := (y.f9 (hL 9 (by decide))).1
    subst e1 e2
    obtain ⟨xa, xl, xc, rfl⟩ := hk.1.form
    obtain ⟨ya, yl, yc, rfl⟩ := hv.1.form
    have HX := Lib.hid hk.1
    have HY := Lib.hid hv.1
    have HXY := Lib.hid (show ∀ b, OwnOf (.slice xa xl xc) b → ¬ OwnOf (.slice ya yl yc) b from fun b h1 h2 => y.d b (hk.2 b h1) (hv.2 b h2))
    have HT3 := Lib.hid (HT2.out.trans ht)
    have HTN := Lib.hid ht
    have hbx := (ht.same B (lt_heap HBX.out) fun c => c).trans HBX.out
    have HBX3 := Lib.hid hbx
    have b0 : w3.cell? ⟨B, 0, none⟩ = some (.int .i64 kd) := by simp [World.cell?, hbx]
    have b1 : w3.cell? ⟨B, 1, none⟩ = some (.slice ka kl kc) := by simp [World.cell?, hbx]
    have b2 : w3.cell? ⟨B, 2, none⟩ = some (.slice va vl vc) := by simp [World.cell?, hbx]
    have HK3 := Lib.hid (HKW.out.keepN ht)
    have HV3 := Lib.hid (HVW.out.keepN ht)
    have HN3 := Lib.hid y.t
    clear y hL hall hs hk hv hbx
    have HTA := Lib.hid (HT3.out.alloc (.cells #[] 78))
    go_wp2_with fail
    refine (cells_void (HVD.out.keepN HTA.out)).mono ?_
    rintro e w5 ⟨rfl, rfl⟩
    have HSM := Lib.hid (show Calls Try.prog 34 #[.slice none 0 0, .slice (some ⟨w3.heap.size, 0, none⟩) 0 0] (w3.alloc (.cells #[] 78)) (BoolN true (w3.alloc (.cells #[] 78))) from
      sameCells_true (n := 0) (f := fun _ => .bool false) (g := fun _ => .bool false) (T := fun _ => none) (T' := fun _ => none) (by omega) ⟨fun h => by omega, fun c hc => by omega⟩ ⟨fun h => by omega, fun c hc => by omega⟩ fun c hc => rfl)
    go_wp2_with fail
    refine HSM.out.mono ?_
    rintro e w6 ⟨rfl, ht6⟩
    have HT6 := Lib.hid (HTA.out.trans ht6)
    clear ht6 HSM
    go_wp2_with fail
    go_loopw [27] (fun i wr => i = .int .i64 0 ∧ Hid (wr = w6)) (fun i _ => 0)
    case atStart => exact ⟨rfl, Lib.hid rfl⟩
    obtain ⟨rfl, hw⟩ := hrel
    obtain rfl := hw.out
    go_wp2_with fail
    go_ret2
    exact ⟨rfl, HT6.out⟩
  · rintro J a W i o ho ⟨hs, ht, SA, SB, v12, v13, v32, v33, v34, v35, v36, v37, v38, v39, rfl, y⟩ hl hd K hK
    have hi : i < 10 := (Array.getElem?_eq_some_iff.1 ho).1
    have hbx := (ht.same B (lt_heap HBX.out) fun c => c).trans HBX.out
    have b1 : W.cell? ⟨B, 1, none⟩ = some (.slice ka kl kc) := by simp [World.cell?, hbx]
    have b2 : W.cell? ⟨B, 2, none⟩ = some (.slice va vl vc) := by simp [World.cell?, hbx]
    have hN := y.t
    rcases (by omega : i = 0 ∨ i = 1 ∨ i = 2 ∨ i = 3 ∨ i = 4 ∨ i = 5 ∨ i = 6 ∨ i = 7 ∨ i = 8 ∨ i = 9) with rfl | rfl | rfl | rfl | rfl | rfl | rfl | rfl | rfl | rfl
    · obtain rfl := Option.some.inj (show some _ = some o from ho)
      go_simp
      have ta := (Touch.refl Nil W).alloc (.cells #[] 5)
      refine hK _ _ ⟨by simpa using hs, ht.trans ta, (fun b => SA b ∨ b = W.heap.size), SB, _, _, _, _, _, _, _, _, _, _, rfl, { f0 := fun _ _ => ⟨(own_new W).base hN, fun b hb => .inr (by simpa [OwnOf, Value.ownBlock] using hb)⟩, f1 := fun h => y.f1 (stp h (by decide)), f2 := fun h => y.f2 (stp h (by decide)), f3 := fun h => by have k := y.f3 (stp h (by decide)); exact (k.keepN ta).wide (fun _ h => .inl h), f4 := fun h h7 => by have k := y.f4 (stp h (by decide)) (mon' h7); exact k.keepN ta, f5 := fun h => y.f5 (stp h (by decide)), f6 := fun h => y.f6 (stp h (by decide)), f7 := fun h => by have k := y.f7 (stp h (by decide)); exact k.keepN ta, f8 := fun h => ⟨(y.f8 (stp h (by decide))).1, mon (y.f8 (stp h (by decide))).2⟩, f9 := fun h => ⟨(y.f9 (stp h (by decide))).1, mon (y.f9 (stp h (by decide))).2⟩, t := by rw [nblk_alloc]; omega, sa := fun b h => by rw [nblk_alloc]; rcases h with h | h; (have := y.sa b h; omega); (subst h; omega), sb := fun b h => by rw [nblk_alloc]; have := y.sb b h; omega, d := fun b h hb => by rcases h with h | h; (exact y.d b h hb); (subst h; have := y.sb _ hb; omega) }⟩
    · obtain rfl := Option.some.inj (show some _ = some o from ho)
      go_simp
      refine hK _ _ ⟨by simpa using hs, ht, SA, SB, _, _, _, _, _, _, _, _, _, _, rfl, { f0 := fun h h3 => by have k := y.f0 (stp h (by decide)) (mon' h3); exact k, f1 := fun _ => rfl, f2 := fun h => y.f2 (stp h (by decide)), f3 := fun h => by have k := y.f3 (stp h (by decide)); exact k, f4 := fun h h7 => by have k := y.f4 (stp h (by decide)) (mon' h7); exact k, f5 := fun h => y.f5 (stp h (by decide)), f6 := fun h => y.f6 (stp h (by decide)), f7 := fun h => by have k := y.f7 (stp h (by decide)); exact k, f8 := fun h => ⟨(y.f8 (stp h (by decide))).1, mon (y.f8 (stp h (by decide))).2⟩, f9 := fun h => ⟨(y.f9 (stp h (by decide))).1, mon (y.f9 (stp h (by decide))).2⟩, t := hN, sa := y.sa, sb := y.sb, d := y.d }⟩
    · obtain rfl := Option.some.inj (show some _ = some o from ho)
      have e := (y.f1 (hd ⟨1, .data⟩ (by simp) rfl)).symm
      subst e
      go_simp
      refine hK _ _ ⟨by simpa using hs, ht, SA, SB, _, _, _, _, _, _, _, _, _, _, rfl, { f0 := fun h h3 => by have k := y.f0 (stp h (by decide)) (mon' h3); exact k, f1 := fun h => y.f1 (stp h (by decide)), f2 := fun _ => rfl, f3 := fun h => by have k := y.f3 (stp h (by decide)); exact k, f4 := fun h h7 => by have k := y.f4 (stp h (by decide)) (mon' h7); exact k, f5 := fun h => y.f5 (stp h (by decide)), f6 := fun h => y.f6 (stp h (by decide)), f7 := fun h => by have k := y.f7 (stp h (by decide)); exact k, f8 := fun h => ⟨(y.f8 (stp h (by decide))).1, mon (y.f8 (stp h (by decide))).2⟩, f9 := fun h => ⟨(y.f9 (stp h (by decide))).1, mon (y.f9 (stp h (by decide))).2⟩, t := hN, sa := y.sa, sb := y.sb, d := y.d }⟩
    · obtain rfl := Option.some.inj (show some _ = some o from ho)
      have e := (y.f2 (hd ⟨2, .data⟩ (by simp) rfl)).symm
      subst e
      have ho := y.f0 (hd ⟨0, .data⟩ (by simp) rfl) (fun h => ngd hl h)
      rw [if_pos (by simp [Region.wanted])]
      refine opIn_append_bytes (.tmp 32) (.tmp 34) rfl v32 (.slice ka kl kc) key rfl ho.1 rfl (HKW.out.keepN ht) (by have := HKL.out; omega) hN ?_
      intro v' W' h1 h2 h3
      have hx : ∀ b, SB b → ¬ OwnOf v32 b := fun b hb hs => y.d b (ho.2 b hs) hb
      have tn : Touch Nil w2 W' := ht.trans' h2 fun b hb hs => by have h4 := y.sa b (ho.2 b hs); have := HNN.out; omega
      go_simp
      refine hK _ _ ⟨by simpa using hs, tn, (fun b => SA b ∨ (W.heap.size ≤ b ∧ b < W'.heap.size)), SB, _, _, _, _, _, _, _, _, _, _, rfl, { f0 := fun h hn => absurd (set_of (i := 3) (by rw [hs]; decide)) hn, f1 := fun h => y.f1 (stp h (by decide)), f2 := fun h => y.f2 (stp h (by decide)), f3 := fun _ => ⟨h1, fun b hb => (h3 b hb).elim (fun h => .inl (ho.2 b h)) fun h => .inr ⟨h, (h1.block b hb).2⟩⟩, f4 := fun h h7 => by have k := y.f4 (stp h (by decide)) (mon' h7); exact k.keep h2 hx, f5 := fun h => y.f5 (stp h (by decide)), f6 := fun h => y.f6 (stp h (by decide)), f7 := fun h => by have k := y.f7 (stp h (by decide)); exact k.keep h2 hx, f8 := fun h => (ngd hl (y.f8 (stp h (by decide))).2).elim, f9 := fun h => ⟨(y.f9 (stp h (by decide))).1, mon (y.f9 (stp h (by decide))).2⟩, t := Nat.le_trans hN h2.size, sa := fun b h => by have := h2.size; rcases h with h | h; (have := y.sa b h; omega); omega, sb := fun b h => by have := h2.size; have := y.sb b h; omega, d := fun b h hb => by rcases h with h | h; (exact y.d b h hb); (have := y.sb b hb; omega) }⟩
    · obtain rfl := Option.some.inj (show some _ = some o from ho)
      go_simp
      have ta := (Touch.refl Nil W).alloc (.cells #[] 5)
      refine hK _ _ ⟨by simpa using hs, ht.trans ta, SA, (fun b => SB b ∨ b = W.heap.size), _, _, _, _, _, _, _, _, _, _, rfl, { f0 := fun h h3 => by have k := y.f0 (stp h (by decide)) (mon' h3); exact k.keepN ta, f1 := fun h => y.f1 (stp h (by decide)), f2 := fun h => y.f2 (stp h (by decide)), f3 := fun h => by have k := y.f3 (stp h (by decide)); exact k.keepN ta, f4 := fun _ _ => ⟨(own_new W).base hN, fun b hb => .inr (by simpa [OwnOf, Value.ownBlock] using hb)⟩, f5 := fun h => y.f5 (stp h (by decide)), f6 := fun h => y.f6 (stp h (by decide)), f7 := fun h => by have k := y.f7 (stp h (by decide)); exact (k.keepN ta).wide (fun _ h => .inl h), f8 := fun h => ⟨(y.f8 (stp h (by decide))).1, mon (y.f8 (stp h (by decide))).2⟩, f9 := fun h => ⟨(y.f9 (stp h (by decide))).1, mon (y.f9 (stp h (by decide))).2⟩, t := by rw [nblk_alloc]; omega, sa := fun b h => by rw [nblk_alloc]; have := y.sa b h; omega, sb := fun b h => by rw [nblk_alloc]; rcases h with h | h; (have := y.sb b h; omega); (subst h; omega), d := fun b h hb => by rcases hb with hb | hb; (exact y.d b h hb); (subst hb; have := y.sa _ h; omega) }⟩
    · obtain rfl := Option.some.inj (show some _ = some o from ho)
      go_simp
      refine hK _ _ ⟨by simpa using hs, ht, SA, SB, _, _, _, _, _, _, _, _, _, _, rfl, { f0 := fun h h3 => by have k := y.f0 (stp h (by decide)) (mon' h3); exact k, f1 := fun h => y.f1 (stp h (by decide)), f2 := fun h => y.f2 (stp h (by decide)), f3 := fun h => by have k := y.f3 (stp h (by decide)); exact k, f4 := fun h h7 => by have k := y.f4 (stp h (by decide)) (mon' h7); exact k, f5 := fun _ => rfl, f6 := fun h => y.f6 (stp h (by decide)), f7 := fun h => by have k := y.f7 (stp h (by decide)); exact k, f8 := fun h => ⟨(y.f8 (stp h (by decide))).1, mon (y.f8 (stp h (by decide))).2⟩, f9 := fun h => ⟨(y.f9 (stp h (by decide))).1, mon (y.f9 (stp h (by decide))).2⟩, t := hN, sa := y.sa, sb := y.sb, d := y.d }⟩
    · obtain rfl := Option.some.inj (show some _ = some o from ho)
      have e := (y.f5 (hd ⟨5, .data⟩ (by simp) rfl)).symm
      subst e
      go_simp
      refine hK _ _ ⟨by simpa using hs, ht, SA, SB, _, _, _, _, _, _, _, _, _, _, rfl, { f0 := fun h h3 => by have k := y.f0 (stp h (by decide)) (mon' h3); exact k, f1 := fun h => y.f1 (stp h (by decide)), f2 := fun h => y.f2 (stp h (by decide)), f3 := fun h => by have k := y.f3 (stp h (by decide)); exact k, f4 := fun h h7 => by have k := y.f4 (stp h (by decide)) (mon' h7); exact k, f5 := fun h => y.f5 (stp h (by decide)), f6 := fun _ => rfl, f7 := fun h => by have k := y.f7 (stp h (by decide)); exact k, f8 := fun h => ⟨(y.f8 (stp h (by decide))).1, mon (y.f8 (stp h (by decide))).2⟩, f9 := fun h => ⟨(y.f9 (stp h (by decide))).1, mon (y.f9 (stp h (by decide))).2⟩, t := hN, sa := y.sa, sb := y.sb, d := y.d }⟩
    · obtain rfl := Option.some.inj (show some _ = some o from ho)
      have e := (y.f6 (hd ⟨6, .data⟩ (by simp) rfl)).symm
      subst e
      have ho := y.f4 (hd ⟨4, .data⟩ (by simp) rfl) (fun h => ngd hl h)
      rw [if_pos (by simp [Region.wanted])]
      refine opIn_append_bytes (.tmp 36) (.tmp 38) rfl v36 (.slice va vl vc) val rfl ho.1 rfl (HVW.out.keepN ht) (by have := HVL.out; omega) hN ?_
      intro v' W' h1 h2 h3
      have hx : ∀ b, SA b → ¬ OwnOf v36 b := fun b hb hs => y.d b hb (ho.2 b hs)
      have tn : Touch Nil w2 W' := ht.trans' h2 fun b hb hs => by have h4 := y.sb b (ho.2 b hs); have := HNN.out; omega
      go_simp
      refine hK _ _ ⟨by simpa using hs, tn, SA, (fun b => SB b ∨ (W.heap.size ≤ b ∧ b < W'.heap.size)), _, _, _, _, _, _, _, _, _, _, rfl, { f0 := fun h h3 => by have k := y.f0 (stp h (by decide)) (mon' h3); exact k.keep h2 hx, f1 := fun h => y.f1 (stp h (by decide)), f2 := fun h => y.f2 (stp h (by decide)), f3 := fun h => by have k := y.f3 (stp h (by decide)); exact k.keep h2 hx, f4 := fun h hn => absurd (set_of (i := 7) (by rw [hs]; decide)) hn, f5 := fun h => y.f5 (stp h (by decide)), f6 := fun h => y.f6 (stp h (by decide)), f7 := fun _ => ⟨h1, fun b hb => (h3 b hb).elim (fun h => .inl (ho.2 b h)) fun h => .inr ⟨h, (h1.block b hb).2⟩⟩, f8 := fun h => ⟨(y.f8 (stp h (by decide))).1, mon (y.f8 (stp h (by decide))).2⟩, f9 := fun h => (ngd hl (y.f9 (stp h (by decide))).2).elim, t := Nat.le_trans hN h2.size, sa := fun b h => by have := h2.size; have := y.sa b h; omega, sb := fun b h => by have := h2.size; rcases h with h | h; (have := y.sb b h; omega); omega, d := fun b h hb => by rcases hb with hb | hb; (exact y.d b h hb); (have := y.sa b h; omega) }⟩
    · obtain rfl := Option.some.inj (show some _ = some o from ho)
      go_simp
      refine hK _ _ ⟨by simpa using hs, ht, SA, SB, _, _, _, _, _, _, _, _, _, _, rfl, { f0 := fun h h3 => by have k := y.f0 (stp h (by decide)) (mon' h3); exact k, f1 := fun h => y.f1 (stp h (by decide)), f2 := fun h => y.f2 (stp h (by decide)), f3 := fun h => by have k := y.f3 (stp h (by decide)); exact k, f4 := fun h h7 => by have k := y.f4 (stp h (by decide)) (mon' h7); exact k, f5 := fun h => y.f5 (stp h (by decide)), f6 := fun h => y.f6 (stp h (by decide)), f7 := fun h => by have k := y.f7 (stp h (by decide)); exact k, f8 := fun _ => ⟨rfl, mon (hd ⟨3, .data⟩ (by simp) rfl)⟩, f9 := fun h => ⟨(y.f9 (stp h (by decide))).1, mon (y.f9 (stp h (by decide))).2⟩, t := hN, sa := y.sa, sb := y.sb, d := y.d }⟩
    · obtain rfl := Option.some.inj (show some _ = some o from ho)
      go_simp
      refine hK _ _ ⟨by simpa using hs, ht, SA, SB, _, _, _, _, _, _, _, _, _, _, rfl, { f0 := fun h h3 => by have k := y.f0 (stp h (by decide)) (mon' h3); exact k, f1 := fun h => y.f1 (stp h (by decide)), f2 := fun h => y.f2 (stp h (by decide)), f3 := fun h => by have k := y.f3 (stp h (by decide)); exact k, f4 := fun h h7 => by have k := y.f4 (stp h (by decide)) (mon' h7); exact k, f5 := fun h => y.f5 (stp h (by decide)), f6 := fun h => y.f6 (stp h (by decide)), f7 := fun h => by have k := y.f7 (stp h (by decide)); exact k, f8 := fun h => ⟨(y.f8 (stp h (by decide))).1, mon (y.f8 (stp h (by decide))).2⟩, f9 := fun _ => ⟨rfl, mon (hd ⟨7, .data⟩ (by simp) rfl)⟩, t := hN, sa := y.sa, sb := y.sb, d := y.d }⟩

set_option maxRecDepth 100000 in
set_option maxHeartbeats 8000000 in
theorem doesV5 {Z : Nat → Prop} {w : World} {p : Option Addr} {seed : Int} {la : Option Addr} {ln lc : Nat} {kd : Int} {ka va : Option Addr} {kl kc vl vc : Nat} {key val : Key} (hk : BV w (.slice ka kl kc) key) (hv : BV w (.slice va vl vc) val) (hkl : key.length ≤ 1200) (hvl : val.length ≤ 1200) (hvoid : Void w (.pointer p)) (hlz : LZ Z w (.slice la ln lc) ([] : KVs))  (hkd : kd.tmod 8 = 5) :
    Calls Try.prog 33 #[.pointer p, .int .u64 seed, .slice la ln lc, .agg #[.int .i64 kd, .slice ka kl kc, .slice va vl vc], .bool false] w (DoesV (.slice la ln lc) w) := by
  have HVD := Lib.hid hvoid
  have HLZ := Lib.hid hlz
  clear hvoid hlz
  have HK := Lib.hid hk
  have HV := Lib.hid hv
  have HKL := Lib.hid hkl
  have HVL := Lib.hid hvl
  clear hk hv hkl hvl
  go_enter Try.func33, Try.ntmps33
  go_wp2_with fail
  have hbx := heap_alloc_new w (.cells #[.int .i64 kd, .slice ka kl kc, .slice va vl vc] 48)
  have HT2 := Lib.hid ((Touch.refl Nil w).alloc (.cells #[.int .i64 kd, .slice ka kl kc, .slice va vl vc] 48))
  have HE : ∃ B, w.heap.size = B := ⟨_, rfl⟩
  obtain ⟨B, eB⟩ := HE
  rw [eB] at hbx ⊢
  have HEB := Lib.hid eB
  have HE : ∃ w2, w.alloc (.cells #[.int .i64 kd, .slice ka kl kc, .slice va vl vc] 48) = w2 := ⟨_, rfl⟩
  obtain ⟨w2, ew2⟩ := HE
  rw [ew2] at hbx HT2 ⊢
  have HE : ∃ N, w2.heap.size = N := ⟨_, rfl⟩
  obtain ⟨N, eN⟩ := HE
  have HNN := Lib.hid eN
  have HBX := Lib.hid hbx
  have HKW := Lib.hid (HK.out.keepN HT2.out)
  have HVW := Lib.hid (HV.out.keepN HT2.out)
  have HNB := Lib.hid (show N = B + 1 from by rw [← eN, ← ew2, nblk_alloc, eB])
  clear hbx ew2 eN eB
  refine (wpIn_wide (n := 7)).1 (region_inv (by kernel_rfl) (by kernel_rfl) (fun J a W => J.size = 10 ∧ Touch Nil w2 W ∧ ∃ SA SB v12 v13 v32 v33 v34 v35 v36 v37 v38 v39, a = { tmps := #[.pointer p, .int .u64 seed, .slice la ln lc, .agg #[.int .i64 kd, .slice ka kl kc, .slice va vl vc], .bool false, undef, undef, undef, .pointer (some ⟨B, 0, none⟩), undef, .slice none 0 0, .bool false, v12, v13, undef, undef, undef, undef, undef, undef, undef, undef, undef, undef, undef, undef, undef, undef, undef, undef, undef, undef, v32, v33, v34, v35, v36, v37, v38, v39, undef, undef, undef, undef, undef, undef, undef, undef, undef, undef, undef, undef, undef, undef, undef, undef, undef, undef, undef, undef, undef, undef, undef, undef, undef, undef, undef, undef, undef, undef, undef, undef, undef, undef, undef, undef, undef, undef, undef, undef, undef, undef, undef, undef, undef, undef, undef, undef, undef, undef, undef, undef, undef, undef, undef, undef, undef, undef, undef, undef, undef, undef, undef, undef, undef, undef, undef, undef, undef, undef, undef, undef, undef, undef, undef, undef, undef, undef, undef, undef, undef, undef, undef, undef, undef, undef, undef, undef, undef, undef, undef, undef, undef, undef, undef, undef, undef, undef, undef, undef, undef, undef, undef, undef, undef, undef, undef, undef, undef, undef, undef, undef, undef, undef, undef, undef, undef, undef, undef, undef, undef, undef, undef, undef, undef, undef, undef, undef, undef, undef, undef, undef, undef, undef, undef, undef, undef, undef, undef, undef, undef, undef, undef, undef, undef, undef, undef, undef, undef, undef, undef, undef, undef, undef, undef, undef, undef, undef], defers := [] } ∧ D1 N B key val (.slice ka kl kc) (.slice va vl vc) J W SA SB v12 v13 v32 v33 v34 v35 v36 v37 v38 v39) ?_ ?_ ?_)
  · exact ⟨rfl, (Touch.refl Nil w2).drew, fun _ => False, fun _ => False, undef, undef, undef, undef, undef, undef, undef, undef, undef, undef, rfl, { f0 := fun h _ => absurd h (by decide), f1 := fun h => absurd h (by decide), f2 := fun h => absurd h (by decide), f3 := fun h => absurd h (by decide), f4 := fun h _ => absurd h (by decide), f5 := fun h => absurd h (by decide), f6 := fun h => absurd h (by decide), f7 := fun h => absurd h (by decide), f8 := fun h => absurd h (by decide), f9 := fun h => absurd h (by decide), t := Nat.le_of_eq HNN.out.symm, sa := fun b h => h.elim, sb := fun b h => h.elim, d := fun b h => h.elim }⟩
  · rintro J a w3 ⟨hs, ht, SA, SB, v12, v13, v32, v33, v34, v35, v36, v37, v38, v39, rfl, y⟩ hall
    have hL := allL hs hall
    have hk := y.f3 (hL 3 (by decide))
    have hv := y.f7 (hL 7 (by decide))
    have e1 := (y.f8 (hL 8 (by decide))).1
    have e2 := (y.f9 (hL 9 (by decide))).1
    subst e1 e2
    obtain ⟨xa, xl, xc, rfl⟩ := hk.1.form
    obtain ⟨ya, yl, yc, rfl⟩ := hv.1.form
    have HX := Lib.hid hk.1
    have HY := Lib.hid hv.1
    have HXY := Lib.hid (show ∀ b, OwnOf (.slice xa xl xc) b → ¬ OwnOf (.slice ya yl yc) b from fun b h1 h2 => y.d b (hk.2 b h1) (hv.2 b h2))
    have HT3 := Lib.hid (HT2.out.trans ht)
    have HTN := Lib.hid ht
    have hbx := (ht.same B (lt_heap HBX.out) fun c => c).trans HBX.out
    have HBX3 := Lib.hid hbx
    have b0 : w3.cell? ⟨B, 0, none⟩ = some (.int .i64 kd) := by simp [World.cell?, hbx]
    have b1 : w3.cell? ⟨B, 1, none⟩ = some (.slice ka kl kc) := by simp [World.cell?, hbx]
    have b2 : w3.cell? ⟨B, 2, none⟩ = some (.slice va vl vc) := by simp [World.cell?, hbx]
    have HK3 := Lib.hid (HKW.out.keepN ht)
    have HV3 := Lib.hid (HVW.out.keepN ht)
    have HN3 := Lib.hid y.t
    clear y hL hall hs hk hv hbx
    have HTA := Lib.hid (HT3.out.alloc (.cells #[] 5))
    have HSM := Lib.hid (sameB_true (BV.nil (w3.alloc (.cells #[] 5))) (own_new w3).bv (by simp))
    go_wp2_with fail
    refine (image_void (HVD.out.keepN HTA.out)).mono ?_
    rintro e w5 ⟨rfl, rfl⟩
    go_wp2_with fail
    refine HSM.out.mono ?_
    rintro e w6 ⟨rfl, ht6⟩
    have HT6 := Lib.hid (HTA.out.trans ht6)
    have HSP := Lib.hid (show Calls Try.prog 32 #[.slice none 0 0, .int .u8 15] w6 _ from spoilS_any (S8.nil 0 w6) 15 (by decide))
    clear ht6 HSM
    go_wp2_with fail
    refine HSP.out.mono ?_
    rintro e w7 ⟨rfl, hs7, ht7⟩
    have HT7 := Lib.hid (show Touch Nil w w7 from HT6.out.trans' ht7 fun b hb hs => by cases hs)
    clear hs7 ht7
    go_wp2_with fail
    go_ret2
    exact ⟨rfl, HT7.out⟩
  · rintro J a W i o ho ⟨hs, ht, SA, SB, v12, v13, v32, v33, v34, v35, v36, v37, v38, v39, rfl, y⟩ hl hd K hK
    have hi : i < 10 := (Array.getElem?_eq_some_iff.1 ho).1
    have hbx := (ht.same B (lt_heap HBX.out) fun c => c).trans HBX.out
    have b1 : W.cell? ⟨B, 1, none⟩ = some (.slice ka kl kc) := by simp [World.cell?, hbx]
    have b2 : W.cell? ⟨B, 2, none⟩ = some (.slice va vl vc) := by simp [World.cell?, hbx]
    have hN := y.t
    rcases (by omega : i = 0 ∨ i = 1 ∨ i = 2 ∨ i = 3 ∨ i = 4 ∨ i = 5 ∨ i = 6 ∨ i = 7 ∨ i = 8 ∨ i = 9) with rfl | rfl | rfl | rfl | rfl | rfl | rfl | rfl | rfl | rfl
    · obtain rfl := Option.some.inj (show some _ = some o from ho)
      go_simp
      have ta := (Touch.refl Nil W).alloc (.cells #[] 5)
      refine hK _ _ ⟨by simpa using hs, ht.trans ta, (fun b => SA b ∨ b = W.heap.size), SB, _, _, _, _, _, _, _, _, _, _, rfl, { f0 := fun _ _ => ⟨(own_new W).base hN, fun b hb => .inr (by simpa [OwnOf, Value.ownBlock] using hb)⟩, f1 := fun h => y.f1 (stp h (by decide)), f2 := fun h => y.f2 (stp h (by decide)), f3 := fun h => by have k := y.f3 (stp h (by decide)); exact (k.keepN ta).wide (fun _ h => .inl h), f4 := fun h h7 => by have k := y.f4 (stp h (by decide)) (mon' h7); exact k.keepN ta, f5 := fun h => y.f5 (stp h (by decide)), f6 := fun h => y.f6 (stp h (by decide)), f7 := fun h => by have k := y.f7 (stp h (by decide)); exact k.keepN ta, f8 := fun h => ⟨(y.f8 (stp h (by decide))).1, mon (y.f8 (stp h (by decide))).2⟩, f9 := fun h => ⟨(y.f9 (stp h (by decide))).1, mon (y.f9 (stp h (by decide))).2⟩, t := by rw [nblk_alloc]; omega, sa := fun b h => by rw [nblk_alloc]; rcases h with h | h; (have := y.sa b h; omega); (subst h; omega), sb := fun b h => by rw [nblk_alloc]; have := y.sb b h; omega, d := fun b h hb => by rcases h with h | h; (exact y.d b h hb); (subst h; have := y.sb _ hb; omega) }⟩
    · obtain rfl := Option.some.inj (show some _ = some o from ho)
      go_simp
      refine hK _ _ ⟨by simpa using hs, ht, SA, SB, _, _, _, _, _, _, _, _, _, _, rfl, { f0 := fun h h3 => by have k := y.f0 (stp h (by decide)) (mon' h3); exact k, f1 := fun _ => rfl, f2 := fun h => y.f2 (stp h (by decide)), f3 := fun h => by have k := y.f3 (stp h (by decide)); exact k, f4 := fun h h7 => by have k := y.f4 (stp h (by decide)) (mon' h7); exact k, f5 := fun h => y.f5 (stp h (by decide)), f6 := fun h => y.f6 (stp h (by decide)), f7 := fun h => by have k := y.f7 (stp h (by decide)); exact k, f8 := fun h => ⟨(y.f8 (stp h (by decide))).1, mon (y.f8 (stp h (by decide))).2⟩, f9 := fun h => ⟨(y.f9 (stp h (by decide))).1, mon (y.f9 (stp h (by decide))).2⟩, t := hN, sa := y.sa, sb := y.sb, d := y.d }⟩
    · obtain rfl := Option.some.inj (show some _ = some o from ho)
      have e := (y.f1 (hd ⟨1, .data⟩ (by simp) rfl)).symm
      subst e
      go_simp
      refine hK _ _ ⟨by simpa using hs, ht, SA, SB, _, _, _, _, _, _, _, _, _, _, rfl, { f0 := fun h h3 => by have k := y.f0 (stp h (by decide)) (mon' h3); exact k, f1 := fun h => y.f1 (stp h (by decide)), f2 := fun _ => rfl, f3 := fun h => by have k := y.f3 (stp h (by decide)); exact k, f4 := fun h h7 => by have k := y.f4 (stp h (by decide)) (mon' h7); exact k, f5 := fun h => y.f5 (stp h (by decide)), f6 := fun h => y.f6 (stp h (by decide)), f7 := fun h => by have k := y.f7 (stp h (by decide)); exact k, f8 := fun h => ⟨(y.f8 (stp h (by decide))).1, mon (y.f8 (stp h (by decide))).2⟩, f9 := fun h => ⟨(y.f9 (stp h (by decide))).1, mon (y.f9 (stp h (by decide))).2⟩, t := hN, sa := y.sa, sb := y.sb, d := y.d }⟩
    · obtain rfl := Option.some.inj (show some _ = some o from ho)
      have e := (y.f2 (hd ⟨2, .data⟩ (by simp) rfl)).symm
      subst e
      have ho := y.f0 (hd ⟨0, .data⟩ (by simp) rfl) (fun h => ngd hl h)
      rw [if_pos (by simp [Region.wanted])]
      refine opIn_append_bytes (.tmp 32) (.tmp 34) rfl v32 (.slice ka kl kc) key rfl ho.1 rfl (HKW.out.keepN ht) (by have := HKL.out; omega) hN ?_
      intro v' W' h1 h2 h3
      have hx : ∀ b, SB b → ¬ OwnOf v32 b := fun b hb hs => y.d b (ho.2 b hs) hb
      have tn : Touch Nil w2 W' := ht.trans' h2 fun b hb hs => by have h4 := y.sa b (ho.2 b hs); have := HNN.out; omega
      go_simp
      refine hK _ _ ⟨by simpa using hs, tn, (fun b => SA b ∨ (W.heap.size ≤ b ∧ b < W'.heap.size)), SB, _, _, _, _, _, _, _, _, _, _, rfl, { f0 := fun h hn => absurd (set_of (i := 3) (by rw [hs]; decide)) hn, f1 := fun h => y.f1 (stp h (by decide)), f2 := fun h => y.f2 (stp h (by decide)), f3 := fun _ => ⟨h1, fun b hb => (h3 b hb).elim (fun h => .inl (ho.2 b h)) fun h => .inr ⟨h, (h1.block b hb).2⟩⟩, f4 := fun h h7 => by have k := y.f4 (stp h (by decide)) (mon' h7); exact k.keep h2 hx, f5 := fun h => y.f5 (stp h (by decide)), f6 := fun h => y.f6 (stp h (by decide)), f7 := fun h => by have k := y.f7 (stp h (by decide)); exact k.keep h2 hx, f8 := fun h => (ngd hl (y.f8 (stp h (by decide))).2).elim, f9 := fun h => ⟨(y.f9 (stp h (by decide))).1, mon (y.f9 (stp h (by decide))).2⟩, t := Nat.le_trans hN h2.size, sa := fun b h => by have := h2.size; rcases h with h | h; (have := y.sa b h; omega); omega, sb := fun b h => by have := h2.size; have := y.sb b h; omega, d := fun b h hb => by rcases h with h | h; (exact y.d b h hb); (have := y.sb b hb; omega) }⟩
    · obtain rfl := Option.some.inj (show some _ = some o from ho)
      go_simp
      have ta := (Touch.refl Nil W).alloc (.cells #[] 5)
      refine hK _ _ ⟨by simpa using hs, ht.trans ta, SA, (fun b => SB b ∨ b = W.heap.size), _, _, _, _, _, _, _, _, _, _, rfl, { f0 := fun h h3 => by have k := y.f0 (stp h (by decide)) (mon' h3); exact k.keepN ta, f1 := fun h => y.f1 (stp h (by decide)), f2 := fun h => y.f2 (stp h (by decide)), f3 := fun h => by have k := y.f3 (stp h (by decide)); exact k.keepN ta, f4 := fun _ _ => ⟨(own_new W).base hN, fun b hb => .inr (by simpa [OwnOf, Value.ownBlock] using hb)⟩, f5 := fun h => y.f5 (stp h (by decide)), f6 := fun h => y.f6 (stp h (by decide)), f7 := fun h => by have k := y.f7 (stp h (by decide)); exact (k.keepN ta).wide (fun _ h => .inl h), f8 := fun h => ⟨(y.f8 (stp h (by decide))).1, mon (y.f8 (stp h (by decide))).2⟩, f9 := fun h => ⟨(y.f9 (stp h (by decide))).1, mon (y.f9 (stp h (by decide))).2⟩, t := by rw [nblk_alloc]; omega, sa := fun b h => by rw [nblk_alloc]; have := y.sa b h; omega, sb := fun b h => by rw [nblk_alloc]; rcases h with h | h; (have := y.sb b h; omega); (subst h; omega), d := fun b h hb => by rcases hb with hb | hb; (exact y.d b h hb); (subst hb; have := y.sa _ h; omega) }⟩
    · obtain rfl := Option.some.inj (show some _ = some o from ho)
      go_simp
      refine hK _ _ ⟨by simpa using hs, ht, SA, SB, _, _, _, _, _, _, _, _, _, _, rfl, { f0 := fun h h3 => by have k := y.f0 (stp h (by decide)) (mon' h3); exact k, f1 := fun h => y.f1 (stp h (by decide)), f2 := fun h => y.f2 (stp h (by decide)), f3 := fun h => by have k := y.f3 (stp h (by decide)); exact k, f4 := fun h h7 => by have k := y.f4 (stp h (by decide)) (mon' h7); exact k, f5 := fun _ => rfl, f6 := fun h => y.f6 (stp h (by decide)), f7 := fun h => by have k := y.f7 (stp h (by decide)); exact k, f8 := fun h => ⟨(y.f8 (stp h (by decide))).1, mon (y.f8 (stp h (by decide))).2⟩, f9 := fun h => ⟨(y.f9 (stp h (by decide))).1, mon (y.f9 (stp h (by decide))).2⟩, t := hN, sa := y.sa, sb := y.sb, d := y.d }⟩
    · obtain rfl := Option.some.inj (show some _ = some o from ho)
      have e := (y.f5 (hd ⟨5, .data⟩ (by simp) rfl)).symm
      subst e
      go_simp
      refine hK _ _ ⟨by simpa using hs, ht, SA, SB, _, _, _, _, _, _, _, _, _, _, rfl, { f0 := fun h h3 => by have k := y.f0 (stp h (by decide)) (mon' h3); exact k, f1 := fun h => y.f1 (stp h (by decide)), f2 := fun h => y.f2 (stp h (by decide)), f3 := fun h => by have k := y.f3 (stp h (by decide)); exact k, f4 := fun h h7 => by have k := y.f4 (stp h (by decide)) (mon' h7); exact k, f5 := fun h => y.f5 (stp h (by decide)), f6 := fun _ => rfl, f7 := fun h => by have k := y.f7 (stp h (by decide)); exact k, f8 := fun h => ⟨(y.f8 (stp h (by decide))).1, mon (y.f8 (stp h (by decide))).2⟩, f9 := fun h => ⟨(y.f9 (stp h (by decide))).1, mon (y.f9 (stp h (by decide))).2⟩, t := hN, sa := y.sa, sb := y.sb, d := y.d }⟩
    · obtain rfl := Option.some.inj (show some _ = some o from ho)
      have e := (y.f6 (hd ⟨6, .data⟩ (by simp) rfl)).symm
      subst e
      have ho := y.f4 (hd ⟨4, .data⟩ (by simp) rfl) (fun h => ngd hl h)
      rw [if_pos (by simp [Region.wanted])]
      refine opIn_append_bytes (.tmp 36) (.tmp 38) rfl v36 (.slice va vl vc) val rfl ho.1 rfl (HVW.out.keepN ht) (by have := HVL.out; omega) hN ?_
      intro v' W' h1 h2 h3
      have hx : ∀ b, SA b → ¬ OwnOf v36 b := fun b hb hs => y.d b hb (ho.2 b hs)
      have tn : Touch Nil w2 W' := ht.trans' h2 fun b hb hs => by have h4 := y.sb b (ho.2 b hs); have := HNN.out; omega
      go_simp
      refine hK _ _ ⟨by simpa using hs, tn, SA, (fun b => SB b ∨ (W.heap.size ≤ b ∧ b < W'.heap.size)), _, _, _, _, _, _, _, _, _, _, rfl, { f0 := fun h h3 => by have k := y.f0 (stp h (by decide)) (mon' h3); exact k.keep h2 hx, f1 := fun h => y.f1 (stp h (by decide)), f2 := fun h => y.f2 (stp h (by decide)), f3 := fun h => by have k := y.f3 (stp h (by decide)); exact k.keep h2 hx, f4 := fun h hn => absurd (set_of (i := 7) (by rw [hs]; decide)) hn, f5 := fun h => y.f5 (stp h (by decide)), f6 := fun h => y.f6 (stp h (by decide)), f7 := fun _ => ⟨h1, fun b hb => (h3 b hb).elim (fun h => .inl (ho.2 b h)) fun h => .inr ⟨h, (h1.block b hb).2⟩⟩, f8 := fun h => ⟨(y.f8 (stp h (by decide))).1, mon (y.f8 (stp h (by decide))).2⟩, f9 := fun h => (ngd hl (y.f9 (stp h (by decide))).2).elim, t := Nat.le_trans hN h2.size, sa := fun b h => by have := h2.size; have := y.sa b h; omega, sb := fun b h => by have := h2.size; rcases h with h | h; (have := y.sb b h; omega); omega, d := fun b h hb => by rcases hb with hb | hb; (exact y.d b h hb); (have := y.sa b h; omega) }⟩
    · obtain rfl := Option.some.inj (show some _ = some o from ho)
      go_simp
      refine hK _ _ ⟨by simpa using hs, ht, SA, SB, _, _, _, _, _, _, _, _, _, _, rfl, { f0 := fun h h3 => by have k := y.f0 (stp h (by decide)) (mon' h3); exact k, f1 := fun h => y.f1 (stp h (by decide)), f2 := fun h => y.f2 (stp h (by decide)), f3 := fun h => by have k := y.f3 (stp h (by decide)); exact k, f4 := fun h h7 => by have k := y.f4 (stp h (by decide)) (mon' h7); exact k, f5 := fun h => y.f5 (stp h (by decide)), f6 := fun h => y.f6 (stp h (by decide)), f7 := fun h => by have k := y.f7 (stp h (by decide)); exact k, f8 := fun _ => ⟨rfl, mon (hd ⟨3, .data⟩ (by simp) rfl)⟩, f9 := fun h => ⟨(y.f9 (stp h (by decide))).1, mon (y.f9 (stp h (by decide))).2⟩, t := hN, sa := y.sa, sb := y.sb, d := y.d }⟩
    · obtain rfl := Option.some.inj (show some _ = some o from ho)
      go_simp
      refine hK _ _ ⟨by simpa using hs, ht, SA, SB, _, _, _, _, _, _, _, _, _, _, rfl, { f0 := fun h h3 => by have k := y.f0 (stp h (by decide)) (mon' h3); exact k, f1 := fun h => y.f1 (stp h (by decide)), f2 := fun h => y.f2 (stp h (by decide)), f3 := fun h => by have k := y.f3 (stp h (by decide)); exact k, f4 := fun h h7 => by have k := y.f4 (stp h (by decide)) (mon' h7); exact k, f5 := fun h => y.f5 (stp h (by decide)), f6 := fun h => y.f6 (stp h (by decide)), f7 := fun h => by have k := y.f7 (stp h (by decide)); exact k, f8 := fun h => ⟨(y.f8 (stp h (by decide))).1, mon (y.f8 (stp h (by decide))).2⟩, f9 := fun _ => ⟨rfl, mon (hd ⟨7, .data⟩ (by simp) rfl)⟩, t := hN, sa := y.sa, sb := y.sb, d := y.d }⟩

set_option maxRecDepth 100000 in
set_option maxHeartbeats 8000000 in
theorem doesV6 {Z : Nat → Prop} {w : World} {p : Option Addr} {seed : Int} {la : Option Addr} {ln lc : Nat} {kd : Int} {ka va : Option Addr} {kl kc vl vc : Nat} {key val : Key} (hk : BV w (.slice ka kl kc) key) (hv : BV w (.slice va vl vc) val) (hkl : key.length ≤ 1200) (hvl : val.length ≤ 1200) (hvoid : Void w (.pointer p)) (hlz : LZ Z w (.slice la ln lc) ([] : KVs))  (hkd : kd.tmod 8 = 6) :
    Calls Try.prog 33 #[.pointer p, .int .u64 seed, .slice la ln lc, .agg #[.int .i64 kd, .slice ka kl kc, .slice va vl vc], .bool false] w (DoesV (.slice la ln lc) w) := by
  have HVD := Lib.hid hvoid
  have HLZ := Lib.hid hlz
  clear hvoid hlz
  have HK := Lib.hid hk
  have HV := Lib.hid hv
  have HKL := Lib.hid hkl
  have HVL := Lib.hid hvl
  clear hk hv hkl hvl
  go_enter Try.func33, Try.ntmps33
  go_wp2_with fail
  have hbx := heap_alloc_new w (.cells #[.int .i64 kd, .slice ka kl kc, .slice va vl vc] 48)
  have HT2 := Lib.hid ((Touch.refl Nil w).alloc (.cells #[.int .i64 kd, .slice ka kl kc, .slice va vl vc] 48))
  have HE : ∃ B, w.heap.size = B := ⟨_, rfl⟩
  obtain ⟨B, eB⟩ := HE
  rw [eB] at hbx ⊢
  have HEB := Lib.hid eB
  have HE : ∃ w2, w.alloc (.cells #[.int .i64 kd, .slice ka kl kc, .slice va vl vc] 48) = w2 := ⟨_, rfl⟩
  obtain ⟨w2, ew2⟩ := HE
  rw [ew2] at hbx HT2 ⊢
  have HE : ∃ N, w2.heap.size = N := ⟨_, rfl⟩
  obtain ⟨N, eN⟩ := HE
  have HNN := Lib.hid eN
  have HBX := Lib.hid hbx
  have HKW := Lib.hid (HK.out.keepN HT2.out)
  have HVW := Lib.hid (HV.out.keepN HT2.out)
  have HNB := Lib.hid (show N = B + 1 from by rw [← eN, ← ew2, nblk_alloc, eB])
  clear hbx ew2 eN eB
  refine (wpIn_wide (n := 7)).1 (region_inv (by kernel_rfl) (by kernel_rfl) (fun J a W => J.size = 10 ∧ Touch Nil w2 W ∧ ∃ SA SB v12 v13 v32 v33 v34 v35 v36 v37 v38 v39, a = { tmps := #[.pointer p, .int .u64 seed, .slice la ln lc, .agg #[.int .i64 kd, .slice ka kl kc, .slice va vl vc], .bool false, undef, undef, undef, .pointer (some ⟨B, 0, none⟩), undef, .slice none 0 0, .bool false, v12, v13, undef, undef, undef, undef, undef, undef, undef, undef, undef, undef, undef, undef, undef, undef, undef, undef, undef, undef, v32, v33, v34, v35, v36, v37, v38, v39, undef, undef, undef, undef, undef, undef, undef, undef, undef, undef, undef, undef, undef, undef, undef, undef, undef, undef, undef, undef, undef, undef, undef, undef, undef, undef, undef, undef, undef, undef, undef, undef, undef, undef, undef, undef, undef, undef, undef, undef, undef, undef, undef, undef, undef, undef, undef, undef, undef, undef, undef, undef, undef, undef, undef, undef, undef, undef, undef, undef, undef, undef, undef, undef, undef, undef, undef, undef, undef, undef, undef, undef, undef, undef, undef, undef, undef, undef, undef, undef, undef, undef, undef, undef, undef, undef, undef, undef, undef, undef, undef, undef, undef, undef, undef, undef, undef, undef, undef, undef, undef, undef, undef, undef, undef, undef, undef, undef, undef, undef, undef, undef, undef, undef, undef, undef, undef, undef, undef, undef, undef, undef, undef, undef, undef, undef, undef, undef, undef, undef, undef, undef, undef, undef, undef, undef, undef, undef, undef, undef, undef, undef, undef, undef, undef, undef, undef, undef, undef, undef, undef, undef, undef, undef, undef, undef, undef, undef], defers := [] } ∧ D1 N B key val (.slice ka kl kc) (.slice va vl vc) J W SA SB v12 v13 v32 v33 v34 v35 v36 v37 v38 v39) ?_ ?_ ?_)
  · exact ⟨rfl, (Touch.refl Nil w2).drew, fun _ => False, fun _ => False, undef, undef, undef, undef, undef, undef, undef, undef, undef, undef, rfl, { f0 := fun h _ => absurd h (by decide), f1 := fun h => absurd h (by decide), f2 := fun h => absurd h (by decide), f3 := fun h => absurd h (by decide), f4 := fun h _ => absurd h (by decide), f5 := fun h => absurd h (by decide), f6 := fun h => absurd h (by decide), f7 := fun h => absurd h (by decide), f8 := fun h => absurd h (by decide), f9 := fun h => absurd h (by decide), t := Nat.le_of_eq HNN.out.symm, sa := fun b h => h.elim, sb := fun b h => h.elim, d := fun b h => h.elim }⟩
  · rintro J a w3 ⟨hs, ht, SA, SB, v12, v13, v32, v33, v34, v35, v36, v37, v38, v39, rfl, y⟩ hall
    have hL := allL hs hall
    have hk := y.f3 (hL 3 (by decide))
    have hv := y.f7 (hL 7 (by decide))
    have e1 := (y.f8 (hL 8 (by decide))).1
    have e2 := (y.f9 (hL 9 (by decide))).1
    subst e1 e2
    obtain ⟨xa, xl, xc, rfl⟩ := hk.1.form
    obtain ⟨ya, yl, yc, rfl⟩ := hv.1.form
    have HX := Lib.hid hk.1
    have HY := Lib.hid hv.1
    have HXY := Lib.hid (show ∀ b, OwnOf (.slice xa xl xc) b → ¬ OwnOf (.slice ya yl yc) b from fun b h1 h2 => y.d b (hk.2 b h1) (hv.2 b h2))
    have HT3 := Lib.hid (HT2.out.trans ht)
    have HTN := Lib.hid ht
    have hbx := (ht.same B (lt_heap HBX.out) fun c => c).trans HBX.out
    have HBX3 := Lib.hid hbx
    have b0 : w3.cell? ⟨B, 0, none⟩ = some (.int .i64 kd) := by simp [World.cell?, hbx]
    have b1 : w3.cell? ⟨B, 1, none⟩ = some (.slice ka kl kc) := by simp [World.cell?, hbx]
    have b2 : w3.cell? ⟨B, 2, none⟩ = some (.slice va vl vc) := by simp [World.cell?, hbx]
    have HK3 := Lib.hid (HKW.out.keepN ht)
    have HV3 := Lib.hid (HVW.out.keepN ht)
    have HN3 := Lib.hid y.t
    clear y hL hall hs hk hv hbx
    go_wp2_with fail
    refine (looks_void (HVD.out.keepN HT3.out) _).mono ?_
    rintro e w5 ⟨rfl, rfl⟩
    go_wp2_with fail
    go_ret2
    exact ⟨rfl, HT3.out⟩
  · rintro J a W i o ho ⟨hs, ht, SA, SB, v12, v13, v32, v33, v34, v35, v36, v37, v38, v39, rfl, y⟩ hl hd K hK
    have hi : i < 10 := (Array.getElem?_eq_some_iff.1 ho).1
    have hbx := (ht.same B (lt_heap HBX.out) fun c => c).trans HBX.out
    have b1 : W.cell? ⟨B, 1, none⟩ = some (.slice ka kl kc) := by simp [World.cell?, hbx]
    have b2 : W.cell? ⟨B, 2, none⟩ = some (.slice va vl vc) := by simp [World.cell?, hbx]
    have hN := y.t
    rcases (by omega : i = 0 ∨ i = 1 ∨ i = 2 ∨ i = 3 ∨ i = 4 ∨ i = 5 ∨ i = 6 ∨ i = 7 ∨ i = 8 ∨ i = 9) with rfl | rfl | rfl | rfl | rfl | rfl | rfl | rfl | rfl | rfl
    · obtain rfl := Option.some.inj (show some _ = some o from ho)
      go_simp
      have ta := (Touch.refl Nil W).alloc (.cells #[] 5)
      refine hK _ _ ⟨by simpa using hs, ht.trans ta, (fun b => SA b ∨ b = W.heap.size), SB, _, _, _, _, _, _, _, _, _, _, rfl, { f0 := fun _ _ => ⟨(own_new W).base hN, fun b hb => .inr (by simpa [OwnOf, Value.ownBlock] using hb)⟩, f1 := fun h => y.f1 (stp h (by decide)), f2 := fun h => y.f2 (stp h (by decide)), f3 := fun h => by have k := y.f3 (stp h (by decide)); exact (k.keepN ta).wide (fun _ h => .inl h), f4 := fun h h7 => by have k := y.f4 (stp h (by decide)) (mon' h7); exact k.keepN ta, f5 := fun h => y.f5 (stp h (by decide)), f6 := fun h => y.f6 (stp h (by decide)), f7 := fun h => by have k := y.f7 (stp h (by decide)); exact k.keepN ta, f8 := fun h => ⟨(y.f8 (stp h (by decide))).1, mon (y.f8 (stp h (by decide))).2⟩, f9 := fun h => ⟨(y.f9 (stp h (by decide))).1, mon (y.f9 (stp h (by decide))).2⟩, t := by rw [nblk_alloc]; omega, sa := fun b h => by rw [nblk_alloc]; rcases h with h | h; (have := y.sa b h; omega); (subst h; omega), sb := fun b h => by rw [nblk_alloc]; have := y.sb b h; omega, d := fun b h hb => by rcases h with h | h; (exact y.d b h hb); (subst h; have := y.sb _ hb; omega) }⟩
    · obtain rfl := Option.some.inj (show some _ = some o from ho)
      go_simp
      refine hK _ _ ⟨by simpa using hs, ht, SA, SB, _, _, _, _, _, _, _, _, _, _, rfl, { f0 := fun h h3 => by have k := y.f0 (stp h (by decide)) (mon' h3); exact k, f1 := fun _ => rfl, f2 := fun h => y.f2 (stp h (by decide)), f3 := fun h => by have k := y.f3 (stp h (by decide)); exact k, f4 := fun h h7 => by have k := y.f4 (stp h (by decide)) (mon' h7); exact k, f5 := fun h => y.f5 (stp h (by decide)), f6 := fun h => y.f6 (stp h (by decide)), f7 := fun h => by have k := y.f7 (stp h (by decide)); exact k, f8 := fun h => ⟨(y.f8 (stp h (by decide))).1, mon (y.f8 (stp h (by decide))).2⟩, f9 := fun h => ⟨(y.f9 (stp h (by decide))).1, mon (y.f9 (stp h (by decide))).2⟩, t := hN, sa := y.sa, sb := y.sb, d := y.d }⟩
    · obtain rfl := Option.some.inj (show some _ = some o from ho)
      have e := (y.f1 (hd ⟨1, .data⟩ (by simp) rfl)).symm
      subst e
      go_simp
      refine hK _ _ ⟨by simpa using hs, ht, SA, SB, _, _, _, _, _, _, _, _, _, _, rfl, { f0 := fun h h3 => by have k := y.f0 (stp h (by decide)) (mon' h3); exact k, f1 := fun h => y.f1 (stp h (by decide)), f2 := fun _ => rfl, f3 := fun h => by have k := y.f3 (stp h (by decide)); exact k, f4 := fun h h7 => by have k := y.f4 (stp h (by decide)) (mon' h7); exact k, f5 := fun h => y.f5 (stp h (by decide)), f6 := fun h => y.f6 (stp h (by decide)), f7 := fun h => by have k := y.f7 (stp h (by decide)); exact k, f8 := fun h => ⟨(y.f8 (stp h (by decide))).1, mon (y.f8 (stp h (by decide))).2⟩, f9 := fun h => ⟨(y.f9 (stp h (by decide))).1, mon (y.f9 (stp h (by decide))).2⟩, t := hN, sa := y.sa, sb := y.sb, d := y.d }⟩
    · obtain rfl := Option.some.inj (show some _ = some o from ho)
      have e := (y.f2 (hd ⟨2, .data⟩ (by simp) rfl)).symm
      subst e
      have ho := y.f0 (hd ⟨0, .data⟩ (by simp) rfl) (fun h => ngd hl h)
      rw [if_pos (by simp [Region.wanted])]
      refine opIn_append_bytes (.tmp 32) (.tmp 34) rfl v32 (.slice ka kl kc) key rfl ho.1 rfl (HKW.out.keepN ht) (by have := HKL.out; omega) hN ?_
      intro v' W' h1 h2 h3
      have hx : ∀ b, SB b → ¬ OwnOf v32 b := fun b hb hs => y.d b (ho.2 b hs) hb
      have tn : Touch Nil w2 W' := ht.trans' h2 fun b hb hs => by have h4 := y.sa b (ho.2 b hs); have := HNN.out; omega
      go_simp
      refine hK _ _ ⟨by simpa using hs, tn, (fun b => SA b ∨ (W.heap.size ≤ b ∧ b < W'.heap.size)), SB, _, _, _, _, _, _, _, _, _, _, rfl, { f0 := fun h hn => absurd (set_of (i := 3) (by rw [hs]; decide)) hn, f1 := fun h => y.f1 (stp h (by decide)), f2 := fun h => y.f2 (stp h (by decide)), f3 := fun _ => ⟨h1, fun b hb => (h3 b hb).elim (fun h => .inl (ho.2 b h)) fun h => .inr ⟨h, (h1.block b hb).2⟩⟩, f4 := fun h h7 => by have k := y.f4 (stp h (by decide)) (mon' h7); exact k.keep h2 hx, f5 := fun h => y.f5 (stp h (by decide)), f6 := fun h => y.f6 (stp h (by decide)), f7 := fun h => by have k := y.f7 (stp h (by decide)); exact k.keep h2 hx, f8 := fun h => (ngd hl (y.f8 (stp h (by decide))).2).elim, f9 := fun h => ⟨(y.f9 (stp h (by decide))).1, mon (y.f9 (stp h (by decide))).2⟩, t := Nat.le_trans hN h2.size, sa := fun b h => by have := h2.size; rcases h with h | h; (have := y.sa b h; omega); omega, sb := fun b h => by have := h2.size; have := y.sb b h; omega, d := fun b h hb => by rcases h with h | h; (exact y.d b h hb); (have := y.sb b hb; omega) }⟩
    · obtain rfl := Option.some.inj (show some _ = some o from ho)
      go_simp
      have ta := (Touch.refl Nil W).alloc (.cells #[] 5)
      refine hK _ _ ⟨by simpa using hs, ht.trans ta, SA, (fun b => SB b ∨ b = W.heap.size), _, _, _, _, _, _, _, _, _, _, rfl, { f0 := fun h h3 => by have k := y.f0 (stp h (by decide)) (mon' h3); exact k.keepN ta, f1 := fun h => y.f1 (stp h (by decide)), f2 := fun h => y.f2 (stp h (by decide)), f3 := fun h => by have k := y.f3 (stp h (by decide)); exact k.keepN ta, f4 := fun _ _ => ⟨(own_new W).base hN, fun b hb => .inr (by simpa [OwnOf, Value.ownBlock] using hb)⟩, f5 := fun h => y.f5 (stp h (by decide)), f6 := fun h => y.f6 (stp h (by decide)), f7 := fun h => by have k := y.f7 (stp h (by decide)); exact (k.keepN ta).wide (fun _ h => .inl h), f8 := fun h => ⟨(y.f8 (stp h (by decide))).1, mon (y.f8 (stp h (by decide))).2⟩, f9 := fun h => ⟨(y.f9 (stp h (by decide))).1, mon (y.f9 (stp h (by decide))).2⟩, t := by rw [nblk_alloc]; omega, sa := fun b h => by rw [nblk_alloc]; have := y.sa b h; omega, sb := fun b h => by rw [nblk_alloc]; rcases h with h | h; (have := y.sb b h; omega); (subst h; omega), d := fun b h hb => by rcases hb with hb | hb; (exact y.d b h hb); (subst hb; have := y.sa _ h; omega) }⟩
    · obtain rfl := Option.some.inj (show some _ = some o from ho)
      go_simp
      refine hK _ _ ⟨by simpa using hs, ht, SA, SB, _, _, _, _, _, _, _, _, _, _, rfl, { f0 := fun h h3 => by have k := y.f0 (stp h (by decide)) (mon' h3); exact k, f1 := fun h => y.f1 (stp h (by decide)), f2 := fun h => y.f2 (stp h (by decide)), f3 := fun h => by have k := y.f3 (stp h (by decide)); exact k, f4 := fun h h7 => by have k := y.f4 (stp h (by decide)) (mon' h7); exact k, f5 := fun _ => rfl, f6 := fun h => y.f6 (stp h (by decide)), f7 := fun h => by have k := y.f7 (stp h (by decide)); exact k, f8 := fun h => ⟨(y.f8 (stp h (by decide))).1, mon (y.f8 (stp h (by decide))).2⟩, f9 := fun h => ⟨(y.f9 (stp h (by decide))).1, mon (y.f9 (stp h (by decide))).2⟩, t := hN, sa := y.sa, sb := y.sb, d := y.d }⟩
    · obtain rfl := Option.some.inj (show some _ = some o from ho)
      have e := (y.f5 (hd ⟨5, .data⟩ (by simp) rfl)).symm
      subst e
      go_simp
      refine hK _ _ ⟨by simpa using hs, ht, SA, SB, _, _, _, _, _, _, _, _, _, _, rfl, { f0 := fun h h3 => by have k := y.f0 (stp h (by decide)) (mon' h3); exact k, f1 := fun h => y.f1 (stp h (by decide)), f2 := fun h => y.f2 (stp h (by decide)), f3 := fun h => by have k := y.f3 (stp h (by decide)); exact k, f4 := fun h h7 => by have k := y.f4 (stp h (by decide)) (mon' h7); exact k, f5 := fun h => y.f5 (stp h (by decide)), f6 := fun _ => rfl, f7 := fun h => by have k := y.f7 (stp h (by decide)); exact k, f8 := fun h => ⟨(y.f8 (stp h (by decide))).1, mon (y.f8 (stp h (by decide))).2⟩, f9 := fun h => ⟨(y.f9 (stp h (by decide))).1, mon (y.f9 (stp h (by decide))).2⟩, t := hN, sa := y.sa, sb := y.sb, d := y.d }⟩
    · obtain rfl := Option.some.inj (show some _ = some o from ho)
      have e := (y.f6 (hd ⟨6, .data⟩ (by simp) rfl)).symm
      subst e
      have ho := y.f4 (hd ⟨4, .data⟩ (by simp) rfl) (fun h => ngd hl h)
      rw [if_pos (by simp [Region.wanted])]
      refine opIn_append_bytes (.tmp 36) (.tmp 38) rfl v36 (.slice va vl vc) val rfl ho.1 rfl (HVW.out.keepN ht) (by have := HVL.out; omega) hN ?_
      intro v' W' h1 h2 h3
      have hx : ∀ b, SA b → ¬ OwnOf v36 b := fun b hb hs => y.d b hb (ho.2 b hs)
      have tn : Touch Nil w2 W' := ht.trans' h2 fun b hb hs => by have h4 := y.sb b (ho.2 b hs); have := HNN.out; omega
      go_simp
      refine hK _ _ ⟨by simpa using hs, tn, SA, (fun b => SB b ∨ (W.heap.size ≤ b ∧ b < W'.heap.size)), _, _, _, _, _, _, _, _, _, _, rfl, { f0 := fun h h3 => by have k := y.f0 (stp h (by decide)) (mon' h3); exact k.keep h2 hx, f1 := fun h => y.f1 (stp h (by decide)), f2 := fun h => y.f2 (stp h (by decide)), f3 := fun h => by have k := y.f3 (stp h (by decide)); exact k.keep h2 hx, f4 := fun h hn => absurd (set_of (i := 7) (by rw [hs]; decide)) hn, f5 := fun h => y.f5 (stp h (by decide)), f6 := fun h => y.f6 (stp h (by decide)), f7 := fun _ => ⟨h1, fun b hb => (h3 b hb).elim (fun h => .inl (ho.2 b h)) fun h => .inr ⟨h, (h1.block b hb).2⟩⟩, f8 := fun h => ⟨(y.f8 (stp h (by decide))).1, mon (y.f8 (stp h (by decide))).2⟩, f9 := fun h => (ngd hl (y.f9 (stp h (by decide))).2).elim, t := Nat.le_trans hN h2.size, sa := fun b h => by have := h2.size; have := y.sa b h; omega, sb := fun b h => by have := h2.size; rcases h with h | h; (have := y.sb b h; omega); omega, d := fun b h hb => by rcases hb with hb | hb; (exact y.d b h hb); (have := y.sa b h; omega) }⟩
    · obtain rfl := Option.some.inj (show some _ = some o from ho)
      go_simp
      refine hK _ _ ⟨by simpa using hs, ht, SA, SB, _, _, _, _, _, _, _, _, _, _, rfl, { f0 := fun h h3 => by have k := y.f0 (stp h (by decide)) (mon' h3); exact k, f1 := fun h => y.f1 (stp h (by decide)), f2 := fun h => y.f2 (stp h (by decide)), f3 := fun h => by have k := y.f3 (stp h (by decide)); exact k, f4 := fun h h7 => by have k := y.f4 (stp h (by decide)) (mon' h7); exact k, f5 := fun h => y.f5 (stp h (by decide)), f6 := fun h => y.f6 (stp h (by decide)), f7 := fun h => by have k := y.f7 (stp h (by decide)); exact k, f8 := fun _ => ⟨rfl, mon (hd ⟨3, .data⟩ (by simp) rfl)⟩, f9 := fun h => ⟨(y.f9 (stp h (by decide))).1, mon (y.f9 (stp h (by decide))).2⟩, t := hN, sa := y.sa, sb := y.sb, d := y.d }⟩
    · obtain rfl := Option.some.inj (show some _ = some o from ho)
      go_simp
      refine hK _ _ ⟨by simpa using hs, ht, SA, SB, _, _, _, _, _, _, _, _, _, _, rfl, { f0 := fun h h3 => by have k := y.f0 (stp h (by decide)) (mon' h3); exact k, f1 := fun h => y.f1 (stp h (by decide)), f2 := fun h => y.f2 (stp h (by decide)), f3 := fun h => by have k := y.f3 (stp h (by decide)); exact k, f4 := fun h h7 => by have k := y.f4 (stp h (by decide)) (mon' h7); exact k, f5 := fun h => y.f5 (stp h (by decide)), f6 := fun h => y.f6 (stp h (by decide)), f7 := fun h => by have k := y.f7 (stp h (by decide)); exact k, f8 := fun h => ⟨(y.f8 (stp h (by decide))).1, mon (y.f8 (stp h (by decide))).2⟩, f9 := fun _ => ⟨rfl, mon (hd ⟨7, .data⟩ (by simp) rfl)⟩, t := hN, sa := y.sa, sb := y.sb, d := y.d }⟩

set_option maxRecDepth 100000 in
set_option maxHeartbeats 8000000 in
theorem doesV7 {Z : Nat → Prop} {w : World} {p : Option Addr} {seed : Int} {la : Option Addr} {lc : Nat} {kd : Int} {ka va : Option Addr} {kl kc vl vc : Nat} {key val : Key} (hk : BV w (.slice ka kl kc) key) (hv : BV w (.slice va vl vc) val) (hkl : key.length ≤ 1200) (hvl : val.length ≤ 1200) (hvoid : Void w (.pointer p)) (hlz : LZ Z w (.slice la 0 lc) ([] : KVs))  {z : Int} (hkd : kd.tmod 8 = z) (z0 : (z == (0 : Int)) = false) (z1 : (z == (1 : Int)) = false) (z2 : (z == (2 : Int)) = false) (z4 : (z == (4 : Int)) = false) (z5 : (z == (5 : Int)) = false) (z6 : (z == (6 : Int)) = false) :
    Calls Try.prog 33 #[.pointer p, .int .u64 seed, .slice la 0 lc, .agg #[.int .i64 kd, .slice ka kl kc, .slice va vl vc], .bool false] w (DoesV (.slice la 0 lc) w) := by
  have HVD := Lib.hid hvoid
  have HLZ := Lib.hid hlz
  clear hvoid hlz
  have HK := Lib.hid hk
  have HV := Lib.hid hv
  have HKL := Lib.hid hkl
  have HVL := Lib.hid hvl
  clear hk hv hkl hvl
  go_enter Try.func33, Try.ntmps33
  go_wp2_with fail
  have hbx := heap_alloc_new w (.cells #[.int .i64 kd, .slice ka kl kc, .slice va vl vc] 48)
  have HT2 := Lib.hid ((Touch.refl Nil w).alloc (.cells #[.int .i64 kd, .slice ka kl kc, .slice va vl vc] 48))
  have HE : ∃ B, w.heap.size = B := ⟨_, rfl⟩
  obtain ⟨B, eB⟩ := HE
  rw [eB] at hbx ⊢
  have HEB := Lib.hid eB
  have HE : ∃ w2, w.alloc (.cells #[.int .i64 kd, .slice ka kl kc, .slice va vl vc] 48) = w2 := ⟨_, rfl⟩
  obtain ⟨w2, ew2⟩ := HE
  rw [ew2] at hbx HT2 ⊢
  have HE : ∃ N, w2.heap.size = N := ⟨_, rfl⟩
  obtain ⟨N, eN⟩ := HE
  have HNN := Lib.hid eN
  have HBX := Lib.hid hbx
  have HKW := Lib.hid (HK.out.keepN HT2.out)
  have HVW := Lib.hid (HV.out.keepN HT2.out)
  have HNB := Lib.hid (show N = B + 1 from by rw [← eN, ← ew2, nblk_alloc, eB])
  clear hbx ew2 eN eB
  refine (wpIn_wide (n := 7)).1 (region_inv (by kernel_rfl) (by kernel_rfl) (fun J a W => J.size = 10 ∧ Touch Nil w2 W ∧ ∃ SA SB v12 v13 v32 v33 v34 v35 v36 v37 v38 v39, a = { tmps := #[.pointer p, .int .u64 seed, .slice la 0 lc, .agg #[.int .i64 kd, .slice ka kl kc, .slice va vl vc], .bool false, undef, undef, undef, .pointer (some ⟨B, 0, none⟩), undef, .slice none 0 0, .bool false, v12, v13, undef, undef, undef, undef, undef, undef, undef, undef, undef, undef, undef, undef, undef, undef, undef, undef, undef, undef, v32, v33, v34, v35, v36, v37, v38, v39, undef, undef, undef, undef, undef, undef, undef, undef, undef, undef, undef, undef, undef, undef, undef, undef, undef, undef, undef, undef, undef, undef, undef, undef, undef, undef, undef, undef, undef, undef, undef, undef, undef, undef, undef, undef, undef, undef, undef, undef, undef, undef, undef, undef, undef, undef, undef, undef, undef, undef, undef, undef, undef, undef, undef, undef, undef, undef, undef, undef, undef, undef, undef, undef, undef, undef, undef, undef, undef, undef, undef, undef, undef, undef, undef, undef, undef, undef, undef, undef, undef, undef, undef, undef, undef, undef, undef, undef, undef, undef, undef, undef, undef, undef, undef, undef, undef, undef, undef, undef, undef, undef, undef, undef, undef, undef, undef, undef, undef, undef, undef, undef, undef, undef, undef, undef, undef, undef, undef, undef, undef, undef, undef, undef, undef, undef, undef, undef, undef, undef, undef, undef, undef, undef, undef, undef, undef, undef, undef, undef, undef, undef, undef, undef, undef, undef, undef, undef, undef, undef, undef, undef, undef, undef, undef, undef, undef, undef], defers := [] } ∧ D1 N B key val (.slice ka kl kc) (.slice va vl vc) J W SA SB v12 v13 v32 v33 v34 v35 v36 v37 v38 v39) ?_ ?_ ?_)
  · exact ⟨rfl, (Touch.refl Nil w2).drew, fun _ => False, fun _ => False, undef, undef, undef, undef, undef, undef, undef, undef, undef, undef, rfl, { f0 := fun h _ => absurd h (by decide), f1 := fun h => absurd h (by decide), f2 := fun h => absurd h (by decide), f3 := fun h => absurd h (by decide), f4 := fun h _ => absurd h (by decide), f5 := fun h => absurd h (by decide), f6 := fun h => absurd h (by decide), f7 := fun h => absurd h (by decide), f8 := fun h => absurd h (by decide), f9 := fun h => absurd h (by decide), t := Nat.le_of_eq HNN.out.symm, sa := fun b h => h.elim, sb := fun b h => h.elim, d := fun b h => h.elim }⟩
  · rintro J a w3 ⟨hs, ht, SA, SB, v12, v13, v32, v33, v34, v35, v36, v37, v38, v39, rfl, y⟩ hall
    have hL := allL hs hall
    have hk := y.f3 (hL 3 (by decide))
    have hv := y.f7 (hL 7 (by decide))
    have e1 := (y.f8 (hL 8 (by decide))).1
    have e2 := (y.f9 (hL 9 (by decide))).1
    subst e1 e2
    obtain ⟨xa, xl, xc, rfl⟩ := hk.1.form
    obtain ⟨ya, yl, yc, rfl⟩ := hv.1.form
    have HX := Lib.hid hk.1
    have HY := Lib.hid hv.1
    have HXY := Lib.hid (show ∀ b, OwnOf (.slice xa xl xc) b → ¬ OwnOf (.slice ya yl yc) b from fun b h1 h2 => y.d b (hk.2 b h1) (hv.2 b h2))
    have HT3 := Lib.hid (HT2.out.trans ht)
    have HTN := Lib.hid ht
    have hbx := (ht.same B (lt_heap HBX.out) fun c => c).trans HBX.out
    have HBX3 := Lib.hid hbx
    have b0 : w3.cell? ⟨B, 0, none⟩ = some (.int .i64 kd) := by simp [World.cell?, hbx]
    have b1 : w3.cell? ⟨B, 1, none⟩ = some (.slice ka kl kc) := by simp [World.cell?, hbx]
    have b2 : w3.cell? ⟨B, 2, none⟩ = some (.slice va vl vc) := by simp [World.cell?, hbx]
    have HK3 := Lib.hid (HKW.out.keepN ht)
    have HV3 := Lib.hid (HVW.out.keepN ht)
    have HN3 := Lib.hid y.t
    clear y hL hall hs hk hv hbx
    go_wp2_with fail
    refine (len_void (HVD.out.keepN HT3.out)).mono ?_
    rintro e w5 ⟨rfl, rfl⟩
    go_wp2_with fail
    go_ret2
    exact ⟨by simp, HT3.out⟩
  · rintro J a W i o ho ⟨hs, ht, SA, SB, v12, v13, v32, v33, v34, v35, v36, v37, v38, v39, rfl, y⟩ hl hd K hK
    have hi : i < 10 := (Array.getElem?_eq_some_iff.1 ho).1
    have hbx := (ht.same B (lt_heap HBX.out) fun c => c).trans HBX.out
    have b1 : W.cell? ⟨B, 1, none⟩ = some (.slice ka kl kc) := by simp [World.cell?, hbx]
    have b2 : W.cell? ⟨B, 2, none⟩ = some (.slice va vl vc) := by simp [World.cell?, hbx]
    have hN := y.t
    rcases (by omega : i = 0 ∨ i = 1 ∨ i = 2 ∨ i = 3 ∨ i = 4 ∨ i = 5 ∨ i = 6 ∨ i = 7 ∨ i = 8 ∨ i = 9) with rfl | rfl | rfl | rfl | rfl | rfl | rfl | rfl | rfl | rfl
    · obtain rfl := Option.some.inj (show some _ = some o from ho)
      go_simp
      have ta := (Touch.refl Nil W).alloc (.cells #[] 5)
      refine hK _ _ ⟨by simpa using hs, ht.trans ta, (fun b => SA b ∨ b = W.heap.size), SB, _, _, _, _, _, _, _, _, _, _, rfl, { f0 := fun _ _ => ⟨(own_new W).base hN, fun b hb => .inr (by simpa [OwnOf, Value.ownBlock] using hb)⟩, f1 := fun h => y.f1 (stp h (by decide)), f2 := fun h => y.f2 (stp h (by decide)), f3 := fun h => by have k := y.f3 (stp h (by decide)); exact (k.keepN ta).wide (fun _ h => .inl h), f4 := fun h h7 => by have k := y.f4 (stp h (by decide)) (mon' h7); exact k.keepN ta, f5 := fun h => y.f5 (stp h (by decide)), f6 := fun h => y.f6 (stp h (by decide)), f7 := fun h => by have k := y.f7 (stp h (by decide)); exact k.keepN ta, f8 := fun h => ⟨(y.f8 (stp h (by decide))).1, mon (y.f8 (stp h (by decide))).2⟩, f9 := fun h => ⟨(y.f9 (stp h (by decide))).1, mon (y.f9 (stp h (by decide))).2⟩, t := by rw [nblk_alloc]; omega, sa := fun b h => by rw [nblk_alloc]; rcases h with h | h; (have := y.sa b h; omega); (subst h; omega), sb := fun b h => by rw [nblk_alloc]; have := y.sb b h; omega, d := fun b h hb => by rcases h with h | h; (exact y.d b h hb); (subst h; have := y.sb _ hb; omega) }⟩
    · obtain rfl := Option.some.inj (show some _ = some o from ho)
      go_simp
      refine hK _ _ ⟨by simpa using hs, ht, SA, SB, _, _, _, _, _, _, _, _, _, _, rfl, { f0 := fun h h3 => by have k := y.f0 (stp h (by decide)) (mon' h3); exact k, f1 := fun _ => rfl, f2 := fun h => y.f2 (stp h (by decide)), f3 := fun h => by have k := y.f3 (stp h (by decide)); exact k, f4 := fun h h7 => by have k := y.f4 (stp h (by decide)) (mon' h7); exact k, f5 := fun h => y.f5 (stp h (by decide)), f6 := fun h => y.f6 (stp h (by decide)), f7 := fun h => by have k := y.f7 (stp h (by decide)); exact k, f8 := fun h => ⟨(y.f8 (stp h (by decide))).1, mon (y.f8 (stp h (by decide))).2⟩, f9 := fun h => ⟨(y.f9 (stp h (by decide))).1, mon (y.f9 (stp h (by decide))).2⟩, t := hN, sa := y.sa, sb := y.sb, d := y.d }⟩
    · obtain rfl := Option.some.inj (show some _ = some o from ho)
      have e := (y.f1 (hd ⟨1, .data⟩ (by simp) rfl)).symm
      subst e
      go_simp
      refine hK _ _ ⟨by simpa using hs, ht, SA, SB, _, _, _, _, _, _, _, _, _, _, rfl, { f0 := fun h h3 => by have k := y.f0 (stp h (by decide)) (mon' h3); exact k, f1 := fun h => y.f1 (stp h (by decide)), f2 := fun _ => rfl, f3 := fun h => by have k := y.f3 (stp h (by decide)); exact k, f4 := fun h h7 => by have k := y.f4 (stp h (by decide)) (mon' h7); exact k, f5 := fun h => y.f5 (stp h (by decide)), f6 := fun h => y.f6 (stp h (by decide)), f7 := fun h => by have k := y.f7 (stp h (by decide)); exact k, f8 := fun h => ⟨(y.f8 (stp h (by decide))).1, mon (y.f8 (stp h (by decide))).2⟩, f9 := fun h => ⟨(y.f9 (stp h (by decide))).1, mon (y.f9 (stp h (by decide))).2⟩, t := hN, sa := y.sa, sb := y.sb, d := y.d }⟩
    · obtain rfl := Option.some.inj (show some _ = some o from ho)
      have e := (y.f2 (hd ⟨2, .data⟩ (by simp) rfl)).symm
      subst e
      have ho := y.f0 (hd ⟨0, .data⟩ (by simp) rfl) (fun h => ngd hl h)
      rw [if_pos (by simp [Region.wanted])]
      refine opIn_append_bytes (.tmp 32) (.tmp 34) rfl v32 (.slice ka kl kc) key rfl ho.1 rfl (HKW.out.keepN ht) (by have := HKL.out; omega) hN ?_
      intro v' W' h1 h2 h3
      have hx : ∀ b, SB b → ¬ OwnOf v32 b := fun b hb hs => y.d b (ho.2 b hs) hb
      have tn : Touch Nil w2 W' := ht.trans' h2 fun b hb hs => by have h4 := y.sa b (ho.2 b hs); have := HNN.out; omega
      go_simp
      refine hK _ _ ⟨by simpa using hs, tn, (fun b => SA b ∨ (W.heap.size ≤ b ∧ b < W'.heap.size)), SB, _, _, _, _, _, _, _, _, _, _, rfl, { f0 := fun h hn => absurd (set_of (i := 3) (by rw [hs]; decide)) hn, f1 := fun h => y.f1 (stp h (by decide)), f2 := fun h => y.f2 (stp h (by decide)), f3 := fun _ => ⟨h1, fun b hb => (h3 b hb).elim (fun h => .inl (ho.2 b h)) fun h => .inr ⟨h, (h1.block b hb).2⟩⟩, f4 := fun h h7 => by have k := y.f4 (stp h (by decide)) (mon' h7); exact k.keep h2 hx, f5 := fun h => y.f5 (stp h (by decide)), f6 := fun h => y.f6 (stp h (by decide)), f7 := fun h => by have k := y.f7 (stp h (by decide)); exact k.keep h2 hx, f8 := fun h => (ngd hl (y.f8 (stp h (by decide))).2).elim, f9 := fun h => ⟨(y.f9 (stp h (by decide))).1, mon (y.f9 (stp h (by decide))).2⟩, t := Nat.le_trans hN h2.size, sa := fun b h => by have := h2.size; rcases h with h | h; (have := y.sa b h; omega); omega, sb := fun b h => by have := h2.size; have := y.sb b h; omega, d := fun b h hb => by rcases h with h | h; (exact y.d b h hb); (have := y.sb b hb; omega) }⟩
    · obtain rfl := Option.some.inj (show some _ = some o from ho)
      go_simp
      have ta := (Touch.refl Nil W).alloc (.cells #[] 5)
      refine hK _ _ ⟨by simpa using hs, ht.trans ta, SA, (fun b => SB b ∨ b = W.heap.size), _, _, _, _, _, _, _, _, _, _, rfl, { f0 := fun h h3 => by have k := y.f0 (stp h (by decide)) (mon' h3); exact k.keepN ta, f1 := fun h => y.f1 (stp h (by decide)), f2 := fun h => y.f2 (stp h (by decide)), f3 := fun h => by have k := y.f3 (stp h (by decide)); exact k.keepN ta, f4 := fun _ _ => ⟨(own_new W).base hN, fun b hb => .inr (by simpa [OwnOf, Value.ownBlock] using hb)⟩, f5 := fun h => y.f5 (stp h (by decide)), f6 := fun h => y.f6 (stp h (by decide)), f7 := fun h => by have k := y.f7 (stp h (by decide)); exact (k.keepN ta).wide (fun _ h => .inl h), f8 := fun h => ⟨(y.f8 (stp h (by decide))).1, mon (y.f8 (stp h (by decide))).2⟩, f9 := fun h => ⟨(y.f9 (stp h (by decide))).1, mon (y.f9 (stp h (by decide))).2⟩, t := by rw [nblk_alloc]; omega, sa := fun b h => by rw [nblk_alloc]; have := y.sa b h; omega, sb := fun b h => by rw [nblk_alloc]; rcases h with h | h; (have := y.sb b h; omega); (subst h; omega), d := fun b h hb => by rcases hb with hb | hb; (exact y.d b h hb); (subst hb; have := y.sa _ h; omega) }⟩
    · obtain rfl := Option.some.inj (show some _ = some o from ho)
      go_simp
      refine hK _ _ ⟨by simpa using hs, ht, SA, SB, _, _, _, _, _, _, _, _, _, _, rfl, { f0 := fun h h3 => by have k := y.f0 (stp h (by decide)) (mon' h3); exact k, f1 := fun h => y.f1 (stp h (by decide)), f2 := fun h => y.f2 (stp h (by decide)), f3 := fun h => by have k := y.f3 (stp h (by decide)); exact k, f4 := fun h h7 => by have k := y.f4 (stp h (by decide)) (mon' h7); exact k, f5 := fun _ => rfl, f6 := fun h => y.f6 (stp h (by decide)), f7 := fun h => by have k := y.f7 (stp h (by decide)); exact k, f8 := fun h => ⟨(y.f8 (stp h (by decide))).1, mon (y.f8 (stp h (by decide))).2⟩, f9 := fun h => ⟨(y.f9 (stp h (by decide))).1, mon (y.f9 (stp h (by decide))).2⟩, t := hN, sa := y.sa, sb := y.sb, d := y.d }⟩
    · obtain rfl := Option.some.inj (show some _ = some o from ho)
      have e := (y.f5 (hd ⟨5, .data⟩ (by simp) rfl)).symm
      subst e
      go_simp
      refine hK _ _ ⟨by simpa using hs, ht, SA, SB, _, _, _, _, _, _, _, _, _, _, rfl, { f0 := fun h h3 => by have k := y.f0 (stp h (by decide)) (mon' h3); exact k, f1 := fun h => y.f1 (stp h (by decide)), f2 := fun h => y.f2 (stp h (by decide)), f3 := fun h => by have k := y.f3 (stp h (by decide)); exact k, f4 := fun h h7 => by have k := y.f4 (stp h (by decide)) (mon' h7); exact k, f5 := fun h => y.f5 (stp h (by decide)), f6 := fun _ => rfl, f7 := fun h => by have k := y.f7 (stp h (by decide)); exact k, f8 := fun h => ⟨(y.f8 (stp h (by decide))).1, mon (y.f8 (stp h (by decide))).2⟩, f9 := fun h => ⟨(y.f9 (stp h (by decide))).1, mon (y.f9 (stp h (by decide))).2⟩, t := hN, sa := y.sa, sb := y.sb, d := y.d }⟩
    · obtain rfl := Option.some.inj (show some _ = some o from ho)
      have e := (y.f6 (hd ⟨6, .data⟩ (by simp) rfl)).symm
      subst e
      have ho := y.f4 (hd ⟨4, .data⟩ (by simp) rfl) (fun h => ngd hl h)
      rw [if_pos (by simp [Region.wanted])]
      refine opIn_append_bytes (.tmp 36) (.tmp 38) rfl v36 (.slice va vl vc) val rfl ho.1 rfl (HVW.out.keepN ht) (by have := HVL.out; omega) hN ?_
      intro v' W' h1 h2 h3
      have hx : ∀ b, SA b → ¬ OwnOf v36 b := fun b hb hs => y.d b hb (ho.2 b hs)
      have tn : Touch Nil w2 W' := ht.trans' h2 fun b hb hs => by have h4 := y.sb b (ho.2 b hs); have := HNN.out; omega
      go_simp
      refine hK _ _ ⟨by simpa using hs, tn, SA, (fun b => SB b ∨ (W.heap.size ≤ b ∧ b < W'.heap.size)), _, _, _, _, _, _, _, _, _, _, rfl, { f0 := fun h h3 => by have k := y.f0 (stp h (by decide)) (mon' h3); exact k.keep h2 hx, f1 := fun h => y.f1 (stp h (by decide)), f2 := fun h => y.f2 (stp h (by decide)), f3 := fun h => by have k := y.f3 (stp h (by decide)); exact k.keep h2 hx, f4 := fun h hn => absurd (set_of (i := 7) (by rw [hs]; decide)) hn, f5 := fun h => y.f5 (stp h (by decide)), f6 := fun h => y.f6 (stp h (by decide)), f7 := fun _ => ⟨h1, fun b hb => (h3 b hb).elim (fun h => .inl (ho.2 b h)) fun h => .inr ⟨h, (h1.block b hb).2⟩⟩, f8 := fun h => ⟨(y.f8 (stp h (by decide))).1, mon (y.f8 (stp h (by decide))).2⟩, f9 := fun h => (ngd hl (y.f9 (stp h (by decide))).2).elim, t := Nat.le_trans hN h2.size, sa := fun b h => by have := h2.size; have := y.sa b h; omega, sb := fun b h => by have := h2.size; rcases h with h | h; (have := y.sb b h; omega); omega, d := fun b h hb => by rcases hb with hb | hb; (exact y.d b h hb); (have := y.sa b h; omega) }⟩
    · obtain rfl := Option.some.inj (show some _ = some o from ho)
      go_simp
      refine hK _ _ ⟨by simpa using hs, ht, SA, SB, _, _, _, _, _, _, _, _, _, _, rfl, { f0 := fun h h3 => by have k := y.f0 (stp h (by decide)) (mon' h3); exact k, f1 := fun h => y.f1 (stp h (by decide)), f2 := fun h => y.f2 (stp h (by decide)), f3 := fun h => by have k := y.f3 (stp h (by decide)); exact k, f4 := fun h h7 => by have k := y.f4 (stp h (by decide)) (mon' h7); exact k, f5 := fun h => y.f5 (stp h (by decide)), f6 := fun h => y.f6 (stp h (by decide)), f7 := fun h => by have k := y.f7 (stp h (by decide)); exact k, f8 := fun _ => ⟨rfl, mon (hd ⟨3, .data⟩ (by simp) rfl)⟩, f9 := fun h => ⟨(y.f9 (stp h (by decide))).1, mon (y.f9 (stp h (by decide))).2⟩, t := hN, sa := y.sa, sb := y.sb, d := y.d }⟩
    · obtain rfl := Option.some.inj (show some _ = some o from ho)
      go_simp
      refine hK _ _ ⟨by simpa using hs, ht, SA, SB, _, _, _, _, _, _, _, _, _, _, rfl, { f0 := fun h h3 => by have k := y.f0 (stp h (by decide)) (mon' h3); exact k, f1 := fun h => y.f1 (stp h (by decide)), f2 := fun h => y.f2 (stp h (by decide)), f3 := fun h => by have k := y.f3 (stp h (by decide)); exact k, f4 := fun h h7 => by have k := y.f4 (stp h (by decide)) (mon' h7); exact k, f5 := fun h => y.f5 (stp h (by decide)), f6 := fun h => y.f6 (stp h (by decide)), f7 := fun h => by have k := y.f7 (stp h (by decide)); exact k, f8 := fun h => ⟨(y.f8 (stp h (by decide))).1, mon (y.f8 (stp h (by decide))).2⟩, f9 := fun _ => ⟨rfl, mon (hd ⟨7, .data⟩ (by simp) rfl)⟩, t := hN, sa := y.sa, sb := y.sb, d := y.d }⟩

end Go.Proofs.Ytabjpejgnfeegaa
