import Derived.Test.YticddcnlafbkoaaDoorVreg
import Derived.Test.YticddcnlafbkoaaDoorVis
/- What a vault's pads do. -/
namespace Go.Proofs.YticddcnlafbkoaaDoor
open Go.ChangeShapes Go.WideShapes Go.ChangeAt Go.RowKit Go.Deep
attribute [local go_sem] Oper.semAt_some
/-- What holds while a pad is laid into the table: the blocks of the name are SA, those of the value SB. -/
structure A1 (N B : Nat) (tp : Option Addr) (seed : Int) (n C : Nat) (T : Cells) (R : Nat → Prop) (nm : ByteArray) (key pad : Key) (pv : Value) (w2 : World) (J : Array Bool) (W : World) (SA SB : Nat → Prop) (v6 v17 v18 v19 v20 v21 v22 v23 v24 : Value) : Prop where
  f0 : J.getD 0 false = true → v17 = .pointer (some ⟨B, 0, none⟩)
  f1 : J.getD 1 false = true → v18 = .pointer tp
  f2 : J.getD 2 false = true → v19 = .string nm
  f3 : J.getD 3 false = true → ¬ J.getD 7 false = true → InB SA W v20 key
  f4 : J.getD 4 false = true → ¬ J.getD 6 false = true → InS SB N W v21 [1]
  f5 : J.getD 5 false = true → v22 = pv
  f6 : J.getD 6 false = true → ¬ J.getD 7 false = true → InS SB N W v23 ([1] ++ pad)
  f7 : J.getD 7 false = true → ∃ W0, Touch Nil w2 W0 ∧ PutP R (.pointer tp) seed n C T key ([1] ++ pad) W0 (.returned v24) W
  f8 : J.getD 8 false = true → v6 = v24 ∧ J.getD 7 false = true
  c6 : J.getD 6 false = true → J.getD 4 false = true
  c7 : J.getD 7 false = true → J.getD 1 false = true ∧ J.getD 3 false = true ∧ J.getD 6 false = true
  t : ¬ J.getD 7 false = true → Touch Nil w2 W
  n : N ≤ W.heap.size
  sa : ∀ b, SA b → N ≤ b ∧ b < W.heap.size
  sb : ∀ b, SB b → N ≤ b ∧ b < W.heap.size
  d : ∀ b, SA b → ¬ SB b
def VAddP (R : Nat → Prop) (tp : Option Addr) (seed : Int) (n C : Nat) (T : Cells) (key pad : Key) (w : World) (e : Ending) (w' : World) : Prop :=
  ∃ R' n' C' T', e = .returned (.int .i64 0) ∧ Tab R' w' (.pointer tp) seed n' C' T' ∧ Touch R w w' ∧ (∀ b, R' b → R b ∨ w.heap.size ≤ b) ∧ n' ≤ n + 1 ∧ ∀ x, InT C' T' x ↔ (x.1 ≠ key ∧ InT C T x) ∨ x = (key, [1] ++ pad)
def FindN (w : World) (e : Ending) (w' : World) : Prop := e = .returned (.tuple #[.slice none 0 0, .int .i64 3]) ∧ Touch Nil w w'
section
variable {R : Nat → Prop} {w : World} {tp : Option Addr} {seed : Int} {n C : Nat} {T : Cells}
set_option maxRecDepth 100000 in
set_option maxHeartbeats 400000 in
theorem find_none (h : Tab R w (.pointer tp) seed n C T) (nm : ByteArray) {key : Key} (hke : nm.data.toList = key) (hkl : key.length ≤ 1048576) (hno : valAt (T (seekAt (bfS seed) (homS seed C) C T key)) key = none) :
    Calls Tryd.prog 30 #[.agg #[.pointer tp], .string nm] w (FindN w) := by
  obtain ⟨cc, W', hcv, tc, hbv, _⟩ := conv_name nm (w.alloc (.cells #[.pointer tp] 58))
  obtain ⟨bb, ebb⟩ : ∃ bb, (w.alloc (.cells #[.pointer tp] 58)).heap.size = bb := ⟨_, rfl⟩
  rw [hke] at hbv
  rw [ebb] at hcv hbv
  clear ebb
  have hsz : nm.size = key.length := by rw [← hke]; simp
  rw [hsz] at hcv hbv
  clear hsz
  have HT := Lib.hid (((Touch.refl Nil w).alloc (.cells #[.pointer tp] 58)).trans tc)
  have hg := get_any (h.keepN HT.out) key _ hbv hkl
  rw [hno] at hg
  have HG := Lib.hid hg
  have b0 : (w.alloc (.cells #[.pointer tp] 58)).cell? ⟨w.heap.size, 0, none⟩ = some (.pointer tp) := by rw [cell_new]; rfl
  clear hg h hno hbv tc
  go_enter Tryd.func30, Tryd.ntmps30
  go_wp2_with fail
  refine HG.out.mono ?_
  rintro e w3 ⟨hn3, _, ht3⟩
  obtain rfl := hn3 rfl
  have HT3 := Lib.hid (HT.out.trans ht3)
  clear hn3 ht3
  go_wp2_with fail
  go_ret2
  exact ⟨rfl, HT3.out⟩
set_option maxRecDepth 100000 in
set_option maxHeartbeats 1000000 in
theorem add_any7 (h : Tab R w (.pointer tp) seed n C T) (nm : ByteArray) {key pad : Key} (hke : nm.data.toList = key) (hkl : 1 ≤ key.length ∧ key.length ≤ 64) (hno : valAt (T (seekAt (bfS seed) (homS seed C) C T key)) key = none) (hn : n < 100000) {pa : Option Addr} {pn pc : Nat} (hp : BV w (.slice pa pn pc) pad) (hpl : pad.length ≤ 999) :
    Calls Tryd.prog 25 #[.agg #[.pointer tp], .string nm, .slice pa pn pc] w (VAddP R tp seed n C T key pad w) := by
  have HPE := Lib.hid (show putErr n (valAt (T (seekAt (bfS seed) (homS seed C) C T key)) key).isSome key ([1] ++ pad) = 0 from by
    unfold putErr; rw [if_neg (by simp; omega), if_pos (.inr hn)])
  have HKE := Lib.hid hke
  have HKL := Lib.hid hkl
  have HPL := Lib.hid hpl
  have HF := Lib.hid (fun w' (ht : Touch Nil w w') => find_none (h.keepN ht) nm hke (by omega) hno)
  have HTW := Lib.hid h
  have HP := Lib.hid hp
  clear h hp hno hke hkl hpl hn
  go_enter Tryd.func25, Tryd.ntmps25
  have hbx := heap_alloc_new w (.cells #[.pointer tp] 58)
  have HTA := Lib.hid ((Touch.refl Nil w).alloc (.cells #[.pointer tp] 58))
  have b0 : (w.alloc (.cells #[.pointer tp] 58)).cell? ⟨w.heap.size, 0, none⟩ = some (.pointer tp) := by rw [cell_new]; rfl
  go_wp2_with fail
  refine (HF.out _ HTA.out).mono ?_
  rintro e w2 ⟨rfl, ht2⟩
  have HT2 := Lib.hid (HTA.out.trans ht2)
  have HBX := Lib.hid ((ht2.same w.heap.size (by simp) (fun c => c)).trans hbx)
  have HTB := Lib.hid (HTW.out.keepN HT2.out)
  have HPW := Lib.hid (HP.out.keepN HT2.out)
  have HE : ∃ N, w2.heap.size = N := ⟨_, rfl⟩
  obtain ⟨N, eN⟩ := HE
  have HNN := Lib.hid eN
  have HE : ∃ B, w.heap.size = B := ⟨_, rfl⟩
  obtain ⟨B, eB⟩ := HE
  rw [eB] at HBX ⊢
  have HEB := Lib.hid eB
  clear ht2 hbx b0 eN eB
  go_wp2_with fail
  refine (wpIn_wide (n := 7)).1 (region_inv (by kernel_rfl) (by kernel_rfl) (fun J a W => J.size = 9 ∧ ∃ SA SB v6 v17 v18 v19 v20 v21 v22 v23 v24, a = { tmps := #[.agg #[.pointer tp], .string nm, .slice pa pn pc, .pointer (some ⟨B, 0, none⟩), undef, undef, v6, .slice none 0 0, .int .i64 3, .tuple #[.slice none 0 0, .int .i64 3], .agg #[.pointer tp], .string nm, .tuple #[.slice none 0 0, .int .i64 3], .slice none 0 0, .int .i64 3, .int .i64 3, .bool false, v17, v18, v19, v20, v21, v22, v23, v24], defers := [] } ∧ A1 N B tp seed n C T R nm key pad (.slice pa pn pc) w2 J W SA SB v6 v17 v18 v19 v20 v21 v22 v23 v24) ?_ ?_ ?_)
  · exact ⟨rfl, fun _ => False, fun _ => False, .int .i64 0, undef, undef, undef, undef, undef, undef, undef, undef, rfl, { f0 := fun h => absurd h (by decide), f1 := fun h => absurd h (by decide), f2 := fun h => absurd h (by decide), f3 := fun h _ => absurd h (by decide), f4 := fun h _ => absurd h (by decide), f5 := fun h => absurd h (by decide), f6 := fun h _ => absurd h (by decide), f7 := fun h => absurd h (by decide), f8 := fun h => absurd h (by decide), c6 := fun h => absurd h (by decide), c7 := fun h => absurd h (by decide), t := fun _ => (Touch.refl Nil w2).drew, n := Nat.le_of_eq HNN.out.symm, sa := fun b h => h.elim, sb := fun b h => h.elim, d := fun b h => h.elim }⟩
  · rintro J a w3 ⟨hs, SA, SB, v6, v17, v18, v19, v20, v21, v22, v23, v24, rfl, y⟩ hall
    have hL := allL hs hall
    obtain ⟨W0, t0, hP⟩ := y.f7 (hL 7 (by decide))
    have e8 := (y.f8 (hL 8 (by decide))).1
    subst e8
    clear y hL hall hs
    obtain ⟨he, R', n', C', T', hT', ht', _, hR', hn', hin, _⟩ := hP
    rw [HPE.out] at he
    injection he with he
    subst he
    have HPO := Lib.hid (show VAddP R tp seed n C T key pad w (.returned (.int .i64 0)) w3 from ⟨R', n', C', T', rfl, hT', (HT2.out.trans t0).of_nil.trans ht', fun b hb => (hR' b hb).imp (fun h => h) fun h => Nat.le_trans (HT2.out.trans t0).size h, hn', hin (HPE.out)⟩)
    clear hT' ht' hR' hn' hin t0
    go_wp2_with fail
    go_ret
    exact HPO.out
  · rintro J a W i o ho ⟨hs, SA, SB, v6, v17, v18, v19, v20, v21, v22, v23, v24, rfl, y⟩ hl hd K hK
    have hi : i < 9 := (Array.getElem?_eq_some_iff.1 ho).1
    have hN := y.n
    rcases (by omega : i = 0 ∨ i = 1 ∨ i = 2 ∨ i = 3 ∨ i = 4 ∨ i = 5 ∨ i = 6 ∨ i = 7 ∨ i = 8) with rfl | rfl | rfl | rfl | rfl | rfl | rfl | rfl | rfl
    · obtain rfl := Option.some.inj (show some _ = some o from ho)
      go_simp
      refine hK _ _ ⟨by simpa using hs, SA, SB, _, _, _, _, _, _, _, _, _, rfl, { f0 := fun _ => rfl, f1 := fun h => y.f1 (stp h (by decide)), f2 := fun h => y.f2 (stp h (by decide)), f3 := fun h h7 => by have k := y.f3 (stp h (by decide)) (mon' h7); exact k, f4 := fun h h6 => by have k := y.f4 (stp h (by decide)) (mon' h6); exact k, f5 := fun h => y.f5 (stp h (by decide)), f6 := fun h h7 => by have k := y.f6 (stp h (by decide)) (mon' h7); exact k, f7 := fun h => y.f7 (stp h (by decide)), f8 := fun h => ⟨(y.f8 (stp h (by decide))).1, mon (y.f8 (stp h (by decide))).2⟩, c6 := fun h => mon (y.c6 (stp h (by decide))), c7 := fun h => ⟨mon (y.c7 (stp h (by decide))).1, mon (y.c7 (stp h (by decide))).2.1, mon (y.c7 (stp h (by decide))).2.2⟩, t := fun h => y.t (mon' h), n := hN, sa := y.sa, sb := y.sb, d := y.d }⟩
    · obtain rfl := Option.some.inj (show some _ = some o from ho)
      have e := (y.f0 (hd ⟨0, .data⟩ (by simp) rfl)).symm
      subst e
      have h7 : ¬ J.getD 7 false = true := fun h => ngd hl (y.c7 h).1
      have b0 : W.cell? ⟨B, 0, none⟩ = some (.pointer tp) := by have hbx := ((y.t h7).same B (lt_heap HBX.out) fun c => c).trans HBX.out; simp [World.cell?, hbx]
      go_simp
      refine hK _ _ ⟨by simpa using hs, SA, SB, _, _, _, _, _, _, _, _, _, rfl, { f0 := fun h => y.f0 (stp h (by decide)), f1 := fun _ => rfl, f2 := fun h => y.f2 (stp h (by decide)), f3 := fun h h7 => by have k := y.f3 (stp h (by decide)) (mon' h7); exact k, f4 := fun h h6 => by have k := y.f4 (stp h (by decide)) (mon' h6); exact k, f5 := fun h => y.f5 (stp h (by decide)), f6 := fun h h7 => by have k := y.f6 (stp h (by decide)) (mon' h7); exact k, f7 := fun h => y.f7 (stp h (by decide)), f8 := fun h => ⟨(y.f8 (stp h (by decide))).1, mon (y.f8 (stp h (by decide))).2⟩, c6 := fun h => mon (y.c6 (stp h (by decide))), c7 := fun h => ⟨mon (y.c7 (stp h (by decide))).1, mon (y.c7 (stp h (by decide))).2.1, mon (y.c7 (stp h (by decide))).2.2⟩, t := fun h => y.t (mon' h), n := hN, sa := y.sa, sb := y.sb, d := y.d }⟩
    · obtain rfl := Option.some.inj (show some _ = some o from ho)
      go_simp
      refine hK _ _ ⟨by simpa using hs, SA, SB, _, _, _, _, _, _, _, _, _, rfl, { f0 := fun h => y.f0 (stp h (by decide)), f1 := fun h => y.f1 (stp h (by decide)), f2 := fun _ => rfl, f3 := fun h h7 => by have k := y.f3 (stp h (by decide)) (mon' h7); exact k, f4 := fun h h6 => by have k := y.f4 (stp h (by decide)) (mon' h6); exact k, f5 := fun h => y.f5 (stp h (by decide)), f6 := fun h h7 => by have k := y.f6 (stp h (by decide)) (mon' h7); exact k, f7 := fun h => y.f7 (stp h (by decide)), f8 := fun h => ⟨(y.f8 (stp h (by decide))).1, mon (y.f8 (stp h (by decide))).2⟩, c6 := fun h => mon (y.c6 (stp h (by decide))), c7 := fun h => ⟨mon (y.c7 (stp h (by decide))).1, mon (y.c7 (stp h (by decide))).2.1, mon (y.c7 (stp h (by decide))).2.2⟩, t := fun h => y.t (mon' h), n := hN, sa := y.sa, sb := y.sb, d := y.d }⟩
    · obtain rfl := Option.some.inj (show some _ = some o from ho)
      have e := (y.f2 (hd ⟨2, .data⟩ (by simp) rfl)).symm
      subst e
      have h7 : ¬ J.getD 7 false = true := fun h => ngd hl (y.c7 h).2.1
      obtain ⟨cc, W', hcv, tc, hbv, hsz⟩ := conv_name nm W
      rw [HKE.out] at hbv
      go_simp
      refine hK _ _ ⟨by simpa using hs, (fun b => SA b ∨ b = W.heap.size), SB, _, _, _, _, _, _, _, _, _, rfl, { f0 := fun h => y.f0 (stp h (by decide)), f1 := fun h => y.f1 (stp h (by decide)), f2 := fun h => y.f2 (stp h (by decide)), f3 := fun _ _ => ⟨hbv, fun b hb => .inr (by simpa [OwnOf, Value.ownBlock] using hb)⟩, f4 := fun h h6 => by have k := y.f4 (stp h (by decide)) (mon' h6); exact k.keepN tc, f5 := fun h => y.f5 (stp h (by decide)), f6 := fun h h7 => by have k := y.f6 (stp h (by decide)) (mon' h7); exact k.keepN tc, f7 := fun h => absurd (stp h (by decide)) h7, f8 := fun h => ⟨(y.f8 (stp h (by decide))).1, mon (y.f8 (stp h (by decide))).2⟩, c6 := fun h => mon (y.c6 (stp h (by decide))), c7 := fun h => ⟨mon (y.c7 (stp h (by decide))).1, mon (y.c7 (stp h (by decide))).2.1, mon (y.c7 (stp h (by decide))).2.2⟩, t := fun h => (y.t (mon' h)).trans tc, n := by rw [hsz]; omega, sa := fun b h => by rw [hsz]; rcases h with h | h; (have := y.sa b h; omega); (subst h; omega), sb := fun b h => by rw [hsz]; have := y.sb b h; omega, d := fun b h hb => by rcases h with h | h; (exact y.d b h hb); (subst h; have := y.sb _ hb; omega) }⟩
    · obtain rfl := Option.some.inj (show some _ = some o from ho)
      have h7 : ¬ J.getD 7 false = true := fun h => ngd hl (y.c6 (y.c7 h).2.2)
      have ta := (Touch.refl Nil W).alloc (.cells #[.int .u8 1] 5)
      have ol : OwnB N (W.alloc (.cells #[.int .u8 1] 5)) (.slice (some ⟨W.heap.size, 0, none⟩) 1 1) [1] := (own_lit W [1] _ (by simp [ub]) (by decide)).base hN
      go_simp
      refine hK _ _ ⟨by simpa using hs, SA, (fun b => SB b ∨ b = W.heap.size), _, _, _, _, _, _, _, _, _, rfl, { f0 := fun h => y.f0 (stp h (by decide)), f1 := fun h => y.f1 (stp h (by decide)), f2 := fun h => y.f2 (stp h (by decide)), f3 := fun h h7 => by have k := y.f3 (stp h (by decide)) (mon' h7); exact k.keepN ta, f4 := fun _ _ => ⟨ol, fun b hb => .inr (by simpa [OwnOf, Value.ownBlock] using hb)⟩, f5 := fun h => y.f5 (stp h (by decide)), f6 := fun h h7 => by have k := y.f6 (stp h (by decide)) (mon' h7); exact (k.keepN ta).wide (fun _ h => .inl h), f7 := fun h => absurd (stp h (by decide)) h7, f8 := fun h => ⟨(y.f8 (stp h (by decide))).1, mon (y.f8 (stp h (by decide))).2⟩, c6 := fun h => mon (y.c6 (stp h (by decide))), c7 := fun h => ⟨mon (y.c7 (stp h (by decide))).1, mon (y.c7 (stp h (by decide))).2.1, mon (y.c7 (stp h (by decide))).2.2⟩, t := fun h => (y.t (mon' h)).trans ta, n := by rw [nblk_alloc]; omega, sa := fun b h => by rw [nblk_alloc]; have := y.sa b h; omega, sb := fun b h => by rw [nblk_alloc]; rcases h with h | h; (have := y.sb b h; omega); (subst h; omega), d := fun b h hb => by rcases hb with hb | hb; (exact y.d b h hb); (subst hb; have := y.sa _ h; omega) }⟩
    · obtain rfl := Option.some.inj (show some _ = some o from ho)
      go_simp
      refine hK _ _ ⟨by simpa using hs, SA, SB, _, _, _, _, _, _, _, _, _, rfl, { f0 := fun h => y.f0 (stp h (by decide)), f1 := fun h => y.f1 (stp h (by decide)), f2 := fun h => y.f2 (stp h (by decide)), f3 := fun h h7 => by have k := y.f3 (stp h (by decide)) (mon' h7); exact k, f4 := fun h h6 => by have k := y.f4 (stp h (by decide)) (mon' h6); exact k, f5 := fun _ => rfl, f6 := fun h h7 => by have k := y.f6 (stp h (by decide)) (mon' h7); exact k, f7 := fun h => y.f7 (stp h (by decide)), f8 := fun h => ⟨(y.f8 (stp h (by decide))).1, mon (y.f8 (stp h (by decide))).2⟩, c6 := fun h => mon (y.c6 (stp h (by decide))), c7 := fun h => ⟨mon (y.c7 (stp h (by decide))).1, mon (y.c7 (stp h (by decide))).2.1, mon (y.c7 (stp h (by decide))).2.2⟩, t := fun h => y.t (mon' h), n := hN, sa := y.sa, sb := y.sb, d := y.d }⟩
    · obtain rfl := Option.some.inj (show some _ = some o from ho)
      have e := (y.f5 (hd ⟨5, .data⟩ (by simp) rfl)).symm
      subst e
      have h7 : ¬ J.getD 7 false = true := fun h => ngd hl (y.c7 h).2.2
      have ho := y.f4 (hd ⟨4, .data⟩ (by simp) rfl) (fun h => ngd hl h)
      rw [if_pos (by simp [Region.wanted])]
      refine opIn_append_bytes (.tmp 21) (.tmp 22) rfl v21 (.slice pa pn pc) [1] pad rfl ho.1 rfl (HPW.out.keepN (y.t h7)) (by have := HPL.out; simp; omega) hN ?_
      intro v' W' h1 h2 h3
      have hx : ∀ b, SA b → ¬ OwnOf v21 b := fun b hb hs => y.d b hb (ho.2 b hs)
      have tn : Touch Nil w2 W' := (y.t h7).trans' h2 fun b hb hs => by have h4 := y.sb b (ho.2 b hs); have := HNN.out; omega
      go_simp
      refine hK _ _ ⟨by simpa using hs, SA, (fun b => SB b ∨ (W.heap.size ≤ b ∧ b < W'.heap.size)), _, _, _, _, _, _, _, _, _, rfl, { f0 := fun h => y.f0 (stp h (by decide)), f1 := fun h => y.f1 (stp h (by decide)), f2 := fun h => y.f2 (stp h (by decide)), f3 := fun h h7 => by have k := y.f3 (stp h (by decide)) (mon' h7); exact k.keep h2 hx, f4 := fun h hn => absurd (set_of (i := 6) (by rw [hs]; decide)) hn, f5 := fun h => y.f5 (stp h (by decide)), f6 := fun _ _ => ⟨h1, fun b hb => (h3 b hb).elim (fun h => .inl (ho.2 b h)) fun h => .inr ⟨h, (h1.block b hb).2⟩⟩, f7 := fun h => absurd (stp h (by decide)) h7, f8 := fun h => ⟨(y.f8 (stp h (by decide))).1, mon (y.f8 (stp h (by decide))).2⟩, c6 := fun _ => mon (hd ⟨4, .data⟩ (by simp) rfl), c7 := fun h => ⟨mon (y.c7 (stp h (by decide))).1, mon (y.c7 (stp h (by decide))).2.1, mon (y.c7 (stp h (by decide))).2.2⟩, t := fun _ => tn, n := Nat.le_trans hN h2.size, sa := fun b h => by have := h2.size; have := y.sa b h; omega, sb := fun b h => by have := h2.size; rcases h with h | h; (have := y.sb b h; omega); omega, d := fun b h hb => by rcases hb with hb | hb; (exact y.d b h hb); (have := y.sa b h; omega) }⟩
    · obtain rfl := Option.some.inj (show some _ = some o from ho)
      have l1 := hd ⟨1, .data⟩ (by simp) rfl
      have l3 := hd ⟨3, .data⟩ (by simp) rfl
      have l6 := hd ⟨6, .data⟩ (by simp) rfl
      have h7 : ¬ J.getD 7 false = true := fun h => ngd hl h
      have e := (y.f1 l1).symm
      subst e
      have hk := y.f3 l3 h7
      have hp := y.f6 l6 h7
      obtain ⟨ka, kc, rfl, _, _⟩ := id hk.1
      obtain ⟨va, vn, vc, rfl⟩ := hp.1.form
      have hc := Lib.hid (put_any (HTB.out.keepN (y.t h7)) key ([1] ++ pad) _ _ hk.1 hp.1.bv (by have := HKL.out; omega) (by have := HPL.out; simp; omega))
      have hte := Lib.hid (y.t h7)
      have hnv := Lib.hid (And.intro hk hp)
      go_simp
      gi_wp2_with ((try refine ⟨trivial, ?_⟩); gi_at_call 37; refine (callsIn_wide.2 hc.out).mono ?_; rintro e W'' hP; obtain ⟨he, _⟩ := id hP; rw [HPE.out] at he; subst he)
      have hP' := hP
      obtain ⟨_, _, _, _, _, _, tp2, _⟩ := hP'
      have hsz := tp2.size
      first | exact hK _ _ ⟨by simpa using hs, SA, SB, _, _, _, _, _, _, _, _, _, rfl, { f0 := fun h => y.f0 (stp h (by decide)), f1 := fun h => y.f1 (stp h (by decide)), f2 := fun h => y.f2 (stp h (by decide)), f3 := fun h hn => absurd (set_of (i := 7) (by rw [hs]; decide)) hn, f4 := fun h hn => absurd (mon l6) hn, f5 := fun h => y.f5 (stp h (by decide)), f6 := fun h hn => absurd (set_of (i := 7) (by rw [hs]; decide)) hn, f7 := fun _ => ⟨W, hte.out, hP⟩, f8 := fun h => (ngd hl (y.f8 (stp h (by decide))).2).elim, c6 := fun h => mon (y.c6 (stp h (by decide))), c7 := fun _ => ⟨mon l1, mon l3, mon l6⟩, t := fun hn => absurd (set_of (i := 7) (by rw [hs]; decide)) hn, n := Nat.le_trans hN hsz, sa := fun b h => by have := y.sa b h; omega, sb := fun b h => by have := y.sb b h; omega, d := y.d }⟩ | exact ⟨by simpa using hs, SA, SB, _, _, _, _, _, _, _, _, _, rfl, { f0 := fun h => y.f0 (stp h (by decide)), f1 := fun h => y.f1 (stp h (by decide)), f2 := fun h => y.f2 (stp h (by decide)), f3 := fun h hn => absurd (set_of (i := 7) (by rw [hs]; decide)) hn, f4 := fun h hn => absurd (mon l6) hn, f5 := fun h => y.f5 (stp h (by decide)), f6 := fun h hn => absurd (set_of (i := 7) (by rw [hs]; decide)) hn, f7 := fun _ => ⟨W, hte.out, hP⟩, f8 := fun h => (ngd hl (y.f8 (stp h (by decide))).2).elim, c6 := fun h => mon (y.c6 (stp h (by decide))), c7 := fun _ => ⟨mon l1, mon l3, mon l6⟩, t := fun hn => absurd (set_of (i := 7) (by rw [hs]; decide)) hn, n := Nat.le_trans hN hsz, sa := fun b h => by have := y.sa b h; omega, sb := fun b h => by have := y.sb b h; omega, d := y.d }⟩
    · obtain rfl := Option.some.inj (show some _ = some o from ho)
      have l7 := hd ⟨7, .data⟩ (by simp) rfl
      go_simp
      refine hK _ _ ⟨by simpa using hs, SA, SB, _, _, _, _, _, _, _, _, _, rfl, { f0 := fun h => y.f0 (stp h (by decide)), f1 := fun h => y.f1 (stp h (by decide)), f2 := fun h => y.f2 (stp h (by decide)), f3 := fun h h7 => by have k := y.f3 (stp h (by decide)) (mon' h7); exact k, f4 := fun h h6 => by have k := y.f4 (stp h (by decide)) (mon' h6); exact k, f5 := fun h => y.f5 (stp h (by decide)), f6 := fun h h7 => by have k := y.f6 (stp h (by decide)) (mon' h7); exact k, f7 := fun h => y.f7 (stp h (by decide)), f8 := fun _ => ⟨rfl, mon l7⟩, c6 := fun h => mon (y.c6 (stp h (by decide))), c7 := fun h => ⟨mon (y.c7 (stp h (by decide))).1, mon (y.c7 (stp h (by decide))).2.1, mon (y.c7 (stp h (by decide))).2.2⟩, t := fun h => y.t (mon' h), n := hN, sa := y.sa, sb := y.sb, d := y.d }⟩
end
end Go.Proofs.YticddcnlafbkoaaDoor
