/-
  OrderLoads: for every seed and any bytes the law returns true: the bytes are loaded just if they are the image of a map of the seed, and as this map.
  No condition beside the statement's own.
-/
import Derived.Test.YtbckakpgfmcljaaLoads
import Derived.Test.YtbckakpgfmcljaaOpenP
namespace Go.Proofs.Ytbckakpgfmcljaa
open Go.ChangeShapes Go.WideShapes Go.ChangeAt Go.RowKit Go.Deep

/-- Bytes that came in, with their room. -/
theorem open_bc {H : Type} {enc : TypeId × Value → H} {P : Program} {w : World} {base : Nat} {spare : Nat → Bool} {held : Bool} {t e : TypeId} {fuel : Nat} {ao : Option Addr} {len cap : Nat} {x : DataW H × List MemPlace} (ht : P.underlying t = some (.slice e)) (he : P.underlying e = some (.int .u8)) (hc : P.cellsOf e = 1)
    (h : DataW.trod enc P w base spare held fuel t [.slice ao len cap] = some x) : ∃ k : List UInt8, BC w (.slice ao len cap) k ∧ k.length ≤ maxLen := by
  have hcap : len ≤ cap ∧ (ao = none → len = 0 ∧ cap = 0) := by
    rcases open_ints ht he hc h with ⟨hcs, _⟩ | ⟨a, len', cap', zs, hcs, _, hle, _⟩
    · simp at hcs; obtain ⟨rfl, rfl, rfl⟩ := hcs; exact ⟨Nat.le_refl _, fun _ => ⟨rfl, rfl⟩⟩
    · simp at hcs; obtain ⟨rfl, rfl, rfl⟩ := hcs; exact ⟨hle, fun e => by cases e⟩
  obtain ⟨k, hb, hm⟩ := open_bv ht he hc h
  obtain ⟨ao', cap', e, _, hs⟩ := hb
  injection e with e1 e2 e3
  subst e1
  exact ⟨k, ⟨_, _, _, rfl, e2, hcap.1, hcap.2, hs⟩, hm⟩

theorem zero_bc {w : World} : BC (w.alloc (.cells #[.int .u8 0, .int .u8 0, .int .u8 0, .int .u8 0] 5)) (.slice (some ⟨w.heap.size, 0, none⟩) 4 4) [0, 0, 0, 0] := by
  refine ⟨_, _, _, rfl, rfl, Nat.le_refl _, fun e => by (cases e), fun i hi => ⟨w.heap.size, 0, rfl, ?_⟩⟩
  rw [Nat.zero_add, cell_new]
  have hi : i < 4 := hi
  match i, hi with
  | 0, _ => rfl
  | 1, _ => rfl
  | 2, _ => rfl
  | 3, _ => rfl
theorem load_zero (seed : Int) : loadF seed [0, 0, 0, 0] = some .nil := loadF_iff.2 ⟨srt_nil, trivial, trivial, Nat.zero_le _, rfl⟩
set_option maxRecDepth 100000 in
set_option maxHeartbeats 4000000 in
theorem lawLoads_any (seed : Int) (l : List UInt8) (ao : Option Addr) (n cap : Nat) (w : World) (hbc : BC w (.slice ao n cap) l) (hm : l.length ≤ 9223372036854775807) :
    Calls Try.prog 5 #[.int .u64 seed, .slice ao n cap] w fun e w' => e = .returned (.bool true) ∧ Below w.heap.size w w' := by
  have hnl : n = l.length := by obtain ⟨_, _, _, e, h1, _⟩ := hbc; cases e; exact h1
  have HBC := Lib.hid hbc
  have HNL := Lib.hid hnl
  rw [← hnl] at hm
  go_enter Try.func5, Try.ntmps5
  by_cases h1 : 40000 < n
  · have q1 : decide ((40000 : Int) < (n : Int)) = true := by simp; omega
    have q2 : decide (40000 < n) = true := by simpa using h1
    clear hnl
    go_wp2_with fail
    go_ret
    exact ⟨rfl, (Touch.refl Nil w).below_nil⟩
  have q1 : decide ((40000 : Int) < (n : Int)) = false := by simp; omega
  have q2 : decide (40000 < n) = false := by simpa using h1
  have HLR := Lib.hid (loadR_any (seed := seed) hbc (by omega))
  have HLT := Lib.hid (fun w' (ht : Touch Nil w w') => load_any (seed := seed) (hbc.keepN ht) (by omega))
  clear hnl hbc
  go_wp2_with fail
  refine HLR.out.mono ?_
  rintro e w1 ⟨x1, is, rfl, ⟨xa, xl, xc, rfl⟩, ht1, hc⟩
  have HT1 := Lib.hid ht1
  have HC := Lib.hid hc
  clear ht1 hc HLR
  go_wp2_with fail
  refine (HLT.out _ HT1.out).mono ?_
  rintro e w2 (⟨h2, rfl, ht2⟩ | ⟨t, R, mb, bb, ra, h2, rfl, hm2, _, _, _, ht2⟩)
  · have his : is = false := by
      rcases HC.out with ⟨_, h⟩ | ⟨t, h, _⟩
      · exact h
      · rw [h2] at h; cases h
    subst his
    have HT2 := Lib.hid (HT1.out.trans ht2)
    have HL0 := Lib.hid (fun W => load_any (seed := seed) (zero_bc (w := W)) (by simp))
    clear ht2 HC HLT
    go_wp2_with fail
    refine (HL0.out _).mono ?_
    rintro e w3 (⟨h3, rfl, ht3⟩ | ⟨t, R, mb, bb, ra, h3, rfl, hm3, _, _, _, ht3⟩)
    · rw [load_zero] at h3; cases h3
    · have HT3 := Lib.hid (show Touch Nil w w3 from (HT2.out.alloc _).trans ht3)
      clear hm3 ht3
      go_wp2_with fail
      go_ret
      exact ⟨rfl, HT3.out.below_nil⟩
  · obtain ⟨his, hpl⟩ : is = true ∧ PL w1 (.slice xa xl xc) t.toL := by
      rcases HC.out with ⟨h, _⟩ | ⟨t', h, h', hp⟩
      · rw [h2] at h; cases h
      · rw [h2] at h; cases h; exact ⟨h', hp⟩
    subst his
    have HT2 := Lib.hid (HT1.out.trans ht2)
    have HWH := Lib.hid (whole_map hm2 (hpl.keepN ht2))
    clear ht2 hm2 hpl HC HLT
    go_wp2_with fail
    refine HWH.out.mono ?_
    rintro e w3 ⟨rfl, ht3⟩
    have HT3 := Lib.hid (HT2.out.trans ht3)
    clear ht3
    go_wp2_with fail
    go_ret
    exact ⟨rfl, HT3.out.below_nil⟩

set_option maxRecDepth 100000 in
theorem orderLoads_lifted (os : Os) (started : os.Started) (H : Type) (enc : TypeId × Value → H) :
    ReturnsInHanded {} Try.checked os 5 .any (Rows.orderLoadsSpec.pre6 enc Try.prog Try.f5 Rows.orderLoadsRow.domain false) (Rows.orderLoadsSpec.post enc Try.prog Try.f5 false true false false) := by
  refine returnsInHanded_of_change (C := Try.checked) own started (by kernel_rfl) Try.func5
    (ChangeSpec.witness6 (enc := enc) (C := Try.checked) false ⟨#[], #[.int .u64 0, .slice none 0 0], []⟩ 8 (by kernel_rfl) (by kernel_rfl) (by kernel_rfl) (by kernel_rfl)) ?_
  intro W base args ds gs before hval0 hW _ _
  have hval : ∀ (j : Nat) t v, Try.f5.params[j]? = some t → args[j]? = some v → Value.okWide Try.prog W .any base t v := hval0
  have hW' := hW
  obtain ⟨p, q, hA0, hV, rfl, hfz, hnd⟩ := hW
  have hA : DataW.TrodAll enc Try.prog W 0 (fun _ => true) true Try.f5.params.toList args.toList ds p := hA0
  rw [Try.params5] at hA hval
  obtain ⟨v0, vs0, d0, ds0, p0, q0, hargs, rfl, rfl, h0, r0⟩ := trodAll_cons hA
  obtain ⟨v1, vs1, d1, ds1, p1, q1, rfl, rfl, rfl, h1, r1⟩ := trodAll_cons r0
  obtain ⟨rfl, rfl, rfl⟩ := trodAll_nil r1
  obtain rfl : args = #[v0, v1] := by cases args; simp_all
  obtain ⟨rfl, rfl⟩ := trodVars_none hV
  obtain ⟨seed, rfl, rfl, rfl, w0⟩ := open_int Try.underlying22 (hval 0 22 v0 rfl rfl) h0
  obtain ⟨ao, len, cap, rfl⟩ := okWide_slice Try.underlying29 (hval 1 29 v1 rfl rfl)
  have k1 := h1
  have lt1 : ∀ x ∈ p1, x.block < W.heap.size := by obtain ⟨m, hm⟩ := k1; exact DataW.trod_lt m _ _ _ hm
  obtain ⟨fuel, hf⟩ := h1
  obtain ⟨l, hbc, hm⟩ := open_bc Try.underlying29 Try.underlying5 (by kernel_rfl) hf
  clear hA0 hval0
  unfold maxLen at hm
  refine (lawLoads_any seed l ao len cap W hbc (by omega)).mono fun e W' ⟨he, bel⟩ => ?_
  subst he
  exact ⟨_, rfl, _, _, _, [], _, [], hW', trodAll_mk1 (shut_bool Try.underlying4 _), (trodAll_cons_mk (shut_int Try.underlying22 w0) (trodAll_cons_mk (Below.trod laidOut (by kernel_rfl) (of_decide_eq_true (by kernel_rfl)) k1 bel lt1) trodAll_mk0)), rfl, bel.frame _, fun h => by cases h⟩

theorem orderLoads_holds : Rows.OrderLoadsSaid :=
  OpenClaim.holds_of_wide 5 Try.f5 rfl rfl rfl rfl rfl rfl rfl ⟨rfl, rfl, rfl, rfl, rfl⟩ rfl rfl rfl rfl rfl (by kernel_rfl) Try.func5 (by kernel_rfl)
    (of_decide_eq_true (by kernel_rfl)) (by unfold Func.isWrapper; first | (rw [if_pos (by decide +kernel)]; kernel_rfl) | (rw [if_neg (by decide +kernel)]; exact ⟨rfl, rfl⟩))
    (fun os started H enc _ => orderLoads_lifted os started H enc)
end Go.Proofs.Ytbckakpgfmcljaa
