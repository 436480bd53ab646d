/-
  OrderChecks: for every seed, digest, key and steps the law returns true: the program holds steps to be a proof just where the definition does, and shows the same.
  No condition beside the statement's own.
-/
import Derived.Test.YtkmpbgiffddgaaaCheckR
import Derived.Test.YtkmpbgiffddgaaaOpen
import Derived.Lib.SmallJoins
import Derived.ChangeOld
namespace Go.Proofs.Ytkmpbgiffddgaaa
open Go.ChangeShapes Go.WideShapes Go.ChangeAt Go.RowKit Go.Deep

theorem box4' (w : World) (x y z u : Value) (t : Nat) : ((w.alloc (.cells #[x, y, z, u] t)).cell? ⟨w.heap.size, 0, none⟩ = some x) ∧ ((w.alloc (.cells #[x, y, z, u] t)).cell? ⟨w.heap.size, 1, none⟩ = some y) ∧ ((w.alloc (.cells #[x, y, z, u] t)).cell? ⟨w.heap.size, 2, none⟩ = some z) ∧ ((w.alloc (.cells #[x, y, z, u] t)).cell? ⟨w.heap.size, 3, none⟩ = some u) := box4 w x y z u t
theorem chk_nil (seed : Int) (key : Key) (kk vv : Nat → Key) (dl dr : Nat → Nat) (d : Nat) : chk seed key kk vv dl dr 0 0 0 d = if d = 0 then .none else .form := rfl
theorem sds_nil (w : World) (v : Nat → Nat → Value) (kk vv : Nat → Key) (dl dr : Nat → Nat) : Sds w none 0 v kk vv dl dr :=
  ⟨fun h => by omega, fun i h => by omega, fun i h => by omega, fun i h => by omega, fun i h => by omega⟩
def resB : Res → Bool
  | .there _ => true
  | .form => false
  | .none => false
def resC : Res → Int
  | .form => 2
  | .there _ => 0
  | .none => 0
def resK (vv : Nat → Key) : Res → Key
  | .there i => vv i
  | .form => []
  | .none => []
/-- The two answers, as the law compares them. -/
theorem res_parts {w' : World} {vv : Nat → Key} {n : Nat} {e : Ending} {r : Res} (h : ResOk w' vv n e r) : ∃ (y : Value) (b : Bool) (c : Int) (k : Key), e = .returned (.tuple #[y, .bool b, .int .i64 c]) ∧ BV w' y k ∧
    b = resB r ∧ c = resC r ∧ k = resK vv r ∧ (∀ i, r = .there i → i < n) := by
  cases r with
  | form => exact ⟨_, _, _, [], h, BV.nil w', rfl, rfl, rfl, fun i e => by cases e⟩
  | none => exact ⟨_, _, _, [], h, BV.nil w', rfl, rfl, rfl, fun i e => by cases e⟩
  | there i =>
    obtain ⟨y, he, hb, hi⟩ := h
    exact ⟨y, true, 0, vv i, he, hb, rfl, rfl, rfl, fun j e => by cases e; exact hi⟩

set_option maxRecDepth 100000 in
set_option maxHeartbeats 4000000 in
theorem lawChecks_any (seed : Int) (d0 : Nat) (hd0 : d0 ≤ 18446744073709551615) {w : World} {qa : Option Addr} {qc : Nat} {key : Key} {ao : Option Addr} {n cap : Nat} {v : Nat → Nat → Value} {kk vv : Nat → Key} {dl dr : Nat → Nat} (hq : BV w (.slice qa key.length qc) key) (hqm : key.length ≤ 9223372036854775807) (h : Sds w ao n v kk vv dl dr) (hn : n ≤ 9223372036854775807) (hm : ∀ i, i < n → (kk i).length ≤ 9223372036854775807 ∧ (vv i).length ≤ 9223372036854775807) :
    Calls Try.prog 8 #[.agg #[.int .u64 seed, .int .u64 (d0 : Int), .slice qa key.length qc, .slice ao n cap]] w fun e w' => e = .returned (.bool true) ∧ Below w.heap.size w w' := by
  have HS := Lib.hid h
  have HQ := Lib.hid hq
  have HM := Lib.hid hm
  have HE : ∃ ql, key.length = ql := ⟨_, rfl⟩
  obtain ⟨ql, eql⟩ := HE
  rw [eql] at HQ hqm ⊢
  have HQL := Lib.hid eql
  obtain ⟨x0, x1, x2, x3⟩ := box4' w (.int .u64 seed) (.int .u64 (d0 : Int)) (.slice qa ql qc) (.slice ao n cap) 74
  have HTB := Lib.hid ((Touch.refl Nil w).alloc (.cells #[.int .u64 seed, .int .u64 (d0 : Int), .slice qa ql qc, .slice ao n cap] 74))
  clear hq h hm eql
  by_cases h1 : 400 < n
  · have d1 : decide ((400 : Int) < (n : Int)) = true := by simp; omega
    have d1' : decide (400 < n) = true := by simpa using h1
    go_enter Try.func8, Try.ntmps8
    go_wp2_with (go_quiet (fail))
    go_ret
    exact ⟨rfl, (HTB.out.drewN _).below_nil⟩
  have d1 : decide ((400 : Int) < (n : Int)) = false := by simp; omega
  have d1' : decide (400 < n) = false := by simpa using h1
  cases hlg : decide (2000 < ql)
  case true =>
    have HLG := Lib.hid (fun w => by have := long_any qa ql qc w; rw [hlg] at this; exact this)
    clear hlg
    go_enter Try.func8, Try.ntmps8
    go_wp2_with (go_quiet (fail))
    refine (HLG.out _).mono ?_
    rintro e w' ⟨rfl, rfl⟩
    go_wp2_with fail
    go_ret
    exact ⟨rfl, (HTB.out.drewN _).below_nil⟩
  have HLG := Lib.hid (fun w => by have := long_any qa ql qc w; rw [hlg] at this; exact this)
  have hql : ql ≤ 2000 := by have := of_decide_eq_false hlg; omega
  clear hlg
  go_enter Try.func8, Try.ntmps8
  go_wp2_with (go_quiet (fail))
  refine (HLG.out _).mono ?_
  rintro e w' ⟨rfl, rfl⟩
  have HT1 := Lib.hid (HTB.out.drewN nq)
  clear HLG x0 x1 x2 x3
  go_wp2_with fail
  go_loopw [7] (fun i wr => ∃ x : Nat, x ≤ n ∧ i = .int .i64 (x : Int) ∧ Hid (∀ i, i < x → (kk i).length ≤ 2000 ∧ (vv i).length ≤ 2000) ∧ Touch Nil w wr) (fun i _ => n - (intOf i).toNat)
  case atStart => exact ⟨0, Nat.zero_le _, rfl, Lib.hid fun i hi => by omega, HT1.out⟩
  obtain ⟨x, hx, rfl, HX, hto⟩ := hrel
  have HT := Lib.hid hto
  clear hto
  by_cases hlt : x < n
  · have HSR := Lib.hid (HS.out.keepN HT.out)
    obtain ⟨b, off, rfl, hb, hcell⟩ := HSR.out.cells (by omega)
    have c0 := hcell x hlt 0 (by omega)
    have c1 := hcell x hlt 1 (by omega)
    rw [Nat.add_zero] at c0
    obtain ⟨a1, k1, e0, _, _⟩ := HSR.out.keys x hlt
    obtain ⟨a2, k2, e1, _, _⟩ := HSR.out.vals x hlt
    rw [e0] at c0
    rw [e1] at c1
    obtain ⟨hm1, hm2⟩ := HM.out x hlt
    have HE : ∃ kl, (kk x).length = kl := ⟨_, rfl⟩
    obtain ⟨kl, ekl⟩ := HE
    have HE : ∃ vl, (vv x).length = vl := ⟨_, rfl⟩
    obtain ⟨vl, evl⟩ := HE
    rw [ekl] at c0 hm1
    rw [evl] at c1 hm2
    have HKL := Lib.hid ekl
    have HVL := Lib.hid evl
    have i1 : (x : Int) < (n : Int) := by omega
    have i2 : (0 : Int) ≤ (x : Int) := by omega
    clear hcell e0 e1 ekl evl hb
    cases g1 : decide (2000 < kl)
    case true =>
      have HLG := Lib.hid (fun w => by have := long_any a1 kl k1 w; rw [g1] at this; exact this)
      clear g1
      go_wp2_with fail
      refine (HLG.out _).mono ?_
      rintro e w' ⟨rfl, rfl⟩
      go_wp2_with fail
      go_ret
      exact ⟨rfl, HT.out.below_nil⟩
    case false =>
      have HLG := Lib.hid (fun w => by have := long_any a1 kl k1 w; rw [g1] at this; exact this)
      have G1 := Lib.hid (of_decide_eq_false g1)
      clear g1
      cases g2 : decide (2000 < vl)
      case true =>
        have HLG2 := Lib.hid (fun w => by have := long_any a2 vl k2 w; rw [g2] at this; exact this)
        clear g2
        go_wp2_with fail
        refine (HLG.out _).mono ?_
        rintro e w' ⟨rfl, rfl⟩
        go_wp2_with fail
        refine (HLG2.out _).mono ?_
        rintro e w' ⟨rfl, rfl⟩
        go_wp2_with fail
        go_ret
        exact ⟨rfl, HT.out.below_nil⟩
      case false =>
        have HLG2 := Lib.hid (fun w => by have := long_any a2 vl k2 w; rw [g2] at this; exact this)
        have G2 := Lib.hid (of_decide_eq_false g2)
        clear g2
        go_wp2_with fail
        refine (HLG.out _).mono ?_
        rintro e w' ⟨rfl, rfl⟩
        go_wp2_with fail
        refine (HLG2.out _).mono ?_
        rintro e w' ⟨rfl, rfl⟩
        go_wp2_with fail
        go_roundw
        case rel => exact ⟨x + 1, by omega, by go_num, Lib.hid fun i hi => by
          by_cases e : i = x
          · have h1 := G1.out
            have h2 := G2.out
            rw [e, HKL.out, HVL.out]; omega
          · exact HX.out i (by omega), HT.out⟩
        case measure => simp [intOf]; omega
  · obtain rfl : x = n := by omega
    have HP := Lib.hid (fun w' (ht : Touch Nil w w') => checkP_any seed d0 hd0 cap (HQ.out.keepN ht) (HS.out.keepN ht) (by omega) (fun i hi => by have := HX.out i hi; omega))
    have HR := Lib.hid (fun w' (ht : Touch Nil w w') => checkR_any seed d0 hd0 cap (HQ.out.keepN ht) (by rw [HQL.out]; omega) (HS.out.keepN ht) (by omega) (fun i hi => by have := HX.out i hi; omega))
    have HP0 := Lib.hid (fun w' (ht : Touch Nil w w') => by have := checkP_any seed 0 (by omega) 0 (HQ.out.keepN ht) (sds_nil w' v kk vv dl dr) (by omega) (fun i hi => by omega); rw [chk_nil, if_pos rfl] at this; exact this)
    have HP1 := Lib.hid (fun w' (ht : Touch Nil w w') => by have := checkP_any seed 1 (by omega) 0 (HQ.out.keepN ht) (sds_nil w' v kk vv dl dr) (by omega) (fun i hi => by omega); rw [chk_nil, if_neg (by omega)] at this; exact this)
    have HE : ∃ R, chk seed key kk vv dl dr x x 0 d0 = R := ⟨_, rfl⟩
    obtain ⟨R, eR⟩ := HE
    simp only [eR] at HP HR
    clear eR
    go_wp2_with fail
    refine (HP.out _ HT.out).mono ?_
    rintro e w2 ⟨hr2, ht2⟩
    obtain ⟨y2, b2, c2, k2, rfl, hb2, eb2, ec2, ek2, hi2⟩ := res_parts hr2
    have HB2 := Lib.hid hb2
    have HT2 := Lib.hid (HT.out.trans ht2)
    have HE2 := Lib.hid (And.intro eb2 (And.intro ec2 (And.intro ek2 hi2)))
    clear hr2 ht2 hb2 eb2 ec2 ek2 hi2 HP
    go_wp2_with fail
    refine (HR.out _ HT2.out).mono ?_
    rintro e w3 ⟨hr3, ht3⟩
    obtain ⟨y3, b3, c3, k3, rfl, hb3, eb3, ec3, ek3, _⟩ := res_parts hr3
    obtain rfl : b3 = b2 := by rw [eb3, HE2.out.1]
    obtain rfl : c3 = c2 := by rw [ec3, HE2.out.2.1]
    obtain rfl : k3 = k2 := by rw [ek3, HE2.out.2.2.1]
    have HT3 := Lib.hid (HT2.out.trans ht3)
    have HB3 := Lib.hid hb3
    have HB2 := Lib.hid (HB2.out.keepN ht3)
    have HKL := Lib.hid (show k3.length ≤ 1000000 from by
      rw [ek3]
      have hi := HE2.out.2.2.2
      cases R with
      | form => simp [resK]
      | none => simp [resK]
      | there i => have := (HX.out i (hi i rfl)).2; simp only [resK]; omega)
    clear hr3 ht3 hb3 eb3 ec3 ek3 HR
    go_wp2_with fail
    refine (HP0.out _ HT3.out).mono ?_
    rintro e w4 ⟨rfl, ht4⟩
    have HT4 := Lib.hid ht4
    clear ht4
    go_wp2_with fail
    refine (HP1.out _ (HT3.out.trans HT4.out)).mono ?_
    rintro e w5 ⟨rfl, ht5⟩
    have HT5 := Lib.hid (HT4.out.trans ht5)
    have HSM := Lib.hid (same_any (HB2.out.keepN HT5.out) (HB3.out.keepN HT5.out) (by have := HKL.out; omega) (by have := HKL.out; omega))
    rw [decide_eq_true rfl] at HSM
    have z1 : ((c3 : Int) == c3) = true := by simp
    have z2 : (b3 == b3) = true := by simp
    clear ht5
    go_wp2_with fail
    refine HSM.out.mono ?_
    rintro e w6 ⟨rfl, ht6⟩
    go_wp2_with fail
    go_ret
    exact ⟨rfl, ((HT3.out.trans HT5.out).trans ht6).below_nil⟩

/-- A number of 64 bits without a sign that came in. -/
theorem open_u64 {H : Type} {enc : TypeId × Value → H} {w : World} {base : Nat} {spare : Nat → Bool} {held : Bool} {fuel : Nat} {v : Value} {x : DataW H × List MemPlace}
    (h : DataW.trod enc Try.prog w base spare held fuel 22 [v] = some x) : ∃ n : Nat, v = .int .u64 (n : Int) ∧ n ≤ 18446744073709551615 := by
  obtain ⟨z, e1, _, hw⟩ := DataW.trod_int Try.underlying22 h
  have hb : 0 ≤ z ∧ z ≤ 18446744073709551615 := by simpa [Lit.wf, IntKind.min, IntKind.max, IntKind.signed, IntKind.bits] using hw
  exact ⟨z.toNat, by rw [Int.toNat_of_nonneg hb.1]; simpa using e1, by omega⟩

theorem open_sds {H : Type} {enc : TypeId × Value → H} {w : World} {base : Nat} {spare : Nat → Bool} {held : Bool} {fuel : Nat} {ao : Option Addr} {len cap : Nat} {x : DataW H × List MemPlace}
    (h : DataW.trod enc Try.prog w base spare held fuel 66 [.slice ao len cap] = some x) : len ≤ maxLen ∧ ∃ v kk vv dl dr, Sds w ao len v kk vv dl dr ∧ ∀ i, i < len → (kk i).length ≤ maxLen ∧ (vv i).length ≤ maxLen := by
  obtain ⟨h1, h2, v, hcell, hf⟩ := open_structs Try.underlying66 Try.underlying76 (by kernel_rfl) (by kernel_rfl) (by decide) h
  obtain ⟨kk, hk⟩ := choose_lt (α := Key) (n := len) (p := fun i n => BV w (v i 0) n ∧ n.length ≤ maxLen) fun i hi => by
    obtain ⟨n, y, e⟩ := hf i hi 0 _ rfl
    exact open_bv Try.underlying29 Try.underlying5 (by kernel_rfl) e
  obtain ⟨vv, hv⟩ := choose_lt (α := Key) (n := len) (p := fun i n => BV w (v i 1) n ∧ n.length ≤ maxLen) fun i hi => by
    obtain ⟨n, y, e⟩ := hf i hi 1 _ rfl
    exact open_bv Try.underlying29 Try.underlying5 (by kernel_rfl) e
  obtain ⟨dl, hl⟩ := choose_lt (α := Nat) (n := len) (p := fun i n => v i 2 = .int .u64 (n : Int) ∧ n ≤ 18446744073709551615) fun i hi => by
    obtain ⟨n, y, e⟩ := hf i hi 2 _ rfl
    exact open_u64 e
  obtain ⟨dr, hr⟩ := choose_lt (α := Nat) (n := len) (p := fun i n => v i 3 = .int .u64 (n : Int) ∧ n ≤ 18446744073709551615) fun i hi => by
    obtain ⟨n, y, e⟩ := hf i hi 3 _ rfl
    exact open_u64 e
  exact ⟨by omega, v, kk, vv, dl, dr, ⟨hcell, fun i hi => (hk i hi).1, fun i hi => (hv i hi).1, hl, hr⟩, fun i hi => ⟨(hk i hi).2, (hv i hi).2⟩⟩

set_option maxRecDepth 100000 in
theorem orderChecks_lifted (os : Os) (started : os.Started) (H : Type) (enc : TypeId × Value → H) :
    ReturnsInHanded {} Try.checked os 8 .any (Rows.orderChecksSpec.pre6 enc Try.prog Try.f8 Rows.orderChecksRow.domain false) (Rows.orderChecksSpec.post enc Try.prog Try.f8 false true false false) := by
  refine returnsInHanded_of_change (C := Try.checked) own started (by kernel_rfl) Try.func8
    (ChangeSpec.witness6 (enc := enc) (C := Try.checked) false ⟨#[], #[.agg #[.int .u64 0, .int .u64 0, .slice none 0 0, .slice none 0 0]], []⟩ 8 (by kernel_rfl) (by kernel_rfl) (by kernel_rfl) (by kernel_rfl)) ?_
  intro W base args ds gs before hval0 hW _ _
  have hval : ∀ (j : Nat) t v, Try.f8.params[j]? = some t → args[j]? = some v → Value.okWide Try.prog W .any base t v := hval0
  have hW' := hW
  obtain ⟨p, q, hA0, hV, rfl, hfz, hnd⟩ := hW
  have hA : DataW.TrodAll enc Try.prog W 0 (fun _ => true) true Try.f8.params.toList args.toList ds p := hA0
  rw [Try.params8] at hA hval
  obtain ⟨v0, vs0, d0, ds0, p0, q0, hargs, rfl, rfl, h0, r0⟩ := trodAll_cons hA
  obtain ⟨rfl, rfl, rfl⟩ := trodAll_nil r0
  obtain rfl : args = #[v0] := by cases args; simp_all
  obtain ⟨rfl, rfl⟩ := trodVars_none hV
  have k0 := h0
  have lt0 : ∀ x ∈ p0, x.block < W.heap.size := by obtain ⟨m, hm⟩ := k0; exact DataW.trod_lt m _ _ _ hm
  obtain ⟨c0, c1, c2, c3, y0, y1, y2, y3, m, rfl, _, _, e0, e1, e2, e3⟩ := Go.Joins.open_agg4 Try.underlying74 (by kernel_rfl) (by kernel_rfl) (hval 0 74 v0 rfl rfl) h0
  obtain ⟨sN, rfl, sB⟩ := open_u64 e0
  obtain ⟨dN, rfl, dB⟩ := open_u64 e1
  obtain ⟨qK, qH, qM⟩ := open_bv Try.underlying29 Try.underlying5 (by kernel_rfl) e2
  obtain ⟨aA, aL, aC, hs3⟩ := Go.Joins.slice_form Try.underlying66 e3
  simp only [List.cons.injEq, and_true] at hs3
  subst hs3
  obtain ⟨sM, sV, sKk, sVv, sDl, sDr, sH, sLm⟩ := open_sds e3
  obtain ⟨qA, qC, rfl, _, _⟩ := id qH
  clear hA0 hval0
  unfold maxLen at qM sM sLm
  refine (lawChecks_any (sN : Int) dN dB qH (by omega) sH (by omega) (fun i hi => by have := sLm i hi; omega)).mono fun e W' ⟨he, bel⟩ => ?_
  subst he
  exact ⟨_, rfl, _, _, _, [], _, [], hW', trodAll_mk1 (shut_bool Try.underlying4 _), (trodAll_cons_mk (Below.trod laidOut (by kernel_rfl) (of_decide_eq_true (by kernel_rfl)) k0 bel lt0) trodAll_mk0), rfl, bel.frame _, fun h => by cases h⟩

theorem orderChecks_holds : Rows.OrderChecksSaid :=
  OpenClaim.holds_of_wide 8 Try.f8 rfl rfl rfl rfl rfl rfl rfl ⟨rfl, rfl, rfl, rfl, rfl⟩ rfl rfl rfl rfl rfl (by kernel_rfl) Try.func8 (by kernel_rfl)
    (of_decide_eq_true (by kernel_rfl)) (by unfold Func.isWrapper; first | (rw [if_pos (by decide +kernel)]; kernel_rfl) | (rw [if_neg (by decide +kernel)]; exact ⟨rfl, rfl⟩))
    (fun os started H enc _ => orderChecks_lifted os started H enc)
end Go.Proofs.Ytkmpbgiffddgaaa
