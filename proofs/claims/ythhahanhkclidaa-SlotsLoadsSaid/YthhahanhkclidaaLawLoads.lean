/-
  SlotsLoads: for every seed and any bytes the law returns true: the bytes are an image just if they are that of a table with the seed: then Load returns it.
  No condition beside the statement's own.
-/
import Derived.Test.YthhahanhkclidaaRefRead
import Derived.Test.YthhahanhkclidaaBackMath
import Derived.Test.YthhahanhkclidaaOpen
import Derived.Test.YthhahanhkclidaaAwake
namespace Go.Proofs.Ythhahanhkclidaa
open Go.ChangeShapes Go.WideShapes Go.ChangeAt Go.RowKit Go.Deep

/-- Bytes that came in, with their room. -/
theorem open_bc {H : Type} {enc : TypeId × Value → H} {P : Program} {w : World} {base : Nat} {spare : Nat → Bool} {held : Bool} {t e : TypeId} {fuel : Nat} {ao : Option Addr} {len cap : Nat} {x : DataW H × List MemPlace} (ht : P.underlying t = some (.slice e)) (he : P.underlying e = some (.int .u8)) (hc : P.cellsOf e = 1)
    (h : DataW.trod enc P w base spare held fuel t [.slice ao len cap] = some x) : ∃ k : List UInt8, BC w (.slice ao len cap) k ∧ k.length ≤ maxLen := by
  have hcap : len ≤ cap ∧ (ao = none → len = 0 ∧ cap = 0) := by
    rcases open_ints ht he hc h with ⟨hcs, _⟩ | ⟨a, len', cap', zs, hcs, _, hle, _⟩
    · simp at hcs; obtain ⟨rfl, rfl, rfl⟩ := hcs; exact ⟨Nat.le_refl _, fun _ => ⟨rfl, rfl⟩⟩
    · simp at hcs; obtain ⟨rfl, rfl, rfl⟩ := hcs; exact ⟨hle, fun e => by cases e⟩
  obtain ⟨k, hb, hm⟩ := open_bv ht he hc h
  obtain ⟨ao', cap', e, _, hs⟩ := hb
  injection e with e1 e2 e3
  subst e1
  exact ⟨k, ⟨_, _, _, rfl, e2, hcap.1, hcap.2, hs⟩, hm⟩

set_option maxRecDepth 100000 in
set_option maxHeartbeats 4000000 in
theorem lawLoads_any (seed : Int) (l : List UInt8) (ao : Option Addr) (n cap : Nat) (w : World) (hbc : BC w (.slice ao n cap) l) (hm : l.length ≤ 9223372036854775807) :
    Calls Try.prog 9 #[.int .u64 seed, .slice ao n cap] w fun e w' => e = .returned (.bool true) ∧ Below w.heap.size w w' := by
  have hn : n = l.length := by obtain ⟨_, _, _, e, h1, _⟩ := hbc; cases e; exact h1
  have HBC := Lib.hid hbc
  by_cases hbig : 20000 < n
  · have d1 : decide ((20000 : Int) < (n : Int)) = true := by rw [decide_eq_true_iff]; omega
    have d1' : decide (20000 < n) = true := by rw [decide_eq_true_iff]; omega
    clear hbc hn hm
    go_enter Try.func9, Try.ntmps9
    go_wp2_with fail
    refine (awake_any _).mono ?_
    rintro e w' ⟨rfl, ht⟩
    go_wp2_with fail
    go_ret
    exact ⟨rfl, ht.below_nil⟩
  have d1 : decide ((20000 : Int) < (n : Int)) = false := by rw [decide_eq_false_iff_not]; omega
  have d1' : decide (20000 < n) = false := by rw [decide_eq_false_iff_not]; omega
  have HREAD := Lib.hid (read_any seed _ l w hbc (by omega))
  have HLN := Lib.hid (show l.length ≤ 20000 by omega)
  clear hbc hn hm
  go_enter Try.func9, Try.ntmps9
  go_wp2_with fail
  refine HREAD.out.mono ?_
  rintro e w1 (⟨rfl, ht1, hno⟩ | ⟨m, T, la, lc, v, p, himg, rfl, hrl, hin, ht1⟩)
  · have HT1 := Lib.hid ht1
    have HNO := Lib.hid hno
    have HBVA := Lib.hid (HBC.out.bv.keepN (ht1.alloc (.cells #[] 5)))
    clear ht1 hno HREAD
    go_wp2_with (refine wpList_append_bytes rfl (.tmp 23) (.tmp 24) rfl w1.heap.size (.slice (some ⟨w1.heap.size, 0, none⟩) 0 0) (.slice ao n cap) [] l ?p1 ?p2 ?p3 ?p4 ?p5 ?p6 ?p7)
    case p2 => exact own_new w1
    case p1 => rfl
    case p3 => rfl
    case p4 => exact HBVA.out
    case p5 => have := HLN.out; simp only [List.length_nil]; omega
    case p6 => rw [nblk_alloc]; omega
    intro v' w2 hO2 hT2 _
    have HO2 := Lib.hid (show OwnB w1.heap.size w2 v' l from by simpa using hO2.out)
    obtain ⟨ua, un, uc, rfl⟩ := HO2.out.form
    have HT2 := Lib.hid (show Touch Nil w w2 from (HT1.out.alloc _).trans' hT2.out fun b hb hs => by have := ((own_new w1).block b hs).1; have := HT1.out.size; omega)
    clear hO2 hT2 HBVA
    go_wp2_with fail
    refine (load_any seed _ l w2 HO2.out.bc (by have := HLN.out; omega)).mono ?_
    rintro e w3 (⟨n1, T1, u, himg1, _, _, _⟩ | ⟨rfl, ht3, _⟩)
    · exact absurd himg1 (HNO.out _ _)
    have HO3 := Lib.hid (HO2.out.keep ht3 (fun _ _ c => c))
    have HT3 := Lib.hid (HT2.out.trans ht3)
    have HSP := Lib.hid (show Calls Try.prog 32 #[.slice ua un uc, .int .u8 119] w3 _ from spoil_any HO3.out 119 (by decide) (by have := HLN.out; omega))
    clear ht3
    go_wp2_with fail
    refine HSP.out.mono ?_
    rintro e w4 ⟨rfl, ht4⟩
    have HT4 := Lib.hid (show Touch Nil w w4 from HT3.out.trans' ht4 fun b hb hs => by have := (HO3.out.block b hs).1; have := HT1.out.size; omega)
    clear ht4 HSP
    go_wp2_with fail
    refine (awake_any _).mono ?_
    rintro e w' ⟨rfl, ht⟩
    go_wp2_with fail
    go_ret
    exact ⟨rfl, (HT4.out.trans ht).below_nil⟩
  · have HT1 := Lib.hid ht1
    have HIMG := Lib.hid himg
    have HRL := Lib.hid hrl
    have HIN := Lib.hid hin
    have HBVA := Lib.hid (HBC.out.bv.keepN (ht1.alloc (.cells #[] 5)))
    clear ht1 himg hrl hin HREAD
    go_wp2_with (refine wpList_append_bytes rfl (.tmp 23) (.tmp 24) rfl w1.heap.size (.slice (some ⟨w1.heap.size, 0, none⟩) 0 0) (.slice ao n cap) [] l ?q1 ?q2 ?q3 ?q4 ?q5 ?q6 ?q7)
    case q2 => exact own_new w1
    case q1 => rfl
    case q3 => rfl
    case q4 => exact HBVA.out
    case q5 => have := HLN.out; simp only [List.length_nil]; omega
    case q6 => rw [nblk_alloc]; omega
    intro v' w2 hO2 hT2 _
    have HO2 := Lib.hid (show OwnB w1.heap.size w2 v' l from by simpa using hO2.out)
    obtain ⟨ua, un, uc, rfl⟩ := HO2.out.form
    have HT12 := Lib.hid (show Touch Nil w1 w2 from ((Touch.refl Nil w1).alloc _).trans' hT2.out fun b hb hs => by have := ((own_new w1).block b hs).1; omega)
    clear hO2 hT2 HBVA
    go_wp2_with fail
    refine (load_any seed _ l w2 HO2.out.bc (by have := HLN.out; omega)).mono ?_
    rintro e w3 (⟨n1, T1, u, himg1, rfl, htab, ht3⟩ | ⟨_, _, hno⟩)
    case inr => exact absurd HIMG.out (hno _ _)
    have hin := himg1.inj HIMG.out
    obtain ⟨rfl, heq⟩ := hin
    have HEQ := Lib.hid heq
    have HIMB := Lib.hid himg1.2.2
    have htab' := htab
    obtain ⟨⟨bt, _, _, _, rfl, _⟩, _, _⟩ := htab'
    have HTAB := Lib.hid htab
    have HO3 := Lib.hid (HO2.out.keep ht3 (fun _ _ c => c))
    have HT13 := Lib.hid (HT12.out.trans ht3)
    have HSP := Lib.hid (show Calls Try.prog 32 #[.slice ua un uc, .int .u8 119] w3 _ from spoil_any HO3.out 119 (by decide) (by have := HLN.out; omega))
    clear ht3 htab heq himg1
    go_wp2_with fail
    refine HSP.out.mono ?_
    rintro e w4 ⟨rfl, ht4⟩
    have HT14 := Lib.hid (show Touch Nil w1 w4 from HT13.out.trans' ht4 fun b hb hs => by have := (HO3.out.block b hs).1; omega)
    have HTAB4 := Lib.hid (HTAB.out.keep ht4 fun b hb hs => by have := (HO2.out.block b hs).2; omega)
    have HRL4 := Lib.hid (HRL.out.keepN HT14.out)
    have HT4 := Lib.hid (HT1.out.trans HT14.out)
    have HBC4 := Lib.hid (HBC.out.keepN HT4.out)
    have d2 : ((n1 : Int) != (n1 : Int)) = false := by simp
    clear ht4 HSP HO2 HO3 HTAB HRL
    go_wp2_with fail
    refine (len_any HTAB4.out).mono ?_
    rintro e w5 ⟨rfl, rfl⟩
    go_wp2_with fail
    refine (image_any HTAB4.out).mono ?_
    rintro e w5 ⟨iv, rfl, hi5, ht5⟩
    obtain ⟨ia, il, ic, rfl⟩ := hi5.form
    have HSM := Lib.hid (sameB_true (l := l) (by rw [HIMB.out]; exact hi5.bv) (HBC4.out.bv.keepN ht5) (by have := HLN.out; omega))
    have HT5 := Lib.hid ht5
    clear hi5 ht5
    go_wp2_with fail
    refine HSM.out.mono ?_
    rintro e w6 ⟨rfl, ht6⟩
    have HTAB6 := Lib.hid (HTAB4.out.keepN (HT5.out.trans ht6))
    have HRL6 := Lib.hid (HRL4.out.keepN (HT5.out.trans ht6))
    have HT6 := Lib.hid ((HT4.out.trans HT5.out).trans ht6)
    have HOK := Lib.hid (show ∀ i, i < n1 → okP (some (p i)) ∧ InT (cellsN n1) T1 (p i) from fun i hi => by
      obtain ⟨c, hc, e⟩ := (HIN.out (p i)).2 ⟨i, hi, rfl⟩
      have := HIMG.out.2.1 c hc
      rw [e] at this
      exact ⟨this, c, hc, by rw [HEQ.out c hc]; exact e⟩)
    have hn1 : n1 ≤ 100000 := HIMG.out.1.2.2.2
    clear ht6 HSM HTAB4 HRL4 HT4 HT5 HT14 HT13 HT12 HBC4 d1 d1' d2
    go_wp2_with fail
    go_loopw [10] (fun i wr => ∃ x : Nat, x ≤ n1 ∧ i = .int .i64 (x : Int) ∧ Touch Nil w6 wr) (fun i _ => n1 - (intOf i).toNat)
    case atStart => exact ⟨0, Nat.zero_le _, rfl, Touch.refl _ _⟩
    obtain ⟨x, hx, rfl, hto⟩ := hrel
    have HT := Lib.hid hto
    clear hto
    by_cases hlt : x < n1
    · have HSR := Lib.hid (HRL6.out.keepN HT.out)
      obtain ⟨b, off, rfl, hb, hcell⟩ := HSR.out.cells (by omega)
      have c0 := hcell x hlt 0 (by omega)
      have c1 := hcell x hlt 1 (by omega)
      rw [Nat.add_zero] at c0
      obtain ⟨a1, k1, f0, _, _⟩ := HSR.out.keys x hlt
      obtain ⟨a2, k2, f1, _, _⟩ := HSR.out.vals x hlt
      have HK := Lib.hid (show BV wr (.slice a1 (p x).1.length k1) (p x).1 from by rw [← f0]; exact HSR.out.keys x hlt)
      have HV := Lib.hid (show BV wr (.slice a2 (p x).2.length k2) (p x).2 from by rw [← f1]; exact HSR.out.vals x hlt)
      rw [f0] at c0
      rw [f1] at c1
      obtain ⟨hok, hit⟩ := HOK.out x hlt
      have hok1 : (p x).1.length ≤ 64 := hok.2.1
      have hok2 : (p x).2.length ≤ 1000 := hok.2.2
      have hgt := get_any (HTAB6.out.keepN HT.out) (p x).1 _ HK.out (by omega)
      rw [(seek_iff HTAB6.out (p x).1 (p x).2).2 hit] at hgt
      have HGT := Lib.hid hgt
      have HOK2 := Lib.hid hok2
      have i1 : (x : Int) < (n1 : Int) := by omega
      have i2 : (0 : Int) ≤ (x : Int) := by omega
      have HC1 := Lib.hid c1
      clear hcell f0 f1 hok hit hgt c1 hb hok1 hok2
      have HE : ∃ kk, (p x).1 = kk := ⟨_, rfl⟩
      obtain ⟨kk, ekk⟩ := HE
      have HE : ∃ vv, (p x).2 = vv := ⟨_, rfl⟩
      obtain ⟨vv, evv⟩ := HE
      rw [ekk] at HK HGT c0
      rw [evv] at HV HC1 HOK2 HGT
      generalize kk.length = kl at *
      generalize hvl : vv.length = vl at *
      clear ekk evv
      go_wp2_with fail
      refine HGT.out.mono ?_
      rintro e w7 ⟨_, hg2, ht7⟩
      obtain ⟨xv, rfl, hob⟩ := hg2 vv rfl
      obtain ⟨xa, xl, xc, rfl⟩ := hob.form
      have HSM := Lib.hid (sameB_true hob.bv (HV.out.keepN ht7) (by have := HOK2.out; omega))
      have HT7 := Lib.hid (HT.out.trans ht7)
      have c1 := (ht7.cell (World.block_lt_of_cell? wr _ HC1.out) (fun c => c) _).trans HC1.out
      clear hob hg2 ht7 c0 HGT hvl
      go_wp2_with fail
      refine HSM.out.mono ?_
      rintro e w8 ⟨rfl, ht8⟩
      have HT8 := Lib.hid (HT7.out.trans ht8)
      clear ht8 HSM
      go_wp2_with fail
      go_roundw
      case rel => exact ⟨x + 1, by omega, by go_num, HT8.out⟩
      case measure => simp [intOf]; omega
    · obtain rfl : x = n1 := by omega
      go_wp2_with fail
      refine (awake_any _).mono ?_
      rintro e w' ⟨rfl, ht⟩
      go_wp2_with fail
      go_ret
      exact ⟨rfl, ((HT6.out.trans HT.out).trans ht).below_nil⟩

set_option maxRecDepth 100000 in
theorem slotsLoads_lifted (os : Os) (started : os.Started) (H : Type) (enc : TypeId × Value → H) :
    ReturnsInHanded {} Try.checked os 9 .any (Rows.slotsLoadsSpec.pre6 enc Try.prog Try.f9 Rows.slotsLoadsRow.domain false) (Rows.slotsLoadsSpec.post enc Try.prog Try.f9 false true false false) := by
  refine returnsInHanded_of_change (C := Try.checked) own started (by kernel_rfl) Try.func9
    (ChangeSpec.witness6 (enc := enc) (C := Try.checked) false ⟨#[], #[.int .u64 0, .slice none 0 0], []⟩ 8 (by kernel_rfl) (by kernel_rfl) (by kernel_rfl) (by kernel_rfl)) ?_
  intro W base args ds gs before hval0 hW _ _
  have hval : ∀ (j : Nat) t v, Try.f9.params[j]? = some t → args[j]? = some v → Value.okWide Try.prog W .any base t v := hval0
  have hW' := hW
  obtain ⟨p, q, hA0, hV, rfl, hfz, hnd⟩ := hW
  have hA : DataW.TrodAll enc Try.prog W 0 (fun _ => true) true Try.f9.params.toList args.toList ds p := hA0
  rw [Try.params9] at hA hval
  obtain ⟨v0, vs0, d0, ds0, p0, q0, hargs, rfl, rfl, h0, r0⟩ := trodAll_cons hA
  obtain ⟨v1, vs1, d1, ds1, p1, q1, rfl, rfl, rfl, h1, r1⟩ := trodAll_cons r0
  obtain ⟨rfl, rfl, rfl⟩ := trodAll_nil r1
  obtain rfl : args = #[v0, v1] := by cases args; simp_all
  obtain ⟨rfl, rfl⟩ := trodVars_none hV
  obtain ⟨seed, rfl, rfl, rfl, w0⟩ := open_int Try.underlying22 (hval 0 22 v0 rfl rfl) h0
  obtain ⟨ao, len, cap, rfl⟩ := okWide_slice Try.underlying23 (hval 1 23 v1 rfl rfl)
  have k1 := h1
  have lt1 : ∀ x ∈ p1, x.block < W.heap.size := by obtain ⟨m, hm⟩ := k1; exact DataW.trod_lt m _ _ _ hm
  obtain ⟨fuel, hf⟩ := h1
  obtain ⟨l, hbc, hm⟩ := open_bc Try.underlying23 Try.underlying5 (by kernel_rfl) hf
  clear hA0 hval0
  unfold maxLen at hm
  refine (lawLoads_any seed l ao len cap W hbc (by omega)).mono fun e W' ⟨he, bel⟩ => ?_
  subst he
  exact ⟨_, rfl, _, _, _, [], _, [], hW', trodAll_mk1 (shut_bool Try.underlying4 _), (trodAll_cons_mk (shut_int Try.underlying22 w0) (trodAll_cons_mk (Below.trod laidOut (by kernel_rfl) (of_decide_eq_true (by kernel_rfl)) k1 bel lt1) trodAll_mk0)), rfl, bel.frame _, fun h => by cases h⟩

theorem slotsLoads_holds : Rows.SlotsLoadsSaid :=
  OpenClaim.holds_of_wide 9 Try.f9 rfl rfl rfl rfl rfl rfl rfl ⟨rfl, rfl, rfl, rfl, rfl⟩ rfl rfl rfl rfl rfl (by kernel_rfl) Try.func9 (by kernel_rfl)
    (of_decide_eq_true (by kernel_rfl)) (by unfold Func.isWrapper; first | (rw [if_pos (by decide +kernel)]; kernel_rfl) | (rw [if_neg (by decide +kernel)]; exact ⟨rfl, rfl⟩))
    (fun os started H enc _ => slotsLoads_lifted os started H enc)
end Go.Proofs.Ythhahanhkclidaa
