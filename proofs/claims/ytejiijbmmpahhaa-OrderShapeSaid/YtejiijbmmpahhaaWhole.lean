import Derived.Test.YtejiijbmmpahhaaRanged
import Derived.Test.YtejiijbmmpahhaaSpan
import Derived.Test.YtejiijbmmpahhaaSameP
import Derived.Test.YtejiijbmmpahhaaHeights
/- A map that has some pairs is whole. -/
namespace Go.Proofs.Ytejiijbmmpahhaa
open Go.ChangeShapes Go.WideShapes Go.ChangeAt Go.RowKit Go.Deep

theorem imgB_len {t : Tree} (h : OkL' t) (hz : t.size ≤ 100000) : (imgB t).length ≤ 200000000 := by
  have := imgT_len h
  unfold imgB
  rw [List.length_append, leB_len]
  omega
set_option maxRecDepth 100000 in
set_option maxHeartbeats 4000000 in
theorem whole_map {seed : Int} {R : Nat → Prop} {w : World} {mb bb : Nat} {ra : Option Addr} {t : Tree} {lx : Value} (h : MapAt seed R w mb bb ra t) (hp : PL w lx t.toL) :
    Calls Try.prog 12 #[.pointer (some ⟨mb, 0, none⟩), .int .u64 seed, lx] w (TrueP w) := by
  have hok := treeAt_ok h.tree
  have HH := Lib.hid h
  have HP := Lib.hid hp
  have HRA := Lib.hid (ranged_map h hp)
  have HLE := Lib.hid (fun w' (ht : Touch Nil w w') => len_map (h.keepN ht))
  have HDI := Lib.hid (fun w' (ht : Touch Nil w w') => digest_map (h.keepN ht))
  have HDR := Lib.hid (fun w' (ht : Touch Nil w w') => digestR_any (seed := seed) h.srt h.heap hok (hp.keepN ht) (by have := h.size; omega))
  have HIM := Lib.hid (fun w' (ht : Touch Nil w w') => image_map (h.keepN ht))
  have HIR := Lib.hid (fun w' (ht : Touch Nil w w') => imageR_any (seed := seed) h.srt h.heap hok (hp.keepN ht) h.size)
  have HSP := Lib.hid (fun w' (ht : Touch Nil w w') => span_map (h.keepN ht) (BV.nil w') (BV.nil w') false)
  have HIL := Lib.hid (imgB_len (treeAt_okT h.tree) h.size)
  have HOK := Lib.hid hok
  have HPA := Lib.hid (part_all t h.srt)
  obtain ⟨la, ln, lc, rfl⟩ := hp.form3
  have hln : t.size = ln := by rw [hp.len, ← size_toL]
  simp only [hln] at HLE
  have HSZ := Lib.hid (show ln ≤ 100000 from by rw [← hln]; exact h.size)
  obtain ⟨d, ed⟩ : ∃ d, digT seed t = d := ⟨_, rfl⟩
  simp only [ed] at HDI HDR
  have q1 : ((ln : Int) != (ln : Int)) = false := by simp
  have q2 : ((d : Int) != (d : Int)) = false := by simp
  clear h hp hok hln ed
  go_enter Try.func12, Try.ntmps12
  go_wp2_with fail
  refine HRA.out.mono ?_
  rintro e w1 ⟨rfl, ht1⟩
  have HT1 := Lib.hid (show Touch Nil w w1 from ht1)
  clear ht1
  go_wp2_with fail
  refine (HLE.out _ HT1.out).mono ?_
  rintro e w' ⟨rfl, rfl⟩
  go_wp2_with fail
  refine (HDI.out _ HT1.out).mono ?_
  rintro e w' ⟨rfl, rfl⟩
  go_wp2_with fail
  refine (HDR.out _ HT1.out).mono ?_
  rintro e w2 ⟨rfl, ht2⟩
  have HT2 := Lib.hid (HT1.out.trans ht2)
  clear ht2
  go_wp2_with fail
  refine (HIM.out _ HT2.out).mono ?_
  rintro e w3 ⟨x3, rfl, ho3, ht3⟩
  obtain ⟨xa3, xl3, xc3, rfl⟩ := ho3.form
  have HO3 := Lib.hid ho3.bv
  have HT3 := Lib.hid (HT2.out.trans ht3)
  clear ho3 ht3
  go_wp2_with fail
  refine (HIR.out _ HT3.out).mono ?_
  rintro e w4 ⟨x4, rfl, ho4, ht4⟩
  obtain ⟨xa4, xl4, xc4, rfl⟩ := ho4.form
  have HT4 := Lib.hid (HT3.out.trans ht4)
  have HSM := Lib.hid (same_any (HO3.out.keepN ht4) ho4.bv (by have := HIL.out; omega) (by have := HIL.out; omega))
  rw [decide_eq_true rfl] at HSM
  clear ho4 ht4
  go_wp2_with fail
  refine HSM.out.mono ?_
  rintro e w5 ⟨rfl, ht5⟩
  have HT5 := Lib.hid (HT4.out.trans ht5)
  clear ht5
  go_wp2_with fail
  refine (HSP.out _ HT5.out).mono ?_
  rintro e w6 ⟨x6, rfl, ho6, ht6⟩
  have HT6 := Lib.hid (HT5.out.trans ht6)
  rw [HPA.out] at ho6
  obtain ⟨xa6, xl6, xc6, rfl⟩ := ho6.form3
  have HSQ := Lib.hid (samePairs_any ho6.rl (HP.out.keepN HT6.out) (fun p hp => by have := HOK.out p hp; unfold okK at this; omega) (by have := HH.out.size; rw [size_toL] at this; omega))
  clear ho6 ht6
  go_wp2_with fail
  refine HSQ.out.mono ?_
  rintro e w7 ⟨rfl, ht7⟩
  have HT7 := Lib.hid (HT6.out.trans ht7)
  clear ht7
  go_wp2_with fail
  go_ret
  exact ⟨rfl, HT7.out⟩
end Go.Proofs.Ytejiijbmmpahhaa
