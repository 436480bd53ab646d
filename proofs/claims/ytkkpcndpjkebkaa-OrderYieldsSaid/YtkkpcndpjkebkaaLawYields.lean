/-
  OrderYields: for every seed, pairs, place to stop, key and value the law returns true: a range over a map yields its pairs in order as they are when it begins, up to where it is left, whatever is done to the map in between; and a second one what is there then.
  No condition beside the statement's own.
-/
import Derived.LoopN
import Derived.Deep.RegionHeld3
import Derived.Test.YtkkpcndpjkebkaaYieldB
import Derived.Test.YtkkpcndpjkebkaaAggs
import Derived.Test.YtkkpcndpjkebkaaOpenP
namespace Go.Proofs.Ytkkpcndpjkebkaa
open Go.ChangeShapes Go.WideShapes Go.ChangeAt Go.RowKit Go.Deep
attribute [local go_sem] Oper.semAt_some

/-- A key, a value and what is looked for. -/
abbrev KeyS (b o b6 : Nat) (x0 x1 kv : Value) (w0 w' : World) : Prop := w'.cell? ⟨b, o, none⟩ = some x0 ∧ w'.cell? ⟨b, o + 1, none⟩ = some x1 ∧ w'.cell? ⟨b6, 0, none⟩ = some kv ∧ Hid (Touch Nil w0 w')
theorem KeyS.step {b o b6 : Nat} {x0 x1 kv : Value} {w0 w w' : World} (hs : Touch Nil w w') (h : KeyS b o b6 x0 x1 kv w0 w) : KeyS b o b6 x0 x1 kv w0 w' := ⟨cell_step h.1 hs, cell_step h.2.1 hs, cell_step h.2.2.1 hs, Lib.hid (h.2.2.2.out.trans hs)⟩
theorem inBlock_if {id : Nat} {Q : Exit → Act → World → Prop} {st : Bool} {a : Act} {w : World} (h : Q .normal a w) : Exit.inBlock id Q (if st = true then .exit id else .normal) a w := by
  cases st <;> simpa [Exit.inBlock] using h
set_option maxRecDepth 100000 in
set_option maxHeartbeats 16000000 in
theorem lawYields_any {seed : Int} {w : World} {pa : Option Addr} {pn pc : Nat} {P : Pairs} (h : PL w (.slice pa pn pc) P) (hn : P.length ≤ 9223372036854775807) (hm : ∀ p ∈ P, p.1.length ≤ 9223372036854775807 ∧ p.2.length ≤ 9223372036854775807) (stop : Int) (hst : -9223372036854775808 ≤ stop ∧ stop ≤ 9223372036854775807) {ka va : Option Addr} {kl kc vl vc : Nat} {key val : Key} (hk : BV w (.slice ka kl kc) key) (hv : BV w (.slice va vl vc) val) (hkl : kl ≤ 9223372036854775807 ∧ vl ≤ 9223372036854775807) :
    Calls Try.prog 11 #[.agg #[.int .u64 seed, .slice pa pn pc, .int .i64 stop, .slice ka kl kc, .slice va vl vc]] w fun e w' => e = .returned (.bool true) ∧ Below w.heap.size w w' := by
  have HRI := Lib.hid (fun w' (ht : Touch Nil w w') => rising_any (h.keepN ht) hn hm)
  have HP := Lib.hid h
  have HK := Lib.hid hk
  have HV := Lib.hid hv
  have HST := Lib.hid hst
  have HKL := Lib.hid hkl
  clear h hn hm hk hv hst hkl
  refine (callsIn_wide (n := 5)).1 ?_
  refine callsIn_of_wp_marks Try.func11 rfl trivial ?_ rfl
  refine wpIn_wide.2 ?_
  simp only [Try.ntmps11, List.size_toArray, List.length_cons, List.length_nil, Nat.reduceAdd, Nat.reduceSub, Array.replicate_succ, Array.replicate_zero, List.push_toArray, List.append_toArray, List.nil_append, List.cons_append]
  go_wp2_with fail
  obtain ⟨B, eB⟩ : ∃ B, w.heap.size = B := ⟨_, rfl⟩
  obtain ⟨pv, epv⟩ : ∃ v, Value.slice pa pn pc = v := ⟨_, rfl⟩
  rw [epv, eB]
  obtain ⟨w2, ew2⟩ : ∃ w2, (w.alloc (.cells #[.int .u64 seed, pv, .int .i64 stop, .slice ka kl kc, .slice va vl vc] 88)).alloc (.cells #[.bool false] 4) = w2 := ⟨_, rfl⟩
  obtain ⟨N, eN⟩ : ∃ N, w2.heap.size = N := ⟨_, rfl⟩
  have HNN := Lib.hid eN
  have HBX := Lib.hid (show w2.heap[B]? = some (.cells #[.int .u64 seed, pv, .int .i64 stop, .slice ka kl kc, .slice va vl vc] 88 (0, 0)) from by rw [← ew2, ← eB]; exact alloc_same (heap_alloc_new _ _))
  have HRS := Lib.hid (show w2.heap[B + 1]? = some (.cells #[.bool false] 4 (0, 0)) from by
    have h := heap_alloc_new (w.alloc (.cells #[.int .u64 seed, pv, .int .i64 stop, .slice ka kl kc, .slice va vl vc] 88)) (.cells #[.bool false] 4)
    rw [nblk_alloc, eB] at h
    rw [← ew2]; exact h)
  have HT2 := Lib.hid (show Touch Nil w w2 from by rw [← ew2]; exact ((Touch.refl Nil w).alloc _).alloc _)
  have HNB := Lib.hid (show N = B + 2 from by rw [← eN, ← ew2, nblk_alloc, nblk_alloc, eB])
  rw [ew2]
  clear ew2 eN
  refine (wpIn_wide (n := 7)).1 (region_inv (by kernel_rfl) (by kernel_rfl) (fun L a W => L.size = 18 ∧ Touch Nil w2 W ∧ ∃ v3 v4 v5 v6 v7 v20 v21 v22 v23 v24 v25 v26 v27 v28 v29, a = { tmps := #[.agg #[.int .u64 seed, pv, .int .i64 stop, .slice ka kl kc, .slice va vl vc], .pointer (some ⟨B, 0, none⟩), .pointer (some ⟨B + 1, 0, none⟩), v3, v4, v5, v6, v7, undef, undef, undef, undef, undef, undef, undef, undef, undef, undef, undef, undef, v20, v21, v22, v23, v24, v25, v26, v27, v28, v29, undef, undef, undef, undef, undef, undef, undef, undef, undef, undef, undef, undef, undef, undef, undef, undef, undef, undef, undef, undef, undef, undef, undef, undef, undef, undef, undef, undef, undef, undef, undef, undef, undef, undef, undef, undef, undef, undef, undef, undef, undef, undef, undef, undef, undef, undef, undef, undef, undef, undef, undef, undef, undef, undef, undef, undef, undef, undef, undef, undef, undef, undef, undef, undef, undef, undef, undef, undef, undef, undef, undef, undef, undef, undef, undef, undef, undef, undef, undef, undef, undef, undef, undef, undef, undef, undef, undef, undef, undef, undef, undef, undef, undef, undef, undef, undef, undef, undef, undef, undef, undef, undef, undef, undef, undef, undef, undef, undef, undef, undef, undef, undef, undef, undef, undef, undef, undef, undef, undef, undef, undef, undef, undef, undef, undef, undef, undef, undef, undef, undef, undef, undef, undef], defers := [] } ∧ Y1 N B seed stop pv (.slice ka kl kc) (.slice va vl vc) L W v3 v4 v5 v6 v7 v20 v21 v22 v23 v24 v25 v26 v27 v28 v29) ?_ ?_ ?_)
  · exact ⟨rfl, (Touch.refl Nil w2).drew, undef, undef, undef, undef, undef, undef, undef, undef, undef, undef, undef, undef, undef, undef, undef, rfl, { f0 := fun h => absurd h (by decide), f1 := fun h => absurd h (by decide), f2 := fun h => absurd h (by decide), f3 := fun h => absurd h (by decide), f4 := fun h => absurd h (by decide), f5 := fun h => absurd h (by decide), f6 := fun h => absurd h (by decide), f7 := fun h => absurd h (by decide), f8 := fun h => absurd h (by decide), f9 := fun h => absurd h (by decide), f10 := fun h => absurd h (by decide), f11 := fun h => absurd h (by decide), f12 := fun h => absurd h (by decide), f13 := fun h => absurd h (by decide), f14 := fun h => absurd h (by decide), d56 := fun h _ => absurd h (by decide), d57 := fun h _ => absurd h (by decide), d67 := fun h _ => absurd h (by decide), g15 := fun h => absurd h (by decide), g16 := fun h => absurd h (by decide), g17 := fun h => absurd h (by decide), t := Nat.le_of_eq HNN.out.symm }⟩
  · rintro L a w3 ⟨hs, ht, v3, v4, v5, v6, v7, v20, v21, v22, v23, v24, v25, v26, v27, v28, v29, rfl, y⟩ hall
    have hL := allL hs hall
    obtain ⟨x5, h5, e5⟩ := y.f10 (hL 10 (by decide))
    obtain ⟨x6, h6, e6⟩ := y.f11 (hL 11 (by decide))
    obtain ⟨x7, h7, e7⟩ := y.f12 (hL 12 (by decide))
    rw [e5 (hL 15 (by decide))] at h5
    rw [e6 (hL 16 (by decide))] at h6
    rw [e7 (hL 17 (by decide))] at h7
    have e3 := y.f13 (hL 13 (by decide))
    have e4 := y.f14 (hL 14 (by decide))
    have d56 := y.d56 (hL 10 (by decide)) (hL 11 (by decide))
    have d57 := y.d57 (hL 10 (by decide)) (hL 12 (by decide))
    have d67 := y.d67 (hL 11 (by decide)) (hL 12 (by decide))
    clear y e5 e6 e7 hL hall hs x5 x6 x7
    subst e3 e4 epv
    obtain ⟨b5, rfl, hb5, hn5⟩ := h5
    obtain ⟨b6, rfl, hb6, hn6⟩ := h6
    obtain ⟨b7, rfl, hb7, hn7⟩ := h7
    have HT3 := Lib.hid (HT2.out.trans ht)
    have H5 := Lib.hid hb5
    have H6 := Lib.hid hb6
    have H7 := Lib.hid hb7
    have HR3 := Lib.hid ((ht.same _ (lt_of_heap HRS.out) fun c => c).trans HRS.out)
    have HLO := Lib.hid (show B + 2 ≤ b5 ∧ B + 2 ≤ b6 ∧ B + 2 ≤ b7 from by have := HNB.out; omega)
    have HDD := Lib.hid (show b5 ≠ b6 ∧ b5 ≠ b7 ∧ b6 ≠ b7 from ⟨fun e => d56 (by rw [e]), fun e => d57 (by rw [e]), fun e => d67 (by rw [e])⟩)
    clear hb5 hb6 hb7 hn5 hn6 hn7 d56 d57 d67 ht HBX HRS HT2
    clear HNN
    go_wp2_with fail
    refine (HRI.out _ HT3.out).mono ?_
    rintro e w4 ⟨lx, ok, rfl, ⟨la, ln, lc, rfl⟩, hok, ht4⟩
    have HT4 := Lib.hid ht4
    have HOK := Lib.hid hok
    clear ht4 hok HRI
    have k6 := cells1 ((HT4.out.same _ (lt_of_heap H6.out) fun c => c).trans H6.out)
    have k7 := cells1 ((HT4.out.same _ (lt_of_heap H7.out) fun c => c).trans H7.out)
    have kr := (HT4.out.same _ (lt_of_heap HR3.out) fun c => c).trans HR3.out
    have kz := yfr kr 0
    have kr1 := cells1 kr
    cases ok with
    | false =>
      go_wp2_with fail
      exact ⟨_, res1 rfl rfl (set_cell1 kr), rfl, ((HT3.out.trans HT4.out).setCell ⟨B + 1, 0, none⟩ _ fun h => by have h : B + 1 < w.heap.size := h; omega).below_nil⟩
    | true =>
    obtain ⟨hl400, hokl, hlp⟩ := HOK.out rfl
    obtain ⟨S, eS⟩ : ∃ S, insAll P [] = S := ⟨_, rfl⟩
    have HSR := Lib.hid (show Srt S from by rw [← eS]; exact insAll_srt P srt_nil)
    have HOKS := Lib.hid (show OkL S from by rw [← eS]; exact OkL.ins hokl (fun p hp => by cases hp))
    rw [eS] at hlp
    have HSP := Lib.hid eS
    have HLP := Lib.hid hlp
    have HOKP := Lib.hid (And.intro hl400 hokl)
    have HAL := Lib.hid (fun w' => allowedW_any kl vl kc vc ka va w' (by have := HKL.out; omega) (by have := HKL.out; omega))
    clear hl400 hokl hlp HOK eS
    cases hab : allowB kl vl with
    | false =>
      rw [hab] at HAL
      go_wp2_with fail
      refine (HAL.out _).mono ?_
      rintro e w' ⟨rfl, rfl⟩
      go_wp2_with fail
      exact ⟨_, res1 rfl rfl (set_cell1 kr), rfl, ((HT3.out.trans HT4.out).setCell ⟨B + 1, 0, none⟩ _ fun h => by have h : B + 1 < w.heap.size := h; omega).below_nil⟩
    | true =>
    rw [hab] at HAL
    have HAB := Lib.hid hab
    clear hab
    go_wp2_with fail
    refine (HAL.out _).mono ?_
    rintro e w' ⟨rfl, rfl⟩
    go_wp2_with fail
    refine (new_map seed w4).mono ?_
    rintro e w5 ⟨mb, bb, ra, rfl, hm5, hmb, hbb, hne, ht5⟩
    have HT5 := Lib.hid ht5
    obtain ⟨bm, ebm⟩ : ∃ bm, w5.heap.size = bm := ⟨_, rfl⟩
    obtain ⟨w6, ew6⟩ : ∃ w6, w5.alloc (.cells #[.pointer (some ⟨mb, 0, none⟩)] 24) = w6 := ⟨_, rfl⟩
    have HT6 := Lib.hid (show Touch Nil w5 w6 from by rw [← ew6]; exact (Touch.refl Nil w5).alloc _)
    have hbm : w6.heap[bm]? = some (.cells #[.pointer (some ⟨mb, 0, none⟩)] 24 (0, 0)) := by rw [← ew6, ← ebm]; exact heap_alloc_new _ _
    have HBM := Lib.hid hbm
    have kb := cells1 hbm
    have HMO := Lib.hid (show w4.heap.size ≤ mb ∧ w4.heap.size ≤ bb ∧ mb ≠ bb ∧ mb < bm ∧ bb < bm ∧ bm < w6.heap.size from ⟨hmb, hbb, hne, by rw [← ebm]; exact lt_of_heap hm5.top, by rw [← ebm]; exact lt_of_heap hm5.body, lt_of_heap hbm⟩)
    have HM6 := Lib.hid (hm5.keepN HT6.out)
    have HPU := Lib.hid (puts_any HM6.out (HP.out.keepN (((HT3.out.trans HT4.out).trans HT5.out).trans HT6.out)) HOKP.out.2 (by have := HOKP.out.1; simp only [Tree.size]; omega) (fun _ c => c.elim))
    clear hm5 hmb hbb hne ht5 HAL kz kr1 kr k6 k7 hbm
    go_wp2_with fail
    refine HPU.out.mono ?_
    rintro e w7 ⟨rfl, ⟨R7, ra7, t7, hm7, htl7, hr7⟩, ht7⟩
    have HM7 := Lib.hid hm7
    have HTL7 := Lib.hid (show t7.toL = S from by rw [htl7]; exact HSP.out)
    have HR7 := Lib.hid hr7
    have HT7 := Lib.hid ht7
    clear hm7 htl7 hr7 ht7 HPU kb
    have kb7 := cells1 ((HT7.out.same bm (lt_of_heap HBM.out) fun hs => by have hs : bm = bb := hs; have := HMO.out; omega).trans HBM.out)
    go_wp2_with fail
    obtain ⟨bt, ebt⟩ : ∃ bt, w7.heap.size = bt := ⟨_, rfl⟩
    obtain ⟨w8, ew8⟩ : ∃ w8, w7.alloc (.cells #[.int .i64 0] 3) = w8 := ⟨_, rfl⟩
    obtain ⟨bg, ebg⟩ : ∃ bg, w8.heap.size = bg := ⟨_, rfl⟩
    obtain ⟨w9, ew9⟩ : ∃ w9, w8.alloc (.cells #[.slice none 0 0] 26) = w9 := ⟨_, rfl⟩
    have HT89 := Lib.hid (show Touch Nil w7 w8 ∧ Touch Nil w8 w9 from ⟨by rw [← ew8]; exact (Touch.refl Nil w7).alloc _, by rw [← ew9]; exact (Touch.refl Nil w8).alloc _⟩)
    have hbt : w8.heap[bt]? = some (.cells #[.int .i64 0] 3 (0, 0)) := by rw [← ew8, ← ebt]; exact heap_alloc_new _ _
    have HGT := Lib.hid (And.intro hbt (show w9.heap[bg]? = some (.cells #[.slice none 0 0] 26 (0, 0)) from by rw [← ew9, ← ebg]; exact heap_alloc_new _ _))
    have HSZ := Lib.hid (show w7.heap.size = bt ∧ bg = bt + 1 ∧ w9.heap.size = bt + 2 from ⟨ebt, by rw [← ebg, ← ew8, nblk_alloc, ebt], by rw [← ew9, nblk_alloc, ← ew8, nblk_alloc, ebt]⟩)
    have kt8 := cells1 hbt
    have kb9 : w9.cell? ⟨bm, 0, none⟩ = some (.pointer (some ⟨mb, 0, none⟩)) := cell_step kb7 (HT89.out.1.trans HT89.out.2)
    rw [ew8, ebt]
    refine wp_loop_rounds 3 ?_
    rw [rounds_succ]
    clear hbt
    go_wp2_with fail
    refine (all_any _ _).mono ?_
    rintro e w' ⟨rfl, rfl⟩
    clear ew8 ew9 ebt ebg kt8 kb9 kb7 ebm ew6
    go_wp2_with fail
    obtain ⟨wst, ews⟩ : ∃ wst, w9.alloc (.cells #[.pointer (some ⟨mb, 0, none⟩)] 24) = wst := ⟨_, rfl⟩
    have HTS := Lib.hid (show Touch Nil w9 wst from by rw [← ews]; exact (Touch.refl Nil w9).alloc _)
    have HWS := Lib.hid (show wst.heap.size = bt + 3 from by rw [← ews, nblk_alloc, HSZ.out.2.2])
    have hcl : wst.cell? ⟨bt + 2, 0, none⟩ = some (.pointer (some ⟨mb, 0, none⟩)) := by rw [← ews, ← HSZ.out.2.2]; exact cell_new w9 _ _ 0
    rw [ews, show w9.heap.size = bt + 2 from HSZ.out.2.2]
    have hlen : t7.size = ln := by rw [size_toL, HTL7.out]; exact HLP.out.len.symm
    have HLN := Lib.hid hlen
    have HMW := Lib.hid (HM7.out.keepN ((HT89.out.1.trans HT89.out.2).trans HTS.out))
    obtain ⟨st, sN, hs1, hs2, hs3⟩ : ∃ (st : Bool) (sN : Nat), (if st = true then 1 ≤ sN ∧ sN ≤ t7.size else sN = t7.size) ∧ (∀ i, i < sN → ((st = true ∧ i + 1 = sN) ↔ ((i : Int) + 1 = stop))) ∧ (if 0 < stop ∧ stop < (ln : Int) then stop else (ln : Int)) = (sN : Int) := by
      by_cases hc : 1 ≤ stop ∧ stop ≤ (ln : Int)
      · refine ⟨true, stop.toNat, by rw [if_pos rfl]; omega, fun i hi => ⟨fun h => by omega, fun h => ⟨rfl, by omega⟩⟩, ?_⟩
        by_cases h2 : 0 < stop ∧ stop < (ln : Int)
        · rw [if_pos h2]; omega
        · rw [if_neg h2]; omega
      · refine ⟨false, ln, by rw [if_neg (by decide)]; exact hlen.symm, fun i hi => ⟨fun h => absurd h.1 (by decide), fun h => by omega⟩, ?_⟩
        rw [if_neg (by omega)]
    have HS2 := Lib.hid hs2
    have HS3 := Lib.hid hs3
    have HSL := Lib.hid (show sN ≤ ln from by
      by_cases h : st = true
      · rw [if_pos h] at hs1; omega
      · rw [if_neg h] at hs1; omega)
    have HLT := Lib.hid (show B + 2 ≤ b5 ∧ B + 2 ≤ b6 ∧ B + 2 ≤ b7 ∧ b5 < bb ∧ b6 < bb ∧ b7 < bb ∧ b5 < mb ∧ B + 1 < bb ∧ mb < bm ∧ bb < bm ∧ bm < bt ∧ bg = bt + 1 from by
      have h1 := HLO.out
      have h2 := HMO.out
      have h3 := HSZ.out
      have h4 := lt_of_heap H5.out
      have h5 := lt_of_heap H6.out
      have h6 := lt_of_heap H7.out
      have h7 := HT4.out.size
      have h8 := HT7.out.size
      have h9 := lt_of_heap HR3.out
      omega)
    have HTO := Lib.hid (show Touch (fun b => B ≤ b) w wst from by
      have h1 := (HT3.out.trans HT4.out).trans (HT5.out.trans HT6.out)
      have h2 := (HT89.out.1.trans HT89.out.2).trans HTS.out
      exact (h1.of_nil.trans (HT7.out.mono fun b _ hs => by have hs : b = bb := hs; have := HLT.out; omega)).trans h2.of_nil)
    have HCE := Lib.hid (show wst.heap[b5]? = some (.cells #[.int .i64 stop] 3 (0, 0)) ∧ wst.heap[b6]? = some (.cells #[.slice ka kl kc] 29 (0, 0)) ∧ wst.heap[b7]? = some (.cells #[.slice va vl vc] 29 (0, 0)) ∧ wst.heap[bm]? = some (.cells #[.pointer (some ⟨mb, 0, none⟩)] 24 (0, 0)) ∧ wst.heap[bt]? = some (.cells #[.int .i64 0] 3 (0, 0)) ∧ wst.heap[bg]? = some (.cells #[.slice none 0 0] 26 (0, 0)) ∧ wst.heap[B + 1]? = some (.cells #[.bool false] 4 (0, 0)) from by
      have h1 := HLT.out
      have t4 := HT4.out
      have t56 := HT5.out.trans HT6.out
      have t2 := (HT89.out.1.trans HT89.out.2).trans HTS.out
      have go : ∀ {b : Nat} {o : Obj}, w3.heap[b]? = some o → b ≠ bb → wst.heap[b]? = some o := fun {b o} hb hne => by
        have e1 := ((t4.trans t56).same b (lt_of_heap hb) fun c => c).trans hb
        have e2 := (HT7.out.same b (lt_of_heap e1) fun hs => hne hs).trans e1
        exact (t2.same b (lt_of_heap e2) fun c => c).trans e2
      have em := (HT7.out.same bm (lt_of_heap HBM.out) fun hs => by have hs : bm = bb := hs; omega).trans HBM.out
      have et := (HT89.out.2.same bt (lt_of_heap HGT.out.1) fun c => c).trans HGT.out.1
      exact ⟨go H5.out (by omega), go H6.out (by omega), go H7.out (by omega), (t2.same bm (lt_of_heap em) fun c => c).trans em, (HTS.out.same bt (lt_of_heap et) fun c => c).trans et, (HTS.out.same bg (lt_of_heap HGT.out.2) fun c => c).trans HGT.out.2, go HR3.out (by omega)⟩)
    have HKV := Lib.hid (show ∀ W', Touch (fun b => B ≤ b) w W' → BV W' (.slice ka kl kc) key ∧ BV W' (.slice va vl vc) val from fun W' ht => ⟨BV.keepE HK.out ht fun hl b ho hs => by have := BV.low HK.out hl b ho; have hs : B ≤ b := hs; omega, BV.keepE HV.out ht fun hl b ho hs => by have := BV.low HV.out hl b ho; have hs : B ≤ b := hs; omega⟩)
    have HKK := Lib.hid (show allowB key.length val.length = true from by
      have e1 : kl = key.length := by obtain ⟨_, _, e, _⟩ := HK.out; cases e; rfl
      have e2 : vl = val.length := by obtain ⟨_, _, e, _⟩ := HV.out; cases e; rfl
      rw [← e1, ← e2]; exact HAB.out)
    have HSL4 := Lib.hid (show S.length ≤ 400 from by have h1 := insAll_len P []; rw [HSP.out] at h1; simp at h1; have := HOKP.out.1; omega)
    clear hlen hs2 hs3 ews
    refine range_any (mb := mb) (bb := bb) (Bt := bt + 2) (t := t7) (R := R7) (n₀ := 0) (S := fun b => b = bb ∨ b = bg ∨ bt + 3 ≤ b) st 2 sN hs1 rfl HMW.out hcl ?_ ?_ (Nat.zero_le _) rfl (YI seed mb bb bg (bt + 3) wst S (yM key val S)) ?_ ?_ ?a1 ?as1 ?bo1 ?do1
    case as1 =>
      intro m l kx ux W K hK
      gi_wp2
      exact hK
    case bo1 =>
      rintro m l i p W0 W kx ux hp his hi0 ht0 hn0 hkx hux hdis E hE
      have HEE := Lib.hid hE
      clear hE
      rw [HWS.out] at hn0 ht0
      obtain ⟨ka', kl', kc', rfl⟩ := hkx.form
      obtain ⟨ua', ul', uc', rfl⟩ := hux.form
      obtain ⟨x, VV, R, ra, t, h0, hbg, hgo, hx, hV, hm, htl, hR⟩ := hi0.parts (by have := HLT.out; omega) ht0
      obtain ⟨xa, xl, xc, rfl⟩ := hgo.form
      have hokp : okK p.1 p.2 := HOKS.out p (by rw [← HTL7.out]; exact List.mem_of_getElem? hp)
      have hpS : S[i]? = some p := by rw [← HTL7.out]; exact hp
      have HPS := Lib.hid hpS
      have HOKX := Lib.hid hokp
      have HGB := Lib.hid hbg
      have HGO := Lib.hid hgo
      have HKX := Lib.hid hkx
      have HUX := Lib.hid hux
      have HLK := Lib.hid (show p.1.length ≤ 64 ∧ p.2.length ≤ 1000 from hokp.2)
      have HBW := Lib.hid (show bt + 3 + 2 ≤ W.heap.size from Nat.le_trans hn0 ht0.size)
      have HAL := Lib.hid (show (S.take i).length ≤ 100000 from by
        have h1 := HM7.out.size
        have h2 : S.length = t7.size := by rw [size_toL, HTL7.out]
        have h3 := List.length_take_le i S
        have h4 := (List.getElem?_eq_some_iff.1 hpS).1
        omega)
      have HXB := Lib.hid (show ¬ OwnOf (.slice xa xl xc) bg from fun c => by have := (hgo.block c).1; have := HLT.out; omega)
      have HPA := Lib.hid (And.intro h0 (And.intro hx (And.intro hV (And.intro hm (And.intro htl hR)))))
      have HDI := Lib.hid hdis
      have HSZ0 := Lib.hid (And.intro hn0 ht0.size)
      have HIS := Lib.hid his
      have hdd : ∀ q : Nat, (Fence.wide.depth.isSome = true → 1 ≤ q) := fun q h => by cases h
      clear hi0 ht0 hn0 hkx hux hdis h0 hbg hgo hx hV hm htl hR hokp hpS hp his
      gi_wp2
      refine region_inv (by kernel_rfl) (by kernel_rfl) (fun L a W' => L.size = 9 ∧ ∃ v61 v62 v63 v64 v65 v66 v67 v68, a = { tmps := #[Value.agg #[Value.int IntKind.u64 seed, Value.slice pa pn pc, Value.int IntKind.i64 stop, Value.slice ka kl kc, Value.slice va vl vc], Value.pointer (some { block := B, off := 0 }), Value.pointer (some { block := B + 1, off := 0 }), Value.int IntKind.u64 seed, Value.slice pa pn pc, Value.pointer (some { block := b5, off := 0 }), Value.pointer (some { block := b6, off := 0 }), Value.pointer (some { block := b7, off := 0 }), Value.slice la ln lc, Value.bool true, Value.pointer (some { block := bm, off := 0 }), Value.slice none 0 0, Value.slice none 0 0, Value.pointer (some { block := bt, off := 0 }), Value.pointer (some { block := bg, off := 0 }), Value.slice ka' kl' kc', Value.slice ua' ul' uc', undef, undef, undef, v20, v21, v22, v23, v24, v25, v26, v27, v28, v29, Value.tuple #[Value.slice la ln lc, Value.bool true], Value.slice pa pn pc, Value.tuple #[Value.slice la ln lc, Value.bool true], Value.slice la ln lc, Value.bool true, Value.bool true, Value.bool false, Value.bool false, Value.slice ka kl kc, Value.slice va vl vc, Value.bool true, Value.bool false, Value.bool false, Value.int IntKind.u64 seed, Value.pointer (some { block := mb, off := 0 }), Value.pointer (some { block := mb, off := 0 }), Value.bool false, Value.bool false, Value.pointer (some { block := mb, off := 0 }), Value.slice pa pn pc, Value.bool true, Value.bool false, Value.bool false, Value.int IntKind.i64 0, Value.bool true, undef, undef, Value.pointer (some { block := mb, off := 0 }), Value.func (Fn.func 95) #[] #[Value.pointer (some { block := bt + 2, off := 0 })], Value.slice ka' kl' kc', Value.slice ua' ul' uc', v61, v62, v63, v64, v65, v66, v67, v68, undef, undef, undef, undef, undef, undef, undef, undef, undef, undef, undef, undef, undef, undef, undef, undef, undef, undef, undef, undef, undef, undef, undef, undef, undef, undef, undef, undef, undef, undef, undef, undef, undef, undef, undef, undef, undef, undef, undef, undef, undef, undef, undef, undef, undef, undef, undef, undef, undef, undef, undef, undef, undef, undef, undef, undef, undef, undef, undef, undef, undef, undef, undef, undef, undef, undef, undef, undef, undef, undef, undef, undef, undef, undef, undef, undef, undef, undef, undef, undef, undef, undef, undef, undef, undef, undef, undef, undef, undef, undef, undef, undef, undef, undef], defers := [] } ∧ Y16 (bt + 3 + 2) bg (.slice xa xl xc) (.slice ka' kl' kc') (.slice ua' ul' uc') W (S.take i) VV p L W' v61 v62 v63 v64 v65 v66 v67 v68) ?_ ?_ ?_
      · exact ⟨rfl, undef, undef, undef, undef, undef, undef, undef, undef, rfl, { f0 := fun h => absurd h (by decide), f1 := fun h => absurd h (by decide), f2 := fun h => absurd h (by decide), f3 := fun h => absurd h (by decide), f4 := fun h => absurd h (by decide), f5 := fun h => absurd h (by decide), c4 := fun h => absurd h (by decide), c5 := fun h => absurd h (by decide), c6 := fun h => absurd h (by decide), c7 := fun h => absurd h (by decide), c8 := fun h => absurd h (by decide), d2 := fun h => absurd h (by decide), d4 := fun h => absurd h (by decide), w7 := fun h => absurd h (by decide), w8 := fun h => absurd h (by decide), f6 := fun h => absurd h (by decide), w0 := fun _ => (Touch.refl Nil W).drew }⟩
      · rintro L a W' ⟨hs, v61, v62, v63, v64, v65, v66, v67, v68, rfl, y⟩ hall
        have hL := allL hs hall
        obtain ⟨w10, happ, hbg10, rfl⟩ := y.w8 (hL 8 (by decide))
        obtain ⟨ca, cn, cc, rfl⟩ : ∃ a n c, v68 = .slice a n c := by obtain ⟨V', hg, _⟩ := happ; exact hg.form
        clear y hL hall hs
        obtain ⟨hym, htm⟩ := YM.start (n0 := W0.heap.size) (base := bt + 3) (mb := mb) (bb := bb) (Wst := wst) (m := yM key val S i) (by have := HLT.out; omega) HPS.out HPA.out.1 HGO.out HPA.out.2.1 HPA.out.2.2.1 HPA.out.2.2.2.1 HPA.out.2.2.2.2.1 HPA.out.2.2.2.2.2 HSZ0.out.2 happ hbg10
        have hcn : cn = i + 1 := by
          obtain ⟨V', hg, _⟩ := happ
          have h1 := hg.pl.len
          have h2 := (List.getElem?_eq_some_iff.1 HPS.out).1
          rw [List.length_append, List.length_take, List.length_singleton] at h1
          omega
        subst hcn
        have hbg1 := set_cell1 (z := .slice ca (i + 1) cc) hbg10
        obtain ⟨W1, eW1⟩ : ∃ W1, w10.setCell ⟨bg, 0, none⟩ (.slice ca (i + 1) cc) = W1 := ⟨_, rfl⟩
        rw [eW1] at hym htm hbg1 ⊢
        clear eW1 happ hbg10
        have HYM := Lib.hid hym
        have HTM := Lib.hid htm
        have HBG1 := Lib.hid hbg1
        have HLM := Lib.hid (show mb < bt + 3 ∧ bb < bt + 3 ∧ bg < bt + 3 ∧ bg ≠ bb from by have := HLT.out; omega)
        have HNM := Lib.hid (show bt + 3 + 2 ≤ W0.heap.size ∧ W0.heap.size ≤ W.heap.size ∧ W.heap.size ≤ W1.heap.size from ⟨HSZ0.out.1, HSZ0.out.2, HTM.out.size⟩)
        have HFC := Lib.hid (show ∀ W', Touch (fun b => b = bb ∨ b = bg ∨ bt + 3 ≤ b) wst W' → W'.cell? ⟨bt, 0, none⟩ = some (.int .i64 0) ∧ W'.cell? ⟨bm, 0, none⟩ = some (.pointer (some ⟨mb, 0, none⟩)) ∧ W'.cell? ⟨b6, 0, none⟩ = some (.slice ka kl kc) ∧ W'.cell? ⟨b7, 0, none⟩ = some (.slice va vl vc) ∧ W'.cell? ⟨b5, 0, none⟩ = some (.int .i64 stop) ∧ BV W' (.slice ka kl kc) key ∧ BV W' (.slice va vl vc) val from fun W' ht => by
          have hl := HLT.out
          have hk := HKV.out W' (HTO.out.trans (ht.mono fun b _ hs => by show B ≤ b; omega))
          exact ⟨cells1 (YI.cell ht HCE.out.2.2.2.2.1 (by omega)), cells1 (YI.cell ht HCE.out.2.2.2.1 (by omega)), cells1 (YI.cell ht HCE.out.2.1 (by omega)), cells1 (YI.cell ht HCE.out.2.2.1 (by omega)), cells1 (YI.cell ht HCE.out.1 (by omega)), hk.1, hk.2⟩)
        obtain ⟨q0, q1, q2, q3, q4, hbk, hbv⟩ := HFC.out W1 hym.1
        have hp1 := hym.putC HLM.out HNM.out hbk hbv HKK.out (by have := yM_len (key := key) (val := val) HSR.out i; have := HSL4.out; omega)
        have HP1 := Lib.hid hp1
        clear hym htm hbg1 hp1 hbk hbv
        have HKX1 := Lib.hid (show OwnB W0.heap.size W1 (.slice ka' kl' kc') p.1 ∧ OwnB W0.heap.size W1 (.slice ua' ul' uc') p.2 from by
          have h0 := HSZ0.out.1
          have hg := HLT.out
          exact ⟨HKX.out.keep HTM.out fun b hb hs => by have h1 := (HKX.out.block b hb).1; rcases hs with hs | hs; (have := HPA.out.2.1 b hs; omega); omega, HUX.out.keep HTM.out fun b hb hs => by have h1 := (HUX.out.block b hb).1; rcases hs with hs | hs; (have := HPA.out.2.1 b hs; omega); omega⟩)
        have stepB : ∀ (Wa Wb : World), Touch (Just bb) Wa Wb → OwnB W0.heap.size Wa (.slice ka' kl' kc') p.1 ∧ OwnB W0.heap.size Wa (.slice ua' ul' uc') p.2 → OwnB W0.heap.size Wb (.slice ka' kl' kc') p.1 ∧ OwnB W0.heap.size Wb (.slice ua' ul' uc') p.2 := fun Wa Wb ht h => by
          have h0 := HSZ0.out.1
          have hg := HLT.out
          exact ⟨h.1.keep ht fun b hb hs => by have h1 := (h.1.block b hb).1; have hs : b = bb := hs; omega, h.2.keep ht fun b hb hs => by have h1 := (h.2.block b hb).1; have hs : b = bb := hs; omega⟩
        have HSB := Lib.hid stepB
        have stepG : ∀ (Wa Wb : World) (o : Obj), Touch (Just bb) Wa Wb → Wa.heap[bg]? = some o → Wb.heap[bg]? = some o := fun Wa Wb o ht h => (ht.same bg (lt_of_heap h) fun hs => HLM.out.2.2.2 hs).trans h
        have HSG := Lib.hid stepG
        clear stepB stepG
        gi_wp2
        refine ⟨trivial, hdd _, ?_⟩
        refine (CallsIn.inRound l (callsIn_wide.2 HP1.out)).mono ?_
        rintro e W2 ⟨rfl, hy2, ht2⟩
        have HY2 := Lib.hid hy2
        have HT2' := Lib.hid ht2
        have HKX2 := Lib.hid (HSB.out _ _ ht2 HKX1.out)
        obtain ⟨du, hdu⟩ := yM_has (key := key) (val := val) HSR.out HPS.out
        have HP2 := Lib.hid (hy2.dropC HLM.out ⟨HNM.out.1, HNM.out.2.1, Nat.le_trans HNM.out.2.2 ht2.size⟩ HKX2.out.1.bv hdu)
        clear q0 q1 q2 q3 q4 HP1 ht2 hdu
        obtain ⟨q0, q1, q2, q3, q4, hbk, hbv⟩ := HFC.out W2 hy2.1
        clear hy2 hbk hbv
        gi_wp2
        refine ⟨trivial, hdd _, ?_⟩
        refine (CallsIn.inRound l (callsIn_wide.2 HP2.out)).mono ?_
        rintro e W3 ⟨rfl, hy3, ht3⟩
        have HY3 := Lib.hid hy3
        have HT3' := Lib.hid ht3
        have HKX3 := Lib.hid (HSB.out _ _ ht3 HKX2.out)
        have HP3 := Lib.hid (hy3.putC HLM.out ⟨HNM.out.1, HNM.out.2.1, Nat.le_trans (Nat.le_trans HNM.out.2.2 HT2'.out.size) ht3.size⟩ HKX3.out.1.bv HKX3.out.2.bv (okK_iff.2 HOKX.out) (by
          have h1 := delL_len p.1 (insL key val (yM key val S i))
          have h2 := insL_len key val (yM key val S i)
          have h3 := yM_len (key := key) (val := val) HSR.out i
          have h4 := HSL4.out
          omega))
        clear q0 q1 q2 q3 q4 HP2 ht3
        obtain ⟨q0, q1, q2, q3, q4, hbk, hbv⟩ := HFC.out W3 hy3.1
        clear hy3 hbk hbv
        gi_wp2
        refine ⟨trivial, hdd _, ?_⟩
        refine (CallsIn.inRound l (callsIn_wide.2 HP3.out)).mono ?_
        rintro e W4 ⟨rfl, hy4, ht4⟩
        have HY4 := Lib.hid hy4
        have HT4' := Lib.hid ht4
        have HKX4 := Lib.hid (HSB.out _ _ ht4 HKX3.out)
        have HBG4 := Lib.hid (HSG.out _ _ _ ht4 (HSG.out _ _ _ HT3'.out (HSG.out _ _ _ HT2'.out HBG1.out)))
        clear q0 q1 q2 q3 q4 HP3 ht4
        obtain ⟨q0, q1, q2, q3, q4, hbk, hbv⟩ := HFC.out W4 hy4.1
        have q5 := cells1 HBG4.out
        clear hy4 hbk hbv
        have hkl' : kl' = p.1.length := by obtain ⟨_, _, e, _⟩ := HKX.out.bv; cases e; rfl
        have hkp : 0 < kl' := by have := HOKX.out.1; omega
        obtain ⟨g, rfl⟩ : ∃ g, ka' = some ⟨g, 0, none⟩ := by
          obtain ⟨_, ⟨e, _⟩ | ⟨g, _, _, e, _⟩⟩ := HKX4.out.1
          · cases e; omega
          · cases e; exact ⟨g, rfl⟩
        obtain ⟨_, hcell, hfr⟩ := HKX4.out.1.set (i := 0) (by omega) 0
        have HGG := Lib.hid (show W0.heap.size ≤ g ∧ g < W.heap.size from HKX.out.block g rfl)
        have hX := (p.1.getD 0 0).toNat_lt
        generalize (p.1.getD 0 0).toNat = X at *
        have hn1 : bg ≠ g := by have := HGG.out; have := HSZ0.out; have := HLT.out; omega
        have hn2 : b5 ≠ g := by have := HGG.out; have := HSZ0.out; have := HLT.out; omega
        have hn3 : g ≠ bg := fun e => hn1 e.symm
        have hn4 : g ≠ b5 := fun e => hn2 e.symm
        have j1 : (0 : Int) < (kl' : Int) := by omega
        have HFI := Lib.hid (show ∀ v, YI seed mb bb bg (bt + 3) wst S (yM key val S) (i + 1) (W4.setCell ⟨g, 0, none⟩ v) ∧ KeepsOthers W (W4.setCell ⟨g, 0, none⟩ v) ∧ Touch (fun b => b = bb ∨ b = bg ∨ bt + 3 ≤ b) W (W4.setCell ⟨g, 0, none⟩ v) from fun v => by
          have hg := HGG.out
          have hz := HSZ0.out
          have hl := HLT.out
          have tk := (Touch.refl (Just g) W4).setCell ⟨g, 0, none⟩ v fun _ => rfl
          have tb : Touch (fun b => (OwnOf (.slice xa xl xc) b ∨ b = bg) ∨ b = bb ∨ b = g) W (W4.setCell ⟨g, 0, none⟩ v) := (HTM.out.mono fun b _ hs => .inl hs).trans ((((HT2'.out.trans HT3'.out).trans HT4'.out).mono fun b _ hs => .inr (.inl hs)).trans (tk.mono fun b _ hs => .inr (.inr hs)))
          refine ⟨HY4.out.done (S := Just g) (M := yM key val S) (by simp only [yM, HPS.out]; rfl) HLM.out hz.1 tk fun b hs => by have hs : b = g := hs; omega, keeps_of tb fun b hs => ?_, tb.mono fun b _ hs => ?_⟩
          · rcases hs with (hs | rfl) | rfl | rfl
            · obtain ⟨_, cur, e⟩ := HGO.out.block hs
              exact ⟨_, _, _, e⟩
            · exact ⟨_, _, _, HGB.out⟩
            · exact ⟨_, _, _, HPA.out.2.2.2.1.body⟩
            · obtain ⟨cs, z, e⟩ := HKX.out.elem (k := b) rfl
              exact ⟨_, _, _, e⟩
          · rcases hs with (hs | hs) | hs | hs
            · have := (HGO.out.block hs).1; omega
            · exact .inr (.inl hs)
            · exact .inl hs
            · omega)
        by_cases hstop : (i : Int) + 1 = stop
        · have q6 : ((i : Int) + 1 == stop) = true := by rw [beq_iff_eq]; exact hstop
          have HEX := Lib.hid (show E = Exit.exit 2 from HEE.out.trans (if_pos ((HS2.out i HIS.out).2 hstop)))
          gi_wp2
          exact ⟨HEX.out.symm, (HFI.out _).2.1, (HFI.out _).1, (HFI.out _).2.2⟩
        · have q6 : ((i : Int) + 1 == stop) = false := by rw [beq_eq_false_iff_ne]; exact hstop
          have HEX := Lib.hid (show E = Exit.normal from HEE.out.trans (if_neg fun h => hstop ((HS2.out i HIS.out).1 h)))
          gi_wp2
          exact ⟨HEX.out.symm, (HFI.out _).2.1, (HFI.out _).1, (HFI.out _).2.2⟩
      · rintro L a W' j o ho ⟨hs, v61, v62, v63, v64, v65, v66, v67, v68, rfl, y⟩ hl hd K hK
        have hj : j < 9 := (Array.getElem?_eq_some_iff.1 ho).1
        rcases (by omega : j = 0 ∨ j = 1 ∨ j = 2 ∨ j = 3 ∨ j = 4 ∨ j = 5 ∨ j = 6 ∨ j = 7 ∨ j = 8) with rfl | rfl | rfl | rfl | rfl | rfl | rfl | rfl | rfl
        · obtain rfl := Option.some.inj (show some _ = some o from ho)
          have k0 := cells1 (((y.w0 (y.no7 hl (by decide))).same bg (lt_of_heap HGB.out) fun c => c).trans HGB.out)
          go_simp
          exact hK _ _ ⟨by simpa using hs, _, _, _, _, _, _, _, _, rfl, y.s0 hl⟩
        · obtain rfl := Option.some.inj (show some _ = some o from ho)
          go_simp
          exact hK _ _ ⟨by simpa using hs, _, _, _, _, _, _, _, _, rfl, y.s1 hl⟩
        · obtain rfl := Option.some.inj (show some _ = some o from ho)
          have l1 := (hd ⟨1, .data⟩ (by simp) rfl)
          have e := (y.f1 l1).symm
          subst e
          have hc := Lib.hid (copyR_any (HKX.out.bv.keepN (y.w0 (y.no7 hl (by decide)))) (by have := HLK.out; omega))
          go_simp
          gi_wp2_with ((try refine ⟨trivial, ?_⟩); (try refine ⟨hdd _, ?_⟩); gi_at_call 48; refine (CallsIn.inRound l (callsIn_wide.2 hc.out)).mono ?_; rintro e W'' ⟨vc, rfl, hvc, tk⟩; obtain ⟨vca, vcl, vcc, rfl⟩ := hvc.form)
          first | exact hK _ _ ⟨by simpa using hs, _, _, _, _, _, _, _, _, rfl, y.s2 hl l1 tk hvc⟩ | exact ⟨by simpa using hs, _, _, _, _, _, _, _, _, rfl, y.s2 hl l1 tk hvc⟩
        · obtain rfl := Option.some.inj (show some _ = some o from ho)
          go_simp
          exact hK _ _ ⟨by simpa using hs, _, _, _, _, _, _, _, _, rfl, y.s3 hl⟩
        · obtain rfl := Option.some.inj (show some _ = some o from ho)
          have l1 := (hd ⟨3, .data⟩ (by simp) rfl)
          have l2 := (hd ⟨2, .chain⟩ (by simp) rfl)
          have e := (y.f3 l1).symm
          subst e
          have hc := Lib.hid (copyR_any (HUX.out.bv.keepN (y.w0 (y.no7 hl (by decide)))) (by have := HLK.out; omega))
          go_simp
          gi_wp2_with ((try refine ⟨trivial, ?_⟩); (try refine ⟨hdd _, ?_⟩); gi_at_call 48; refine (CallsIn.inRound l (callsIn_wide.2 hc.out)).mono ?_; rintro e W'' ⟨vc, rfl, hvc, tk⟩; obtain ⟨vca, vcl, vcc, rfl⟩ := hvc.form)
          first | exact hK _ _ ⟨by simpa using hs, _, _, _, _, _, _, _, _, rfl, y.s4 hl l1 l2 tk hvc⟩ | exact ⟨by simpa using hs, _, _, _, _, _, _, _, _, rfl, y.s4 hl l1 l2 tk hvc⟩
        · obtain rfl := Option.some.inj (show some _ = some o from ho)
          have l4 := (hd ⟨4, .data⟩ (by simp) rfl)
          obtain ⟨aa, al, ac, e2⟩ := (y.f2 (y.c4 l4)).form
          subst e2
          obtain ⟨ba, bl, bc, e4⟩ := (y.f4 l4).form
          subst e4
          go_simp
          exact hK _ _ ⟨by simpa using hs, _, _, _, _, _, _, _, _, rfl, y.s5 hl l4⟩
        · obtain rfl := Option.some.inj (show some _ = some o from ho)
          have l5 := (hd ⟨5, .data⟩ (by simp) rfl)
          obtain ⟨aa, al, ac, e2⟩ := (y.f2 (y.c4 (y.c5 l5))).form
          subst e2
          obtain ⟨ba, bl, bc, e4⟩ := (y.f4 (y.c5 l5)).form
          subst e4
          have e5 := (y.f5 l5).symm
          subst e5
          go_simp
          exact hK _ _ ⟨by simpa using hs, _, _, _, _, _, _, _, _, rfl, y.s6 hl l5 ((Touch.refl Nil W').alloc _) (heap_alloc_new _ _)⟩
        · obtain rfl := Option.some.inj (show some _ = some o from ho)
          have l0 := (hd ⟨0, .data⟩ (by simp) rfl)
          have l6 := (hd ⟨6, .data⟩ (by simp) rfl)
          have l4 := (hd ⟨4, .chain⟩ (by simp) rfl)
          have h7 := ofT hl
          have t0 := y.w0 h7
          have e0 := (y.f0 l0).symm
          subst e0
          obtain ⟨nb, e6, hnb⟩ := y.f6 l6 h7
          subst e6
          rw [if_pos (by kernel_rfl)]
          refine opIn_append_got (.tmp 61) (.tmp 67) rfl _ rfl (HGO.out.keepN t0) nb 1 rfl v63 v65 p (yc2 hnb).1 (yc2 hnb).2 (y.f2 (y.c4 l4)) (y.f4 l4) HBW.out (by have := HAL.out; omega) (Nat.le_trans HBW.out t0.size) ?_
          intro v' w' V' h1 h2 h3 h4
          exact hK _ _ ⟨by simpa using hs, _, _, _, _, _, _, _, _, rfl, y.s7 hl l0 l6 (y.d2 (y.c4 l4)) (y.d4 l4) HGO.out HGB.out h1.out h2.out h3.out h4.out HXB.out⟩
        · obtain rfl := Option.some.inj (show some _ = some o from ho)
          have l7 := (hd ⟨7, .data⟩ (by simp) rfl)
          obtain ⟨v68', rfl, hb8, ha8, hs8⟩ := y.s8 hl l7
          obtain ⟨ca, cn, cc, rfl⟩ : ∃ a n c, v68 = .slice a n c := by obtain ⟨V', hg, _⟩ := ha8; exact hg.form
          have k0 := cells1 hb8
          have k1 := yfr hb8 0
          go_simp
          exact hK _ _ ⟨by simpa using hs, _, _, _, _, _, _, _, _, rfl, hs8 rfl⟩
    case do1 =>
      rintro D W hD hi hT hK
      obtain ⟨h0, x, VV, R, ra, t, hbg, hgo, hm, htl, hR⟩ := hi
      obtain ⟨xa, xl, xc, rfl⟩ := hgo.form
      have hl := HLT.out
      have kt := cells1 (YI.cell h0 HCE.out.2.2.2.2.1 (by omega))
      have kg := cells1 hbg
      have HH0 := Lib.hid h0
      have HG1 := Lib.hid hgo
      have HGX := Lib.hid hbg
      have HM := Lib.hid hm
      have HTL := Lib.hid htl
      have HRR := Lib.hid hR
      have HK1 := Lib.hid hK
      clear hl hbg hgo hm htl hR hK hT h0
      refine inBlock_if ?_
      go_wp2_with fail
      obtain ⟨ct, ect⟩ : ∃ ct, W.heap.size = ct := ⟨_, rfl⟩
      obtain ⟨u8, eu8⟩ : ∃ u8, W.alloc (.cells #[.int .i64 1] 3) = u8 := ⟨_, rfl⟩
      obtain ⟨cg, ecg⟩ : ∃ cg, u8.heap.size = cg := ⟨_, rfl⟩
      obtain ⟨u9, eu9⟩ : ∃ u9, u8.alloc (.cells #[.slice none 0 0] 26) = u9 := ⟨_, rfl⟩
      have HU89 := Lib.hid (show Touch Nil W u8 ∧ Touch Nil u8 u9 from ⟨by rw [← eu8]; exact (Touch.refl Nil W).alloc _, by rw [← eu9]; exact (Touch.refl Nil u8).alloc _⟩)
      have hct : u8.heap[ct]? = some (.cells #[.int .i64 1] 3 (0, 0)) := by rw [← eu8, ← ect]; exact heap_alloc_new _ _
      have HUG := Lib.hid (And.intro hct (show u9.heap[cg]? = some (.cells #[.slice none 0 0] 26 (0, 0)) from by rw [← eu9, ← ecg]; exact heap_alloc_new _ _))
      have HUZ := Lib.hid (show W.heap.size = ct ∧ cg = ct + 1 ∧ u9.heap.size = ct + 2 from ⟨ect, by rw [← ecg, ← eu8, nblk_alloc, ect], by rw [← eu9, nblk_alloc, ← eu8, nblk_alloc, ect]⟩)
      have kt8 := cells1 hct
      have kb9 : u9.cell? ⟨bm, 0, none⟩ = some (.pointer (some ⟨mb, 0, none⟩)) := cells1 (((HU89.out.1.trans HU89.out.2).same bm (lt_of_heap (YI.cell HH0.out HCE.out.2.2.2.1 (by have := HLT.out; omega))) fun c => c).trans (YI.cell HH0.out HCE.out.2.2.2.1 (by have := HLT.out; omega)))
      rw [eu8, ect]
      rw [rounds_succ]
      clear hct kt kg
      go_wp2_with fail
      refine (all_any _ _).mono ?_
      rintro e w' ⟨rfl, rfl⟩
      clear eu8 eu9 ect ecg kt8 kb9
      go_wp2_with fail
      obtain ⟨ust, eus⟩ : ∃ ust, u9.alloc (.cells #[.pointer (some ⟨mb, 0, none⟩)] 24) = ust := ⟨_, rfl⟩
      have HUS := Lib.hid (show Touch Nil u9 ust from by rw [← eus]; exact (Touch.refl Nil u9).alloc _)
      have HUW := Lib.hid (show ust.heap.size = ct + 3 from by rw [← eus, nblk_alloc, HUZ.out.2.2])
      have hcl : ust.cell? ⟨ct + 2, 0, none⟩ = some (.pointer (some ⟨mb, 0, none⟩)) := by rw [← eus, ← HUZ.out.2.2]; exact cell_new u9 _ _ 0
      rw [eus, show u9.heap.size = ct + 2 from HUZ.out.2.2]
      have HTW := Lib.hid (show Touch Nil W ust from (HU89.out.1.trans HU89.out.2).trans HUS.out)
      have HM2 := Lib.hid (HM.out.keepN HTW.out)
      have HLC := Lib.hid (show bg < ct ∧ bm < ct ∧ bb < ct ∧ mb < ct ∧ cg = ct + 1 ∧ D < ct from by
        have h1 := lt_of_heap HGX.out
        have h2 := HLT.out
        have h3 := HUZ.out
        have h4 := lt_of_heap HK1.out
        omega)
      clear eus
      refine range_any (mb := mb) (bb := bb) (Bt := ct + 2) (t := t) (R := R) (n₀ := 0) (S := fun b => b = bb ∨ b = cg ∨ ct + 3 ≤ b) false 2 t.size (by rw [if_neg (by decide)]) rfl HM2.out hcl ?_ ?_ (Nat.zero_le _) rfl (YI seed mb bb cg (ct + 3) ust t.toL (fun _ => t.toL)) ?_ ?_ ?a2 ?as2 ?bo2 ?do2
      case as2 =>
        intro m l kx ux W K hK
        gi_wp2
        exact hK
      case bo2 =>
        rintro m l i p Y0 Y kx ux hp his hi0 ht0 hn0 hkx hux hdis E hE
        obtain rfl : E = .normal := by rw [hE, if_neg (by rintro ⟨h, _⟩; cases h)]
        rw [HUW.out] at hn0 ht0
        obtain ⟨ka', kl', kc', rfl⟩ := hkx.form
        obtain ⟨ua', ul', uc', rfl⟩ := hux.form
        obtain ⟨x, VV, R', ra', t', h0, hbg, hgo, hx, hV, hm, htl, hR⟩ := hi0.parts (by have := HLC.out; omega) ht0
        obtain ⟨ya, yl, yc, rfl⟩ := hgo.form
        have hokp : okK p.1 p.2 := (treeAt_ok HM2.out.tree) p (List.mem_of_getElem? hp)
        have HPS := Lib.hid hp
        have HOKX := Lib.hid hokp
        have HGB := Lib.hid hbg
        have HGO := Lib.hid hgo
        have HKX := Lib.hid hkx
        have HUX := Lib.hid hux
        have HLK := Lib.hid (show p.1.length ≤ 64 ∧ p.2.length ≤ 1000 from hokp.2)
        have HBW := Lib.hid (show ct + 3 + 2 ≤ Y.heap.size from Nat.le_trans hn0 ht0.size)
        have HAL := Lib.hid (show (t.toL.take i).length ≤ 100000 from by
          have h1 := HM2.out.size
          have h3 := List.length_take_le i t.toL
          rw [size_toL] at h1
          have h4 := (List.getElem?_eq_some_iff.1 hp).1
          omega)
        have HXB := Lib.hid (show ¬ OwnOf (.slice ya yl yc) cg from fun c => by have := (hgo.block c).1; have := HLC.out; omega)
        have HPA := Lib.hid (And.intro h0 (And.intro hx (And.intro hV (And.intro hm (And.intro htl hR)))))
        have HSZ0 := Lib.hid (And.intro hn0 ht0.size)
        have hdd : ∀ q : Nat, (Fence.wide.depth.isSome = true → 1 ≤ q) := fun q h => by cases h
        clear hi0 ht0 hn0 hkx hux hdis h0 hbg hgo hx hV hm htl hR hokp hp his hE
        gi_wp2
        refine region_inv (by kernel_rfl) (by kernel_rfl) (fun L a W' => L.size = 9 ∧ ∃ v61 v62 v63 v64 v65 v66 v67 v68, a = { tmps := #[Value.agg #[Value.int IntKind.u64 seed, Value.slice pa pn pc, Value.int IntKind.i64 stop, Value.slice ka kl kc, Value.slice va vl vc], Value.pointer (some { block := B, off := 0 }), Value.pointer (some { block := B + 1, off := 0 }), Value.int IntKind.u64 seed, Value.slice pa pn pc, Value.pointer (some { block := b5, off := 0 }), Value.pointer (some { block := b6, off := 0 }), Value.pointer (some { block := b7, off := 0 }), Value.slice la ln lc, Value.bool true, Value.pointer (some { block := bm, off := 0 }), Value.slice xa xl xc, Value.slice none 0 0, Value.pointer (some { block := ct, off := 0 }), Value.pointer (some { block := cg, off := 0 }), Value.slice ka' kl' kc', Value.slice ua' ul' uc', undef, undef, undef, v20, v21, v22, v23, v24, v25, v26, v27, v28, v29, Value.tuple #[Value.slice la ln lc, Value.bool true], Value.slice pa pn pc, Value.tuple #[Value.slice la ln lc, Value.bool true], Value.slice la ln lc, Value.bool true, Value.bool true, Value.bool false, Value.bool false, Value.slice ka kl kc, Value.slice va vl vc, Value.bool true, Value.bool false, Value.bool false, Value.int IntKind.u64 seed, Value.pointer (some { block := mb, off := 0 }), Value.pointer (some { block := mb, off := 0 }), Value.bool false, Value.bool false, Value.pointer (some { block := mb, off := 0 }), Value.slice pa pn pc, Value.bool true, Value.bool false, Value.bool false, Value.int IntKind.i64 1, Value.bool true, Value.int IntKind.i64 0, Value.int IntKind.i64 1, Value.pointer (some { block := mb, off := 0 }), Value.func (Fn.func 95) #[] #[Value.pointer (some { block := ct + 2, off := 0 })], Value.slice ka' kl' kc', Value.slice ua' ul' uc', v61, v62, v63, v64, v65, v66, v67, v68, undef, undef, undef, undef, undef, undef, undef, undef, undef, undef, undef, undef, undef, undef, undef, undef, undef, undef, undef, undef, undef, undef, undef, undef, undef, undef, undef, undef, undef, Value.int IntKind.i64 0, Value.bool true, Value.slice xa xl xc, undef, Value.int IntKind.i64 0, undef, undef, undef, undef, undef, undef, undef, undef, undef, undef, undef, undef, undef, undef, undef, undef, undef, undef, undef, undef, undef, undef, undef, undef, undef, undef, undef, undef, undef, undef, undef, undef, undef, undef, undef, undef, undef, undef, undef, undef, undef, undef, undef, undef, undef, undef, undef, undef, undef, undef, undef, undef, undef, undef, undef, undef, undef, undef, undef, undef], defers := [] } ∧ Y16 (ct + 3 + 2) cg (.slice ya yl yc) (.slice ka' kl' kc') (.slice ua' ul' uc') Y (t.toL.take i) VV p L W' v61 v62 v63 v64 v65 v66 v67 v68) ?_ ?_ ?_
        · exact ⟨rfl, undef, undef, undef, undef, undef, undef, undef, undef, rfl, { f0 := fun h => absurd h (by decide), f1 := fun h => absurd h (by decide), f2 := fun h => absurd h (by decide), f3 := fun h => absurd h (by decide), f4 := fun h => absurd h (by decide), f5 := fun h => absurd h (by decide), c4 := fun h => absurd h (by decide), c5 := fun h => absurd h (by decide), c6 := fun h => absurd h (by decide), c7 := fun h => absurd h (by decide), c8 := fun h => absurd h (by decide), d2 := fun h => absurd h (by decide), d4 := fun h => absurd h (by decide), w7 := fun h => absurd h (by decide), w8 := fun h => absurd h (by decide), f6 := fun h => absurd h (by decide), w0 := fun _ => (Touch.refl Nil Y).drew }⟩
        · rintro L a W' ⟨hs, v61, v62, v63, v64, v65, v66, v67, v68, rfl, y⟩ hall
          have hL := allL hs hall
          obtain ⟨w10, happ, hbg10, rfl⟩ := y.w8 (hL 8 (by decide))
          obtain ⟨ca, cn, cc, rfl⟩ : ∃ a n c, v68 = .slice a n c := by obtain ⟨V', hg, _⟩ := happ; exact hg.form
          clear y hL hall hs
          obtain ⟨hym, htm⟩ := YM.start (n0 := Y0.heap.size) (base := ct + 3) (mb := mb) (bb := bb) (Wst := ust) (m := t.toL) (by have := HLC.out; omega) HPS.out HPA.out.1 HGO.out HPA.out.2.1 HPA.out.2.2.1 HPA.out.2.2.2.1 HPA.out.2.2.2.2.1 HPA.out.2.2.2.2.2 HSZ0.out.2 happ hbg10
          obtain ⟨Y1, eY1⟩ : ∃ Y1, w10.setCell ⟨cg, 0, none⟩ (.slice ca cn cc) = Y1 := ⟨_, rfl⟩
          rw [eY1] at hym htm ⊢
          clear eY1 happ hbg10
          have HYM := Lib.hid hym
          have HTM := Lib.hid htm
          have q0 := cells1 (YI.cell hym.1 (((HU89.out.2.trans HUS.out).same ct (lt_of_heap HUG.out.1) fun c => c).trans HUG.out.1) (by have := HLC.out; omega))
          clear hym htm
          gi_wp2
          refine ⟨?_, HYM.out.done (S := Nil) (M := fun _ => t.toL) rfl (by have := HLC.out; omega) HSZ0.out.1 (Touch.refl _ _) fun _ c => c.elim, ?_⟩
          · refine keeps_of HTM.out fun b hs => ?_
            rcases hs with hs | rfl
            · obtain ⟨_, cur, e⟩ := HGO.out.block hs
              exact ⟨_, _, _, e⟩
            · exact ⟨_, _, _, HGB.out⟩
          · refine HTM.out.mono fun b _ hs => ?_
            rcases hs with hs | hs
            · have := (HGO.out.block hs).1; exact .inr (.inr (by omega))
            · exact .inr (.inl hs)
        · rintro L a W' j o ho ⟨hs, v61, v62, v63, v64, v65, v66, v67, v68, rfl, y⟩ hl hd K hK
          have hj : j < 9 := (Array.getElem?_eq_some_iff.1 ho).1
          rcases (by omega : j = 0 ∨ j = 1 ∨ j = 2 ∨ j = 3 ∨ j = 4 ∨ j = 5 ∨ j = 6 ∨ j = 7 ∨ j = 8) with rfl | rfl | rfl | rfl | rfl | rfl | rfl | rfl | rfl
          · obtain rfl := Option.some.inj (show some _ = some o from ho)
            have k0 := cells1 (((y.w0 (y.no7 hl (by decide))).same cg (lt_of_heap HGB.out) fun c => c).trans HGB.out)
            go_simp
            exact hK _ _ ⟨by simpa using hs, _, _, _, _, _, _, _, _, rfl, y.s0 hl⟩
          · obtain rfl := Option.some.inj (show some _ = some o from ho)
            go_simp
            exact hK _ _ ⟨by simpa using hs, _, _, _, _, _, _, _, _, rfl, y.s1 hl⟩
          · obtain rfl := Option.some.inj (show some _ = some o from ho)
            have l1 := (hd ⟨1, .data⟩ (by simp) rfl)
            have e := (y.f1 l1).symm
            subst e
            have hc := Lib.hid (copyR_any (HKX.out.bv.keepN (y.w0 (y.no7 hl (by decide)))) (by have := HLK.out; omega))
            go_simp
            gi_wp2_with ((try refine ⟨trivial, ?_⟩); (try refine ⟨hdd _, ?_⟩); gi_at_call 48; refine (CallsIn.inRound l (callsIn_wide.2 hc.out)).mono ?_; rintro e W'' ⟨vc, rfl, hvc, tk⟩; obtain ⟨vca, vcl, vcc, rfl⟩ := hvc.form)
            first | exact hK _ _ ⟨by simpa using hs, _, _, _, _, _, _, _, _, rfl, y.s2 hl l1 tk hvc⟩ | exact ⟨by simpa using hs, _, _, _, _, _, _, _, _, rfl, y.s2 hl l1 tk hvc⟩
          · obtain rfl := Option.some.inj (show some _ = some o from ho)
            go_simp
            exact hK _ _ ⟨by simpa using hs, _, _, _, _, _, _, _, _, rfl, y.s3 hl⟩
          · obtain rfl := Option.some.inj (show some _ = some o from ho)
            have l1 := (hd ⟨3, .data⟩ (by simp) rfl)
            have l2 := (hd ⟨2, .chain⟩ (by simp) rfl)
            have e := (y.f3 l1).symm
            subst e
            have hc := Lib.hid (copyR_any (HUX.out.bv.keepN (y.w0 (y.no7 hl (by decide)))) (by have := HLK.out; omega))
            go_simp
            gi_wp2_with ((try refine ⟨trivial, ?_⟩); (try refine ⟨hdd _, ?_⟩); gi_at_call 48; refine (CallsIn.inRound l (callsIn_wide.2 hc.out)).mono ?_; rintro e W'' ⟨vc, rfl, hvc, tk⟩; obtain ⟨vca, vcl, vcc, rfl⟩ := hvc.form)
            first | exact hK _ _ ⟨by simpa using hs, _, _, _, _, _, _, _, _, rfl, y.s4 hl l1 l2 tk hvc⟩ | exact ⟨by simpa using hs, _, _, _, _, _, _, _, _, rfl, y.s4 hl l1 l2 tk hvc⟩
          · obtain rfl := Option.some.inj (show some _ = some o from ho)
            have l4 := (hd ⟨4, .data⟩ (by simp) rfl)
            obtain ⟨aa, al, ac, e2⟩ := (y.f2 (y.c4 l4)).form
            subst e2
            obtain ⟨ba, bl, bc, e4⟩ := (y.f4 l4).form
            subst e4
            go_simp
            exact hK _ _ ⟨by simpa using hs, _, _, _, _, _, _, _, _, rfl, y.s5 hl l4⟩
          · obtain rfl := Option.some.inj (show some _ = some o from ho)
            have l5 := (hd ⟨5, .data⟩ (by simp) rfl)
            obtain ⟨aa, al, ac, e2⟩ := (y.f2 (y.c4 (y.c5 l5))).form
            subst e2
            obtain ⟨ba, bl, bc, e4⟩ := (y.f4 (y.c5 l5)).form
            subst e4
            have e5 := (y.f5 l5).symm
            subst e5
            go_simp
            exact hK _ _ ⟨by simpa using hs, _, _, _, _, _, _, _, _, rfl, y.s6 hl l5 ((Touch.refl Nil W').alloc _) (heap_alloc_new _ _)⟩
          · obtain rfl := Option.some.inj (show some _ = some o from ho)
            have l0 := (hd ⟨0, .data⟩ (by simp) rfl)
            have l6 := (hd ⟨6, .data⟩ (by simp) rfl)
            have l4 := (hd ⟨4, .chain⟩ (by simp) rfl)
            have h7 := ofT hl
            have t0 := y.w0 h7
            have e0 := (y.f0 l0).symm
            subst e0
            obtain ⟨nb, e6, hnb⟩ := y.f6 l6 h7
            subst e6
            rw [if_pos (by kernel_rfl)]
            refine opIn_append_got (.tmp 61) (.tmp 67) rfl _ rfl (HGO.out.keepN t0) nb 1 rfl v63 v65 p (yc2 hnb).1 (yc2 hnb).2 (y.f2 (y.c4 l4)) (y.f4 l4) HBW.out (by have := HAL.out; omega) (Nat.le_trans HBW.out t0.size) ?_
            intro v' w' V' h1 h2 h3 h4
            exact hK _ _ ⟨by simpa using hs, _, _, _, _, _, _, _, _, rfl, y.s7 hl l0 l6 (y.d2 (y.c4 l4)) (y.d4 l4) HGO.out HGB.out h1.out h2.out h3.out h4.out HXB.out⟩
          · obtain rfl := Option.some.inj (show some _ = some o from ho)
            have l7 := (hd ⟨7, .data⟩ (by simp) rfl)
            obtain ⟨v68', rfl, hb8, ha8, hs8⟩ := y.s8 hl l7
            obtain ⟨ca, cn, cc, rfl⟩ : ∃ a n c, v68 = .slice a n c := by obtain ⟨V', hg, _⟩ := ha8; exact hg.form
            have k0 := cells1 hb8
            have k1 := yfr hb8 0
            go_simp
            exact hK _ _ ⟨by simpa using hs, _, _, _, _, _, _, _, _, rfl, hs8 rfl⟩
      case do2 =>
        rintro D2 Z hD2 hi2 hT2 hK2
        obtain ⟨h2, y, V2, R2, ra2, t2, hbg2, hgo2, hm2, htl2, hR2⟩ := hi2
        obtain ⟨ya, yl, yc, rfl⟩ := hgo2.form
        have HTZ := Lib.hid (show Touch (fun b => w4.heap.size ≤ b) w4 Z from by
          have h1 := (HT5.out.trans HT6.out)
          have h3 := (HT89.out.1.trans HT89.out.2).trans HTS.out
          have hl := HLT.out
          have hc := HLC.out
          have hm := HMO.out
          exact ((((h1.of_nil (S := fun b => w4.heap.size ≤ b)).trans (HT7.out.mono fun b _ hs => by have hs : b = bb := hs; omega)).trans h3.of_nil).trans (HH0.out.mono fun b _ hs => by omega)).trans ((HTW.out.of_nil (S := fun b => w4.heap.size ≤ b)).trans (h2.mono fun b _ hs => by omega)))
        have HKZ := Lib.hid (HKV.out Z ((((HT3.out.trans HT4.out).of_nil (S := fun b => B ≤ b))).trans (HTZ.out.mono fun b _ hs => by have h1 := (HT3.out.trans HT4.out).size; have hs : w4.heap.size ≤ b := hs; omega)))
        have HCZ := Lib.hid (show Z.cell? ⟨b5, 0, none⟩ = some (.int .i64 stop) ∧ Z.cell? ⟨b6, 0, none⟩ = some (.slice ka kl kc) ∧ Z.cell? ⟨b7, 0, none⟩ = some (.slice va vl vc) ∧ Z.cell? ⟨bm, 0, none⟩ = some (.pointer (some ⟨mb, 0, none⟩)) ∧ Z.heap[B + 1]? = some (.cells #[.bool false] 4 (0, 0)) ∧ Z.cell? ⟨ct, 0, none⟩ = some (.int .i64 1) from by
          have hl := HLT.out
          have hc := HLC.out
          have go : ∀ {b : Nat} {o : Obj}, wst.heap[b]? = some o → b ≠ bb → b ≠ bg → b < bt + 3 → Z.heap[b]? = some o := fun {b o} hb n1 n2 n3 => by
            have e1 := YI.cell HH0.out hb ⟨n1, n2, n3⟩
            have e2 := (HTW.out.same b (lt_of_heap e1) fun c => c).trans e1
            have e3 := lt_of_heap e1
            have e4 := HUZ.out
            exact YI.cell h2 e2 ⟨n1, by omega, by omega⟩
          exact ⟨cells1 (go HCE.out.1 (by omega) (by omega) (by omega)), cells1 (go HCE.out.2.1 (by omega) (by omega) (by omega)), cells1 (go HCE.out.2.2.1 (by omega) (by omega) (by omega)), cells1 (go HCE.out.2.2.2.1 (by omega) (by omega) (by omega)), go HCE.out.2.2.2.2.2.2 (by omega) (by omega) (by omega), cells1 (YI.cell h2 (((HU89.out.2.trans HUS.out).same ct (lt_of_heap HUG.out.1) fun c => c).trans HUG.out.1) (by omega))⟩)
        have HSE := Lib.hid (show PL Z (.slice xa xl xc) (S.take sN) from by
          have hc := HLC.out
          have hz := HUZ.out
          have hl := HLT.out
          exact ((HG1.out.keepN HTW.out).keep h2 (fun b hb hs => by obtain ⟨h1, cur, e⟩ := HG1.out.block hb; have := lt_of_heap e; omega) (fun j c b hj hcc hb hs => by have := HG1.out.elem hj hcc hb; omega)).pl)
        have HAG := Lib.hid (show PL Z (.slice ya yl yc) t.toL from by
          have := hgo2.pl
          rwa [List.take_of_length_le (by rw [size_toL]; exact Nat.le_refl _)] at this)
        have HLZ := Lib.hid (show PL Z (.slice la ln lc) S from RL.keepF HLP.out (Nat.le_refl _) HTZ.out)
        have HMZ := Lib.hid (And.intro hm2 htl2)
        have HKD := Lib.hid (show Z.heap[D2]? = some (.deferred (some [])) ∧ Z.heap[D]? = some (.deferred (some [])) ∧ D ≠ D2 ∧ ct + 3 ≤ D2 ∧ bt + 3 ≤ D from by
          have hc := HLC.out
          rw [HUW.out] at hD2
          rw [HWS.out] at hD
          have e1 := (HTW.out.same D (lt_of_heap HK1.out) fun c => c).trans HK1.out
          exact ⟨hK2, (h2.same D (lt_of_heap e1) fun hs => by
            rcases hs with hs | hs | hs
            · have hd := HM.out.body; rw [← hs, HK1.out] at hd; cases hd
            · omega
            · omega).trans e1, by omega, hD2, hD⟩)
        have kg := cells1 hbg2
        clear h2 hbg2 hgo2 hm2 htl2 hR2 hT2 hK2 hD2
        obtain ⟨q5, q6, q7, qm, _, qt⟩ := HCZ.out
        refine inBlock_if (st := false) ?_
        go_wp2_with fail
        obtain ⟨cu, ecu⟩ : ∃ cu, Z.heap.size = cu := ⟨_, rfl⟩
        obtain ⟨z1, ez1⟩ : ∃ z1, Z.alloc (.cells #[.int .i64 2] 3) = z1 := ⟨_, rfl⟩
        have HZ1 := Lib.hid (show Touch Nil Z z1 from by rw [← ez1]; exact (Touch.refl Nil Z).alloc _)
        have ku : z1.cell? ⟨cu, 0, none⟩ = some (.int .i64 2) := by rw [← ez1, ← ecu]; exact cell_new Z _ _ 0
        rw [ez1, ecu]
        rw [rounds_succ]
        clear ez1 ecu q5 q6 q7 qm qt kg
        have HCW := Lib.hid (show ∀ z, Touch Nil Z z → z.cell? ⟨b5, 0, none⟩ = some (.int .i64 stop) ∧ z.cell? ⟨b6, 0, none⟩ = some (.slice ka kl kc) ∧ z.cell? ⟨b7, 0, none⟩ = some (.slice va vl vc) ∧ z.cell? ⟨bm, 0, none⟩ = some (.pointer (some ⟨mb, 0, none⟩)) from fun z hz => ⟨cell_step HCZ.out.1 hz, cell_step HCZ.out.2.1 hz, cell_step HCZ.out.2.2.1 hz, cell_step HCZ.out.2.2.2.1 hz⟩)
        obtain ⟨q5, q6, q7, qm⟩ := HCW.out z1 HZ1.out
        have HLN' := Lib.hid (show ln = S.length from HLP.out.len)
        by_cases hln : ln = 0
        · have esn : sN = ln := by have := HSL.out; omega
          have HS0 := Lib.hid (show sN = 0 from by omega)
          clear hln
          subst esn
          have g0 : ¬ (0 : Int) < (sN : Int) := by have := HS0.out; omega
          have HPY := Lib.hid (show PL z1 (.slice la sN lc) (yM key val S sN) from by
            have e : yM key val S sN = S := by rw [HS0.out]; rfl
            rw [e]; exact HLZ.out.keepN HZ1.out)
          have HTY := Lib.hid HZ1.out
          by_cases c1 : (0 : Int) < stop
          · have c2 : ¬ stop < (sN : Int) := by have := HS0.out; omega
            obtain ⟨ch, ccc, hcut, hct⟩ := (HLZ.out.keepN HTY.out).cut_h slPair szPair (m := sN) (by have := HSL.out; omega)
            have HSQ := Lib.hid (fun w' (ht : Touch Nil z1 w') => samePairs_any (HSE.out.keepN (HTY.out.trans ht)) (hct.keepN ht) (fun q hq => by have h : okK q.1 q.2 := HOKS.out q (List.mem_of_mem_take hq); have := h.2; omega) (by have h1 := List.length_take_le sN S; have := HSL.out; have := HLN'.out; have := HSL4.out; rw [List.length_take]; omega))
            have hpy2 : PL z1 (.slice la sN lc) t.toL := by rw [HTL.out]; exact HPY.out
            have HSV := Lib.hid (fun w' (ht : Touch Nil z1 w') => samePairs_any (HAG.out.keepN (HTY.out.trans ht)) (hpy2.keepN ht) (fun q hq => by have h : okK q.1 q.2 := (treeAt_ok HM2.out.tree) q hq; have := h.2; omega) (by have h1 := HM2.out.size; rw [size_toL] at h1; omega))
            have HWH := Lib.hid (fun w' (ht : Touch Nil z1 w') => whole_map (HMZ.out.1.keepN (HTY.out.trans ht)) (show PL w' (.slice la sN lc) t2.toL from by rw [HMZ.out.2]; exact hpy2.keepN ht))
            clear hct hpy2
            go_wp2_with fail
            refine (HSQ.out _ (Touch.refl _ _)).mono ?_
            rintro e x1 ⟨rfl, hx1⟩
            have HX1 := Lib.hid (show Touch Nil z1 x1 from hx1)
            clear hx1
            go_wp2_with fail
            refine (HSV.out _ HX1.out).mono ?_
            rintro e x2 ⟨rfl, hx2⟩
            have HX2 := Lib.hid (HX1.out.trans hx2)
            clear hx2
            obtain ⟨_, _, _, qm⟩ := HCW.out x2 (HTY.out.trans HX2.out)
            go_wp2_with fail
            refine (HWH.out _ HX2.out).mono ?_
            rintro e x3 ⟨rfl, hx3⟩
            have HX3 := Lib.hid (HTY.out.trans (HX2.out.trans hx3))
            clear hx3
            have hres := (HX3.out.same (B + 1) (lt_of_heap HCZ.out.2.2.2.2.1) fun c => c).trans HCZ.out.2.2.2.2.1
            have kz := yfr hres 0
            have kz1 := cells1 hres
            have hd2 := (HX3.out.same D2 (lt_of_heap HKD.out.1) fun c => c).trans HKD.out.1
            have hd1 := (HX3.out.same D (lt_of_heap HKD.out.2.1) fun c => c).trans HKD.out.2.1
            have HE := Lib.hid (show ∀ W', W' = x3.setCell ⟨B + 1, 0, none⟩ (.bool true) → W'.heap[D2]? = some (.deferred (some [])) ∧ (W'.putObj D2 (.deferred none)).heap[D]? = some (.deferred (some [])) ∧ ((W'.putObj D2 (.deferred none)).putObj D (.deferred none)).heap[B + 1]? = some (.cells #[.bool true] 4 (0, 0)) ∧ Below w.heap.size w ((W'.putObj D2 (.deferred none)).putObj D (.deferred none)) from by
              rintro W' rfl
              have tk := (Touch.refl (Just (B + 1)) x3).setCell ⟨B + 1, 0, none⟩ (.bool true) fun _ => rfl
              have hl := HLT.out
              have hkd := HKD.out
              have hc := HLC.out
              have hwb : w.heap.size = B := eB
              have e2 := (tk.same D2 (lt_of_heap hd2) fun hs => by have hs : D2 = B + 1 := hs; omega).trans hd2
              have e1 := (tk.same D (lt_of_heap hd1) fun hs => by have hs : D = B + 1 := hs; omega).trans hd1
              have e3 := set_cell1 (z := .bool true) hres
              refine ⟨e2, (World.putObj_heap_other (by omega)).trans e1, (World.putObj_heap_other (by omega)).trans ((World.putObj_heap_other (by omega)).trans e3), ?_⟩
              have t0 : Touch Nil w Z := (HT3.out.trans HT4.out).trans' HTZ.out fun b hb hs => by have h1 := (HT3.out.trans HT4.out).size; have hs : w4.heap.size ≤ b := hs; omega
              exact (touch_put (touch_put ((t0.trans HX3.out).setCell ⟨B + 1, 0, none⟩ _ fun h => by have h : B + 1 < w.heap.size := h; omega) (by omega)) (by omega)).below_nil)
            clear hres hd1 hd2
            go_wp2_with fail
            obtain ⟨k1, k2, k3, k4⟩ := HE.out _ rfl
            refine ⟨by simp, .inl ⟨_, _, rfl, run_takeDeferred k1, ?_⟩⟩
            refine ⟨by simp, .inl ⟨_, _, rfl, run_takeDeferred k2, ?_⟩⟩
            exact ⟨_, res1 rfl rfl k3, rfl, k4⟩
          · skip
            obtain ⟨ch, ccc, hcut, hct⟩ := (HLZ.out.keepN HTY.out).cut_h slPair szPair (m := sN) (by have := HSL.out; omega)
            have HSQ := Lib.hid (fun w' (ht : Touch Nil z1 w') => samePairs_any (HSE.out.keepN (HTY.out.trans ht)) (hct.keepN ht) (fun q hq => by have h : okK q.1 q.2 := HOKS.out q (List.mem_of_mem_take hq); have := h.2; omega) (by have h1 := List.length_take_le sN S; have := HSL.out; have := HLN'.out; have := HSL4.out; rw [List.length_take]; omega))
            have hpy2 : PL z1 (.slice la sN lc) t.toL := by rw [HTL.out]; exact HPY.out
            have HSV := Lib.hid (fun w' (ht : Touch Nil z1 w') => samePairs_any (HAG.out.keepN (HTY.out.trans ht)) (hpy2.keepN ht) (fun q hq => by have h : okK q.1 q.2 := (treeAt_ok HM2.out.tree) q hq; have := h.2; omega) (by have h1 := HM2.out.size; rw [size_toL] at h1; omega))
            have HWH := Lib.hid (fun w' (ht : Touch Nil z1 w') => whole_map (HMZ.out.1.keepN (HTY.out.trans ht)) (show PL w' (.slice la sN lc) t2.toL from by rw [HMZ.out.2]; exact hpy2.keepN ht))
            clear hct hpy2
            go_wp2_with fail
            refine (HSQ.out _ (Touch.refl _ _)).mono ?_
            rintro e x1 ⟨rfl, hx1⟩
            have HX1 := Lib.hid (show Touch Nil z1 x1 from hx1)
            clear hx1
            go_wp2_with fail
            refine (HSV.out _ HX1.out).mono ?_
            rintro e x2 ⟨rfl, hx2⟩
            have HX2 := Lib.hid (HX1.out.trans hx2)
            clear hx2
            obtain ⟨_, _, _, qm⟩ := HCW.out x2 (HTY.out.trans HX2.out)
            go_wp2_with fail
            refine (HWH.out _ HX2.out).mono ?_
            rintro e x3 ⟨rfl, hx3⟩
            have HX3 := Lib.hid (HTY.out.trans (HX2.out.trans hx3))
            clear hx3
            have hres := (HX3.out.same (B + 1) (lt_of_heap HCZ.out.2.2.2.2.1) fun c => c).trans HCZ.out.2.2.2.2.1
            have kz := yfr hres 0
            have kz1 := cells1 hres
            have hd2 := (HX3.out.same D2 (lt_of_heap HKD.out.1) fun c => c).trans HKD.out.1
            have hd1 := (HX3.out.same D (lt_of_heap HKD.out.2.1) fun c => c).trans HKD.out.2.1
            have HE := Lib.hid (show ∀ W', W' = x3.setCell ⟨B + 1, 0, none⟩ (.bool true) → W'.heap[D2]? = some (.deferred (some [])) ∧ (W'.putObj D2 (.deferred none)).heap[D]? = some (.deferred (some [])) ∧ ((W'.putObj D2 (.deferred none)).putObj D (.deferred none)).heap[B + 1]? = some (.cells #[.bool true] 4 (0, 0)) ∧ Below w.heap.size w ((W'.putObj D2 (.deferred none)).putObj D (.deferred none)) from by
              rintro W' rfl
              have tk := (Touch.refl (Just (B + 1)) x3).setCell ⟨B + 1, 0, none⟩ (.bool true) fun _ => rfl
              have hl := HLT.out
              have hkd := HKD.out
              have hc := HLC.out
              have hwb : w.heap.size = B := eB
              have e2 := (tk.same D2 (lt_of_heap hd2) fun hs => by have hs : D2 = B + 1 := hs; omega).trans hd2
              have e1 := (tk.same D (lt_of_heap hd1) fun hs => by have hs : D = B + 1 := hs; omega).trans hd1
              have e3 := set_cell1 (z := .bool true) hres
              refine ⟨e2, (World.putObj_heap_other (by omega)).trans e1, (World.putObj_heap_other (by omega)).trans ((World.putObj_heap_other (by omega)).trans e3), ?_⟩
              have t0 : Touch Nil w Z := (HT3.out.trans HT4.out).trans' HTZ.out fun b hb hs => by have h1 := (HT3.out.trans HT4.out).size; have hs : w4.heap.size ≤ b := hs; omega
              exact (touch_put (touch_put ((t0.trans HX3.out).setCell ⟨B + 1, 0, none⟩ _ fun h => by have h : B + 1 < w.heap.size := h; omega) (by omega)) (by omega)).below_nil)
            clear hres hd1 hd2
            go_wp2_with fail
            obtain ⟨k1, k2, k3, k4⟩ := HE.out _ rfl
            refine ⟨by simp, .inl ⟨_, _, rfl, run_takeDeferred k1, ?_⟩⟩
            refine ⟨by simp, .inl ⟨_, _, rfl, run_takeDeferred k2, ?_⟩⟩
            exact ⟨_, res1 rfl rfl k3, rfl, k4⟩
        · have g1 : (0 : Int) < (ln : Int) := by omega
          have HPU := Lib.hid (fun z (hz : Touch Nil Z z) => putR_any (HLZ.out.keepN hz) (HOKS.out.short) (by have := HSL4.out; omega) (HKZ.out.1.keepN hz) (by have := allowB_le HKK.out; omega) (HKZ.out.2.keepN hz) (by have := allowB_le HKK.out; omega))
          by_cases hc : 0 < stop ∧ stop < (ln : Int)
          · have c1 : (0 : Int) < stop := hc.1
            have c2 : stop < (ln : Int) := hc.2
            have hsN : stop = (sN : Int) := by have := HS3.out; rw [if_pos hc] at this; exact this
            go_wp2_with fail
            refine (HPU.out z1 HZ1.out).mono ?_
            rintro e z2 ⟨xt, rfl, hth, hz2⟩
            obtain ⟨ta, tn, tc, rfl⟩ := hth.form3
            have HTH0 := Lib.hid hth
            have HZ2 := Lib.hid (HZ1.out.trans hz2)
            clear hth hz2 HPU q5 q6 q7 qm
            obtain ⟨q5, q6, q7, qm⟩ := HCW.out z2 HZ2.out
            have hsN1 : 1 ≤ sN := by omega
            obtain ⟨C0, eC0⟩ : ∃ C0, insL key val S = C0 := ⟨_, rfl⟩
            have HC0 := Lib.hid eC0
            have HC0S := Lib.hid (show Srt C0 from by rw [← eC0]; exact insL_srt _ _ HSR.out)
            have HTH := Lib.hid (show PL z2 (.slice ta tn tc) C0 from by rw [← eC0, ← putF_ins key val HSR.out]; exact HTH0.out)
            have HCL := Lib.hid (show C0.length ≤ 401 ∧ Short C0 from ⟨by rw [← eC0]; have h1 := insL_len key val S; have := HSL4.out; omega, fun q hq => by
              rw [← eC0, insL_mem] at hq
              rcases hq with rfl | ⟨hq, _⟩
              · exact ⟨show key.length ≤ _ from by have := allowB_le HKK.out; omega, show val.length ≤ _ from by have := allowB_le HKK.out; omega⟩
              · exact HOKS.out.short q hq⟩)
            clear eC0 q5 q6 q7 qm
            go_wp2_with fail
            go_loopw [18, 19] (fun v18 v19 wr => ∃ y : Nat, y ≤ sN ∧ v19 = .int .i64 (y : Int) ∧ (∃ a n c, v18 = .slice a n c ∧ Hid (PL wr (.slice a n c) (if y = sN then yM key val S sN else C0))) ∧ Touch Nil z2 wr) (fun _ v19 _ => sN - (intOf v19).toNat)
            case atStart => exact ⟨0, Nat.zero_le _, rfl, ⟨_, _, _, rfl, Lib.hid (by rw [if_neg (by omega)]; exact HTH.out)⟩, Touch.refl _ _⟩
            obtain ⟨y, hy, rfl, ⟨ta, tn, tc, rfl, hpy⟩, hto⟩ := hrel
            have HPY := Lib.hid hpy.out
            have HTY := Lib.hid (HZ2.out.trans hto)
            have HTY2 := Lib.hid hto
            clear hpy hto
            by_cases hlt : y < sN
            · obtain ⟨p, hp⟩ : ∃ p, S[y]? = some p := ⟨S[y]'(by have := HLN'.out; have := HSL.out; omega), List.getElem?_eq_getElem _⟩
              have hokp : okK p.1 p.2 := HOKS.out p (List.mem_of_getElem? hp)
              obtain ⟨b, off, fa, fc, ga, gc, rfl, hb, d0, d1, hbk, hbu⟩ := PL.el (HLZ.out.keepN HTY.out) hp
              have HPP := Lib.hid hp
              have HOP := Lib.hid hokp
              have HBU := Lib.hid hbu
              have HQ := Lib.hid (show ∀ w', Touch Nil wr w' → w'.cell? ⟨b, off + y * 2, none⟩ = some (.slice fa p.1.length fc) ∧ w'.cell? ⟨b, off + y * 2 + 1, none⟩ = some (.slice ga p.2.length gc) ∧ w'.cell? ⟨b6, 0, none⟩ = some (.slice ka kl kc) ∧ Hid (Touch Nil wr w') from fun w' ht => ⟨cell_step d0 ht, cell_step d1 ht, (HCW.out w' (HTY.out.trans ht)).2.1, Lib.hid ht⟩)
              have HSA := Lib.hid (fun w' (ht : Touch Nil wr w') => same_any (hbk.keepN ht) (HKZ.out.1.keepN (HTY.out.trans ht)) (by have := hokp.2.1; omega) (by have := allowB_le HKK.out; omega))
              rw [if_neg (by omega)] at HPY
              have i1 : (y : Int) < (sN : Int) := by omega
              have i2 : (0 : Int) ≤ (y : Int) := by omega
              have hyb : y < 1000 := by have := HSL.out; have := HLN'.out; have := HSL4.out; omega
              have i3 : (y : Int) < (ln : Int) := by have := HSL.out; omega
              obtain ⟨pl1, epl1⟩ : ∃ n, p.1.length = n := ⟨_, rfl⟩
              obtain ⟨pl2, epl2⟩ : ∃ n, p.2.length = n := ⟨_, rfl⟩
              rw [epl1] at HSA HQ
              rw [epl2] at HQ HBU
              clear d0 d1 hbk hbu hb hokp hp epl1 epl2
              by_cases hk : p.1 = key
              · rw [decide_eq_true hk] at HSA
                have HK1' := Lib.hid hk
                clear hk
                by_cases hl : y + 1 = sN
                · have g3 : ((y : Int) == wrap64 ((sN : Int) - 1)) = true := by
                    have hw : wrap64 ((sN : Int) - 1) = (sN : Int) - 1 := by have := HSL.out; have := HLN'.out; have := HSL4.out; unfold wrap64; omega
                    rw [hw, beq_iff_eq]; omega
                  go_upto_region 36 with fail
                  have _hne : Nonempty (Wld (KeyS b (off + y * 2) b6 (.slice fa pl1 fc) (.slice ga pl2 gc) (.slice ka kl kc) wr)) := ⟨⟨_, HQ.out wr (Touch.refl Nil wr)⟩⟩
                  refine wp_region_class (S := KeyS b (off + y * 2) b6 (.slice fa pl1 fc) (.slice ga pl2 gc) (.slice ka kl kc) wr) (HQ.out _ (Touch.refl Nil wr).drew) (by kernel_rfl) (by kernel_rfl) ?_
                  have f0 := fun s : Wld (KeyS b (off + y * 2) b6 (.slice fa pl1 fc) (.slice ga pl2 gc) (.slice ka kl kc) wr) => s.ok.1
                  have f2 := fun s : Wld (KeyS b (off + y * 2) b6 (.slice fa pl1 fc) (.slice ga pl2 gc) (.slice ka kl kc) wr) => s.ok.2.2.1
                  have hsc := Lib.hid (fun s : Wld (KeyS b (off + y * 2) b6 (.slice fa pl1 fc) (.slice ga pl2 gc) (.slice ka kl kc) wr) => show Calls Try.prog 26 #[.slice fa pl1 fc, .slice ka kl kc] s.w fun e w' => e = .returned (.bool true) ∧ Touch Nil s.w w' from HSA.out _ s.ok.2.2.2.out)
                  repeat (go_big_quiet_step (first | (go_at_call 26; refine calls_classV (hsc.out _) ?_; intro w' ht; exact KeyS.step ht (Wld.ok _))))
                  refine wpQuiet_nil ?_
                  intro _ hw'
                  obtain ⟨sq, hw''⟩ := hw'
                  subst hw''
                  have HT4a := Lib.hid sq.ok.2.2.2.out
                  obtain ⟨w4c, e4c⟩ : ∃ w3, sq.w = w3 := ⟨_, rfl⟩
                  rw [e4c] at HT4a ⊢
                  clear e4c sq f0 f2 _hne
                  have HPB := Lib.hid (fun w' (ht : Touch Nil wr w') => putR_any (HPY.out.keepN ht) HCL.out.2 (by have := HCL.out.1; omega) (HKZ.out.1.keepN (HTY.out.trans ht)) (by have := allowB_le HKK.out; omega) (HBU.out.keepN ht) (by have := HOP.out.2.2; omega))
                  clear HSA hsc
                  try clear hHeld
                  go_upto_region 37 with fail
                  go_region_held3 (fun w' => w'.cell? ⟨b, off + y * 2, none⟩ = some (.slice fa pl1 fc) ∧ w'.cell? ⟨b, off + y * 2 + 1, none⟩ = some (.slice ga pl2 gc) ∧ w'.cell? ⟨b6, 0, none⟩ = some (.slice ka kl kc) ∧ Hid (Touch Nil wr w'))
                    (first | (with_reducible exact HQ.out _ HT4a.out.drew) | (with_reducible exact HQ.out _ hT5))
                    (first | (go_at_call 50; refine (HPB.out _ HT4a.out.drew).mono ?_; rintro e w5' ⟨v5, rfl, h5, ht5⟩; obtain ⟨sa, sn, sc, rfl⟩ := h5.form3; have hT5 : Touch Nil wr w5' := HT4a.out.drew.trans ht5; have H5' := Lib.hid h5; clear h5 ht5))
                  have HT5a := Lib.hid hT5
                  clear hT5
                  try clear hHeld
                  go_wp2_with fail
                  go_roundw
                  case rel => exact ⟨y + 1, by omega, by go_num, ⟨_, _, _, rfl, Lib.hid (by
                    rw [if_pos hl, ← hl, yM_succ HSR.out y p HPP.out, if_pos HK1'.out]
                    have e := H5'.out
                    rw [putF_ins key p.2 HC0S.out, ← HC0.out, insL_insL key val p.2 HSR.out] at e
                    exact e)⟩, HTY2.out.trans HT5a.out⟩
                  case measure => simp [intOf]; omega
                · have g3 : ((y : Int) == wrap64 ((sN : Int) - 1)) = false := by
                    have hw : wrap64 ((sN : Int) - 1) = (sN : Int) - 1 := by have := HSL.out; have := HLN'.out; have := HSL4.out; unfold wrap64; omega
                    rw [hw, beq_eq_false_iff_ne]; omega
                  go_upto_region 36 with fail
                  have _hne : Nonempty (Wld (KeyS b (off + y * 2) b6 (.slice fa pl1 fc) (.slice ga pl2 gc) (.slice ka kl kc) wr)) := ⟨⟨_, HQ.out wr (Touch.refl Nil wr)⟩⟩
                  refine wp_region_class (S := KeyS b (off + y * 2) b6 (.slice fa pl1 fc) (.slice ga pl2 gc) (.slice ka kl kc) wr) (HQ.out _ (Touch.refl Nil wr).drew) (by kernel_rfl) (by kernel_rfl) ?_
                  have f0 := fun s : Wld (KeyS b (off + y * 2) b6 (.slice fa pl1 fc) (.slice ga pl2 gc) (.slice ka kl kc) wr) => s.ok.1
                  have f2 := fun s : Wld (KeyS b (off + y * 2) b6 (.slice fa pl1 fc) (.slice ga pl2 gc) (.slice ka kl kc) wr) => s.ok.2.2.1
                  have hsc := Lib.hid (fun s : Wld (KeyS b (off + y * 2) b6 (.slice fa pl1 fc) (.slice ga pl2 gc) (.slice ka kl kc) wr) => show Calls Try.prog 26 #[.slice fa pl1 fc, .slice ka kl kc] s.w fun e w' => e = .returned (.bool true) ∧ Touch Nil s.w w' from HSA.out _ s.ok.2.2.2.out)
                  repeat (go_big_quiet_step (first | (go_at_call 26; refine calls_classV (hsc.out _) ?_; intro w' ht; exact KeyS.step ht (Wld.ok _))))
                  refine wpQuiet_nil ?_
                  intro _ hw'
                  obtain ⟨sq, hw''⟩ := hw'
                  subst hw''
                  have HT4a := Lib.hid sq.ok.2.2.2.out
                  obtain ⟨w4c, e4c⟩ : ∃ w3, sq.w = w3 := ⟨_, rfl⟩
                  rw [e4c] at HT4a ⊢
                  clear e4c sq f0 f2 _hne
                  clear HSA hsc
                  try clear hHeld
                  go_wp2_with fail
                  go_roundw
                  case rel => exact ⟨y + 1, by omega, by go_num, ⟨_, _, _, rfl, Lib.hid (by rw [if_neg hl]; exact HPY.out.keepN HT4a.out)⟩, HTY2.out.trans HT4a.out⟩
                  case measure => simp [intOf]; omega
              · rw [decide_eq_false hk] at HSA
                have HK1' := Lib.hid hk
                clear hk
                go_upto_region 36 with fail
                have _hne : Nonempty (Wld (KeyS b (off + y * 2) b6 (.slice fa pl1 fc) (.slice ga pl2 gc) (.slice ka kl kc) wr)) := ⟨⟨_, HQ.out wr (Touch.refl Nil wr)⟩⟩
                refine wp_region_class (S := KeyS b (off + y * 2) b6 (.slice fa pl1 fc) (.slice ga pl2 gc) (.slice ka kl kc) wr) (HQ.out _ (Touch.refl Nil wr).drew) (by kernel_rfl) (by kernel_rfl) ?_
                have f0 := fun s : Wld (KeyS b (off + y * 2) b6 (.slice fa pl1 fc) (.slice ga pl2 gc) (.slice ka kl kc) wr) => s.ok.1
                have f2 := fun s : Wld (KeyS b (off + y * 2) b6 (.slice fa pl1 fc) (.slice ga pl2 gc) (.slice ka kl kc) wr) => s.ok.2.2.1
                have hsc := Lib.hid (fun s : Wld (KeyS b (off + y * 2) b6 (.slice fa pl1 fc) (.slice ga pl2 gc) (.slice ka kl kc) wr) => show Calls Try.prog 26 #[.slice fa pl1 fc, .slice ka kl kc] s.w fun e w' => e = .returned (.bool false) ∧ Touch Nil s.w w' from HSA.out _ s.ok.2.2.2.out)
                repeat (go_big_quiet_step (first | (go_at_call 26; refine calls_classV (hsc.out _) ?_; intro w' ht; exact KeyS.step ht (Wld.ok _))))
                refine wpQuiet_nil ?_
                intro _ hw'
                obtain ⟨sq, hw''⟩ := hw'
                subst hw''
                have HT4a := Lib.hid sq.ok.2.2.2.out
                obtain ⟨w4c, e4c⟩ : ∃ w3, sq.w = w3 := ⟨_, rfl⟩
                rw [e4c] at HT4a ⊢
                clear e4c sq f0 f2 _hne
                clear HSA hsc
                try clear hHeld
                go_wp2_with fail
                go_roundw
                case rel => exact ⟨y + 1, by omega, by go_num, ⟨_, _, _, rfl, Lib.hid (by
                  by_cases hl : y + 1 = sN
                  · rw [if_pos hl, ← hl, yM_succ HSR.out y p HPP.out, if_neg HK1'.out, HC0.out]
                    exact HPY.out.keepN HT4a.out
                  · rw [if_neg hl]
                    exact HPY.out.keepN HT4a.out)⟩, HTY2.out.trans HT4a.out⟩
                case measure => simp [intOf]; omega
            · have hyn : y = sN := by omega
              rw [if_pos hyn] at HPY
              have i1 : ¬ ((y : Int) < (sN : Int)) := by omega
              obtain ⟨ch, ccc, hcut, hct⟩ := (HLZ.out.keepN HTY.out).cut_h slPair szPair (m := sN) (by have := HSL.out; omega)
              have HSQ := Lib.hid (fun w' (ht : Touch Nil wr w') => samePairs_any (HSE.out.keepN (HTY.out.trans ht)) (hct.keepN ht) (fun q hq => by have h : okK q.1 q.2 := HOKS.out q (List.mem_of_mem_take hq); have := h.2; omega) (by have h1 := List.length_take_le sN S; have := HSL.out; have := HLN'.out; have := HSL4.out; rw [List.length_take]; omega))
              have hpy2 : PL wr (.slice ta tn tc) t.toL := by rw [HTL.out]; exact HPY.out
              have HSV := Lib.hid (fun w' (ht : Touch Nil wr w') => samePairs_any (HAG.out.keepN (HTY.out.trans ht)) (hpy2.keepN ht) (fun q hq => by have h : okK q.1 q.2 := (treeAt_ok HM2.out.tree) q hq; have := h.2; omega) (by have h1 := HM2.out.size; rw [size_toL] at h1; omega))
              have HWH := Lib.hid (fun w' (ht : Touch Nil wr w') => whole_map (HMZ.out.1.keepN (HTY.out.trans ht)) (show PL w' (.slice ta tn tc) t2.toL from by rw [HMZ.out.2]; exact hpy2.keepN ht))
              clear hct hpy2
              go_wp2_with fail
              refine (HSQ.out _ (Touch.refl _ _)).mono ?_
              rintro e x1 ⟨rfl, hx1⟩
              have HX1 := Lib.hid (show Touch Nil wr x1 from hx1)
              clear hx1
              go_wp2_with fail
              refine (HSV.out _ HX1.out).mono ?_
              rintro e x2 ⟨rfl, hx2⟩
              have HX2 := Lib.hid (HX1.out.trans hx2)
              clear hx2
              obtain ⟨_, _, _, qm⟩ := HCW.out x2 (HTY.out.trans HX2.out)
              go_wp2_with fail
              refine (HWH.out _ HX2.out).mono ?_
              rintro e x3 ⟨rfl, hx3⟩
              have HX3 := Lib.hid (HTY.out.trans (HX2.out.trans hx3))
              clear hx3
              have hres := (HX3.out.same (B + 1) (lt_of_heap HCZ.out.2.2.2.2.1) fun c => c).trans HCZ.out.2.2.2.2.1
              have kz := yfr hres 0
              have kz1 := cells1 hres
              have hd2 := (HX3.out.same D2 (lt_of_heap HKD.out.1) fun c => c).trans HKD.out.1
              have hd1 := (HX3.out.same D (lt_of_heap HKD.out.2.1) fun c => c).trans HKD.out.2.1
              have HE := Lib.hid (show ∀ W', W' = x3.setCell ⟨B + 1, 0, none⟩ (.bool true) → W'.heap[D2]? = some (.deferred (some [])) ∧ (W'.putObj D2 (.deferred none)).heap[D]? = some (.deferred (some [])) ∧ ((W'.putObj D2 (.deferred none)).putObj D (.deferred none)).heap[B + 1]? = some (.cells #[.bool true] 4 (0, 0)) ∧ Below w.heap.size w ((W'.putObj D2 (.deferred none)).putObj D (.deferred none)) from by
                rintro W' rfl
                have tk := (Touch.refl (Just (B + 1)) x3).setCell ⟨B + 1, 0, none⟩ (.bool true) fun _ => rfl
                have hl := HLT.out
                have hkd := HKD.out
                have hc := HLC.out
                have hwb : w.heap.size = B := eB
                have e2 := (tk.same D2 (lt_of_heap hd2) fun hs => by have hs : D2 = B + 1 := hs; omega).trans hd2
                have e1 := (tk.same D (lt_of_heap hd1) fun hs => by have hs : D = B + 1 := hs; omega).trans hd1
                have e3 := set_cell1 (z := .bool true) hres
                refine ⟨e2, (World.putObj_heap_other (by omega)).trans e1, (World.putObj_heap_other (by omega)).trans ((World.putObj_heap_other (by omega)).trans e3), ?_⟩
                have t0 : Touch Nil w Z := (HT3.out.trans HT4.out).trans' HTZ.out fun b hb hs => by have h1 := (HT3.out.trans HT4.out).size; have hs : w4.heap.size ≤ b := hs; omega
                exact (touch_put (touch_put ((t0.trans HX3.out).setCell ⟨B + 1, 0, none⟩ _ fun h => by have h : B + 1 < w.heap.size := h; omega) (by omega)) (by omega)).below_nil)
              clear hres hd1 hd2
              go_wp2_with fail
              obtain ⟨k1, k2, k3, k4⟩ := HE.out _ rfl
              refine ⟨by simp, .inl ⟨_, _, rfl, run_takeDeferred k1, ?_⟩⟩
              refine ⟨by simp, .inl ⟨_, _, rfl, run_takeDeferred k2, ?_⟩⟩
              exact ⟨_, res1 rfl rfl k3, rfl, k4⟩
          · have esn : sN = ln := by have := HS3.out; rw [if_neg hc] at this; omega
            subst esn
            by_cases c1 : (0 : Int) < stop
            · have c2 : ¬ stop < (sN : Int) := fun h => hc ⟨c1, h⟩
              clear hc
              go_wp2_with fail
              refine (HPU.out z1 HZ1.out).mono ?_
              rintro e z2 ⟨xt, rfl, hth, hz2⟩
              obtain ⟨ta, tn, tc, rfl⟩ := hth.form3
              have HTH0 := Lib.hid hth
              have HZ2 := Lib.hid (HZ1.out.trans hz2)
              clear hth hz2 HPU q5 q6 q7 qm
              obtain ⟨q5, q6, q7, qm⟩ := HCW.out z2 HZ2.out
              have hsN1 : 1 ≤ sN := by omega
              obtain ⟨C0, eC0⟩ : ∃ C0, insL key val S = C0 := ⟨_, rfl⟩
              have HC0 := Lib.hid eC0
              have HC0S := Lib.hid (show Srt C0 from by rw [← eC0]; exact insL_srt _ _ HSR.out)
              have HTH := Lib.hid (show PL z2 (.slice ta tn tc) C0 from by rw [← eC0, ← putF_ins key val HSR.out]; exact HTH0.out)
              have HCL := Lib.hid (show C0.length ≤ 401 ∧ Short C0 from ⟨by rw [← eC0]; have h1 := insL_len key val S; have := HSL4.out; omega, fun q hq => by
                rw [← eC0, insL_mem] at hq
                rcases hq with rfl | ⟨hq, _⟩
                · exact ⟨show key.length ≤ _ from by have := allowB_le HKK.out; omega, show val.length ≤ _ from by have := allowB_le HKK.out; omega⟩
                · exact HOKS.out.short q hq⟩)
              clear eC0 q5 q6 q7 qm
              go_wp2_with fail
              go_loopw [18, 19] (fun v18 v19 wr => ∃ y : Nat, y ≤ sN ∧ v19 = .int .i64 (y : Int) ∧ (∃ a n c, v18 = .slice a n c ∧ Hid (PL wr (.slice a n c) (if y = sN then yM key val S sN else C0))) ∧ Touch Nil z2 wr) (fun _ v19 _ => sN - (intOf v19).toNat)
              case atStart => exact ⟨0, Nat.zero_le _, rfl, ⟨_, _, _, rfl, Lib.hid (by rw [if_neg (by omega)]; exact HTH.out)⟩, Touch.refl _ _⟩
              obtain ⟨y, hy, rfl, ⟨ta, tn, tc, rfl, hpy⟩, hto⟩ := hrel
              have HPY := Lib.hid hpy.out
              have HTY := Lib.hid (HZ2.out.trans hto)
              have HTY2 := Lib.hid hto
              clear hpy hto
              by_cases hlt : y < sN
              · obtain ⟨p, hp⟩ : ∃ p, S[y]? = some p := ⟨S[y]'(by have := HLN'.out; have := HSL.out; omega), List.getElem?_eq_getElem _⟩
                have hokp : okK p.1 p.2 := HOKS.out p (List.mem_of_getElem? hp)
                obtain ⟨b, off, fa, fc, ga, gc, rfl, hb, d0, d1, hbk, hbu⟩ := PL.el (HLZ.out.keepN HTY.out) hp
                have HPP := Lib.hid hp
                have HOP := Lib.hid hokp
                have HBU := Lib.hid hbu
                have HQ := Lib.hid (show ∀ w', Touch Nil wr w' → w'.cell? ⟨b, off + y * 2, none⟩ = some (.slice fa p.1.length fc) ∧ w'.cell? ⟨b, off + y * 2 + 1, none⟩ = some (.slice ga p.2.length gc) ∧ w'.cell? ⟨b6, 0, none⟩ = some (.slice ka kl kc) ∧ Hid (Touch Nil wr w') from fun w' ht => ⟨cell_step d0 ht, cell_step d1 ht, (HCW.out w' (HTY.out.trans ht)).2.1, Lib.hid ht⟩)
                have HSA := Lib.hid (fun w' (ht : Touch Nil wr w') => same_any (hbk.keepN ht) (HKZ.out.1.keepN (HTY.out.trans ht)) (by have := hokp.2.1; omega) (by have := allowB_le HKK.out; omega))
                rw [if_neg (by omega)] at HPY
                have i1 : (y : Int) < (sN : Int) := by omega
                have i2 : (0 : Int) ≤ (y : Int) := by omega
                have hyb : y < 1000 := by have := HSL.out; have := HLN'.out; have := HSL4.out; omega
                have i3 : (y : Int) < (sN : Int) := by have := HSL.out; omega
                obtain ⟨pl1, epl1⟩ : ∃ n, p.1.length = n := ⟨_, rfl⟩
                obtain ⟨pl2, epl2⟩ : ∃ n, p.2.length = n := ⟨_, rfl⟩
                rw [epl1] at HSA HQ
                rw [epl2] at HQ HBU
                clear d0 d1 hbk hbu hb hokp hp epl1 epl2
                by_cases hk : p.1 = key
                · rw [decide_eq_true hk] at HSA
                  have HK1' := Lib.hid hk
                  clear hk
                  by_cases hl : y + 1 = sN
                  · have g3 : ((y : Int) == wrap64 ((sN : Int) - 1)) = true := by
                      have hw : wrap64 ((sN : Int) - 1) = (sN : Int) - 1 := by have := HSL.out; have := HLN'.out; have := HSL4.out; unfold wrap64; omega
                      rw [hw, beq_iff_eq]; omega
                    go_upto_region 36 with fail
                    have _hne : Nonempty (Wld (KeyS b (off + y * 2) b6 (.slice fa pl1 fc) (.slice ga pl2 gc) (.slice ka kl kc) wr)) := ⟨⟨_, HQ.out wr (Touch.refl Nil wr)⟩⟩
                    refine wp_region_class (S := KeyS b (off + y * 2) b6 (.slice fa pl1 fc) (.slice ga pl2 gc) (.slice ka kl kc) wr) (HQ.out _ (Touch.refl Nil wr).drew) (by kernel_rfl) (by kernel_rfl) ?_
                    have f0 := fun s : Wld (KeyS b (off + y * 2) b6 (.slice fa pl1 fc) (.slice ga pl2 gc) (.slice ka kl kc) wr) => s.ok.1
                    have f2 := fun s : Wld (KeyS b (off + y * 2) b6 (.slice fa pl1 fc) (.slice ga pl2 gc) (.slice ka kl kc) wr) => s.ok.2.2.1
                    have hsc := Lib.hid (fun s : Wld (KeyS b (off + y * 2) b6 (.slice fa pl1 fc) (.slice ga pl2 gc) (.slice ka kl kc) wr) => show Calls Try.prog 26 #[.slice fa pl1 fc, .slice ka kl kc] s.w fun e w' => e = .returned (.bool true) ∧ Touch Nil s.w w' from HSA.out _ s.ok.2.2.2.out)
                    repeat (go_big_quiet_step (first | (go_at_call 26; refine calls_classV (hsc.out _) ?_; intro w' ht; exact KeyS.step ht (Wld.ok _))))
                    refine wpQuiet_nil ?_
                    intro _ hw'
                    obtain ⟨sq, hw''⟩ := hw'
                    subst hw''
                    have HT4a := Lib.hid sq.ok.2.2.2.out
                    obtain ⟨w4c, e4c⟩ : ∃ w3, sq.w = w3 := ⟨_, rfl⟩
                    rw [e4c] at HT4a ⊢
                    clear e4c sq f0 f2 _hne
                    have HPB := Lib.hid (fun w' (ht : Touch Nil wr w') => putR_any (HPY.out.keepN ht) HCL.out.2 (by have := HCL.out.1; omega) (HKZ.out.1.keepN (HTY.out.trans ht)) (by have := allowB_le HKK.out; omega) (HBU.out.keepN ht) (by have := HOP.out.2.2; omega))
                    clear HSA hsc
                    try clear hHeld
                    go_upto_region 37 with fail
                    go_region_held3 (fun w' => w'.cell? ⟨b, off + y * 2, none⟩ = some (.slice fa pl1 fc) ∧ w'.cell? ⟨b, off + y * 2 + 1, none⟩ = some (.slice ga pl2 gc) ∧ w'.cell? ⟨b6, 0, none⟩ = some (.slice ka kl kc) ∧ Hid (Touch Nil wr w'))
                      (first | (with_reducible exact HQ.out _ HT4a.out.drew) | (with_reducible exact HQ.out _ hT5))
                      (first | (go_at_call 50; refine (HPB.out _ HT4a.out.drew).mono ?_; rintro e w5' ⟨v5, rfl, h5, ht5⟩; obtain ⟨sa, sn, sc, rfl⟩ := h5.form3; have hT5 : Touch Nil wr w5' := HT4a.out.drew.trans ht5; have H5' := Lib.hid h5; clear h5 ht5))
                    have HT5a := Lib.hid hT5
                    clear hT5
                    try clear hHeld
                    go_wp2_with fail
                    go_roundw
                    case rel => exact ⟨y + 1, by omega, by go_num, ⟨_, _, _, rfl, Lib.hid (by
                      rw [if_pos hl, ← hl, yM_succ HSR.out y p HPP.out, if_pos HK1'.out]
                      have e := H5'.out
                      rw [putF_ins key p.2 HC0S.out, ← HC0.out, insL_insL key val p.2 HSR.out] at e
                      exact e)⟩, HTY2.out.trans HT5a.out⟩
                    case measure => simp [intOf]; omega
                  · have g3 : ((y : Int) == wrap64 ((sN : Int) - 1)) = false := by
                      have hw : wrap64 ((sN : Int) - 1) = (sN : Int) - 1 := by have := HSL.out; have := HLN'.out; have := HSL4.out; unfold wrap64; omega
                      rw [hw, beq_eq_false_iff_ne]; omega
                    go_upto_region 36 with fail
                    have _hne : Nonempty (Wld (KeyS b (off + y * 2) b6 (.slice fa pl1 fc) (.slice ga pl2 gc) (.slice ka kl kc) wr)) := ⟨⟨_, HQ.out wr (Touch.refl Nil wr)⟩⟩
                    refine wp_region_class (S := KeyS b (off + y * 2) b6 (.slice fa pl1 fc) (.slice ga pl2 gc) (.slice ka kl kc) wr) (HQ.out _ (Touch.refl Nil wr).drew) (by kernel_rfl) (by kernel_rfl) ?_
                    have f0 := fun s : Wld (KeyS b (off + y * 2) b6 (.slice fa pl1 fc) (.slice ga pl2 gc) (.slice ka kl kc) wr) => s.ok.1
                    have f2 := fun s : Wld (KeyS b (off + y * 2) b6 (.slice fa pl1 fc) (.slice ga pl2 gc) (.slice ka kl kc) wr) => s.ok.2.2.1
                    have hsc := Lib.hid (fun s : Wld (KeyS b (off + y * 2) b6 (.slice fa pl1 fc) (.slice ga pl2 gc) (.slice ka kl kc) wr) => show Calls Try.prog 26 #[.slice fa pl1 fc, .slice ka kl kc] s.w fun e w' => e = .returned (.bool true) ∧ Touch Nil s.w w' from HSA.out _ s.ok.2.2.2.out)
                    repeat (go_big_quiet_step (first | (go_at_call 26; refine calls_classV (hsc.out _) ?_; intro w' ht; exact KeyS.step ht (Wld.ok _))))
                    refine wpQuiet_nil ?_
                    intro _ hw'
                    obtain ⟨sq, hw''⟩ := hw'
                    subst hw''
                    have HT4a := Lib.hid sq.ok.2.2.2.out
                    obtain ⟨w4c, e4c⟩ : ∃ w3, sq.w = w3 := ⟨_, rfl⟩
                    rw [e4c] at HT4a ⊢
                    clear e4c sq f0 f2 _hne
                    clear HSA hsc
                    try clear hHeld
                    go_wp2_with fail
                    go_roundw
                    case rel => exact ⟨y + 1, by omega, by go_num, ⟨_, _, _, rfl, Lib.hid (by rw [if_neg hl]; exact HPY.out.keepN HT4a.out)⟩, HTY2.out.trans HT4a.out⟩
                    case measure => simp [intOf]; omega
                · rw [decide_eq_false hk] at HSA
                  have HK1' := Lib.hid hk
                  clear hk
                  go_upto_region 36 with fail
                  have _hne : Nonempty (Wld (KeyS b (off + y * 2) b6 (.slice fa pl1 fc) (.slice ga pl2 gc) (.slice ka kl kc) wr)) := ⟨⟨_, HQ.out wr (Touch.refl Nil wr)⟩⟩
                  refine wp_region_class (S := KeyS b (off + y * 2) b6 (.slice fa pl1 fc) (.slice ga pl2 gc) (.slice ka kl kc) wr) (HQ.out _ (Touch.refl Nil wr).drew) (by kernel_rfl) (by kernel_rfl) ?_
                  have f0 := fun s : Wld (KeyS b (off + y * 2) b6 (.slice fa pl1 fc) (.slice ga pl2 gc) (.slice ka kl kc) wr) => s.ok.1
                  have f2 := fun s : Wld (KeyS b (off + y * 2) b6 (.slice fa pl1 fc) (.slice ga pl2 gc) (.slice ka kl kc) wr) => s.ok.2.2.1
                  have hsc := Lib.hid (fun s : Wld (KeyS b (off + y * 2) b6 (.slice fa pl1 fc) (.slice ga pl2 gc) (.slice ka kl kc) wr) => show Calls Try.prog 26 #[.slice fa pl1 fc, .slice ka kl kc] s.w fun e w' => e = .returned (.bool false) ∧ Touch Nil s.w w' from HSA.out _ s.ok.2.2.2.out)
                  repeat (go_big_quiet_step (first | (go_at_call 26; refine calls_classV (hsc.out _) ?_; intro w' ht; exact KeyS.step ht (Wld.ok _))))
                  refine wpQuiet_nil ?_
                  intro _ hw'
                  obtain ⟨sq, hw''⟩ := hw'
                  subst hw''
                  have HT4a := Lib.hid sq.ok.2.2.2.out
                  obtain ⟨w4c, e4c⟩ : ∃ w3, sq.w = w3 := ⟨_, rfl⟩
                  rw [e4c] at HT4a ⊢
                  clear e4c sq f0 f2 _hne
                  clear HSA hsc
                  try clear hHeld
                  go_wp2_with fail
                  go_roundw
                  case rel => exact ⟨y + 1, by omega, by go_num, ⟨_, _, _, rfl, Lib.hid (by
                    by_cases hl : y + 1 = sN
                    · rw [if_pos hl, ← hl, yM_succ HSR.out y p HPP.out, if_neg HK1'.out, HC0.out]
                      exact HPY.out.keepN HT4a.out
                    · rw [if_neg hl]
                      exact HPY.out.keepN HT4a.out)⟩, HTY2.out.trans HT4a.out⟩
                  case measure => simp [intOf]; omega
              · have hyn : y = sN := by omega
                rw [if_pos hyn] at HPY
                have i1 : ¬ ((y : Int) < (sN : Int)) := by omega
                obtain ⟨ch, ccc, hcut, hct⟩ := (HLZ.out.keepN HTY.out).cut_h slPair szPair (m := sN) (by have := HSL.out; omega)
                have HSQ := Lib.hid (fun w' (ht : Touch Nil wr w') => samePairs_any (HSE.out.keepN (HTY.out.trans ht)) (hct.keepN ht) (fun q hq => by have h : okK q.1 q.2 := HOKS.out q (List.mem_of_mem_take hq); have := h.2; omega) (by have h1 := List.length_take_le sN S; have := HSL.out; have := HLN'.out; have := HSL4.out; rw [List.length_take]; omega))
                have hpy2 : PL wr (.slice ta tn tc) t.toL := by rw [HTL.out]; exact HPY.out
                have HSV := Lib.hid (fun w' (ht : Touch Nil wr w') => samePairs_any (HAG.out.keepN (HTY.out.trans ht)) (hpy2.keepN ht) (fun q hq => by have h : okK q.1 q.2 := (treeAt_ok HM2.out.tree) q hq; have := h.2; omega) (by have h1 := HM2.out.size; rw [size_toL] at h1; omega))
                have HWH := Lib.hid (fun w' (ht : Touch Nil wr w') => whole_map (HMZ.out.1.keepN (HTY.out.trans ht)) (show PL w' (.slice ta tn tc) t2.toL from by rw [HMZ.out.2]; exact hpy2.keepN ht))
                clear hct hpy2
                go_wp2_with fail
                refine (HSQ.out _ (Touch.refl _ _)).mono ?_
                rintro e x1 ⟨rfl, hx1⟩
                have HX1 := Lib.hid (show Touch Nil wr x1 from hx1)
                clear hx1
                go_wp2_with fail
                refine (HSV.out _ HX1.out).mono ?_
                rintro e x2 ⟨rfl, hx2⟩
                have HX2 := Lib.hid (HX1.out.trans hx2)
                clear hx2
                obtain ⟨_, _, _, qm⟩ := HCW.out x2 (HTY.out.trans HX2.out)
                go_wp2_with fail
                refine (HWH.out _ HX2.out).mono ?_
                rintro e x3 ⟨rfl, hx3⟩
                have HX3 := Lib.hid (HTY.out.trans (HX2.out.trans hx3))
                clear hx3
                have hres := (HX3.out.same (B + 1) (lt_of_heap HCZ.out.2.2.2.2.1) fun c => c).trans HCZ.out.2.2.2.2.1
                have kz := yfr hres 0
                have kz1 := cells1 hres
                have hd2 := (HX3.out.same D2 (lt_of_heap HKD.out.1) fun c => c).trans HKD.out.1
                have hd1 := (HX3.out.same D (lt_of_heap HKD.out.2.1) fun c => c).trans HKD.out.2.1
                have HE := Lib.hid (show ∀ W', W' = x3.setCell ⟨B + 1, 0, none⟩ (.bool true) → W'.heap[D2]? = some (.deferred (some [])) ∧ (W'.putObj D2 (.deferred none)).heap[D]? = some (.deferred (some [])) ∧ ((W'.putObj D2 (.deferred none)).putObj D (.deferred none)).heap[B + 1]? = some (.cells #[.bool true] 4 (0, 0)) ∧ Below w.heap.size w ((W'.putObj D2 (.deferred none)).putObj D (.deferred none)) from by
                  rintro W' rfl
                  have tk := (Touch.refl (Just (B + 1)) x3).setCell ⟨B + 1, 0, none⟩ (.bool true) fun _ => rfl
                  have hl := HLT.out
                  have hkd := HKD.out
                  have hc := HLC.out
                  have hwb : w.heap.size = B := eB
                  have e2 := (tk.same D2 (lt_of_heap hd2) fun hs => by have hs : D2 = B + 1 := hs; omega).trans hd2
                  have e1 := (tk.same D (lt_of_heap hd1) fun hs => by have hs : D = B + 1 := hs; omega).trans hd1
                  have e3 := set_cell1 (z := .bool true) hres
                  refine ⟨e2, (World.putObj_heap_other (by omega)).trans e1, (World.putObj_heap_other (by omega)).trans ((World.putObj_heap_other (by omega)).trans e3), ?_⟩
                  have t0 : Touch Nil w Z := (HT3.out.trans HT4.out).trans' HTZ.out fun b hb hs => by have h1 := (HT3.out.trans HT4.out).size; have hs : w4.heap.size ≤ b := hs; omega
                  exact (touch_put (touch_put ((t0.trans HX3.out).setCell ⟨B + 1, 0, none⟩ _ fun h => by have h : B + 1 < w.heap.size := h; omega) (by omega)) (by omega)).below_nil)
                clear hres hd1 hd2
                go_wp2_with fail
                obtain ⟨k1, k2, k3, k4⟩ := HE.out _ rfl
                refine ⟨by simp, .inl ⟨_, _, rfl, run_takeDeferred k1, ?_⟩⟩
                refine ⟨by simp, .inl ⟨_, _, rfl, run_takeDeferred k2, ?_⟩⟩
                exact ⟨_, res1 rfl rfl k3, rfl, k4⟩
            · clear hc
              go_wp2_with fail
              refine (HPU.out z1 HZ1.out).mono ?_
              rintro e z2 ⟨xt, rfl, hth, hz2⟩
              obtain ⟨ta, tn, tc, rfl⟩ := hth.form3
              have HTH0 := Lib.hid hth
              have HZ2 := Lib.hid (HZ1.out.trans hz2)
              clear hth hz2 HPU q5 q6 q7 qm
              obtain ⟨q5, q6, q7, qm⟩ := HCW.out z2 HZ2.out
              have hsN1 : 1 ≤ sN := by omega
              obtain ⟨C0, eC0⟩ : ∃ C0, insL key val S = C0 := ⟨_, rfl⟩
              have HC0 := Lib.hid eC0
              have HC0S := Lib.hid (show Srt C0 from by rw [← eC0]; exact insL_srt _ _ HSR.out)
              have HTH := Lib.hid (show PL z2 (.slice ta tn tc) C0 from by rw [← eC0, ← putF_ins key val HSR.out]; exact HTH0.out)
              have HCL := Lib.hid (show C0.length ≤ 401 ∧ Short C0 from ⟨by rw [← eC0]; have h1 := insL_len key val S; have := HSL4.out; omega, fun q hq => by
                rw [← eC0, insL_mem] at hq
                rcases hq with rfl | ⟨hq, _⟩
                · exact ⟨show key.length ≤ _ from by have := allowB_le HKK.out; omega, show val.length ≤ _ from by have := allowB_le HKK.out; omega⟩
                · exact HOKS.out.short q hq⟩)
              clear eC0 q5 q6 q7 qm
              go_wp2_with fail
              go_loopw [18, 19] (fun v18 v19 wr => ∃ y : Nat, y ≤ sN ∧ v19 = .int .i64 (y : Int) ∧ (∃ a n c, v18 = .slice a n c ∧ Hid (PL wr (.slice a n c) (if y = sN then yM key val S sN else C0))) ∧ Touch Nil z2 wr) (fun _ v19 _ => sN - (intOf v19).toNat)
              case atStart => exact ⟨0, Nat.zero_le _, rfl, ⟨_, _, _, rfl, Lib.hid (by rw [if_neg (by omega)]; exact HTH.out)⟩, Touch.refl _ _⟩
              obtain ⟨y, hy, rfl, ⟨ta, tn, tc, rfl, hpy⟩, hto⟩ := hrel
              have HPY := Lib.hid hpy.out
              have HTY := Lib.hid (HZ2.out.trans hto)
              have HTY2 := Lib.hid hto
              clear hpy hto
              by_cases hlt : y < sN
              · obtain ⟨p, hp⟩ : ∃ p, S[y]? = some p := ⟨S[y]'(by have := HLN'.out; have := HSL.out; omega), List.getElem?_eq_getElem _⟩
                have hokp : okK p.1 p.2 := HOKS.out p (List.mem_of_getElem? hp)
                obtain ⟨b, off, fa, fc, ga, gc, rfl, hb, d0, d1, hbk, hbu⟩ := PL.el (HLZ.out.keepN HTY.out) hp
                have HPP := Lib.hid hp
                have HOP := Lib.hid hokp
                have HBU := Lib.hid hbu
                have HQ := Lib.hid (show ∀ w', Touch Nil wr w' → w'.cell? ⟨b, off + y * 2, none⟩ = some (.slice fa p.1.length fc) ∧ w'.cell? ⟨b, off + y * 2 + 1, none⟩ = some (.slice ga p.2.length gc) ∧ w'.cell? ⟨b6, 0, none⟩ = some (.slice ka kl kc) ∧ Hid (Touch Nil wr w') from fun w' ht => ⟨cell_step d0 ht, cell_step d1 ht, (HCW.out w' (HTY.out.trans ht)).2.1, Lib.hid ht⟩)
                have HSA := Lib.hid (fun w' (ht : Touch Nil wr w') => same_any (hbk.keepN ht) (HKZ.out.1.keepN (HTY.out.trans ht)) (by have := hokp.2.1; omega) (by have := allowB_le HKK.out; omega))
                rw [if_neg (by omega)] at HPY
                have i1 : (y : Int) < (sN : Int) := by omega
                have i2 : (0 : Int) ≤ (y : Int) := by omega
                have hyb : y < 1000 := by have := HSL.out; have := HLN'.out; have := HSL4.out; omega
                have i3 : (y : Int) < (sN : Int) := by have := HSL.out; omega
                obtain ⟨pl1, epl1⟩ : ∃ n, p.1.length = n := ⟨_, rfl⟩
                obtain ⟨pl2, epl2⟩ : ∃ n, p.2.length = n := ⟨_, rfl⟩
                rw [epl1] at HSA HQ
                rw [epl2] at HQ HBU
                clear d0 d1 hbk hbu hb hokp hp epl1 epl2
                by_cases hk : p.1 = key
                · rw [decide_eq_true hk] at HSA
                  have HK1' := Lib.hid hk
                  clear hk
                  by_cases hl : y + 1 = sN
                  · have g3 : ((y : Int) == wrap64 ((sN : Int) - 1)) = true := by
                      have hw : wrap64 ((sN : Int) - 1) = (sN : Int) - 1 := by have := HSL.out; have := HLN'.out; have := HSL4.out; unfold wrap64; omega
                      rw [hw, beq_iff_eq]; omega
                    go_upto_region 36 with fail
                    have _hne : Nonempty (Wld (KeyS b (off + y * 2) b6 (.slice fa pl1 fc) (.slice ga pl2 gc) (.slice ka kl kc) wr)) := ⟨⟨_, HQ.out wr (Touch.refl Nil wr)⟩⟩
                    refine wp_region_class (S := KeyS b (off + y * 2) b6 (.slice fa pl1 fc) (.slice ga pl2 gc) (.slice ka kl kc) wr) (HQ.out _ (Touch.refl Nil wr).drew) (by kernel_rfl) (by kernel_rfl) ?_
                    have f0 := fun s : Wld (KeyS b (off + y * 2) b6 (.slice fa pl1 fc) (.slice ga pl2 gc) (.slice ka kl kc) wr) => s.ok.1
                    have f2 := fun s : Wld (KeyS b (off + y * 2) b6 (.slice fa pl1 fc) (.slice ga pl2 gc) (.slice ka kl kc) wr) => s.ok.2.2.1
                    have hsc := Lib.hid (fun s : Wld (KeyS b (off + y * 2) b6 (.slice fa pl1 fc) (.slice ga pl2 gc) (.slice ka kl kc) wr) => show Calls Try.prog 26 #[.slice fa pl1 fc, .slice ka kl kc] s.w fun e w' => e = .returned (.bool true) ∧ Touch Nil s.w w' from HSA.out _ s.ok.2.2.2.out)
                    repeat (go_big_quiet_step (first | (go_at_call 26; refine calls_classV (hsc.out _) ?_; intro w' ht; exact KeyS.step ht (Wld.ok _))))
                    refine wpQuiet_nil ?_
                    intro _ hw'
                    obtain ⟨sq, hw''⟩ := hw'
                    subst hw''
                    have HT4a := Lib.hid sq.ok.2.2.2.out
                    obtain ⟨w4c, e4c⟩ : ∃ w3, sq.w = w3 := ⟨_, rfl⟩
                    rw [e4c] at HT4a ⊢
                    clear e4c sq f0 f2 _hne
                    have HPB := Lib.hid (fun w' (ht : Touch Nil wr w') => putR_any (HPY.out.keepN ht) HCL.out.2 (by have := HCL.out.1; omega) (HKZ.out.1.keepN (HTY.out.trans ht)) (by have := allowB_le HKK.out; omega) (HBU.out.keepN ht) (by have := HOP.out.2.2; omega))
                    clear HSA hsc
                    try clear hHeld
                    go_upto_region 37 with fail
                    go_region_held3 (fun w' => w'.cell? ⟨b, off + y * 2, none⟩ = some (.slice fa pl1 fc) ∧ w'.cell? ⟨b, off + y * 2 + 1, none⟩ = some (.slice ga pl2 gc) ∧ w'.cell? ⟨b6, 0, none⟩ = some (.slice ka kl kc) ∧ Hid (Touch Nil wr w'))
                      (first | (with_reducible exact HQ.out _ HT4a.out.drew) | (with_reducible exact HQ.out _ hT5))
                      (first | (go_at_call 50; refine (HPB.out _ HT4a.out.drew).mono ?_; rintro e w5' ⟨v5, rfl, h5, ht5⟩; obtain ⟨sa, sn, sc, rfl⟩ := h5.form3; have hT5 : Touch Nil wr w5' := HT4a.out.drew.trans ht5; have H5' := Lib.hid h5; clear h5 ht5))
                    have HT5a := Lib.hid hT5
                    clear hT5
                    try clear hHeld
                    go_wp2_with fail
                    go_roundw
                    case rel => exact ⟨y + 1, by omega, by go_num, ⟨_, _, _, rfl, Lib.hid (by
                      rw [if_pos hl, ← hl, yM_succ HSR.out y p HPP.out, if_pos HK1'.out]
                      have e := H5'.out
                      rw [putF_ins key p.2 HC0S.out, ← HC0.out, insL_insL key val p.2 HSR.out] at e
                      exact e)⟩, HTY2.out.trans HT5a.out⟩
                    case measure => simp [intOf]; omega
                  · have g3 : ((y : Int) == wrap64 ((sN : Int) - 1)) = false := by
                      have hw : wrap64 ((sN : Int) - 1) = (sN : Int) - 1 := by have := HSL.out; have := HLN'.out; have := HSL4.out; unfold wrap64; omega
                      rw [hw, beq_eq_false_iff_ne]; omega
                    go_upto_region 36 with fail
                    have _hne : Nonempty (Wld (KeyS b (off + y * 2) b6 (.slice fa pl1 fc) (.slice ga pl2 gc) (.slice ka kl kc) wr)) := ⟨⟨_, HQ.out wr (Touch.refl Nil wr)⟩⟩
                    refine wp_region_class (S := KeyS b (off + y * 2) b6 (.slice fa pl1 fc) (.slice ga pl2 gc) (.slice ka kl kc) wr) (HQ.out _ (Touch.refl Nil wr).drew) (by kernel_rfl) (by kernel_rfl) ?_
                    have f0 := fun s : Wld (KeyS b (off + y * 2) b6 (.slice fa pl1 fc) (.slice ga pl2 gc) (.slice ka kl kc) wr) => s.ok.1
                    have f2 := fun s : Wld (KeyS b (off + y * 2) b6 (.slice fa pl1 fc) (.slice ga pl2 gc) (.slice ka kl kc) wr) => s.ok.2.2.1
                    have hsc := Lib.hid (fun s : Wld (KeyS b (off + y * 2) b6 (.slice fa pl1 fc) (.slice ga pl2 gc) (.slice ka kl kc) wr) => show Calls Try.prog 26 #[.slice fa pl1 fc, .slice ka kl kc] s.w fun e w' => e = .returned (.bool true) ∧ Touch Nil s.w w' from HSA.out _ s.ok.2.2.2.out)
                    repeat (go_big_quiet_step (first | (go_at_call 26; refine calls_classV (hsc.out _) ?_; intro w' ht; exact KeyS.step ht (Wld.ok _))))
                    refine wpQuiet_nil ?_
                    intro _ hw'
                    obtain ⟨sq, hw''⟩ := hw'
                    subst hw''
                    have HT4a := Lib.hid sq.ok.2.2.2.out
                    obtain ⟨w4c, e4c⟩ : ∃ w3, sq.w = w3 := ⟨_, rfl⟩
                    rw [e4c] at HT4a ⊢
                    clear e4c sq f0 f2 _hne
                    clear HSA hsc
                    try clear hHeld
                    go_wp2_with fail
                    go_roundw
                    case rel => exact ⟨y + 1, by omega, by go_num, ⟨_, _, _, rfl, Lib.hid (by rw [if_neg hl]; exact HPY.out.keepN HT4a.out)⟩, HTY2.out.trans HT4a.out⟩
                    case measure => simp [intOf]; omega
                · rw [decide_eq_false hk] at HSA
                  have HK1' := Lib.hid hk
                  clear hk
                  go_upto_region 36 with fail
                  have _hne : Nonempty (Wld (KeyS b (off + y * 2) b6 (.slice fa pl1 fc) (.slice ga pl2 gc) (.slice ka kl kc) wr)) := ⟨⟨_, HQ.out wr (Touch.refl Nil wr)⟩⟩
                  refine wp_region_class (S := KeyS b (off + y * 2) b6 (.slice fa pl1 fc) (.slice ga pl2 gc) (.slice ka kl kc) wr) (HQ.out _ (Touch.refl Nil wr).drew) (by kernel_rfl) (by kernel_rfl) ?_
                  have f0 := fun s : Wld (KeyS b (off + y * 2) b6 (.slice fa pl1 fc) (.slice ga pl2 gc) (.slice ka kl kc) wr) => s.ok.1
                  have f2 := fun s : Wld (KeyS b (off + y * 2) b6 (.slice fa pl1 fc) (.slice ga pl2 gc) (.slice ka kl kc) wr) => s.ok.2.2.1
                  have hsc := Lib.hid (fun s : Wld (KeyS b (off + y * 2) b6 (.slice fa pl1 fc) (.slice ga pl2 gc) (.slice ka kl kc) wr) => show Calls Try.prog 26 #[.slice fa pl1 fc, .slice ka kl kc] s.w fun e w' => e = .returned (.bool false) ∧ Touch Nil s.w w' from HSA.out _ s.ok.2.2.2.out)
                  repeat (go_big_quiet_step (first | (go_at_call 26; refine calls_classV (hsc.out _) ?_; intro w' ht; exact KeyS.step ht (Wld.ok _))))
                  refine wpQuiet_nil ?_
                  intro _ hw'
                  obtain ⟨sq, hw''⟩ := hw'
                  subst hw''
                  have HT4a := Lib.hid sq.ok.2.2.2.out
                  obtain ⟨w4c, e4c⟩ : ∃ w3, sq.w = w3 := ⟨_, rfl⟩
                  rw [e4c] at HT4a ⊢
                  clear e4c sq f0 f2 _hne
                  clear HSA hsc
                  try clear hHeld
                  go_wp2_with fail
                  go_roundw
                  case rel => exact ⟨y + 1, by omega, by go_num, ⟨_, _, _, rfl, Lib.hid (by
                    by_cases hl : y + 1 = sN
                    · rw [if_pos hl, ← hl, yM_succ HSR.out y p HPP.out, if_neg HK1'.out, HC0.out]
                      exact HPY.out.keepN HT4a.out
                    · rw [if_neg hl]
                      exact HPY.out.keepN HT4a.out)⟩, HTY2.out.trans HT4a.out⟩
                  case measure => simp [intOf]; omega
              · have hyn : y = sN := by omega
                rw [if_pos hyn] at HPY
                have i1 : ¬ ((y : Int) < (sN : Int)) := by omega
                obtain ⟨ch, ccc, hcut, hct⟩ := (HLZ.out.keepN HTY.out).cut_h slPair szPair (m := sN) (by have := HSL.out; omega)
                have HSQ := Lib.hid (fun w' (ht : Touch Nil wr w') => samePairs_any (HSE.out.keepN (HTY.out.trans ht)) (hct.keepN ht) (fun q hq => by have h : okK q.1 q.2 := HOKS.out q (List.mem_of_mem_take hq); have := h.2; omega) (by have h1 := List.length_take_le sN S; have := HSL.out; have := HLN'.out; have := HSL4.out; rw [List.length_take]; omega))
                have hpy2 : PL wr (.slice ta tn tc) t.toL := by rw [HTL.out]; exact HPY.out
                have HSV := Lib.hid (fun w' (ht : Touch Nil wr w') => samePairs_any (HAG.out.keepN (HTY.out.trans ht)) (hpy2.keepN ht) (fun q hq => by have h : okK q.1 q.2 := (treeAt_ok HM2.out.tree) q hq; have := h.2; omega) (by have h1 := HM2.out.size; rw [size_toL] at h1; omega))
                have HWH := Lib.hid (fun w' (ht : Touch Nil wr w') => whole_map (HMZ.out.1.keepN (HTY.out.trans ht)) (show PL w' (.slice ta tn tc) t2.toL from by rw [HMZ.out.2]; exact hpy2.keepN ht))
                clear hct hpy2
                go_wp2_with fail
                refine (HSQ.out _ (Touch.refl _ _)).mono ?_
                rintro e x1 ⟨rfl, hx1⟩
                have HX1 := Lib.hid (show Touch Nil wr x1 from hx1)
                clear hx1
                go_wp2_with fail
                refine (HSV.out _ HX1.out).mono ?_
                rintro e x2 ⟨rfl, hx2⟩
                have HX2 := Lib.hid (HX1.out.trans hx2)
                clear hx2
                obtain ⟨_, _, _, qm⟩ := HCW.out x2 (HTY.out.trans HX2.out)
                go_wp2_with fail
                refine (HWH.out _ HX2.out).mono ?_
                rintro e x3 ⟨rfl, hx3⟩
                have HX3 := Lib.hid (HTY.out.trans (HX2.out.trans hx3))
                clear hx3
                have hres := (HX3.out.same (B + 1) (lt_of_heap HCZ.out.2.2.2.2.1) fun c => c).trans HCZ.out.2.2.2.2.1
                have kz := yfr hres 0
                have kz1 := cells1 hres
                have hd2 := (HX3.out.same D2 (lt_of_heap HKD.out.1) fun c => c).trans HKD.out.1
                have hd1 := (HX3.out.same D (lt_of_heap HKD.out.2.1) fun c => c).trans HKD.out.2.1
                have HE := Lib.hid (show ∀ W', W' = x3.setCell ⟨B + 1, 0, none⟩ (.bool true) → W'.heap[D2]? = some (.deferred (some [])) ∧ (W'.putObj D2 (.deferred none)).heap[D]? = some (.deferred (some [])) ∧ ((W'.putObj D2 (.deferred none)).putObj D (.deferred none)).heap[B + 1]? = some (.cells #[.bool true] 4 (0, 0)) ∧ Below w.heap.size w ((W'.putObj D2 (.deferred none)).putObj D (.deferred none)) from by
                  rintro W' rfl
                  have tk := (Touch.refl (Just (B + 1)) x3).setCell ⟨B + 1, 0, none⟩ (.bool true) fun _ => rfl
                  have hl := HLT.out
                  have hkd := HKD.out
                  have hc := HLC.out
                  have hwb : w.heap.size = B := eB
                  have e2 := (tk.same D2 (lt_of_heap hd2) fun hs => by have hs : D2 = B + 1 := hs; omega).trans hd2
                  have e1 := (tk.same D (lt_of_heap hd1) fun hs => by have hs : D = B + 1 := hs; omega).trans hd1
                  have e3 := set_cell1 (z := .bool true) hres
                  refine ⟨e2, (World.putObj_heap_other (by omega)).trans e1, (World.putObj_heap_other (by omega)).trans ((World.putObj_heap_other (by omega)).trans e3), ?_⟩
                  have t0 : Touch Nil w Z := (HT3.out.trans HT4.out).trans' HTZ.out fun b hb hs => by have h1 := (HT3.out.trans HT4.out).size; have hs : w4.heap.size ≤ b := hs; omega
                  exact (touch_put (touch_put ((t0.trans HX3.out).setCell ⟨B + 1, 0, none⟩ _ fun h => by have h : B + 1 < w.heap.size := h; omega) (by omega)) (by omega)).below_nil)
                clear hres hd1 hd2
                go_wp2_with fail
                obtain ⟨k1, k2, k3, k4⟩ := HE.out _ rfl
                refine ⟨by simp, .inl ⟨_, _, rfl, run_takeDeferred k1, ?_⟩⟩
                refine ⟨by simp, .inl ⟨_, _, rfl, run_takeDeferred k2, ?_⟩⟩
                exact ⟨_, res1 rfl rfl k3, rfl, k4⟩
      · rintro b hb (hs | hs | hs)
        · subst hs; exact HM2.out.rb hb
        · have := (HRR.out b hb).1; have := HUZ.out; omega
        · have := (HRR.out b hb).1; have := HUZ.out; omega
      · rintro b hb
        rw [HUW.out] at hb
        exact .inr (.inr hb)
      · rintro i W W' hi ht
        rw [HUW.out] at ht
        exact hi.keep (by have := HLC.out; omega) ht
      · exact ⟨Touch.refl _ _, .slice none 0 0, _, R, ra, t, (HUS.out.same cg (lt_of_heap HUG.out.2) fun c => c).trans HUG.out.2, Got.nil, HM2.out, rfl, fun b hb => by
          have h1 := (HRR.out b hb).1
          have h2 := HUZ.out
          have h3 := HTW.out.size
          exact ⟨by omega, by omega, by omega, fun c => by simp [OwnOf, Value.ownBlock] at c⟩⟩
    · rintro b hb (hs | hs | hs)
      · subst hs; exact HMW.out.rb hb
      · rcases HR7.out b hb with c | c
        · exact c.elim
        · have := HSZ.out; omega
      · rcases HR7.out b hb with c | c
        · exact c.elim
        · have := HSZ.out; omega
    · rintro b hb
      rw [HWS.out] at hb
      exact .inr (.inr hb)
    · rintro i W W' hi ht
      rw [HWS.out] at ht
      exact hi.keep (by have := HLT.out; omega) ht
    · exact ⟨Touch.refl _ _, .slice none 0 0, _, R7, ra7, t7, HCE.out.2.2.2.2.2.1, Got.nil, HMW.out, HTL7.out, fun b hb => by
        have h1 := HLT.out
        have h2 := HSZ.out
        have h3 := HWS.out
        rcases HR7.out b hb with c | c
        · exact c.elim
        · exact ⟨by omega, by omega, by omega, fun c => by simp [OwnOf, Value.ownBlock] at c⟩⟩
  · rintro L a W i o ho ⟨hs, ht, v3, v4, v5, v6, v7, v20, v21, v22, v23, v24, v25, v26, v27, v28, v29, rfl, y⟩ hl hd K hK
    have hi : i < 18 := (Array.getElem?_eq_some_iff.1 ho).1
    obtain ⟨b0, b1, b2, b3, b4⟩ := yc5 ((ht.same B (lt_of_heap HBX.out) fun c => c).trans HBX.out)
    have hN := y.t
    rcases (by omega : i = 0 ∨ i = 1 ∨ i = 2 ∨ i = 3 ∨ i = 4 ∨ i = 5 ∨ i = 6 ∨ i = 7 ∨ i = 8 ∨ i = 9 ∨ i = 10 ∨ i = 11 ∨ i = 12 ∨ i = 13 ∨ i = 14 ∨ i = 15 ∨ i = 16 ∨ i = 17) with rfl | rfl | rfl | rfl | rfl | rfl | rfl | rfl | rfl | rfl | rfl | rfl | rfl | rfl | rfl | rfl | rfl | rfl
    · obtain rfl := Option.some.inj (show some _ = some o from ho)
      go_simp
      refine hK _ _ ⟨by simpa using hs, ht, _, _, _, _, _, _, _, _, _, _, _, _, _, _, _, rfl, { f0 := fun _ => rfl, f1 := fun h1 => y.f1 (stp h1 (by decide)), f2 := fun h2 => y.f2 (stp h2 (by decide)), f3 := fun h3 => y.f3 (stp h3 (by decide)), f4 := fun h4 => y.f4 (stp h4 (by decide)), f5 := fun h5 => y.f5 (stp h5 (by decide)), f6 := fun h6 => y.f6 (stp h6 (by decide)), f7 := fun h7 => y.f7 (stp h7 (by decide)), f8 := fun h8 => y.f8 (stp h8 (by decide)), f9 := fun h9 => y.f9 (stp h9 (by decide)), f10 := fun h10 => by obtain ⟨x, k, e⟩ := y.f10 (stp h10 (by decide)); exact ⟨x, k, fun h => e (stp h (by decide))⟩, f11 := fun h11 => by obtain ⟨x, k, e⟩ := y.f11 (stp h11 (by decide)); exact ⟨x, k, fun h => e (stp h (by decide))⟩, f12 := fun h12 => by obtain ⟨x, k, e⟩ := y.f12 (stp h12 (by decide)); exact ⟨x, k, fun h => e (stp h (by decide))⟩, f13 := fun h13 => y.f13 (stp h13 (by decide)), f14 := fun h14 => y.f14 (stp h14 (by decide)), d56 := fun h10 h11 => y.d56 (stp h10 (by decide)) (stp h11 (by decide)), d57 := fun h10 h12 => y.d57 (stp h10 (by decide)) (stp h12 (by decide)), d67 := fun h11 h12 => y.d67 (stp h11 (by decide)) (stp h12 (by decide)), g15 := fun h => mon (y.g15 (stp h (by decide))), g16 := fun h => mon (y.g16 (stp h (by decide))), g17 := fun h => mon (y.g17 (stp h (by decide))), t := hN }⟩
    · obtain rfl := Option.some.inj (show some _ = some o from ho)
      have e0 := (y.f0 (hd ⟨0, .data⟩ (by simp) rfl)).symm
      subst e0
      go_simp
      refine hK _ _ ⟨by simpa using hs, ht, _, _, _, _, _, _, _, _, _, _, _, _, _, _, _, rfl, { f0 := fun h0 => y.f0 (stp h0 (by decide)), f1 := fun _ => rfl, f2 := fun h2 => y.f2 (stp h2 (by decide)), f3 := fun h3 => y.f3 (stp h3 (by decide)), f4 := fun h4 => y.f4 (stp h4 (by decide)), f5 := fun h5 => y.f5 (stp h5 (by decide)), f6 := fun h6 => y.f6 (stp h6 (by decide)), f7 := fun h7 => y.f7 (stp h7 (by decide)), f8 := fun h8 => y.f8 (stp h8 (by decide)), f9 := fun h9 => y.f9 (stp h9 (by decide)), f10 := fun h10 => by obtain ⟨x, k, e⟩ := y.f10 (stp h10 (by decide)); exact ⟨x, k, fun h => e (stp h (by decide))⟩, f11 := fun h11 => by obtain ⟨x, k, e⟩ := y.f11 (stp h11 (by decide)); exact ⟨x, k, fun h => e (stp h (by decide))⟩, f12 := fun h12 => by obtain ⟨x, k, e⟩ := y.f12 (stp h12 (by decide)); exact ⟨x, k, fun h => e (stp h (by decide))⟩, f13 := fun h13 => y.f13 (stp h13 (by decide)), f14 := fun h14 => y.f14 (stp h14 (by decide)), d56 := fun h10 h11 => y.d56 (stp h10 (by decide)) (stp h11 (by decide)), d57 := fun h10 h12 => y.d57 (stp h10 (by decide)) (stp h12 (by decide)), d67 := fun h11 h12 => y.d67 (stp h11 (by decide)) (stp h12 (by decide)), g15 := fun h => mon (y.g15 (stp h (by decide))), g16 := fun h => mon (y.g16 (stp h (by decide))), g17 := fun h => mon (y.g17 (stp h (by decide))), t := hN }⟩
    · obtain rfl := Option.some.inj (show some _ = some o from ho)
      go_simp
      refine hK _ _ ⟨by simpa using hs, ht, _, _, _, _, _, _, _, _, _, _, _, _, _, _, _, rfl, { f0 := fun h0 => y.f0 (stp h0 (by decide)), f1 := fun h1 => y.f1 (stp h1 (by decide)), f2 := fun _ => rfl, f3 := fun h3 => y.f3 (stp h3 (by decide)), f4 := fun h4 => y.f4 (stp h4 (by decide)), f5 := fun h5 => y.f5 (stp h5 (by decide)), f6 := fun h6 => y.f6 (stp h6 (by decide)), f7 := fun h7 => y.f7 (stp h7 (by decide)), f8 := fun h8 => y.f8 (stp h8 (by decide)), f9 := fun h9 => y.f9 (stp h9 (by decide)), f10 := fun h10 => by obtain ⟨x, k, e⟩ := y.f10 (stp h10 (by decide)); exact ⟨x, k, fun h => e (stp h (by decide))⟩, f11 := fun h11 => by obtain ⟨x, k, e⟩ := y.f11 (stp h11 (by decide)); exact ⟨x, k, fun h => e (stp h (by decide))⟩, f12 := fun h12 => by obtain ⟨x, k, e⟩ := y.f12 (stp h12 (by decide)); exact ⟨x, k, fun h => e (stp h (by decide))⟩, f13 := fun h13 => y.f13 (stp h13 (by decide)), f14 := fun h14 => y.f14 (stp h14 (by decide)), d56 := fun h10 h11 => y.d56 (stp h10 (by decide)) (stp h11 (by decide)), d57 := fun h10 h12 => y.d57 (stp h10 (by decide)) (stp h12 (by decide)), d67 := fun h11 h12 => y.d67 (stp h11 (by decide)) (stp h12 (by decide)), g15 := fun h => mon (y.g15 (stp h (by decide))), g16 := fun h => mon (y.g16 (stp h (by decide))), g17 := fun h => mon (y.g17 (stp h (by decide))), t := hN }⟩
    · obtain rfl := Option.some.inj (show some _ = some o from ho)
      have e2 := (y.f2 (hd ⟨2, .data⟩ (by simp) rfl)).symm
      subst e2
      go_simp
      refine hK _ _ ⟨by simpa using hs, ht, _, _, _, _, _, _, _, _, _, _, _, _, _, _, _, rfl, { f0 := fun h0 => y.f0 (stp h0 (by decide)), f1 := fun h1 => y.f1 (stp h1 (by decide)), f2 := fun h2 => y.f2 (stp h2 (by decide)), f3 := fun _ => rfl, f4 := fun h4 => y.f4 (stp h4 (by decide)), f5 := fun h5 => y.f5 (stp h5 (by decide)), f6 := fun h6 => y.f6 (stp h6 (by decide)), f7 := fun h7 => y.f7 (stp h7 (by decide)), f8 := fun h8 => y.f8 (stp h8 (by decide)), f9 := fun h9 => y.f9 (stp h9 (by decide)), f10 := fun h10 => by obtain ⟨x, k, e⟩ := y.f10 (stp h10 (by decide)); exact ⟨x, k, fun h => e (stp h (by decide))⟩, f11 := fun h11 => by obtain ⟨x, k, e⟩ := y.f11 (stp h11 (by decide)); exact ⟨x, k, fun h => e (stp h (by decide))⟩, f12 := fun h12 => by obtain ⟨x, k, e⟩ := y.f12 (stp h12 (by decide)); exact ⟨x, k, fun h => e (stp h (by decide))⟩, f13 := fun h13 => y.f13 (stp h13 (by decide)), f14 := fun h14 => y.f14 (stp h14 (by decide)), d56 := fun h10 h11 => y.d56 (stp h10 (by decide)) (stp h11 (by decide)), d57 := fun h10 h12 => y.d57 (stp h10 (by decide)) (stp h12 (by decide)), d67 := fun h11 h12 => y.d67 (stp h11 (by decide)) (stp h12 (by decide)), g15 := fun h => mon (y.g15 (stp h (by decide))), g16 := fun h => mon (y.g16 (stp h (by decide))), g17 := fun h => mon (y.g17 (stp h (by decide))), t := hN }⟩
    · obtain rfl := Option.some.inj (show some _ = some o from ho)
      go_simp
      refine hK _ _ ⟨by simpa using hs, ht, _, _, _, _, _, _, _, _, _, _, _, _, _, _, _, rfl, { f0 := fun h0 => y.f0 (stp h0 (by decide)), f1 := fun h1 => y.f1 (stp h1 (by decide)), f2 := fun h2 => y.f2 (stp h2 (by decide)), f3 := fun h3 => y.f3 (stp h3 (by decide)), f4 := fun _ => rfl, f5 := fun h5 => y.f5 (stp h5 (by decide)), f6 := fun h6 => y.f6 (stp h6 (by decide)), f7 := fun h7 => y.f7 (stp h7 (by decide)), f8 := fun h8 => y.f8 (stp h8 (by decide)), f9 := fun h9 => y.f9 (stp h9 (by decide)), f10 := fun h10 => by obtain ⟨x, k, e⟩ := y.f10 (stp h10 (by decide)); exact ⟨x, k, fun h => e (stp h (by decide))⟩, f11 := fun h11 => by obtain ⟨x, k, e⟩ := y.f11 (stp h11 (by decide)); exact ⟨x, k, fun h => e (stp h (by decide))⟩, f12 := fun h12 => by obtain ⟨x, k, e⟩ := y.f12 (stp h12 (by decide)); exact ⟨x, k, fun h => e (stp h (by decide))⟩, f13 := fun h13 => y.f13 (stp h13 (by decide)), f14 := fun h14 => y.f14 (stp h14 (by decide)), d56 := fun h10 h11 => y.d56 (stp h10 (by decide)) (stp h11 (by decide)), d57 := fun h10 h12 => y.d57 (stp h10 (by decide)) (stp h12 (by decide)), d67 := fun h11 h12 => y.d67 (stp h11 (by decide)) (stp h12 (by decide)), g15 := fun h => mon (y.g15 (stp h (by decide))), g16 := fun h => mon (y.g16 (stp h (by decide))), g17 := fun h => mon (y.g17 (stp h (by decide))), t := hN }⟩
    · obtain rfl := Option.some.inj (show some _ = some o from ho)
      have e4 := (y.f4 (hd ⟨4, .data⟩ (by simp) rfl)).symm
      subst e4
      go_simp
      refine hK _ _ ⟨by simpa using hs, ht, _, _, _, _, _, _, _, _, _, _, _, _, _, _, _, rfl, { f0 := fun h0 => y.f0 (stp h0 (by decide)), f1 := fun h1 => y.f1 (stp h1 (by decide)), f2 := fun h2 => y.f2 (stp h2 (by decide)), f3 := fun h3 => y.f3 (stp h3 (by decide)), f4 := fun h4 => y.f4 (stp h4 (by decide)), f5 := fun _ => rfl, f6 := fun h6 => y.f6 (stp h6 (by decide)), f7 := fun h7 => y.f7 (stp h7 (by decide)), f8 := fun h8 => y.f8 (stp h8 (by decide)), f9 := fun h9 => y.f9 (stp h9 (by decide)), f10 := fun h10 => by obtain ⟨x, k, e⟩ := y.f10 (stp h10 (by decide)); exact ⟨x, k, fun h => e (stp h (by decide))⟩, f11 := fun h11 => by obtain ⟨x, k, e⟩ := y.f11 (stp h11 (by decide)); exact ⟨x, k, fun h => e (stp h (by decide))⟩, f12 := fun h12 => by obtain ⟨x, k, e⟩ := y.f12 (stp h12 (by decide)); exact ⟨x, k, fun h => e (stp h (by decide))⟩, f13 := fun h13 => y.f13 (stp h13 (by decide)), f14 := fun h14 => y.f14 (stp h14 (by decide)), d56 := fun h10 h11 => y.d56 (stp h10 (by decide)) (stp h11 (by decide)), d57 := fun h10 h12 => y.d57 (stp h10 (by decide)) (stp h12 (by decide)), d67 := fun h11 h12 => y.d67 (stp h11 (by decide)) (stp h12 (by decide)), g15 := fun h => mon (y.g15 (stp h (by decide))), g16 := fun h => mon (y.g16 (stp h (by decide))), g17 := fun h => mon (y.g17 (stp h (by decide))), t := hN }⟩
    · obtain rfl := Option.some.inj (show some _ = some o from ho)
      go_simp
      refine hK _ _ ⟨by simpa using hs, ht, _, _, _, _, _, _, _, _, _, _, _, _, _, _, _, rfl, { f0 := fun h0 => y.f0 (stp h0 (by decide)), f1 := fun h1 => y.f1 (stp h1 (by decide)), f2 := fun h2 => y.f2 (stp h2 (by decide)), f3 := fun h3 => y.f3 (stp h3 (by decide)), f4 := fun h4 => y.f4 (stp h4 (by decide)), f5 := fun h5 => y.f5 (stp h5 (by decide)), f6 := fun _ => rfl, f7 := fun h7 => y.f7 (stp h7 (by decide)), f8 := fun h8 => y.f8 (stp h8 (by decide)), f9 := fun h9 => y.f9 (stp h9 (by decide)), f10 := fun h10 => by obtain ⟨x, k, e⟩ := y.f10 (stp h10 (by decide)); exact ⟨x, k, fun h => e (stp h (by decide))⟩, f11 := fun h11 => by obtain ⟨x, k, e⟩ := y.f11 (stp h11 (by decide)); exact ⟨x, k, fun h => e (stp h (by decide))⟩, f12 := fun h12 => by obtain ⟨x, k, e⟩ := y.f12 (stp h12 (by decide)); exact ⟨x, k, fun h => e (stp h (by decide))⟩, f13 := fun h13 => y.f13 (stp h13 (by decide)), f14 := fun h14 => y.f14 (stp h14 (by decide)), d56 := fun h10 h11 => y.d56 (stp h10 (by decide)) (stp h11 (by decide)), d57 := fun h10 h12 => y.d57 (stp h10 (by decide)) (stp h12 (by decide)), d67 := fun h11 h12 => y.d67 (stp h11 (by decide)) (stp h12 (by decide)), g15 := fun h => mon (y.g15 (stp h (by decide))), g16 := fun h => mon (y.g16 (stp h (by decide))), g17 := fun h => mon (y.g17 (stp h (by decide))), t := hN }⟩
    · obtain rfl := Option.some.inj (show some _ = some o from ho)
      have e6 := (y.f6 (hd ⟨6, .data⟩ (by simp) rfl)).symm
      subst e6
      go_simp
      refine hK _ _ ⟨by simpa using hs, ht, _, _, _, _, _, _, _, _, _, _, _, _, _, _, _, rfl, { f0 := fun h0 => y.f0 (stp h0 (by decide)), f1 := fun h1 => y.f1 (stp h1 (by decide)), f2 := fun h2 => y.f2 (stp h2 (by decide)), f3 := fun h3 => y.f3 (stp h3 (by decide)), f4 := fun h4 => y.f4 (stp h4 (by decide)), f5 := fun h5 => y.f5 (stp h5 (by decide)), f6 := fun h6 => y.f6 (stp h6 (by decide)), f7 := fun _ => rfl, f8 := fun h8 => y.f8 (stp h8 (by decide)), f9 := fun h9 => y.f9 (stp h9 (by decide)), f10 := fun h10 => by obtain ⟨x, k, e⟩ := y.f10 (stp h10 (by decide)); exact ⟨x, k, fun h => e (stp h (by decide))⟩, f11 := fun h11 => by obtain ⟨x, k, e⟩ := y.f11 (stp h11 (by decide)); exact ⟨x, k, fun h => e (stp h (by decide))⟩, f12 := fun h12 => by obtain ⟨x, k, e⟩ := y.f12 (stp h12 (by decide)); exact ⟨x, k, fun h => e (stp h (by decide))⟩, f13 := fun h13 => y.f13 (stp h13 (by decide)), f14 := fun h14 => y.f14 (stp h14 (by decide)), d56 := fun h10 h11 => y.d56 (stp h10 (by decide)) (stp h11 (by decide)), d57 := fun h10 h12 => y.d57 (stp h10 (by decide)) (stp h12 (by decide)), d67 := fun h11 h12 => y.d67 (stp h11 (by decide)) (stp h12 (by decide)), g15 := fun h => mon (y.g15 (stp h (by decide))), g16 := fun h => mon (y.g16 (stp h (by decide))), g17 := fun h => mon (y.g17 (stp h (by decide))), t := hN }⟩
    · obtain rfl := Option.some.inj (show some _ = some o from ho)
      go_simp
      refine hK _ _ ⟨by simpa using hs, ht, _, _, _, _, _, _, _, _, _, _, _, _, _, _, _, rfl, { f0 := fun h0 => y.f0 (stp h0 (by decide)), f1 := fun h1 => y.f1 (stp h1 (by decide)), f2 := fun h2 => y.f2 (stp h2 (by decide)), f3 := fun h3 => y.f3 (stp h3 (by decide)), f4 := fun h4 => y.f4 (stp h4 (by decide)), f5 := fun h5 => y.f5 (stp h5 (by decide)), f6 := fun h6 => y.f6 (stp h6 (by decide)), f7 := fun h7 => y.f7 (stp h7 (by decide)), f8 := fun _ => rfl, f9 := fun h9 => y.f9 (stp h9 (by decide)), f10 := fun h10 => by obtain ⟨x, k, e⟩ := y.f10 (stp h10 (by decide)); exact ⟨x, k, fun h => e (stp h (by decide))⟩, f11 := fun h11 => by obtain ⟨x, k, e⟩ := y.f11 (stp h11 (by decide)); exact ⟨x, k, fun h => e (stp h (by decide))⟩, f12 := fun h12 => by obtain ⟨x, k, e⟩ := y.f12 (stp h12 (by decide)); exact ⟨x, k, fun h => e (stp h (by decide))⟩, f13 := fun h13 => y.f13 (stp h13 (by decide)), f14 := fun h14 => y.f14 (stp h14 (by decide)), d56 := fun h10 h11 => y.d56 (stp h10 (by decide)) (stp h11 (by decide)), d57 := fun h10 h12 => y.d57 (stp h10 (by decide)) (stp h12 (by decide)), d67 := fun h11 h12 => y.d67 (stp h11 (by decide)) (stp h12 (by decide)), g15 := fun h => mon (y.g15 (stp h (by decide))), g16 := fun h => mon (y.g16 (stp h (by decide))), g17 := fun h => mon (y.g17 (stp h (by decide))), t := hN }⟩
    · obtain rfl := Option.some.inj (show some _ = some o from ho)
      have e8 := (y.f8 (hd ⟨8, .data⟩ (by simp) rfl)).symm
      subst e8
      go_simp
      refine hK _ _ ⟨by simpa using hs, ht, _, _, _, _, _, _, _, _, _, _, _, _, _, _, _, rfl, { f0 := fun h0 => y.f0 (stp h0 (by decide)), f1 := fun h1 => y.f1 (stp h1 (by decide)), f2 := fun h2 => y.f2 (stp h2 (by decide)), f3 := fun h3 => y.f3 (stp h3 (by decide)), f4 := fun h4 => y.f4 (stp h4 (by decide)), f5 := fun h5 => y.f5 (stp h5 (by decide)), f6 := fun h6 => y.f6 (stp h6 (by decide)), f7 := fun h7 => y.f7 (stp h7 (by decide)), f8 := fun h8 => y.f8 (stp h8 (by decide)), f9 := fun _ => rfl, f10 := fun h10 => by obtain ⟨x, k, e⟩ := y.f10 (stp h10 (by decide)); exact ⟨x, k, fun h => e (stp h (by decide))⟩, f11 := fun h11 => by obtain ⟨x, k, e⟩ := y.f11 (stp h11 (by decide)); exact ⟨x, k, fun h => e (stp h (by decide))⟩, f12 := fun h12 => by obtain ⟨x, k, e⟩ := y.f12 (stp h12 (by decide)); exact ⟨x, k, fun h => e (stp h (by decide))⟩, f13 := fun h13 => y.f13 (stp h13 (by decide)), f14 := fun h14 => y.f14 (stp h14 (by decide)), d56 := fun h10 h11 => y.d56 (stp h10 (by decide)) (stp h11 (by decide)), d57 := fun h10 h12 => y.d57 (stp h10 (by decide)) (stp h12 (by decide)), d67 := fun h11 h12 => y.d67 (stp h11 (by decide)) (stp h12 (by decide)), g15 := fun h => mon (y.g15 (stp h (by decide))), g16 := fun h => mon (y.g16 (stp h (by decide))), g17 := fun h => mon (y.g17 (stp h (by decide))), t := hN }⟩
    · obtain rfl := Option.some.inj (show some _ = some o from ho)
      go_simp
      have ta := (Touch.refl Nil W).alloc (.cells #[.int .i64 0] 3)
      refine hK _ _ ⟨by simpa using hs, ht.trans ta, _, _, _, _, _, _, _, _, _, _, _, _, _, _, _, rfl, { f0 := fun h0 => y.f0 (stp h0 (by decide)), f1 := fun h1 => y.f1 (stp h1 (by decide)), f2 := fun h2 => y.f2 (stp h2 (by decide)), f3 := fun h3 => y.f3 (stp h3 (by decide)), f4 := fun h4 => y.f4 (stp h4 (by decide)), f5 := fun h5 => y.f5 (stp h5 (by decide)), f6 := fun h6 => y.f6 (stp h6 (by decide)), f7 := fun h7 => y.f7 (stp h7 (by decide)), f8 := fun h8 => y.f8 (stp h8 (by decide)), f9 := fun h9 => y.f9 (stp h9 (by decide)), f10 := fun _ => ⟨.int .i64 0, own1_new W N 3 _ hN, fun h => (ngd hl (y.g15 (stp h (by decide)))).elim⟩, f11 := fun h11 => by obtain ⟨x, k, e⟩ := y.f11 (stp h11 (by decide)); exact ⟨x, k.keepN ta, fun h => e (stp h (by decide))⟩, f12 := fun h12 => by obtain ⟨x, k, e⟩ := y.f12 (stp h12 (by decide)); exact ⟨x, k.keepN ta, fun h => e (stp h (by decide))⟩, f13 := fun h13 => y.f13 (stp h13 (by decide)), f14 := fun h14 => y.f14 (stp h14 (by decide)), d56 := fun _ h e => by obtain ⟨x, k, _⟩ := y.f11 (stp h (by decide)); exact Nat.lt_irrefl _ (k.lt e.symm), d57 := fun _ h e => by obtain ⟨x, k, _⟩ := y.f12 (stp h (by decide)); exact Nat.lt_irrefl _ (k.lt e.symm), d67 := fun h11 h12 => y.d67 (stp h11 (by decide)) (stp h12 (by decide)), g15 := fun h => mon (y.g15 (stp h (by decide))), g16 := fun h => mon (y.g16 (stp h (by decide))), g17 := fun h => mon (y.g17 (stp h (by decide))), t := by rw [nblk_alloc]; omega }⟩
    · obtain rfl := Option.some.inj (show some _ = some o from ho)
      go_simp
      have ta := (Touch.refl Nil W).alloc (.cells #[.slice none 0 0] 29)
      refine hK _ _ ⟨by simpa using hs, ht.trans ta, _, _, _, _, _, _, _, _, _, _, _, _, _, _, _, rfl, { f0 := fun h0 => y.f0 (stp h0 (by decide)), f1 := fun h1 => y.f1 (stp h1 (by decide)), f2 := fun h2 => y.f2 (stp h2 (by decide)), f3 := fun h3 => y.f3 (stp h3 (by decide)), f4 := fun h4 => y.f4 (stp h4 (by decide)), f5 := fun h5 => y.f5 (stp h5 (by decide)), f6 := fun h6 => y.f6 (stp h6 (by decide)), f7 := fun h7 => y.f7 (stp h7 (by decide)), f8 := fun h8 => y.f8 (stp h8 (by decide)), f9 := fun h9 => y.f9 (stp h9 (by decide)), f10 := fun h10 => by obtain ⟨x, k, e⟩ := y.f10 (stp h10 (by decide)); exact ⟨x, k.keepN ta, fun h => e (stp h (by decide))⟩, f11 := fun _ => ⟨.slice none 0 0, own1_new W N 29 _ hN, fun h => (ngd hl (y.g16 (stp h (by decide)))).elim⟩, f12 := fun h12 => by obtain ⟨x, k, e⟩ := y.f12 (stp h12 (by decide)); exact ⟨x, k.keepN ta, fun h => e (stp h (by decide))⟩, f13 := fun h13 => y.f13 (stp h13 (by decide)), f14 := fun h14 => y.f14 (stp h14 (by decide)), d56 := fun h _ e => by obtain ⟨x, k, _⟩ := y.f10 (stp h (by decide)); exact Nat.lt_irrefl _ (k.lt e), d57 := fun h10 h12 => y.d57 (stp h10 (by decide)) (stp h12 (by decide)), d67 := fun _ h e => by obtain ⟨x, k, _⟩ := y.f12 (stp h (by decide)); exact Nat.lt_irrefl _ (k.lt e.symm), g15 := fun h => mon (y.g15 (stp h (by decide))), g16 := fun h => mon (y.g16 (stp h (by decide))), g17 := fun h => mon (y.g17 (stp h (by decide))), t := by rw [nblk_alloc]; omega }⟩
    · obtain rfl := Option.some.inj (show some _ = some o from ho)
      go_simp
      have ta := (Touch.refl Nil W).alloc (.cells #[.slice none 0 0] 29)
      refine hK _ _ ⟨by simpa using hs, ht.trans ta, _, _, _, _, _, _, _, _, _, _, _, _, _, _, _, rfl, { f0 := fun h0 => y.f0 (stp h0 (by decide)), f1 := fun h1 => y.f1 (stp h1 (by decide)), f2 := fun h2 => y.f2 (stp h2 (by decide)), f3 := fun h3 => y.f3 (stp h3 (by decide)), f4 := fun h4 => y.f4 (stp h4 (by decide)), f5 := fun h5 => y.f5 (stp h5 (by decide)), f6 := fun h6 => y.f6 (stp h6 (by decide)), f7 := fun h7 => y.f7 (stp h7 (by decide)), f8 := fun h8 => y.f8 (stp h8 (by decide)), f9 := fun h9 => y.f9 (stp h9 (by decide)), f10 := fun h10 => by obtain ⟨x, k, e⟩ := y.f10 (stp h10 (by decide)); exact ⟨x, k.keepN ta, fun h => e (stp h (by decide))⟩, f11 := fun h11 => by obtain ⟨x, k, e⟩ := y.f11 (stp h11 (by decide)); exact ⟨x, k.keepN ta, fun h => e (stp h (by decide))⟩, f12 := fun _ => ⟨.slice none 0 0, own1_new W N 29 _ hN, fun h => (ngd hl (y.g17 (stp h (by decide)))).elim⟩, f13 := fun h13 => y.f13 (stp h13 (by decide)), f14 := fun h14 => y.f14 (stp h14 (by decide)), d56 := fun h10 h11 => y.d56 (stp h10 (by decide)) (stp h11 (by decide)), d57 := fun h _ e => by obtain ⟨x, k, _⟩ := y.f10 (stp h (by decide)); exact Nat.lt_irrefl _ (k.lt e), d67 := fun h _ e => by obtain ⟨x, k, _⟩ := y.f11 (stp h (by decide)); exact Nat.lt_irrefl _ (k.lt e), g15 := fun h => mon (y.g15 (stp h (by decide))), g16 := fun h => mon (y.g16 (stp h (by decide))), g17 := fun h => mon (y.g17 (stp h (by decide))), t := by rw [nblk_alloc]; omega }⟩
    · obtain rfl := Option.some.inj (show some _ = some o from ho)
      have e1 := (y.f1 (hd ⟨1, .data⟩ (by simp) rfl)).symm
      subst e1
      go_simp
      refine hK _ _ ⟨by simpa using hs, ht, _, _, _, _, _, _, _, _, _, _, _, _, _, _, _, rfl, { f0 := fun h0 => y.f0 (stp h0 (by decide)), f1 := fun h1 => y.f1 (stp h1 (by decide)), f2 := fun h2 => y.f2 (stp h2 (by decide)), f3 := fun h3 => y.f3 (stp h3 (by decide)), f4 := fun h4 => y.f4 (stp h4 (by decide)), f5 := fun h5 => y.f5 (stp h5 (by decide)), f6 := fun h6 => y.f6 (stp h6 (by decide)), f7 := fun h7 => y.f7 (stp h7 (by decide)), f8 := fun h8 => y.f8 (stp h8 (by decide)), f9 := fun h9 => y.f9 (stp h9 (by decide)), f10 := fun h10 => by obtain ⟨x, k, e⟩ := y.f10 (stp h10 (by decide)); exact ⟨x, k, fun h => e (stp h (by decide))⟩, f11 := fun h11 => by obtain ⟨x, k, e⟩ := y.f11 (stp h11 (by decide)); exact ⟨x, k, fun h => e (stp h (by decide))⟩, f12 := fun h12 => by obtain ⟨x, k, e⟩ := y.f12 (stp h12 (by decide)); exact ⟨x, k, fun h => e (stp h (by decide))⟩, f13 := fun _ => rfl, f14 := fun h14 => y.f14 (stp h14 (by decide)), d56 := fun h10 h11 => y.d56 (stp h10 (by decide)) (stp h11 (by decide)), d57 := fun h10 h12 => y.d57 (stp h10 (by decide)) (stp h12 (by decide)), d67 := fun h11 h12 => y.d67 (stp h11 (by decide)) (stp h12 (by decide)), g15 := fun h => mon (y.g15 (stp h (by decide))), g16 := fun h => mon (y.g16 (stp h (by decide))), g17 := fun h => mon (y.g17 (stp h (by decide))), t := hN }⟩
    · obtain rfl := Option.some.inj (show some _ = some o from ho)
      have e3 := (y.f3 (hd ⟨3, .data⟩ (by simp) rfl)).symm
      subst e3
      go_simp
      refine hK _ _ ⟨by simpa using hs, ht, _, _, _, _, _, _, _, _, _, _, _, _, _, _, _, rfl, { f0 := fun h0 => y.f0 (stp h0 (by decide)), f1 := fun h1 => y.f1 (stp h1 (by decide)), f2 := fun h2 => y.f2 (stp h2 (by decide)), f3 := fun h3 => y.f3 (stp h3 (by decide)), f4 := fun h4 => y.f4 (stp h4 (by decide)), f5 := fun h5 => y.f5 (stp h5 (by decide)), f6 := fun h6 => y.f6 (stp h6 (by decide)), f7 := fun h7 => y.f7 (stp h7 (by decide)), f8 := fun h8 => y.f8 (stp h8 (by decide)), f9 := fun h9 => y.f9 (stp h9 (by decide)), f10 := fun h10 => by obtain ⟨x, k, e⟩ := y.f10 (stp h10 (by decide)); exact ⟨x, k, fun h => e (stp h (by decide))⟩, f11 := fun h11 => by obtain ⟨x, k, e⟩ := y.f11 (stp h11 (by decide)); exact ⟨x, k, fun h => e (stp h (by decide))⟩, f12 := fun h12 => by obtain ⟨x, k, e⟩ := y.f12 (stp h12 (by decide)); exact ⟨x, k, fun h => e (stp h (by decide))⟩, f13 := fun h13 => y.f13 (stp h13 (by decide)), f14 := fun _ => rfl, d56 := fun h10 h11 => y.d56 (stp h10 (by decide)) (stp h11 (by decide)), d57 := fun h10 h12 => y.d57 (stp h10 (by decide)) (stp h12 (by decide)), d67 := fun h11 h12 => y.d67 (stp h11 (by decide)) (stp h12 (by decide)), g15 := fun h => mon (y.g15 (stp h (by decide))), g16 := fun h => mon (y.g16 (stp h (by decide))), g17 := fun h => mon (y.g17 (stp h (by decide))), t := hN }⟩
    · obtain rfl := Option.some.inj (show some _ = some o from ho)
      obtain ⟨x10, ⟨c10, e10, hc10, hn10⟩, _⟩ := y.f10 (hd ⟨10, .data⟩ (by simp) rfl)
      have q10 : W.cell? ⟨c10, 0, none⟩ = some x10 := cells1 hc10
      have z10 := yfr hc10
      have e5 := (y.f5 (hd ⟨5, .data⟩ (by simp) rfl)).symm
      subst e10
      subst e5
      go_simp
      have ta := (Touch.refl (Just c10) W).setCell ⟨c10, 0, none⟩ (.int .i64 stop) fun _ => rfl
      refine hK _ _ ⟨by simpa using hs, ht.trans' ta fun b hb hs => by have hs : b = c10 := hs; have := HNN.out; omega, _, _, _, _, _, _, _, _, _, _, _, _, _, _, _, rfl, { f0 := fun h0 => y.f0 (stp h0 (by decide)), f1 := fun h1 => y.f1 (stp h1 (by decide)), f2 := fun h2 => y.f2 (stp h2 (by decide)), f3 := fun h3 => y.f3 (stp h3 (by decide)), f4 := fun h4 => y.f4 (stp h4 (by decide)), f5 := fun h5 => y.f5 (stp h5 (by decide)), f6 := fun h6 => y.f6 (stp h6 (by decide)), f7 := fun h7 => y.f7 (stp h7 (by decide)), f8 := fun h8 => y.f8 (stp h8 (by decide)), f9 := fun h9 => y.f9 (stp h9 (by decide)), f10 := fun _ => ⟨_, ⟨c10, rfl, set_cell1 hc10, hn10⟩, fun _ => rfl⟩, f11 := fun h11 => by obtain ⟨x, k, e⟩ := y.f11 (stp h11 (by decide)); exact ⟨x, k.keep ta (fun b hb hs => y.d56 (hd ⟨10, .data⟩ (by simp) rfl) (stp h11 (by decide)) (by have hs : b = c10 := hs; rw [hb, hs])), fun h => e (stp h (by decide))⟩, f12 := fun h12 => by obtain ⟨x, k, e⟩ := y.f12 (stp h12 (by decide)); exact ⟨x, k.keep ta (fun b hb hs => y.d57 (hd ⟨10, .data⟩ (by simp) rfl) (stp h12 (by decide)) (by have hs : b = c10 := hs; rw [hb, hs])), fun h => e (stp h (by decide))⟩, f13 := fun h13 => y.f13 (stp h13 (by decide)), f14 := fun h14 => y.f14 (stp h14 (by decide)), d56 := fun h10 h11 => y.d56 (stp h10 (by decide)) (stp h11 (by decide)), d57 := fun h10 h12 => y.d57 (stp h10 (by decide)) (stp h12 (by decide)), d67 := fun h11 h12 => y.d67 (stp h11 (by decide)) (stp h12 (by decide)), g15 := fun h => mon (hd ⟨10, .data⟩ (by simp) rfl), g16 := fun h => mon (y.g16 (stp h (by decide))), g17 := fun h => mon (y.g17 (stp h (by decide))), t := by rw [nblk_setCell]; exact hN }⟩
    · obtain rfl := Option.some.inj (show some _ = some o from ho)
      obtain ⟨x11, ⟨c11, e11, hc11, hn11⟩, _⟩ := y.f11 (hd ⟨11, .data⟩ (by simp) rfl)
      have q11 : W.cell? ⟨c11, 0, none⟩ = some x11 := cells1 hc11
      have z11 := yfr hc11
      have e7 := (y.f7 (hd ⟨7, .data⟩ (by simp) rfl)).symm
      subst e11
      subst e7
      go_simp
      have ta := (Touch.refl (Just c11) W).setCell ⟨c11, 0, none⟩ (.slice ka kl kc) fun _ => rfl
      refine hK _ _ ⟨by simpa using hs, ht.trans' ta fun b hb hs => by have hs : b = c11 := hs; have := HNN.out; omega, _, _, _, _, _, _, _, _, _, _, _, _, _, _, _, rfl, { f0 := fun h0 => y.f0 (stp h0 (by decide)), f1 := fun h1 => y.f1 (stp h1 (by decide)), f2 := fun h2 => y.f2 (stp h2 (by decide)), f3 := fun h3 => y.f3 (stp h3 (by decide)), f4 := fun h4 => y.f4 (stp h4 (by decide)), f5 := fun h5 => y.f5 (stp h5 (by decide)), f6 := fun h6 => y.f6 (stp h6 (by decide)), f7 := fun h7 => y.f7 (stp h7 (by decide)), f8 := fun h8 => y.f8 (stp h8 (by decide)), f9 := fun h9 => y.f9 (stp h9 (by decide)), f10 := fun h10 => by obtain ⟨x, k, e⟩ := y.f10 (stp h10 (by decide)); exact ⟨x, k.keep ta (fun b hb hs => y.d56 (stp h10 (by decide)) (hd ⟨11, .data⟩ (by simp) rfl) (by have hs : b = c11 := hs; rw [hb, hs])), fun h => e (stp h (by decide))⟩, f11 := fun _ => ⟨_, ⟨c11, rfl, set_cell1 hc11, hn11⟩, fun _ => rfl⟩, f12 := fun h12 => by obtain ⟨x, k, e⟩ := y.f12 (stp h12 (by decide)); exact ⟨x, k.keep ta (fun b hb hs => y.d67 (hd ⟨11, .data⟩ (by simp) rfl) (stp h12 (by decide)) (by have hs : b = c11 := hs; rw [hb, hs])), fun h => e (stp h (by decide))⟩, f13 := fun h13 => y.f13 (stp h13 (by decide)), f14 := fun h14 => y.f14 (stp h14 (by decide)), d56 := fun h10 h11 => y.d56 (stp h10 (by decide)) (stp h11 (by decide)), d57 := fun h10 h12 => y.d57 (stp h10 (by decide)) (stp h12 (by decide)), d67 := fun h11 h12 => y.d67 (stp h11 (by decide)) (stp h12 (by decide)), g15 := fun h => mon (y.g15 (stp h (by decide))), g16 := fun h => mon (hd ⟨11, .data⟩ (by simp) rfl), g17 := fun h => mon (y.g17 (stp h (by decide))), t := by rw [nblk_setCell]; exact hN }⟩
    · obtain rfl := Option.some.inj (show some _ = some o from ho)
      obtain ⟨x12, ⟨c12, e12, hc12, hn12⟩, _⟩ := y.f12 (hd ⟨12, .data⟩ (by simp) rfl)
      have q12 : W.cell? ⟨c12, 0, none⟩ = some x12 := cells1 hc12
      have z12 := yfr hc12
      have e9 := (y.f9 (hd ⟨9, .data⟩ (by simp) rfl)).symm
      subst e12
      subst e9
      go_simp
      have ta := (Touch.refl (Just c12) W).setCell ⟨c12, 0, none⟩ (.slice va vl vc) fun _ => rfl
      refine hK _ _ ⟨by simpa using hs, ht.trans' ta fun b hb hs => by have hs : b = c12 := hs; have := HNN.out; omega, _, _, _, _, _, _, _, _, _, _, _, _, _, _, _, rfl, { f0 := fun h0 => y.f0 (stp h0 (by decide)), f1 := fun h1 => y.f1 (stp h1 (by decide)), f2 := fun h2 => y.f2 (stp h2 (by decide)), f3 := fun h3 => y.f3 (stp h3 (by decide)), f4 := fun h4 => y.f4 (stp h4 (by decide)), f5 := fun h5 => y.f5 (stp h5 (by decide)), f6 := fun h6 => y.f6 (stp h6 (by decide)), f7 := fun h7 => y.f7 (stp h7 (by decide)), f8 := fun h8 => y.f8 (stp h8 (by decide)), f9 := fun h9 => y.f9 (stp h9 (by decide)), f10 := fun h10 => by obtain ⟨x, k, e⟩ := y.f10 (stp h10 (by decide)); exact ⟨x, k.keep ta (fun b hb hs => y.d57 (stp h10 (by decide)) (hd ⟨12, .data⟩ (by simp) rfl) (by have hs : b = c12 := hs; rw [hb, hs])), fun h => e (stp h (by decide))⟩, f11 := fun h11 => by obtain ⟨x, k, e⟩ := y.f11 (stp h11 (by decide)); exact ⟨x, k.keep ta (fun b hb hs => y.d67 (stp h11 (by decide)) (hd ⟨12, .data⟩ (by simp) rfl) (by have hs : b = c12 := hs; rw [hb, hs])), fun h => e (stp h (by decide))⟩, f12 := fun _ => ⟨_, ⟨c12, rfl, set_cell1 hc12, hn12⟩, fun _ => rfl⟩, f13 := fun h13 => y.f13 (stp h13 (by decide)), f14 := fun h14 => y.f14 (stp h14 (by decide)), d56 := fun h10 h11 => y.d56 (stp h10 (by decide)) (stp h11 (by decide)), d57 := fun h10 h12 => y.d57 (stp h10 (by decide)) (stp h12 (by decide)), d67 := fun h11 h12 => y.d67 (stp h11 (by decide)) (stp h12 (by decide)), g15 := fun h => mon (y.g15 (stp h (by decide))), g16 := fun h => mon (y.g16 (stp h (by decide))), g17 := fun h => mon (hd ⟨12, .data⟩ (by simp) rfl), t := by rw [nblk_setCell]; exact hN }⟩

theorem array5 (cs : Array Value) (h : cs.size = 5) : ∃ a b c d e, cs = #[a, b, c, d, e] := by
  obtain ⟨l⟩ := cs
  match l, h with
  | [a, b, c, d, e], _ => exact ⟨a, b, c, d, e, rfl⟩
set_option maxRecDepth 100000 in
theorem orderYields_lifted (os : Os) (started : os.Started) (H : Type) (enc : TypeId × Value → H) :
    ReturnsInHanded {} Try.checked os 11 .any (Rows.orderYieldsSpec.pre6 enc Try.prog Try.f11 Rows.orderYieldsRow.domain false) (Rows.orderYieldsSpec.post enc Try.prog Try.f11 false true false false) := by
  refine returnsInHanded_of_change (C := Try.checked) own started (by kernel_rfl) Try.func11
    (ChangeSpec.witness6 (enc := enc) (C := Try.checked) false ⟨#[], #[.agg #[.int .u64 0, .slice none 0 0, .int .i64 0, .slice none 0 0, .slice none 0 0]], []⟩ 8 (by kernel_rfl) (by kernel_rfl) (by kernel_rfl) (by kernel_rfl)) ?_
  intro W base args ds gs before hval0 hW _ _
  have hval : ∀ (j : Nat) t v, Try.f11.params[j]? = some t → args[j]? = some v → Value.okWide Try.prog W .any base t v := hval0
  have hW' := hW
  obtain ⟨p, q, hA0, hV, rfl, hfz, hnd⟩ := hW
  have hA : DataW.TrodAll enc Try.prog W 0 (fun _ => true) true Try.f11.params.toList args.toList ds p := hA0
  rw [Try.params11] at hA hval
  obtain ⟨v0, vs0, d0, ds0, p0, q0, hargs, rfl, rfl, h0, r0⟩ := trodAll_cons hA
  obtain ⟨rfl, rfl, rfl⟩ := trodAll_nil r0
  obtain rfl : args = #[v0] := by cases args; simp_all
  obtain ⟨rfl, rfl⟩ := trodVars_none hV
  have k0 := h0
  have lt0 : ∀ x ∈ p0, x.block < W.heap.size := by obtain ⟨m, hm⟩ := k0; exact DataW.trod_lt m _ _ _ hm
  obtain ⟨cs, rfl, hsz, hfl⟩ := open_aggs Try.underlying88 (by kernel_rfl) (by kernel_rfl) (hval 0 88 v0 rfl rfl) h0
  obtain ⟨c0, c1, c2, c3, c4, rfl⟩ := array5 cs hsz
  obtain ⟨n0, y0, e0⟩ := hfl 0 _ rfl
  obtain ⟨n1, y1, e1⟩ := hfl 1 _ rfl
  obtain ⟨n2, y2, e2⟩ := hfl 2 _ rfl
  obtain ⟨n3, y3, e3⟩ := hfl 3 _ rfl
  obtain ⟨n4, y4, e4⟩ := hfl 4 _ rfl
  obtain ⟨sN, e0', _, _⟩ := DataW.trod_int Try.underlying22 e0
  obtain ⟨pa, pl, pc, e1'⟩ := Go.Joins.slice_form Try.underlying26 e1
  obtain rfl : c1 = .slice pa pl pc := by simpa using e1'
  obtain ⟨L, hpl, hm, hmm⟩ := open_pairs e1
  obtain ⟨stop, e2', _, sw⟩ := DataW.trod_int Try.underlying3 e2
  obtain ⟨kK, kH, km⟩ := open_bv Try.underlying29 Try.underlying5 (by kernel_rfl) e3
  obtain ⟨vK, vH, vm⟩ := open_bv Try.underlying29 Try.underlying5 (by kernel_rfl) e4
  obtain rfl : c0 = .int .u64 sN := by simpa using e0'
  obtain rfl : c2 = .int .i64 stop := by simpa using e2'
  have kH : BV W c3 kK := kH
  have vH : BV W c4 vK := vH
  obtain ⟨kA, kC, rfl, _, _⟩ := id kH
  obtain ⟨vA, vC, rfl, _, _⟩ := id vH
  have hb : -9223372036854775808 ≤ stop ∧ stop ≤ 9223372036854775807 := by simpa [Lit.wf, IntKind.min, IntKind.max, IntKind.signed, IntKind.bits] using sw
  clear hA0 hval0
  unfold maxLen at hm hmm km vm
  refine (lawYields_any hpl (by omega) (fun p hp => by have := hmm p hp; omega) stop hb kH vH ⟨by omega, by omega⟩).mono fun e W' ⟨he, bel⟩ => ?_
  subst he
  exact ⟨_, rfl, _, _, _, [], _, [], hW', trodAll_mk1 (shut_bool Try.underlying4 _), (trodAll_cons_mk (Below.trod laidOut (by kernel_rfl) (of_decide_eq_true (by kernel_rfl)) k0 bel lt0) trodAll_mk0), rfl, bel.frame _, fun h => by cases h⟩

theorem orderYields_holds : Rows.OrderYieldsSaid :=
  OpenClaim.holds_of_wide 11 Try.f11 rfl rfl rfl rfl rfl rfl rfl ⟨rfl, rfl, rfl, rfl, rfl⟩ rfl rfl rfl rfl rfl (by kernel_rfl) Try.func11 (by kernel_rfl)
    (of_decide_eq_true (by kernel_rfl)) (by unfold Func.isWrapper; first | (rw [if_pos (by decide +kernel)]; kernel_rfl) | (rw [if_neg (by decide +kernel)]; exact ⟨rfl, rfl⟩))
    (fun os started H enc _ => orderYields_lifted os started H enc)
end Go.Proofs.Ytkkpcndpjkebkaa
