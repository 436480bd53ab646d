/-
  OrderNone: for every seed, key, value, bound and number the law returns true: a nil map, and the zero value, have no pairs and refuse changes; and maps of unlike seeds are not joined.
  No condition beside the statement's own.
-/
import Derived.Test.YtejiijbmmpahhabNoneR
import Derived.Test.YtejiijbmmpahhabPathM
import Derived.Test.YtejiijbmmpahhabOpen
import Derived.ChangeOld
import Derived.Lib.SmallJoins
namespace Go.Proofs.Ytejiijbmmpahhab
open Go.ChangeShapes Go.WideShapes Go.ChangeAt Go.RowKit Go.Deep

theorem wrap_next {seed : Int} (h0 : 0 ≤ seed) (h1 : seed ≤ 18446744073709551615) : (seed == IntKind.u64.wrap (seed + 1)) = false := by
  have : IntKind.u64.wrap (seed + 1) = (seed + 1) % 18446744073709551616 := by first | rfl | simp [IntKind.wrap, IntKind.signed, IntKind.bits]
  rw [this]; simp; omega
set_option maxRecDepth 100000 in
set_option maxHeartbeats 8000000 in
theorem lawNone_any (seed : Int) (hs0 : 0 ≤ seed) (hs1 : seed ≤ 18446744073709551615) {w : World} (zero bo : Bool) {ka ua ha : Option Addr} {kl kc ul uc hl hc : Nat} {key : Key} (n : Int) (hk : BV w (.slice ka kl kc) key) :
    Calls Try.prog 6 #[.agg #[.int .u64 seed, .bool zero, .slice ka kl kc, .slice ua ul uc, .slice ha hl hc, .bool bo, .int .i64 n]] w fun e w' => e = .returned (.bool true) ∧ Below w.heap.size w w' := by
  have HK := Lib.hid hk
  have HSE := Lib.hid (wrap_next hs0 hs1)
  clear hk hs0 hs1
  refine (callsIn_wide (n := 6)).1 ?_
  refine callsIn_of_wp_marks Try.func6 rfl trivial ?_ rfl
  refine wpIn_wide.2 ?_
  simp only [Try.ntmps6, List.size_toArray, List.length_cons, List.length_nil, Nat.reduceAdd, Nat.reduceSub, Array.replicate_succ, Array.replicate_zero, List.push_toArray, List.append_toArray, List.nil_append, List.cons_append]
  go_upto_if 45 with (go_quiet (fail))
  obtain ⟨wa, ewa⟩ : ∃ wa, ((w.alloc (.cells #[.int .u64 seed, .bool zero, .slice ka kl kc, .slice ua ul uc, .slice ha hl hc, .bool bo, .int .i64 n] 68)).alloc (.cells #[.bool false] 4)).drewN nq = wa := ⟨_, rfl⟩
  have HTA := Lib.hid (show Touch Nil w wa from by rw [← ewa]; exact (((Touch.refl Nil w).alloc _).alloc _).drewN _)
  have HRB := Lib.hid (show wa.heap[w.heap.size + 1]? = some (.cells #[.bool false] 4 (0, 0)) from by
    rw [← ewa]
    have h := heap_alloc_new (w.alloc (.cells #[.int .u64 seed, .bool zero, .slice ka kl kc, .slice ua ul uc, .slice ha hl hc, .bool bo, .int .i64 n] 68)) (.cells #[.bool false] 4)
    rw [nblk_alloc] at h
    exact h)
  rw [ewa]
  clear ewa
  go_cut [10] from 46 to 262 (fun s10 wx => ∃ ma, s10 = .pointer ma ∧ Hid (NoMap wx (.pointer ma)) ∧ Touch Nil wa wx)
  case first =>
    cases zero with
    | true =>
      go_wp2_with fail
      go_meet
      exact ⟨_, rfl, Lib.hid (.inr ⟨_, rfl, heap_alloc_new _ _⟩), (Touch.refl Nil wa).alloc _⟩
    | false =>
      go_wp2_with fail
      go_meet
      exact ⟨_, rfl, Lib.hid (NoMap.nil _), Touch.refl Nil wa⟩
  case rest =>
  obtain ⟨ma, rfl, HN, hTc⟩ := hcut
  have HTc := Lib.hid (HTA.out.trans hTc)
  have HRC := Lib.hid (show wc.heap[w.heap.size + 1]? = some (.cells #[.bool false] 4 (0, 0)) from (hTc.same _ (lt_of_heap HRB.out) fun c => c).trans HRB.out)
  clear hTc HRB
  go_wp2_with fail
  refine (get_none HN.out (HK.out.keepN HTc.out)).mono ?_
  rintro e w' ⟨rfl, rfl⟩
  go_wp2_with fail
  refine (at_none HN.out n).mono ?_
  rintro e w2 ⟨rfl, ht2⟩
  have HT2 := Lib.hid ht2
  clear ht2
  go_wp2_with fail
  have HP2 := Lib.hid (heap_alloc_new w2 (.cells #[.slice none 0 0, .slice none 0 0] 61))
  have HW2 := Lib.hid (HT2.out.alloc (.cells #[.slice none 0 0, .slice none 0 0] 61))
  obtain ⟨w3, ew3⟩ : ∃ w3, w2.alloc (.cells #[.slice none 0 0, .slice none 0 0] 61) = w3 := ⟨_, rfl⟩
  obtain ⟨pb, epb⟩ : ∃ pb, w2.heap.size = pb := ⟨_, rfl⟩
  rw [ew3, epb] at HP2
  rw [ew3] at HW2
  rw [ew3, epb]
  clear ew3 epb HT2
  refine (spanDigest_none (HN.out.keepN HW2.out) ka ha kl kc hl hc bo).mono ?_
  rintro e w' ⟨rfl, rfl⟩
  go_wp2_with fail
  refine (cut_none (HN.out.keepN HW2.out) ka kl kc).mono ?_
  rintro e w' ⟨rfl, rfl⟩
  go_wp2_with fail
  refine (new_map seed w3).mono ?_
  rintro e w4 ⟨mb, bb, ra, rfl, hm4, hmb, hbb, hne, ht4⟩
  have HM4 := Lib.hid hm4
  have HBB := Lib.hid (show w3.heap.size ≤ bb from hbb)
  have HT4 := Lib.hid (show Touch Nil w3 w4 from ht4)
  clear hm4 hmb hbb hne ht4
  have HPU := Lib.hid (put_map (HM4.out.keepN ((Touch.refl Nil w4).alloc (.cells #[.int .u8 1] 5))) (kx := .slice (some ⟨w4.heap.size, 0, none⟩) 1 1) (ux := .slice none 0 0) (key := [lo 1]) (u := []) (own_lit w4 [lo 1] _ (by rfl) (by simp)).bv (BV.nil _) (by rfl) (by simp [Tree.size]))
  go_wp2_with fail
  refine HPU.out.mono ?_
  rintro e w5 ⟨rfl, ⟨ra5, hm5⟩, ht5⟩
  have HM5 := Lib.hid hm5
  have HT5 := Lib.hid (show Touch Nil w3 w5 from touch_base' (HT4.out.alloc _) ht5 HBB.out)
  clear hm5 ht5 HPU HM4
  have HN5 := Lib.hid (HN.out.keepN (HW2.out.trans HT5.out))
  go_wp2_with fail
  refine (join_unkin fun k => kin_l (HN5.out.keepN ((Touch.refl Nil w5).drewN k)) _).mono ?_
  rintro e w' ⟨rfl, k1, rfl⟩
  obtain ⟨w51, e51⟩ : ∃ w51, w5.drewN k1 = w51 := ⟨_, rfl⟩
  have D1 := Lib.hid (show Touch Nil w5 w51 from by rw [← e51]; exact (Touch.refl Nil w5).drewN k1)
  rw [e51]
  clear e51
  go_wp2_with fail
  refine (join_unkin fun k => kin_r (HN5.out.keepN (D1.out.drewN k)) (HM5.out.keepN (D1.out.drewN k))).mono ?_
  rintro e w' ⟨rfl, k2, rfl⟩
  obtain ⟨w52, e52⟩ : ∃ w52, w51.drewN k2 = w52 := ⟨_, rfl⟩
  have D2 := Lib.hid (show Touch Nil w5 w52 from by rw [← e52]; exact D1.out.drewN k2)
  rw [e52]
  clear e52
  go_wp2_with fail
  refine (join_self (HM5.out.keepN D2.out)).mono ?_
  rintro e w' ⟨rfl, k3, rfl⟩
  obtain ⟨w6, e53⟩ : ∃ w6, w52.drewN k3 = w6 := ⟨_, rfl⟩
  have D3 := Lib.hid (show Touch Nil w5 w6 from by rw [← e53]; exact D2.out.drewN k3)
  rw [e53]
  clear e53 D1 D2
  go_wp2_with fail
  refine (new_map _ w6).mono ?_
  rintro e w7 ⟨mb7, bb7, ra7, rfl, hm7, _, _, _, ht7⟩
  have HM7 := Lib.hid hm7
  have HT7 := Lib.hid (D3.out.trans ht7)
  clear hm7 ht7
  go_wp2_with fail
  refine (join_unkin fun k => by
    have h := kin_maps (HM5.out.keepN (HT7.out.drewN k)) (HM7.out.keepN ((Touch.refl Nil w7).drewN k))
    rw [HSE.out] at h
    exact h).mono ?_
  rintro e w' ⟨rfl, k4, rfl⟩
  have HT8 := Lib.hid (HT7.out.drewN k4)
  obtain ⟨w8, ew8⟩ : ∃ w8, w7.drewN k4 = w8 := ⟨_, rfl⟩
  rw [ew8] at HT8 ⊢
  clear ew8 HT7 HM7
  go_wp2_with fail
  refine (all_any _ _).mono ?_
  rintro e w' ⟨rfl, rfl⟩
  go_wp2_with fail
  refine range_none rfl ((HN5.out.keepN HT8.out).keepN ((Touch.refl Nil w8).alloc _)) (cell_new w8 #[.pointer ma] 31 0) ?_
  intro D W hD hT hK
  have HTW := Lib.hid (show Touch Nil w5 W from (HT8.out.alloc _).trans hT)
  have HKD := Lib.hid (And.intro hK hD)
  have HSZ8 := Lib.hid (show w5.heap.size ≤ w8.heap.size from HT8.out.size)
  clear hD hT hK HT8
  have HNW := Lib.hid (HN5.out.keepN HTW.out)
  have HMW := Lib.hid (HM5.out.keepN HTW.out)
  have HTT := Lib.hid (show Touch Nil wc W from (HW2.out.trans HT5.out).trans HTW.out)
  have x0 : W.cell? ⟨pb, 0, none⟩ = some (.slice none 0 0) := by
    have h : W.heap[pb]? = some (.cells #[.slice none 0 0, .slice none 0 0] 61 (0, 0)) := ((HT5.out.trans HTW.out).same pb (lt_of_heap HP2.out) fun c => c).trans HP2.out
    exact (cells2 h).1
  have HS5 := Lib.hid (show wc.heap.size ≤ w5.heap.size from (HW2.out.trans HT5.out).size)
  clear HN HN5 HP2 HW2 HT5 HM5 D3
  go_wp2_with fail
  refine (put_none HNW.out ka ua kl kc ul uc).mono ?_
  rintro e w' ⟨rfl, rfl⟩
  go_wp2_with fail
  refine (drop_none HNW.out ka kl kc).mono ?_
  rintro e w' ⟨rfl, rfl⟩
  go_wp2_with fail
  refine (len_none HNW.out).mono ?_
  rintro e w' ⟨rfl, rfl⟩
  go_wp2_with fail
  refine (digest_none HNW.out).mono ?_
  rintro e w' ⟨rfl, rfl⟩
  go_wp2_with fail
  refine (image_none HNW.out).mono ?_
  rintro e w' ⟨rfl, rfl⟩
  go_wp2_with fail
  refine (rank_none HNW.out ka kl kc).mono ?_
  rintro e w' ⟨rfl, rfl⟩
  go_wp2_with fail
  refine (span_none HNW.out ka ha kl kc hl hc bo).mono ?_
  rintro e w9 ⟨rfl, ht9⟩
  have HT9 := Lib.hid ht9
  clear ht9
  go_wp2_with fail
  refine (nodes_none (HNW.out.keepN HT9.out)).mono ?_
  rintro e w' ⟨rfl, rfl⟩
  go_wp2_with fail
  refine (prove_none (HNW.out.keepN HT9.out) ka kl kc).mono ?_
  rintro e w' ⟨rfl, rfl⟩
  go_wp2_with fail
  refine (len_map (HMW.out.keepN HT9.out)).mono ?_
  rintro e w' ⟨rfl, rfl⟩
  go_wp2_with fail
  refine (kin_l (HNW.out.keepN HT9.out) _).mono ?_
  rintro e w' ⟨rfl, j1, rfl⟩
  obtain ⟨w91, e91⟩ : ∃ w91, w9.drewN j1 = w91 := ⟨_, rfl⟩
  have E1 := Lib.hid (show Touch Nil W w91 from by rw [← e91]; exact HT9.out.drewN j1)
  rw [e91]
  clear e91
  go_wp2_with fail
  refine (kin_r (HNW.out.keepN E1.out) (HMW.out.keepN E1.out)).mono ?_
  rintro e w' ⟨rfl, j2, rfl⟩
  obtain ⟨w92, e92⟩ : ∃ w92, w91.drewN j2 = w92 := ⟨_, rfl⟩
  have E2 := Lib.hid (show Touch Nil W w92 from by rw [← e92]; exact E1.out.drewN j2)
  rw [e92]
  clear e92
  go_wp2_with fail
  refine (kin_l (HNW.out.keepN E2.out) _).mono ?_
  rintro e w' ⟨rfl, j3, rfl⟩
  obtain ⟨w93, e93⟩ : ∃ w93, w92.drewN j3 = w93 := ⟨_, rfl⟩
  have E3 := Lib.hid (show Touch Nil W w93 from by rw [← e93]; exact E2.out.drewN j3)
  rw [e93]
  clear e93 E1 E2 HT9
  have HRF := Lib.hid (show w93.heap[w.heap.size + 1]? = some (.cells #[.bool false] 4 (0, 0)) from ((HTT.out.trans E3.out).same _ (lt_of_heap HRC.out) fun c => c).trans HRC.out)
  have c0 := cells1 HRF.out
  have f0 : w93.frozen? ⟨w.heap.size + 1, 0, none⟩ = false := by simp [World.frozen?, HRF.out]
  go_wp2_with fail
  obtain ⟨hK, hD⟩ := HKD.out
  have hTF : Touch (Just (w.heap.size + 1)) W (w93.setCell ⟨w.heap.size + 1, 0, none⟩ (.bool true)) := (E3.out.of_nil).setCell ⟨w.heap.size + 1, 0, none⟩ (.bool true) fun _ => rfl
  have hne : D ≠ w.heap.size + 1 := fun e => by
    rw [e] at hK
    have h := ((HTT.out).same _ (lt_of_heap HRC.out) fun c => c).trans HRC.out
    rw [hK] at h
    cases h
  have hKF : (w93.setCell ⟨w.heap.size + 1, 0, none⟩ (.bool true)).heap[D]? = some (.deferred (some [])) := (hTF.same D (lt_of_heap hK) fun e => hne e).trans hK
  have hcF : (w93.setCell ⟨w.heap.size + 1, 0, none⟩ (.bool true)).cell? ⟨w.heap.size + 1, 0, none⟩ = some (.bool true) := World.cell?_setCell_same' _ _ _ (by rw [c0]; rfl)
  have hw8 : w.heap.size ≤ D := by
    have h1 := hD
    have h2 := HTc.out.size
    rw [nblk_alloc] at h1
    have h3 := HSZ8.out
    have h4 := HTT.out.size
    have h5 := HS5.out
    omega
  refine ⟨by simp, .inl ⟨_, _, rfl, run_takeDeferred hKF, ?_⟩⟩
  have hcP : ((w93.setCell ⟨w.heap.size + 1, 0, none⟩ (.bool true)).putObj D (.deferred none)).cell? ⟨w.heap.size + 1, 0, none⟩ = some (.bool true) := by
    have h2 : ((w93.setCell ⟨w.heap.size + 1, 0, none⟩ (.bool true)).putObj D (.deferred none)).heap[w.heap.size + 1]? = (w93.setCell ⟨w.heap.size + 1, 0, none⟩ (.bool true)).heap[w.heap.size + 1]? := World.putObj_heap_other (by omega)
    exact (World.cell?_of_block (a := ⟨w.heap.size + 1, 0, none⟩) h2).trans hcF
  refine ⟨.bool true, ?_, rfl, ?_⟩
  · have hres : Try.f6.results = #[.cell 2 4] := by kernel_rfl
    simp only [results, hres]
    go_simp
  · exact (touch_put ((HTc.out.trans HTT.out).trans' hTF fun b hb hs => by have hs : b = w.heap.size + 1 := hs; omega) hw8).below_nil

theorem array7 {α : Type} (cs : Array α) (h : cs.size = 7) : ∃ c0 c1 c2 c3 c4 c5 c6, cs = #[c0, c1, c2, c3, c4, c5, c6] := by
  obtain ⟨l⟩ := cs
  match l, h with
  | [c0, c1, c2, c3, c4, c5, c6], _ => exact ⟨c0, c1, c2, c3, c4, c5, c6, rfl⟩
/-- A struct of one-cell fields, by value, opened. -/
theorem open_aggs {H : Type} {enc : TypeId × Value → H} {P : Program} {w : World} {base : Nat} {spare : Nat → Bool} {held : Bool} {r : Reach} {b0 : Nat} {t : TypeId} {fs : Array Field} {v : Value} {d : DataW H} {p : List MemPlace} (hs : P.underlying t = some (.struct fs)) (hone : oneCellFields P fs = true) (hC : P.cellsOf t = fs.size)
    (hv : Value.okWide P w r b0 t v) (h : DataW.Trod enc P w base spare held t v d p) :
    ∃ cs : Array Value, v = .agg cs ∧ cs.size = fs.size ∧ ∀ c (f : Field), fs[c]? = some f → ∃ n y, DataW.trod enc P w base spare held n f.type [cs.getD c undef] = some y := by
  obtain ⟨cs, rfl, hsz⟩ := okWide_struct hs hv
  obtain ⟨fuel, hf⟩ := h
  obtain ⟨ys, n', _, _, hlen, hyl, hfl⟩ := DataW.trod_struct hs hf
  refine ⟨cs, rfl, hsz.trans hC, fun c f hf' => ?_⟩
  have hjl : c < fs.size := (Array.getElem?_eq_some_iff.1 hf').1
  obtain ⟨ho, hk⟩ := hone_of hone c f hf'
  have h1 := hfl c f hf'
  rw [ho, hk] at h1
  have hcl : c < cs.size := by omega
  have hone' : ((Value.agg cs).cells.toList.drop c).take 1 = [cs.getD c undef] := by
    have hl : c < (Value.agg cs).cells.toList.length := by simpa [Value.cells] using hcl
    rw [List.drop_eq_getElem_cons hl]
    simp [Value.cells, Array.getD, hcl]
  rw [hone'] at h1
  exact ⟨n', _, h1.trans (List.getElem?_eq_getElem (by omega))⟩

set_option maxRecDepth 100000 in
set_option maxHeartbeats 4000000 in
theorem orderNone_lifted (os : Os) (started : os.Started) (H : Type) (enc : TypeId × Value → H) :
    ReturnsInHanded {} Try.checked os 6 .any (Rows.orderNoneSpec.pre6 enc Try.prog Try.f6 Rows.orderNoneRow.domain false) (Rows.orderNoneSpec.post enc Try.prog Try.f6 false true false false) := by
  refine returnsInHanded_of_change (C := Try.checked) own started (by kernel_rfl) Try.func6
    (ChangeSpec.witness6 (enc := enc) (C := Try.checked) false ⟨#[], #[.agg #[.int .u64 0, .bool false, .slice none 0 0, .slice none 0 0, .slice none 0 0, .bool false, .int .i64 0]], []⟩ 8 (by kernel_rfl) (by kernel_rfl) (by kernel_rfl) (by kernel_rfl)) ?_
  intro W base args ds gs before hval0 hW _ _
  have hval : ∀ (j : Nat) t v, Try.f6.params[j]? = some t → args[j]? = some v → Value.okWide Try.prog W .any base t v := hval0
  have hW' := hW
  obtain ⟨p, q, hA0, hV, rfl, hfz, hnd⟩ := hW
  have hA : DataW.TrodAll enc Try.prog W 0 (fun _ => true) true Try.f6.params.toList args.toList ds p := hA0
  rw [Try.params6] at hA hval
  obtain ⟨v0, vs0, d0, ds0, p0, q0, hargs, rfl, rfl, h0, r0⟩ := trodAll_cons hA
  obtain ⟨rfl, rfl, rfl⟩ := trodAll_nil r0
  obtain rfl : args = #[v0] := by cases args; simp_all
  obtain ⟨rfl, rfl⟩ := trodVars_none hV
  have k0 := h0
  have lt0 : ∀ x ∈ p0, x.block < W.heap.size := by obtain ⟨m, hm⟩ := k0; exact DataW.trod_lt m _ _ _ hm
  obtain ⟨cs, rfl, hsz, hfl⟩ := open_aggs Try.underlying68 (by kernel_rfl) (by kernel_rfl) (hval 0 68 v0 rfl rfl) h0
  obtain ⟨c0, c1, c2, c3, c4, c5, c6, rfl⟩ := array7 cs hsz
  obtain ⟨n0, y0, e0⟩ := hfl 0 _ rfl
  obtain ⟨n1, y1, e1⟩ := hfl 1 _ rfl
  obtain ⟨n2, y2, e2⟩ := hfl 2 _ rfl
  obtain ⟨n3, y3, e3⟩ := hfl 3 _ rfl
  obtain ⟨n4, y4, e4⟩ := hfl 4 _ rfl
  obtain ⟨n5, y5, e5⟩ := hfl 5 _ rfl
  obtain ⟨n6, y6, e6⟩ := hfl 6 _ rfl
  obtain ⟨sN, e0', _, sw⟩ := DataW.trod_int Try.underlying22 e0
  obtain ⟨zb, e1', _⟩ := DataW.trod_bool Try.underlying4 e1
  obtain ⟨qK, qH, _⟩ := open_bv Try.underlying24 Try.underlying5 (by kernel_rfl) e2
  obtain ⟨ua, ul, uc, e3'⟩ := Go.Joins.slice_form Try.underlying24 e3
  obtain ⟨ha, hl, hc, e4'⟩ := Go.Joins.slice_form Try.underlying24 e4
  obtain ⟨bo, e5', _⟩ := DataW.trod_bool Try.underlying4 e5
  obtain ⟨nN, e6', _, _⟩ := DataW.trod_int Try.underlying3 e6
  obtain rfl : c0 = .int .u64 sN := by simpa using e0'
  obtain rfl : c1 = .bool zb := by simpa using e1'
  obtain rfl : c3 = .slice ua ul uc := by simpa using e3'
  obtain rfl : c4 = .slice ha hl hc := by simpa using e4'
  obtain rfl : c5 = .bool bo := by simpa using e5'
  obtain rfl : c6 = .int .i64 nN := by simpa using e6'
  have qH : BV W c2 qK := qH
  obtain ⟨qA, qC, rfl, _, _⟩ := id qH
  have hb : 0 ≤ sN ∧ sN ≤ 18446744073709551615 := by simpa [Lit.wf, IntKind.min, IntKind.max, IntKind.signed, IntKind.bits] using sw
  clear hA0 hval0
  refine (lawNone_any sN hb.1 hb.2 zb bo nN qH).mono fun e W' ⟨he, bel⟩ => ?_
  subst he
  exact ⟨_, rfl, _, _, _, [], _, [], hW', trodAll_mk1 (shut_bool Try.underlying4 _), (trodAll_cons_mk (Below.trod laidOut (by kernel_rfl) (of_decide_eq_true (by kernel_rfl)) k0 bel lt0) trodAll_mk0), rfl, bel.frame _, fun h => by cases h⟩

theorem orderNone_holds : Rows.OrderNoneSaid :=
  OpenClaim.holds_of_wide 6 Try.f6 rfl rfl rfl rfl rfl rfl rfl ⟨rfl, rfl, rfl, rfl, rfl⟩ rfl rfl rfl rfl rfl (by kernel_rfl) Try.func6 (by kernel_rfl)
    (of_decide_eq_true (by kernel_rfl)) (by unfold Func.isWrapper; first | (rw [if_pos (by decide +kernel)]; kernel_rfl) | (rw [if_neg (by decide +kernel)]; exact ⟨rfl, rfl⟩))
    (fun os started H enc _ => orderNone_lifted os started H enc)
end Go.Proofs.Ytejiijbmmpahhab
