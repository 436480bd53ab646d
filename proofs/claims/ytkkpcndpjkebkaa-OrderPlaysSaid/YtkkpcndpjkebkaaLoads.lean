import Derived.Test.YtkkpcndpjkebkaaLoadM
import Derived.Test.YtkkpcndpjkebkaaRefO
import Derived.Test.YtkkpcndpjkebkaaReader
import Derived.Test.YtkkpcndpjkebkaaWhole
/- The definition's number and list of an image. -/
namespace Go.Proofs.Ytkkpcndpjkebkaa
open Go.ChangeShapes Go.WideShapes Go.ChangeAt Go.RowKit Go.Deep

theorem numN_bd {l : Key} (h : l.length ≤ 4) : numN l ≤ 4294967295 := by
  have h1 := numN_lt l
  have h4 : l.length = 0 ∨ l.length = 1 ∨ l.length = 2 ∨ l.length = 3 ∨ l.length = 4 := by omega
  rcases h4 with e | e | e | e | e <;> rw [e] at h1 <;> omega
theorem numN_step {l : Key} {j : Nat} (hj : j < l.length) : numN (l.drop j) = (l.getD j 0).toNat + 256 * numN (l.drop (j + 1)) := by
  rw [List.drop_eq_getElem_cons hj]
  simp [numN, List.getD_eq_getElem?_getD, hj]
set_option maxRecDepth 100000 in
set_option maxHeartbeats 2000000 in
theorem number2_any (l : Key) (x : Value) (w : World) (h : BV w x l) (hl : l.length ≤ 4) :
    Calls Try.prog 106 #[x] w fun e w' => e = .returned (.int .i64 ((numN l : Nat) : Int)) ∧ w' = w := by
  obtain ⟨ao, cap, rfl, _, hs⟩ := h
  have HS := Lib.hid hs
  have HE : ∃ n, l.length = n := ⟨_, rfl⟩
  obtain ⟨n, en⟩ := HE
  have HN := Lib.hid en
  rw [en] at hl ⊢
  have HB := Lib.hid (show ∀ j, numN (l.drop j) ≤ 4294967295 from fun j => numN_bd (by simp; omega))
  clear hs en
  go_enter Try.func106, Try.ntmps106
  go_wp2_with fail
  go_loopw [3, 4] (fun a i wr => ∃ j : Nat, j ≤ n ∧ i = .int .i64 ((j : Int) - 1) ∧ a = .int .i64 ((numN (l.drop j) : Nat) : Int) ∧ Hid (wr = w)) (fun _ i _ => (intOf i + 1).toNat)
  case atStart => exact ⟨n, Nat.le_refl _, rfl, by rw [← HN.out, List.drop_length]; rfl, Lib.hid rfl⟩
  obtain ⟨j, hj, rfl, rfl, HW⟩ := hrel
  obtain rfl := HW.out
  by_cases h0 : 0 < j
  · obtain ⟨b, off, rfl, hc⟩ := HS.out (j - 1) (by rw [ub_length, HN.out]; omega)
    rw [ub_getD _ _ (by rw [HN.out]; omega)] at hc
    have HST := Lib.hid (numN_step (l := l) (j := j - 1) (by rw [HN.out]; omega))
    rw [show j - 1 + 1 = j by omega] at HST
    have hbd := HB.out j
    have hbd2 := HB.out (j - 1)
    have hcb := (l.getD (j - 1) 0).toNat_lt
    generalize (l.getD (j - 1) 0).toNat = y at *
    generalize numN (l.drop j) = a at *
    have hy : y ≤ 255 := by omega
    obtain ⟨m, rfl⟩ : ∃ m, j = m + 1 := ⟨j - 1, by omega⟩
    rw [show m + 1 - 1 = m by omega] at hc HST hbd2
    have e1 : ((m + 1 : Nat) : Int) - 1 = (m : Int) := by omega
    have d1 : decide ((0 : Int) ≤ (m : Int)) = true := by rw [decide_eq_true_iff]; omega
    have i1 : (m : Int) < (n : Int) := by omega
    have i2 : (0 : Int) ≤ (m : Int) := by omega
    rw [e1]
    clear e1 hcb
    go_wp2_with fail
    go_roundw
    case rel => exact ⟨m, by omega, rfl, by rw [HST.out]; first | (congr 1; omega) | go_num, Lib.hid trivial⟩
    case measure => simp [intOf]
  · obtain rfl : j = 0 := by omega
    have d1 : decide ((0 : Int) ≤ ((0 : Nat) : Int) - 1) = false := by decide
    have HE : ∃ z : Int, ((0 : Nat) : Int) - 1 = z := ⟨_, rfl⟩
    obtain ⟨z, ez⟩ := HE
    rw [ez] at d1 ⊢
    rw [List.drop_zero]
    clear ez
    go_wp2_with fail
    go_ret
    exact ⟨rfl, rfl⟩
/-- What the definition makes of bytes: their pairs, in new memory, and whether they are as many as the bytes say. -/
def ListedP (l : Key) (w : World) (e : Ending) (w' : World) : Prop :=
  (listedF l = none ∧ e = .returned (.tuple #[.slice none 0 0, .bool false]) ∧ Touch Nil w w') ∨
  (∃ P x, listedF l = some P ∧ e = .returned (.tuple #[x, .bool (decide (P.length = numN (l.take 4)))]) ∧ PL w' x P ∧ Touch Nil w w')
theorem pair_us {base B1 B2 : Nat} {w4 : World} {k u : Key} {ka ua : Option Addr} {kl ul kc uc : Nat} (hk : OwnB B1 w4 (.slice ka kl kc) k) (hu : OwnB B2 w4 (.slice ua ul uc) u) :
    ∀ j v, ([.slice ka kl kc, .slice ua ul uc] : List Value)[j]? = some v → (w4.alloc (.cells #[.slice ka kl kc, .slice ua ul uc] 45)).cell? ⟨w4.heap.size, j, none⟩ = some v ∧ KF base (w4.alloc (.cells #[.slice ka kl kc, .slice ua ul uc] 45)) v (pairF (k, u) j) := fun j v hj => by
  have HTA := (Touch.refl Nil w4).alloc (.cells #[.slice ka kl kc, .slice ua ul uc] 45)
  refine ⟨by rw [cell_new]; simpa using hj, ?_⟩
  match j, hj with
  | 0, hj => cases hj; exact (KF.ofOwn hk).keepN HTA
  | 1, hj => cases hj; exact (KF.ofOwn hu).keepN HTA
set_option maxRecDepth 100000 in
set_option maxHeartbeats 4000000 in
theorem listed_any {w : World} {x : Value} {l : Key} (hb : BC w x l) (hm : l.length ≤ 1000000) :
    Calls Try.prog 80 #[x] w (ListedP l w) := by
  have HB := Lib.hid hb
  obtain ⟨xa, xn, xc, rfl, hxn, _⟩ := hb
  have HXN := Lib.hid hxn
  rw [← hxn] at hm
  go_enter Try.func80, Try.ntmps80
  by_cases h4 : xn < 4
  · have q1 : decide ((xn : Int) < 4) = true := by simp; omega
    have q2 : decide (xn < 4) = true := by simpa using h4
    clear hxn
    go_wp2_with fail
    ((try simp only [Exit.inBlock, Exit.then]); refine bodyPost_ret (results_tmp2 rfl _ _ _) rfl ?_)
    exact .inl ⟨by unfold listedF; rw [if_pos (by have := HXN.out; omega)], rfl, Touch.refl _ _⟩
  have q1 : decide ((xn : Int) < 4) = false := by simp; omega
  have q2 : decide (xn < 4) = false := by simpa using h4
  obtain ⟨a3, n3, c3, hcut, hb3, hn3⟩ := cut_h HB.out (k := 4) (by omega)
  rw [show ((4 : Nat) : Int) = 4 from rfl] at hcut
  subst hn3
  have HN3 := Lib.hid (number2_any (l.take 4) _ w hb3.bv (by rw [List.length_take]; omega))
  obtain ⟨n, en⟩ : ∃ n, numN (l.take 4) = n := ⟨_, rfl⟩
  have HEN := Lib.hid en
  rw [en] at HN3
  have hnb : n ≤ 4294967295 := by rw [← en]; exact numN_bd (by rw [List.length_take]; omega)
  obtain ⟨F, eF⟩ : ∃ F, listedF l = F := ⟨_, rfl⟩
  have HF := Lib.hid (show listF l.length (l.drop 4) = F from by rw [← eF]; unfold listedF; rw [if_neg (by omega)])
  have HEF := Lib.hid eF
  have h4' : 4 ≤ xn := by omega
  clear hxn en eF hb3 h4
  go_wp2_with fail
  refine HN3.out.mono ?_
  rintro e w' ⟨rfl, hw⟩
  rw [hw]
  clear hw hcut HN3
  go_wp2_with fail
  go_loopw [5, 6] (fun at' o wr => ∃ (a : Nat) (oa : Option Addr) (ol oc : Nat), a ≤ xn ∧ at' = .int .i64 (a : Int) ∧ o = .slice oa ol oc ∧ Hid (∃ (P : Pairs) (m : Nat), PO w.heap.size wr (.slice oa ol oc) P ∧ P.length + (xn - a) ≤ xn ∧ xn - a ≤ m ∧ F = match listF m (l.drop a) with | none => none | some Q => some (P ++ Q)) ∧ Touch Nil w wr) (fun i _ _ => xn - (intOf i).toNat)
  case atStart => exact ⟨4, none, 0, 0, h4', rfl, rfl, Lib.hid ⟨[], l.length, OL.nil, by simp, by have := HXN.out; omega, by rw [HF.out]; cases F <;> rfl⟩, Touch.refl _ _⟩
  obtain ⟨a, oa, ol, oc, hax, rfl, rfl, HR, ht⟩ := hrel
  have HT := Lib.hid ht
  clear ht
  by_cases hlt : a < xn
  · have r1 : decide ((a : Int) < (xn : Int)) = true := by simp; omega
    have r2 : decide (a < xn) = true := by simpa using hlt
    by_cases hs : xn - a < 4
    · have r3 : decide ((xn : Int) - (a : Int) < 4) = true := by simp; omega
      have HSH := Lib.hid (And.intro hlt hs)
      clear hlt hs
      go_wp2_with fail
      ((try simp only [Exit.inBlock, Exit.then]); refine bodyPost_ret (results_tmp2 rfl _ _ _) rfl ?_)
      refine .inl ⟨?_, rfl, HT.out⟩
      obtain ⟨P, m, _, _, _, h⟩ := HR.out
      rw [HEF.out, h, listF_short (by rw [List.length_drop]; have := HSH.out; have := HXN.out; omega) (by rw [List.length_drop]; have := HSH.out; have := HXN.out; omega)]
    have r3 : decide ((xn : Int) - (a : Int) < 4) = false := by simp; omega
    -- the lengths
    obtain ⟨xb, xo, rfl⟩ : ∃ xb xo, xa = some ⟨xb, xo, none⟩ := by
      obtain ⟨_, _, _, e, hl, _, _, hsl⟩ := HB.out
      cases e
      obtain ⟨b, off, e, _⟩ := hsl 0 (by rw [ub_length]; omega)
      exact ⟨b, off, e⟩
    have hc1 : wr.cell? ⟨xb, xo + (a + 1), none⟩ = some (.int .u8 (((l.getD (a + 1) 0).toNat : Nat) : Int)) := by
      obtain ⟨_, _, _, e, hl, _, _, hsl⟩ := HB.out.keepN HT.out
      cases e
      obtain ⟨b, off, e, hc⟩ := hsl (a + 1) (by rw [ub_length]; omega)
      cases e
      rw [ub_getD _ _ (by omega)] at hc
      exact hc
    obtain ⟨k, ek⟩ : ∃ k, (l.getD (a + 1) 0).toNat = k := ⟨_, rfl⟩
    rw [ek] at hc1
    have hk255 : k ≤ 255 := by rw [← ek]; have := (l.getD (a + 1) 0).toNat_lt; omega
    obtain ⟨a4, n4, c4, hcut4, hb4, hn4⟩ := cut_lh (HB.out.keepN HT.out) (i := a + 2) (j := a + 4) (by omega) (by omega)
    obtain rfl : n4 = 2 := by omega
    have hd4 : (l.take (a + 4)).drop (a + 2) = ((l.drop a).drop 2).take 2 := by
      rw [List.drop_take, List.drop_drop]
      congr 1
      omega
    rw [hd4] at hb4
    obtain ⟨v, ev⟩ : ∃ v, numN (((l.drop a).drop 2).take 2) = v := ⟨_, rfl⟩
    have hv : v ≤ 65535 := by
      rw [← ev]
      have h1 := numN_lt (((l.drop a).drop 2).take 2)
      have h2 : (((l.drop a).drop 2).take 2).length ≤ 2 := by rw [List.length_take]; omega
      have h3 : 256 ^ (((l.drop a).drop 2).take 2).length ≤ 256 ^ 2 := Nat.pow_le_pow_right (by omega) h2
      omega
    have HN4 := Lib.hid (fun q => number2_any (((l.drop a).drop 2).take 2) _ (wr.drewN q) (hb4.bv.keepN ((Touch.refl Nil wr).drewN q)) (by rw [List.length_take]; omega))
    simp only [ev] at HN4
    have HEK := Lib.hid (And.intro ek ev)
    have hca2 : ((a + 2 : Nat) : Int) = (a : Int) + 2 := by omega
    have hca4 : ((a + 4 : Nat) : Int) = (a : Int) + 4 := by omega
    rw [hca2, hca4] at hcut4
    have i1 : (a : Int) + 1 < (xn : Int) := by omega
    have i2 : (0 : Int) ≤ (a : Int) + 1 := by omega
    have i3 : ((a : Int) + 1).toNat = a + 1 := by omega
    have HA := Lib.hid (show a + 4 ≤ xn from by omega)
    clear ek ev hb4 hd4 hca2 hca4 hs hlt
    go_wp2_with fail
    go_quiet ((go_at_call 106; refine Calls.quiet_of_same (v := .int .i64 (v : Int)) ?_; exact (HN4.out _).mono fun _ _ h => ⟨h.1, h.2⟩))
    obtain ⟨w2, ew2⟩ : ∃ w2, wr.drewN nq = w2 := ⟨_, rfl⟩
    have HT2 := Lib.hid (show Touch Nil wr w2 from by rw [← ew2]; exact (Touch.refl Nil wr).drewN _)
    rw [ew2]
    have HHR := Lib.hid (show ∃ (P : Pairs) (m : Nat), PO w.heap.size w2 (.slice oa ol oc) P ∧ P.length + (xn - a) ≤ xn ∧ xn - a ≤ m ∧ F = match listF m (l.drop a) with | none => none | some Q => some (P ++ Q) from by
      obtain ⟨P, m, h1, h2⟩ := HR.out
      exact ⟨P, m, h1.keepN HT2.out, h2⟩)
    obtain ⟨d, ed⟩ : ∃ d, l.drop (a + 4) = d := ⟨_, rfl⟩
    have hdl : d.length + (a + 4) = xn := by rw [← ed, List.length_drop]; have := HXN.out; have := HA.out; omega
    have HD := Lib.hid ed
    have HDL := Lib.hid hdl
    have HSTEP := Lib.hid (fun m => listF_step (n := m) (l := l.drop a) (d := d) (k := k) (v := v) (by rw [List.length_drop]; have := HXN.out; have := HA.out; omega) (by rw [List.length_drop]; have := HXN.out; have := HA.out; omega) (by rw [← HEK.out.1]; simp [List.getD_eq_getElem?_getD, List.getElem?_drop]) HEK.out.2 (by rw [List.drop_drop, ← HD.out]))
    clear ew2 ed hc1 hcut4 i1 i2 i3 HN4 HR r3
    by_cases hs : xn - (a + 4) < k + v
    · have r4 : decide ((xn : Int) - ((a : Int) + 4) < (k : Int) + (v : Int)) = true := by simp; have := HA.out; omega
      have HSH := Lib.hid hs
      have hax4 := HA.out
      clear hs
      go_wp2_with fail
      ((try simp only [Exit.inBlock, Exit.then]); refine bodyPost_ret (results_tmp2 rfl _ _ _) rfl ?_)
      refine .inl ⟨?_, rfl, HT.out.trans HT2.out⟩
      obtain ⟨P, m, _, _, hm', h⟩ := HHR.out
      obtain ⟨m, rfl⟩ : ∃ m', m = m' + 1 := ⟨m - 1, by omega⟩
      rw [HEF.out, h, HSTEP.out, if_pos (by have := HSH.out; have := HDL.out; omega)]
    have r4 : decide ((xn : Int) - ((a : Int) + 4) < (k : Int) + (v : Int)) = false := by simp; have := HA.out; omega
    have HNS := Lib.hid hs
    obtain ⟨a5, n5, c5, hcut5, hb5, hn5⟩ := cut_lh HB.out (i := a + 4) (j := a + 4 + k) (by omega) (by have := HDL.out; omega)
    obtain ⟨a6, n6, c6, hcut6, hb6, hn6⟩ := cut_lh HB.out (i := a + 4 + k) (j := a + 4 + k + v) (by omega) (by have := HDL.out; omega)
    obtain rfl : n5 = k := by omega
    obtain rfl : n6 = v := by omega
    have hd5 : (l.take (a + 4 + n5)).drop (a + 4) = d.take n5 := by
      rw [List.drop_take, HD.out]
      congr 1
      omega
    have hd6 : (l.take (a + 4 + n5 + n6)).drop (a + 4 + n5) = (d.drop n5).take n6 := by
      rw [List.drop_take, ← HD.out, List.drop_drop]
      congr 1
      omega
    rw [hd5] at hb5
    rw [hd6] at hb6
    obtain ⟨kk, ekk⟩ : ∃ kk, d.take n5 = kk := ⟨_, rfl⟩
    obtain ⟨uu, euu⟩ : ∃ uu, (d.drop n5).take n6 = uu := ⟨_, rfl⟩
    rw [ekk] at hb5
    rw [euu] at hb6
    have HKU := Lib.hid (And.intro ekk euu)
    have e5 : ((a + 4 : Nat) : Int) = (a : Int) + 4 := by omega
    have e6 : ((a + 4 + n5 : Nat) : Int) = (a : Int) + 4 + (n5 : Int) := by omega
    have e7 : ((a + 4 + n5 + n6 : Nat) : Int) = (a : Int) + 4 + (n5 : Int) + (n6 : Int) := by omega
    rw [e5, e6] at hcut5
    rw [e6, e7] at hcut6
    have HCK := Lib.hid (fun w' (ht : Touch Nil w w') => copyR_any (hb5.bv.keepN ht) (by rw [← HKU.out.1, List.length_take]; omega))
    have HCU := Lib.hid (fun w' (ht : Touch Nil w w') => copyR_any (hb6.bv.keepN ht) (by rw [← HKU.out.2, List.length_take]; omega))
    obtain ⟨P, m, hpo, hpl, hm', hF⟩ := HHR.out
    have HPO := Lib.hid hpo
    have HPL := Lib.hid (And.intro hpl (And.intro hm' hF))
    have HWB := Lib.hid (show w.heap.size ≤ w2.heap.size from (HT.out.trans HT2.out).size)
    have hax4 := HA.out
    clear hs hb5 hb6 hd5 hd6 e5 e6 e7 ekk euu hn5 hn6 hpo hpl hm' hF HHR hdl
    have z1 : IntKind.i64.wrap ((a : Int) + 4 + (n5 : Int)) = (a : Int) + 4 + (n5 : Int) := by rw [IntKind.wrap_i64]; omega
    have z2 : IntKind.i64.wrap ((a : Int) + 4 + (n5 : Int) + (n6 : Int)) = (a : Int) + 4 + (n5 : Int) + (n6 : Int) := by rw [IntKind.wrap_i64]; omega
    go_wp2_with fail
    have HTW2 := Lib.hid (HT.out.trans HT2.out)
    go_region_held3 (fun w' => Hid (Touch Nil w w'))
      (first | (with_reducible exact Lib.hid (HTW2.out.drew)) | (with_reducible exact HT5) | (with_reducible exact Lib.hid (hT4.alloc _)) | (with_reducible exact Lib.hid hT4) | (with_reducible exact Lib.hid hT3))
      (first
      | (go_at_call_of 48 (Value.slice a5 n5 c5); refine (HCK.out _ (Hid.out (by assumption))).mono ?_; rintro e w3 ⟨v3, rfl, h3, ht3⟩; obtain ⟨va3, vl3, vc3, rfl⟩ := h3.form; have hT3 : Touch Nil w w3 := HTW2.out.drew.trans ht3; have H3 := Lib.hid h3; have HX3 := Lib.hid (HPO.out.keepN ((Touch.refl Nil w2).drew.trans ht3)); clear h3 ht3)
      | (go_at_call_of 48 (Value.slice a6 n6 c6); refine (HCU.out _ hT3).mono ?_; rintro e w4 ⟨v4, rfl, h4, ht4⟩; obtain ⟨va4, vl4, vc4, rfl⟩ := h4.form; have hT4 : Touch Nil w w4 := hT3.trans ht4; have H4 := Lib.hid h4; have HK4 := Lib.hid (H3.out.keep ht4 (fun _ _ c => c)); have HX4 := Lib.hid ((HX3.out.keepN ht4).keepN ((Touch.refl Nil w4).alloc (.cells #[.slice va3 vl3 vc3, .slice va4 vl4 vc4] 45))); clear h4 ht4)
      | (refine step_append_el rfl (.tmp 47) (.tmp 67) rfl (.agg #[.slice none 0 0, .slice none 0 0]) Try.underlying26 infoPair rfl (by decide) (by decide) (by decide) (.slice oa ol oc) rfl HX4.out w4.heap.size 1 rfl [.slice va3 vl3 vc3, .slice va4 vl4 vc4] (kk, uu) rfl (pair_us HK4.out H4.out) (by have := HPL.out.1; have := HXN.out; omega) (hT4.alloc _).size ?_; intro v5 w5 ho5 ht5; have HT5 := Lib.hid (show Touch Nil w w5 from (hT4.alloc _).trans' ht5.out fun b hb hs => by have := HX4.out.base' b hs; omega); obtain ⟨va5, vl5, vc5, rfl⟩ := ho5.out.form3; have HO5 := ho5; clear ho5 ht5))
    clear hT3 hT4 H3 H4 HX3 HK4 HX4 HCK HCU hcut5 hcut6 HPO
    go_wp2_with fail
    go_roundw
    case rel =>
      refine ⟨a + 4 + n5 + n6, va5, vl5, vc5, by have := HNS.out; omega, by congr 1; omega, rfl, Lib.hid ⟨P ++ [(kk, uu)], m - 1, HO5.out, by rw [List.length_append]; have := HPL.out.1; have := HNS.out; simp; omega, by have := HPL.out.2.1; omega, ?_⟩, HT5.out⟩
      obtain ⟨m', em⟩ : ∃ m', m = m' + 1 := ⟨m - 1, by have := HPL.out.2.1; omega⟩
      rw [HPL.out.2.2, em, HSTEP.out, if_neg (by have := HNS.out; have := HDL.out; omega), HKU.out.1, HKU.out.2, ← HD.out, List.drop_drop, Nat.add_sub_cancel, show a + 4 + (n5 + n6) = a + 4 + n5 + n6 by omega]
      cases listF m' (l.drop (a + 4 + n5 + n6)) with
      | none => rfl
      | some Q => simp
    case measure => simp [intOf] <;> omega
  · obtain rfl : a = xn := by omega
    have r1 : decide ((a : Int) < (a : Int)) = false := by simp
    have r2 : decide (a < a) = false := by simp
    obtain ⟨P, m, hpo, _, _, hF⟩ := HR.out
    have hol : ol = P.length := hpo.rl.len
    have HPO := Lib.hid hpo.rl
    have HFF := Lib.hid (show F = some P from by
      rw [hF, List.drop_eq_nil_of_le (by have := HXN.out; omega), listF_nil]
      simp)
    subst hol
    clear hpo hF HR hlt
    go_wp2_with fail
    ((try simp only [Exit.inBlock, Exit.then]); refine bodyPost_ret (results_tmp2 rfl _ _ _) rfl ?_)
    refine .inr ⟨P, _, HEF.out.trans HFF.out, ?_, HPO.out, HT.out⟩
    rw [HEN.out]
    have hbq : (((P.length : Nat) : Int) == (n : Int)) = decide (P.length = n) := by
      rw [Bool.eq_iff_iff, beq_iff_eq, decide_eq_true_iff]
      omega
    rw [← hbq]
    rfl
end Go.Proofs.Ytkkpcndpjkebkaa

/- The definition's Load. -/
namespace Go.Proofs.Ytkkpcndpjkebkaa
open Go.ChangeShapes Go.WideShapes Go.ChangeAt Go.RowKit Go.Deep

/-- What the definition's Load returns. -/
def LoadRP (seed : Int) (l : Key) (w : World) (e : Ending) (w' : World) : Prop :=
  ∃ x is, e = .returned (.tuple #[x, .bool is]) ∧ (∃ ao n cap, x = .slice ao n cap) ∧ Touch Nil w w' ∧ ((loadF seed l = none ∧ is = false) ∨ (∃ t, loadF seed l = some t ∧ is = true ∧ PL w' x t.toL))
theorem hasF_take {P : Pairs} {y : Nat} {p : Key × Key} (hp : P[y]? = some p) (h : hasF p.1 (insAll (P.take y) []) = true) : ¬ (P.map Prod.fst).Nodup := by
  intro hn
  obtain ⟨q, hq, e⟩ := hasF_at h
  have hm := List.mem_of_getElem? hq
  rcases insAll_mem _ hm with hm | hm
  · obtain ⟨i, hi, ei⟩ := List.getElem_of_mem hm
    rw [List.length_take] at hi
    rw [List.getElem_take] at ei
    have hy : y < P.length := (List.getElem?_eq_some_iff.1 hp).1
    have hpy : P[y] = p := (List.getElem?_eq_some_iff.1 hp).2
    have := (List.pairwise_iff_getElem.1 hn) i y (by rw [List.length_map]; omega) (by rw [List.length_map]; omega) (by omega)
    rw [List.getElem_map, List.getElem_map, ei, hpy] at this
    exact this e
  · cases hm
set_option maxRecDepth 100000 in
set_option maxHeartbeats 4000000 in
theorem loadR_any {seed : Int} {w : World} {x : Value} {l : Key} (hb : BC w x l) (hm : l.length ≤ 1000000) :
    Calls Try.prog 29 #[.int .u64 seed, x] w (LoadRP seed l w) := by
  have HB := Lib.hid hb
  have HLI := Lib.hid (listed_any hb hm)
  have HM := Lib.hid hm
  obtain ⟨xa, xn, xc, rfl, hxn, _⟩ := hb
  clear hxn hm
  go_enter Try.func29, Try.ntmps29
  go_wp2_with fail
  refine HLI.out.mono ?_
  rintro e w1 (⟨h1, rfl, ht1⟩ | ⟨P, v, h1, rfl, hp, ht1⟩)
  · have HT1 := Lib.hid ht1
    clear ht1
    go_wp2_with fail
    ((try simp only [Exit.inBlock, Exit.then]); refine bodyPost_ret (results_tmp2 rfl _ _ _) rfl ?_)
    exact ⟨_, _, rfl, ⟨_, _, _, rfl⟩, HT1.out, .inl ⟨load_unlisted h1, rfl⟩⟩
  have HT1 := Lib.hid ht1
  have HP := Lib.hid hp
  have HL := Lib.hid h1
  have hpl : P.length ≤ 1000000 := by
    have h := h1
    unfold listedF at h
    split at h
    · cases h
    · have := (listF_bd _ _ _ h).1
      rw [List.length_drop] at this
      have := HM.out
      omega
  obtain ⟨ao, cap, rfl⟩ := hp.form
  obtain ⟨n, en⟩ : ∃ n, P.length = n := ⟨_, rfl⟩
  have HN := Lib.hid en
  rw [en] at HP hpl
  obtain ⟨ok, eok⟩ : ∃ ok, decide (P.length = numN (l.take 4)) = ok := ⟨_, rfl⟩
  rw [eok, en]
  have HBD := Lib.hid (show ∀ p ∈ P, p.1.length ≤ 1000000 ∧ p.2.length ≤ 1000000 from by
    have h := h1
    unfold listedF at h
    split at h
    · cases h
    · intro p hp
      have := (listF_bd _ _ _ h).2 p hp
      rw [List.length_drop] at this
      have := HM.out
      omega)
  have HNO := Lib.hid (fun h => load_not (seed := seed) h1 h)
  clear hp ht1 h1 HLI
  cases ok with
  | false =>
    have HX := Lib.hid (of_decide_eq_false eok)
    clear eok
    go_wp2_with fail
    ((try simp only [Exit.inBlock, Exit.then]); refine bodyPost_ret (results_tmp2 rfl _ _ _) rfl ?_)
    exact ⟨_, _, rfl, ⟨_, _, _, rfl⟩, HT1.out, .inl ⟨Classical.byContradiction fun h => HX.out (HNO.out h).1, rfl⟩⟩
  | true =>
  clear eok
  by_cases h5 : 100000 < n
  · have q1 : decide ((100000 : Int) < (n : Int)) = true := by simp; omega
    have q2 : decide (100000 < n) = true := by simpa using h5
    go_wp2_with fail
    ((try simp only [Exit.inBlock, Exit.then]); refine bodyPost_ret (results_tmp2 rfl _ _ _) rfl ?_)
    exact ⟨_, _, rfl, ⟨_, _, _, rfl⟩, HT1.out, .inl ⟨Classical.byContradiction fun h => by have := (HNO.out h).2.1; have := HN.out; omega, rfl⟩⟩
  have q1 : decide ((100000 : Int) < (n : Int)) = false := by simp; omega
  have q2 : decide (100000 < n) = false := by simpa using h5
  have hn5 : n ≤ 100000 := by omega
  clear h5 hpl
  go_wp2_with fail
  go_loopw [8, 9] (fun o i wr => ∃ (y : Nat) (oa : Option Addr) (ol oc : Nat), y ≤ n ∧ i = .int .i64 (y : Int) ∧ o = .slice oa ol oc ∧ Hid (PL wr o (insAll (P.take y) []) ∧ OkL (P.take y)) ∧ Touch Nil w1 wr) (fun _ i _ => n - (intOf i).toNat)
  case atStart => exact ⟨0, none, 0, 0, Nat.zero_le _, rfl, rfl, Lib.hid ⟨RL.nil, fun p hp => by simp at hp⟩, Touch.refl _ _⟩
  obtain ⟨y, oa, ol, oc, hy, rfl, rfl, HO, hto⟩ := hrel
  have HT := Lib.hid hto
  clear hto
  by_cases hlt : y < n
  · obtain ⟨p, hp⟩ : ∃ p, P[y]? = some p := ⟨P[y]'(by have := HN.out; omega), List.getElem?_eq_getElem _⟩
    have HPR := Lib.hid (HP.out.keepN HT.out)
    obtain ⟨b, off, rfl, hb, f, hc, hf⟩ := HPR.out.at hp
    have c0 := hc 0 (by omega)
    have c1 := hc 1 (by omega)
    rw [Nat.add_zero] at c0
    have hk0 : BV wr (f 0) p.1 := hf 0 (by omega)
    have hu0 : BV wr (f 1) p.2 := hf 1 (by omega)
    have HPM := Lib.hid (HBD.out p (List.mem_of_getElem? hp))
    have HKB := Lib.hid hk0
    have HUB := Lib.hid hu0
    obtain ⟨fa, fc, ef⟩ := hk0.len'
    obtain ⟨ga, gc, eg⟩ := hu0.len'
    rw [ef] at c0 HKB
    rw [eg] at c1 HUB
    have HPE := Lib.hid hp
    have HTS := Lib.hid (show P.take (y + 1) = P.take y ++ [p] from by rw [List.take_add_one, hp]; rfl)
    have i1 : (y : Int) < (n : Int) := by omega
    have i2 : (0 : Int) ≤ (y : Int) := by omega
    have HST := Lib.hid (show LdB b (off + y * 2) (.slice fa p.1.length fc) (.slice ga p.2.length gc) wr wr from ⟨c0, c1, Lib.hid (Touch.refl _ _)⟩)
    clear hc hf hk0 hu0 ef eg hp
    have HAW : ∃ q : Bool, Hid (q = allowB p.1.length p.2.length) := ⟨_, Lib.hid rfl⟩
    obtain ⟨q, HQ⟩ := HAW
    have HAL := Lib.hid (fun w' => show Calls Try.prog 46 #[.slice fa p.1.length fc, .slice ga p.2.length gc] w' (fun e w'' => e = .returned (.bool q) ∧ w' = w'') from by
      rw [HQ.out]; exact allowedW_any p.1.length p.2.length fc gc fa ga w' (by have := HPM.out.1; omega) (by have := HPM.out.2; omega))
    have HSO := Lib.hid (show Short (insAll (P.take y) []) ∧ (insAll (P.take y) []).length ≤ 1000000 from ⟨OkL.short (OkL.ins HO.out.2 fun p hp => by cases hp), by have := insAll_len (P.take y) []; rw [List.length_take] at this; simp at this; omega⟩)
    have HHA := Lib.hid (fun w' (ht : Touch Nil wr w') => hasR_any (HO.out.1.keepN ht) HSO.out.1 HSO.out.2 (HKB.out.keepN ht) HPM.out.1)
    have HPT := Lib.hid (fun w' (ht : Touch Nil wr w') => putR_any (HO.out.1.keepN ht) HSO.out.1 HSO.out.2 (HKB.out.keepN ht) HPM.out.1 (HUB.out.keepN ht) HPM.out.2)
    have HKL := Lib.hid (show q = true → okK p.1 p.2 from fun hq => okK_iff.1 (by rw [← HQ.out, hq]))
    have HBADQ := Lib.hid (show q = false → loadF seed l = none from fun hq => Classical.byContradiction fun h => by
      have := (HNO.out h).2.2.1 p (List.mem_of_getElem? HPE.out)
      rw [← okK_iff, ← HQ.out, hq] at this
      cases this)
    have HBADH := Lib.hid (show hasF p.1 (insAll (P.take y) []) = true → loadF seed l = none from fun hq => Classical.byContradiction fun h => hasF_take HPE.out hq (HNO.out h).2.2.2)
    obtain ⟨hf, ehf⟩ : ∃ hf, hasF p.1 (insAll (P.take y) []) = hf := ⟨_, rfl⟩
    rw [ehf] at HHA HBADH
    clear ehf
    generalize p.1.length = kl at *
    generalize p.2.length = ul at *
    cases q with
    | false =>
      go_wp2_with fail
      go_quiet ((go_at_call 46; refine Calls.quiet_of_same (v := .bool false) ?_; exact (HAL.out _).mono fun _ _ h => ⟨h.1, h.2.symm⟩))
      go_wp2_with fail
      ((try simp only [Exit.inBlock, Exit.then]); refine bodyPost_ret (results_tmp2 rfl _ _ _) rfl ?_)
      exact ⟨_, _, rfl, ⟨_, _, _, rfl⟩, (HT1.out.trans HT.out).drewN _, .inl ⟨HBADQ.out (by first | exact trivial | rfl), rfl⟩⟩
    | true =>
      have HKL2 := Lib.hid (HKL.out rfl)
      have HINS := Lib.hid (show putF p.1 p.2 (insAll (P.take y) []) = insAll (P.take (y + 1)) [] from by
        rw [HTS.out, insAll_snoc]; exact putF_ins p.1 p.2 (insAll_srt _ List.Pairwise.nil))
      clear HKL
      go_wp2_with fail
      go_region_held3 (fun w' => w'.cell? ⟨b, off + y * 2, none⟩ = some (.slice fa kl fc) ∧ w'.cell? ⟨b, off + y * 2 + 1, none⟩ = some (.slice ga ul gc) ∧ Hid (Touch Nil wr w'))
        (first | exact HST.out.step (((Touch.refl Nil wr)).drew) | exact LdB.step (by assumption) (by assumption))
        (first
          | (go_at_call 46; refine (HAL.out _).mono ?_; rintro e w9 ⟨rfl, hw9⟩; have hw9 := hw9.symm; subst hw9)
          | (go_at_call 24; refine (HHA.out _ (Touch.refl Nil wr).drew).mono ?_; rintro e w3 ⟨rfl, ht3⟩; have H3 := Lib.hid (show Touch Nil wr w3 from Touch.trans ((Touch.refl Nil wr).drew) ht3)))
      cases hf with
      | true =>
        go_wp2_with fail
        ((try simp only [Exit.inBlock, Exit.then]); refine bodyPost_ret (results_tmp2 rfl _ _ _) rfl ?_)
        exact ⟨_, _, rfl, ⟨_, _, _, rfl⟩, (HT1.out.trans HT.out).trans H3.out, .inl ⟨HBADH.out (by first | exact trivial | rfl), rfl⟩⟩
      | false =>
        have HST3 := Lib.hid (HST.out.step H3.out)
        clear ht3 c0 c1
        try clear hHeld
        go_wp2_with fail
        go_region_held3 (fun w' => w'.cell? ⟨b, off + y * 2, none⟩ = some (.slice fa kl fc) ∧ w'.cell? ⟨b, off + y * 2 + 1, none⟩ = some (.slice ga ul gc) ∧ Hid (Touch Nil wr w'))
          (first | exact HST3.out.step ((Touch.refl Nil w3).drew) | exact HST.out.step H3.out.drew | exact LdB.step (by assumption) (by assumption))
          (first
            | (go_at_call 50; refine (HPT.out _ H3.out.drew).mono ?_; rintro e w4 ⟨v4, rfl, h4, ht4⟩; obtain ⟨va4, vl4, vc4, rfl⟩ := h4.form3; have H4 := Lib.hid (And.intro h4 (show Touch Nil wr w4 from Touch.trans H3.out.drew ht4)); clear h4))
        go_wp2_with fail
        go_roundw
        case rel => exact ⟨y + 1, va4, vl4, vc4, by omega, by go_num, rfl, Lib.hid ⟨by rw [← HINS.out]; exact H4.out.1, fun z hz => by
          rw [HTS.out, List.mem_append] at hz
          rcases hz with hz | hz
          · exact HO.out.2 z hz
          · rw [List.mem_singleton] at hz; rw [hz]; exact HKL2.out⟩, HT.out.trans H4.out.2⟩
        case measure => simp [intOf]; omega
  · obtain rfl : y = n := by omega
    have HF := Lib.hid (show P.take y = P from List.take_of_length_le (by have := HN.out; omega))
    have t1 : decide (y < y) = false := by simp
    have HO2 := Lib.hid (show PL wr (.slice oa ol oc) (insAll P []) ∧ OkL P from by have := HO.out; rw [HF.out] at this; exact this)
    have HSR := Lib.hid (insAll_srt P srt_nil)
    obtain ⟨t, ht, htl⟩ := tree_ex seed HSR.out
    have HTT := Lib.hid (And.intro ht htl)
    have HOK := Lib.hid (show OkL t.toL from by rw [htl]; exact OkL.ins HO2.out.2 (fun p hp => by cases hp))
    have HSZ := Lib.hid (show t.size ≤ 100000 from by rw [size_toL, htl]; have := insAll_len P []; simp at this; have := HN.out; omega)
    have HPT := Lib.hid (show PL wr (.slice oa ol oc) t.toL from by rw [htl]; exact HO2.out.1)
    have HIM := Lib.hid (imageR_any (seed := seed) (by rw [htl]; exact HSR.out) ht HOK.out HPT.out HSZ.out)
    have HLF := Lib.hid (load_list (seed := seed) HL.out ht htl HO2.out.2 (by have := HN.out; omega))
    have HIL := Lib.hid (imgB_len (okL'_of HOK.out) HSZ.out)
    clear ht htl hlt HO
    go_wp2_with fail
    refine HIM.out.mono ?_
    rintro e w3 ⟨x3, rfl, ho3, ht3⟩
    obtain ⟨a3, n3, c3, rfl⟩ := ho3.form
    have HT3 := Lib.hid (HT1.out.trans (HT.out.trans ht3))
    have HCM := Lib.hid (compareV_any ho3.bv (HB.out.keepN HT3.out).bv (by have := HIL.out; omega) (by have := HM.out; omega))
    have HP3 := Lib.hid (HPT.out.keepN ht3)
    obtain ⟨z, ez⟩ : ∃ z, cmpR (imgB t) l = z := ⟨_, rfl⟩
    have HZ := Lib.hid (show z = 0 ↔ imgB t = l from by rw [← ez]; exact cmpR_zero _ _)
    rw [ez] at HCM
    clear ho3 ht3 ez HIM
    go_wp2_with fail
    refine HCM.out.mono ?_
    rintro e w4 ⟨rfl, k4, rfl⟩
    go_wp2_with fail
    ((try simp only [Exit.inBlock, Exit.then]); refine bodyPost_ret (results_tmp2 rfl _ _ _) rfl ?_)
    refine ⟨_, _, rfl, ⟨_, _, _, rfl⟩, HT3.out.drewN _, ?_⟩
    by_cases hz : z = 0
    · exact .inr ⟨t, by rw [HLF.out, if_pos (HZ.out.1 hz)], by simp [hz], HP3.out.keepN ((Touch.refl Nil _).drewN _)⟩
    · exact .inl ⟨by rw [HLF.out, if_neg fun h => hz (HZ.out.2 h)], by simp [hz]⟩
end Go.Proofs.Ytkkpcndpjkebkaa

/- The program's Load. -/
namespace Go.Proofs.Ytkkpcndpjkebkaa
open Go.ChangeShapes Go.WideShapes Go.ChangeAt Go.RowKit Go.Deep

/-- What Load returns: no map, or the map of the bytes, in new memory. -/
def LoadP (seed : Int) (l : Key) (w : World) (e : Ending) (w' : World) : Prop :=
  (loadF seed l = none ∧ e = .returned (.tuple #[.pointer none, .int .i64 2]) ∧ Touch Nil w w') ∨
  (∃ t R mb bb ra, loadF seed l = some t ∧ e = .returned (.tuple #[.pointer (some ⟨mb, 0, none⟩), .int .i64 0]) ∧ MapAt seed R w' mb bb ra t ∧ w.heap.size ≤ mb ∧ w.heap.size ≤ bb ∧ (∀ b, R b → w.heap.size ≤ b) ∧ Touch Nil w w')
theorem reader_cells {b t : Nat} {x y z : Value} {w : World} (h : w.heap[b]? = some (.cells #[x, y, z] t (0, 0))) : w.cell? ⟨b, 0, none⟩ = some x ∧ w.cell? ⟨b, 1, none⟩ = some y ∧ w.cell? ⟨b, 2, none⟩ = some z := by
  refine ⟨?_, ?_, ?_⟩ <;> simp [World.cell?, h]
set_option maxRecDepth 100000 in
set_option maxHeartbeats 4000000 in
theorem load_any {seed : Int} {w : World} {x : Value} {l : Key} (hb : BC w x l) (hm : l.length ≤ 1000000000) :
    Calls Try.prog 30 #[.int .u64 seed, x] w (LoadP seed l w) := by
  have HB := Lib.hid hb
  obtain ⟨xa, xn, xc, rfl, hxn, _⟩ := hb
  clear hxn
  obtain ⟨rb, erb⟩ : ∃ rb, w.heap.size = rb := ⟨_, rfl⟩
  have HRB := Lib.hid erb
  have HM := Lib.hid hm
  clear hm
  go_enter Try.func30, Try.ntmps30
  go_wp2_with fail
  obtain ⟨w1, ew1⟩ : ∃ w1, w.alloc (.cells #[.int .u64 seed, .slice xa xn xc, .slice none 0 0] 146) = w1 := ⟨_, rfl⟩
  have HT1 := Lib.hid (show Touch Nil w w1 from by rw [← ew1]; exact (Touch.refl Nil w).alloc _)
  have HR1 := Lib.hid (show RdAt seed w1 rb (.slice xa xn xc) (.slice none 0 0) from by rw [← ew1, ← HRB.out]; exact heap_alloc_new _ _)
  have HS1 := Lib.hid (show w1.heap.size = rb + 1 from by rw [← ew1, ← HRB.out]; simp)
  rw [ew1]
  have HN := Lib.hid (number_any HR1.out (HB.out.keepN HT1.out))
  clear ew1 erb
  go_wp2_with fail
  refine HN.out.mono ?_
  rintro e w2 (⟨h1, rfl, rfl⟩ | ⟨h1, a2, n2, c2, rfl, hr2, hb2, hn2, ht2⟩)
  · go_wp2_with fail
    ((try simp only [Exit.inBlock, Exit.then]); refine bodyPost_ret (results_tmp2 rfl _ _ _) rfl ?_)
    exact .inl ⟨by unfold loadF; rw [if_pos h1], rfl, HT1.out⟩
  obtain ⟨n, en⟩ : ∃ n, numN (l.take 4) = n := ⟨_, rfl⟩
  rw [en]
  have HLF := Lib.hid (show loadF seed l = if 100000 < n then none else match parseT seed l.length none (decide (0 < n)) [] (l.drop 4) with
    | none => none
    | some (t, _, l') => if t.size = n ∧ l' = [] then some t else none from by
    unfold loadF
    rw [if_neg (by omega), en]
    generalize parseT seed l.length none (decide (0 < n)) [] (l.drop 4) = P
    cases P <;> rfl)
  have HX2 := Lib.hid (And.intro hr2 (And.intro hb2 hn2))
  have HT2 := Lib.hid (show Touch (Just rb) w w2 from HT1.out.of_nil.trans ht2)
  have HS2 := Lib.hid (show rb + 1 ≤ w2.heap.size from by have := ht2.size; have := HS1.out; omega)
  clear en h1 hr2 hb2 hn2 ht2 HN
  have LOW : ∀ W, Touch (Just rb) w W → Touch Nil w W := fun W h => h.mono fun b hb hs => by have hs : b = rb := hs; have := HRB.out; omega
  have HLOW := Lib.hid LOW
  clear LOW
  by_cases hlt : 100000 < n
  · have q1 : decide ((100000 : Int) < (n : Int)) = true := by simp; omega
    have q2 : decide (100000 < n) = true := by simpa using hlt
    go_wp2_with fail
    ((try simp only [Exit.inBlock, Exit.then]); refine bodyPost_ret (results_tmp2 rfl _ _ _) rfl ?_)
    exact .inl ⟨by rw [HLF.out, if_pos hlt], rfl, HLOW.out _ HT2.out⟩
  have q1 : decide ((100000 : Int) < (n : Int)) = false := by simp; omega
  have q2 : decide (100000 < n) = false := by simpa using hlt
  have HNL := Lib.hid (nodesL_any (seed := seed) (R := fun b => rb < b) (rb := rb) (by omega) l.length (bo := decide (0 < n)) (tv := .pointer none) (top := none) (by rw [List.length_drop]; omega) (by rw [List.length_drop]; have := HM.out; omega) HX2.out.1 HX2.out.2.1 (BV.nil w2) rfl (fun b hb => by have := HS2.out; omega))
  rw [if_neg hlt] at HLF
  obtain ⟨P, eP⟩ : ∃ P, parseT seed l.length none (decide (0 < n)) [] (l.drop 4) = P := ⟨_, rfl⟩
  rw [eP] at HLF HNL
  have HEP := Lib.hid eP
  obtain ⟨bo, ebo⟩ : ∃ bo, decide (0 < n) = bo := ⟨_, rfl⟩
  rw [ebo] at HNL
  have q3 : decide ((0 : Int) < (n : Int)) = bo := by rw [← ebo]; simp
  have q4 : decide (0 < n) = bo := ebo
  have HSN := Lib.hid (fun t last l' (h : P = some (t, last, l')) => show Srt t.toL ∧ t.Heap (abv seed) from by
    obtain ⟨_, _, _, h1, h2, _⟩ := parse_sound seed _ (HEP.out.trans h)
    exact ⟨h1, h2⟩)
  have HLT := Lib.hid hlt
  clear eP ebo hlt HB
  go_wp2_with fail
  try rw [q4]
  refine HNL.out.mono ?_
  rintro e w3 (⟨h3, rfl, ht3⟩ | ⟨t, last, l3, v, a3, n3, c3, la3, ln3, lc3, h3, rfl, htr, hr3, hb3, hl3, ht3⟩)
  · have HT3 := Lib.hid (HT2.out.trans ht3)
    clear ht3
    go_wp2_with fail
    ((try simp only [Exit.inBlock, Exit.then]); refine bodyPost_ret (results_tmp2 rfl _ _ _) rfl ?_)
    exact .inl ⟨by rw [HLF.out, h3], rfl, HLOW.out _ HT3.out⟩
  have HT3 := Lib.hid (HT2.out.trans ht3)
  obtain ⟨va, rfl⟩ := htr.form
  have HTR := Lib.hid htr
  have HSO := Lib.hid (sizeOf_any htr)
  have hsn := HSN.out _ _ _ h3
  have hs3 : w2.heap.size ≤ w3.heap.size := ht3.size
  obtain ⟨z, ez⟩ : ∃ z, t.size = z := ⟨_, rfl⟩
  have hn3 : n3 = l3.length := by obtain ⟨_, _, _, e, h1, _⟩ := hb3; cases e; exact h1
  obtain ⟨s0, s1, s2, f1, f2⟩ := hr3.cells
  have HZ := Lib.hid ez
  have HSN3 := Lib.hid hsn
  have HS3 := Lib.hid hs3
  have HL3 := Lib.hid hn3
  rw [ez] at HSO
  have HLF3 := Lib.hid (show loadF seed l = if z = n ∧ n3 = 0 then some t else none from by
    rw [HLF.out, h3, ← HZ.out]
    simp only [HL3.out, List.length_eq_zero_iff])
  clear htr hsn hs3 ez hn3 hr3 hb3 hl3 ht3 h3 HSN HNL HLF HEP s0 s2 f1 f2 HX2
  by_cases hz : z = n
  · subst hz
    by_cases hl : n3 = 0
    · subst hl
      have HNM := Lib.hid (newMap_any (seed := seed) (R := fun b => rb < b ∧ b < w3.heap.size) (w := w3) (v := .pointer va) (t := t) (HTR.out.mono fun b hb hr => ⟨hr, hb⟩) (fun b hb => hb.2) HSN3.out.1 HSN3.out.2 (by rw [HZ.out]; have := HLT.out; omega))
      go_wp2_with fail
      refine HSO.out.mono ?_
      rintro e w' ⟨rfl, rfl⟩
      go_wp2_with fail
      refine HNM.out.mono ?_
      rintro e w4 ⟨mb, bb, ra, rfl, hm4, hmb, hbb, _, ht4⟩
      have HM4 := Lib.hid (And.intro hm4 (And.intro hmb (And.intro hbb ht4)))
      clear hm4 hmb hbb ht4
      go_wp2_with fail
      ((try simp only [Exit.inBlock, Exit.then]); refine bodyPost_ret (results_tmp2 rfl _ _ _) rfl ?_)
      exact .inr ⟨t, _, mb, bb, ra, by rw [HLF3.out]; simp, rfl, HM4.out.1, by have := HM4.out.2.1; have := HS3.out; have := HS2.out; have := HRB.out; omega, by have := HM4.out.2.2.1; have := HS3.out; have := HS2.out; have := HRB.out; omega, (fun b hb => by have := hb.1; have := HRB.out; omega), HLOW.out _ (HT3.out.trans HM4.out.2.2.2.of_nil)⟩
    · have q5 : decide ((0 : Int) < (n3 : Int)) = true := by simp; omega
      have q6 : decide (0 < n3) = true := by simp; omega
      go_wp2_with fail
      refine HSO.out.mono ?_
      rintro e w' ⟨rfl, rfl⟩
      go_wp2_with fail
      ((try simp only [Exit.inBlock, Exit.then]); refine bodyPost_ret (results_tmp2 rfl _ _ _) rfl ?_)
      exact .inl ⟨by rw [HLF3.out, if_neg (by omega)], rfl, HLOW.out _ HT3.out⟩
  · have q4 : ((z : Int) != (n : Int)) = true := by simp; omega
    have q5 : (z != n) = true := by simp; omega
    go_wp2_with fail
    refine HSO.out.mono ?_
    rintro e w' ⟨rfl, rfl⟩
    go_wp2_with fail
    ((try simp only [Exit.inBlock, Exit.then]); refine bodyPost_ret (results_tmp2 rfl _ _ _) rfl ?_)
    exact .inl ⟨by rw [HLF3.out, if_neg (fun h => hz h.1)], rfl, HLOW.out _ HT3.out⟩
end Go.Proofs.Ytkkpcndpjkebkaa
