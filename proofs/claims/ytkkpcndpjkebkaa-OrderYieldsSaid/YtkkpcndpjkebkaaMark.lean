import Derived.Test.YtkkpcndpjkebkaaDigest
/- The digest of a node, of the reference. -/
namespace Go.Proofs.Ytkkpcndpjkebkaa
open Go.ChangeShapes Go.WideShapes Go.ChangeAt Go.RowKit Go.Deep

theorem leB_one (x : Nat) : leB x 1 = [lo x] := by simp [leB]
set_option maxRecDepth 100000 in
set_option maxHeartbeats 4000000 in
theorem mark_any (seed : Int) (k v : Key) (kx vx : Value) (dl dr : Nat) (w : World) (hk : BV w kx k) (hv : BV w vx v) (hkl : k.length ≤ 1000000) (hvl : v.length ≤ 1000000) (hdl : dl ≤ 18446744073709551615) (hdr : dr ≤ 18446744073709551615) :
    Calls Try.prog 59 #[.int .u64 seed, .int .u64 (dl : Int), kx, vx, .int .u64 (dr : Int)] w (DigPost (markN seed dl k v dr) w) := by
  have hK := hk
  have hV := hv
  obtain ⟨ka, kc, rfl, _, _⟩ := hk
  obtain ⟨va, vc, rfl, _, _⟩ := hv
  have HK := Lib.hid hK
  have HV := Lib.hid hV
  have HMC := Lib.hid (markN_cast seed dl k v dr)
  have HTOLD := Lib.hid (show toldB dl k v dr = leB dl 8 ++ leB k.length 1 ++ k ++ leB v.length 2 ++ v ++ leB dr 8 from by rw [leB_one]; rfl)
  unfold markI at HMC
  generalize markN seed dl k v dr = d at *
  generalize toldB dl k v dr = told at *
  have HE : ∃ kl, k.length = kl := ⟨_, rfl⟩
  obtain ⟨kl, ekl⟩ := HE
  have HE : ∃ vl, v.length = vl := ⟨_, rfl⟩
  obtain ⟨vl, evl⟩ := HE
  rw [ekl] at HK HTOLD hkl ⊢
  rw [evl] at HV HTOLD hvl ⊢
  have HKL := Lib.hid ekl
  have HVL := Lib.hid evl
  clear hK hV ekl evl
  go_enter Try.func59, Try.ntmps59
  go_wp2_with fail
  refine (littleR_any dl 8 w (by omega) (by omega)).mono ?_
  rintro e w3 ⟨v3, rfl, ho3, ht3⟩
  obtain ⟨va3, vl3, vc3, rfl⟩ := ho3.form
  have HO3 := Lib.hid ho3
  have HT3 := Lib.hid ht3
  have HN3 := Lib.hid (show (leB dl 8).length ≤ 3000000 by rw [leB_len]; omega)
  clear ho3 ht3
  go_wp2_with fail
  refine (littleR_any kl 1 w3 (by omega) (by omega)).mono ?_
  rintro e q4 ⟨u4, rfl, hq4, htq4⟩
  obtain ⟨ua4, ul4, uc4, rfl⟩ := hq4.form
  have HQ4 := Lib.hid hq4.bv
  have HOP4 := Lib.hid (HO3.out.keepT htq4 (notBytes_nil _))
  have HTP4 := Lib.hid (HT3.out.trans htq4)
  have HSZ4 := Lib.hid (HT3.out.trans htq4).size
  clear hq4 htq4
  go_wp2_with (refine wpList_append_bytes rfl (.tmp 14) (.tmp 18) rfl w.heap.size (.slice va3 vl3 vc3) (.slice ua4 ul4 uc4) (leB dl 8) (leB kl 1) ?a4 ?b4 ?c4 ?d4 ?e4 ?f4 ?g4)
  case b4 => exact HOP4.out
  case a4 => rfl
  case c4 => rfl
  case d4 => exact HQ4.out
  case e4 => have := HN3.out; have := leB_len kl 1; omega
  case f4 => exact HSZ4.out
  intro v4 w4 hO4 hT4 _
  obtain ⟨va4, vl4, vc4, rfl⟩ := hO4.out.form
  have HO4 := Lib.hid (show OwnB w.heap.size w4 (.slice va4 vl4 vc4) (leB dl 8 ++ leB kl 1) from by first | exact hO4.out | simpa [List.append_assoc] using hO4.out)
  have HT4 := Lib.hid (show Touch Nil w w4 from HTP4.out.trans' hT4.out fun b hb hs => by have := (HOP4.out.block b hs).1; omega)
  have HN4 := Lib.hid (show (leB dl 8 ++ leB kl 1).length ≤ 3000000 by have := HN3.out; simp only [List.length_append, leB_len, List.length_nil, List.length_singleton, HKL.out, HVL.out] at this ⊢; omega)
  clear hO4 hT4 HSZ4 HTP4 HO3 HT3 HN3 HQ4 HOP4
  have HQ5 := Lib.hid (HK.out.keepN HT4.out)
  have HTP5 := HT4
  have HSZ5 := Lib.hid HT4.out.size
  go_wp2_with (refine wpList_append_bytes rfl (.tmp 20) (.tmp 21) rfl w.heap.size (.slice va4 vl4 vc4) (.slice ka kl kc) (leB dl 8 ++ leB kl 1) (k) ?a5 ?b5 ?c5 ?d5 ?e5 ?f5 ?g5)
  case b5 => exact HO4.out
  case a5 => rfl
  case c5 => rfl
  case d5 => exact HQ5.out
  case e5 => have := HN4.out; have := HKL.out; omega
  case f5 => exact HSZ5.out
  intro v5 w5 hO5 hT5 _
  obtain ⟨va5, vl5, vc5, rfl⟩ := hO5.out.form
  have HO5 := Lib.hid (show OwnB w.heap.size w5 (.slice va5 vl5 vc5) (leB dl 8 ++ leB kl 1 ++ k) from by first | exact hO5.out | simpa [List.append_assoc] using hO5.out)
  have HT5 := Lib.hid (show Touch Nil w w5 from HTP5.out.trans' hT5.out fun b hb hs => by have := (HO4.out.block b hs).1; omega)
  have HN5 := Lib.hid (show (leB dl 8 ++ leB kl 1 ++ k).length ≤ 3000000 by have := HN4.out; simp only [List.length_append, leB_len, List.length_nil, List.length_singleton, HKL.out, HVL.out] at this ⊢; omega)
  clear hO5 hT5 HSZ5 HTP5 HO4 HT4 HN4 HQ5
  go_wp2_with fail
  refine (littleR_any vl 2 w5 (by omega) (by omega)).mono ?_
  rintro e q6 ⟨u6, rfl, hq6, htq6⟩
  obtain ⟨ua6, ul6, uc6, rfl⟩ := hq6.form
  have HQ6 := Lib.hid hq6.bv
  have HOP6 := Lib.hid (HO5.out.keepT htq6 (notBytes_nil _))
  have HTP6 := Lib.hid (HT5.out.trans htq6)
  have HSZ6 := Lib.hid (HT5.out.trans htq6).size
  clear hq6 htq6
  go_wp2_with (refine wpList_append_bytes rfl (.tmp 23) (.tmp 27) rfl w.heap.size (.slice va5 vl5 vc5) (.slice ua6 ul6 uc6) (leB dl 8 ++ leB kl 1 ++ k) (leB vl 2) ?a6 ?b6 ?c6 ?d6 ?e6 ?f6 ?g6)
  case b6 => exact HOP6.out
  case a6 => rfl
  case c6 => rfl
  case d6 => exact HQ6.out
  case e6 => have := HN5.out; have := leB_len vl 2; omega
  case f6 => exact HSZ6.out
  intro v6 w6 hO6 hT6 _
  obtain ⟨va6, vl6, vc6, rfl⟩ := hO6.out.form
  have HO6 := Lib.hid (show OwnB w.heap.size w6 (.slice va6 vl6 vc6) (leB dl 8 ++ leB kl 1 ++ k ++ leB vl 2) from by first | exact hO6.out | simpa [List.append_assoc] using hO6.out)
  have HT6 := Lib.hid (show Touch Nil w w6 from HTP6.out.trans' hT6.out fun b hb hs => by have := (HOP6.out.block b hs).1; omega)
  have HN6 := Lib.hid (show (leB dl 8 ++ leB kl 1 ++ k ++ leB vl 2).length ≤ 3000000 by have := HN5.out; simp only [List.length_append, leB_len, List.length_nil, List.length_singleton, HKL.out, HVL.out] at this ⊢; omega)
  clear hO6 hT6 HSZ6 HTP6 HO5 HT5 HN5 HQ6 HOP6
  have HQ7 := Lib.hid (HV.out.keepN HT6.out)
  have HTP7 := HT6
  have HSZ7 := Lib.hid HT6.out.size
  go_wp2_with (refine wpList_append_bytes rfl (.tmp 29) (.tmp 30) rfl w.heap.size (.slice va6 vl6 vc6) (.slice va vl vc) (leB dl 8 ++ leB kl 1 ++ k ++ leB vl 2) (v) ?a7 ?b7 ?c7 ?d7 ?e7 ?f7 ?g7)
  case b7 => exact HO6.out
  case a7 => rfl
  case c7 => rfl
  case d7 => exact HQ7.out
  case e7 => have := HN6.out; have := HVL.out; omega
  case f7 => exact HSZ7.out
  intro v7 w7 hO7 hT7 _
  obtain ⟨va7, vl7, vc7, rfl⟩ := hO7.out.form
  have HO7 := Lib.hid (show OwnB w.heap.size w7 (.slice va7 vl7 vc7) (leB dl 8 ++ leB kl 1 ++ k ++ leB vl 2 ++ v) from by first | exact hO7.out | simpa [List.append_assoc] using hO7.out)
  have HT7 := Lib.hid (show Touch Nil w w7 from HTP7.out.trans' hT7.out fun b hb hs => by have := (HO6.out.block b hs).1; omega)
  have HN7 := Lib.hid (show (leB dl 8 ++ leB kl 1 ++ k ++ leB vl 2 ++ v).length ≤ 3000000 by have := HN6.out; simp only [List.length_append, leB_len, List.length_nil, List.length_singleton, HKL.out, HVL.out] at this ⊢; omega)
  clear hO7 hT7 HSZ7 HTP7 HO6 HT6 HN6 HQ7
  go_wp2_with fail
  refine (littleR_any dr 8 w7 (by omega) (by omega)).mono ?_
  rintro e q8 ⟨u8, rfl, hq8, htq8⟩
  obtain ⟨ua8, ul8, uc8, rfl⟩ := hq8.form
  have HQ8 := Lib.hid hq8.bv
  have HOP8 := Lib.hid (HO7.out.keepT htq8 (notBytes_nil _))
  have HTP8 := Lib.hid (HT7.out.trans htq8)
  have HSZ8 := Lib.hid (HT7.out.trans htq8).size
  clear hq8 htq8
  go_wp2_with (refine wpList_append_bytes rfl (.tmp 32) (.tmp 34) rfl w.heap.size (.slice va7 vl7 vc7) (.slice ua8 ul8 uc8) (leB dl 8 ++ leB kl 1 ++ k ++ leB vl 2 ++ v) (leB dr 8) ?a8 ?b8 ?c8 ?d8 ?e8 ?f8 ?g8)
  case b8 => exact HOP8.out
  case a8 => rfl
  case c8 => rfl
  case d8 => exact HQ8.out
  case e8 => have := HN7.out; have := leB_len dr 8; omega
  case f8 => exact HSZ8.out
  intro v8 w8 hO8 hT8 _
  obtain ⟨va8, vl8, vc8, rfl⟩ := hO8.out.form
  have HO8 := Lib.hid (show OwnB w.heap.size w8 (.slice va8 vl8 vc8) (leB dl 8 ++ leB kl 1 ++ k ++ leB vl 2 ++ v ++ leB dr 8) from by first | exact hO8.out | simpa [List.append_assoc] using hO8.out)
  have HT8 := Lib.hid (show Touch Nil w w8 from HTP8.out.trans' hT8.out fun b hb hs => by have := (HOP8.out.block b hs).1; omega)
  have HN8 := Lib.hid (show (leB dl 8 ++ leB kl 1 ++ k ++ leB vl 2 ++ v ++ leB dr 8).length ≤ 3000000 by have := HN7.out; simp only [List.length_append, leB_len, List.length_nil, List.length_singleton, HKL.out, HVL.out] at this ⊢; omega)
  clear hO8 hT8 HSZ8 HTP8 HO7 HT7 HN7 HQ8 HOP8
  have HCO := Lib.hid (show Calls Try.prog 57 #[.int .u64 seed, .int .i64 4, .slice va8 vl8 vc8] w8 (fun e w' => e = .returned (.int .u64 (d : Int)) ∧ w8 = w') from by
    have hbv := HO8.out.bv
    obtain ⟨ao, cap, e, _, hs⟩ := hbv
    injection e with e1 e2 e3
    subst e1
    have := coinR_any seed 4 (ub (leB dl 8 ++ leB kl 1 ++ k ++ leB vl 2 ++ v ++ leB dr 8)) va8 vc8 w8 (by have := HN8.out; simp only [ub_length]; omega) hs
    rw [ub_length, ← e2] at this
    rw [HMC.out, HTOLD.out]
    exact this)
  clear HO8 HN8
  go_wp2_with fail
  refine HCO.out.mono ?_
  rintro e w9 ⟨rfl, rfl⟩
  go_wp2_with fail
  go_ret
  exact ⟨rfl, HT8.out⟩
end Go.Proofs.Ytkkpcndpjkebkaa
