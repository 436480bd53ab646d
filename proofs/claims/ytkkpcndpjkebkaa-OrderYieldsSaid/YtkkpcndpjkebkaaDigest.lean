import Derived.Test.YtkkpcndpjkebkaaLittle
/- The digest of a node: of the program and of the reference. -/
namespace Go.Proofs.Ytkkpcndpjkebkaa
open Go.ChangeShapes Go.WideShapes Go.ChangeAt Go.RowKit Go.Deep

def toldB (dl : Nat) (k v : Key) (dr : Nat) : List UInt8 := leB dl 8 ++ [lo k.length] ++ k ++ leB v.length 2 ++ v ++ leB dr 8
def markI (seed : Int) (dl : Nat) (k v : Key) (dr : Nat) : Int := coin seed 4 (ub (toldB dl k v dr))
theorem markI_bd (seed : Int) (dl : Nat) (k v : Key) (dr : Nat) : 0 ≤ markI seed dl k v dr ∧ markI seed dl k v dr ≤ 18446744073709551615 := coin_bd _ _ _
def markN (seed : Int) (dl : Nat) (k v : Key) (dr : Nat) : Nat := (markI seed dl k v dr).toNat
theorem markN_bd (seed : Int) (dl : Nat) (k v : Key) (dr : Nat) : markN seed dl k v dr ≤ 18446744073709551615 := by have := markI_bd seed dl k v dr; unfold markN; omega
theorem markN_cast (seed : Int) (dl : Nat) (k v : Key) (dr : Nat) : ((markN seed dl k v dr : Nat) : Int) = markI seed dl k v dr := by have := markI_bd seed dl k v dr; unfold markN; omega

theorem run_make_bytes (c : Nat) (hc : c ≤ 1073741824) (w : World) : (Instr.makeSlice 29 (.int .i64 0) (.int .i64 (c : Int))).run Try.prog w = .ok (.slice (some ⟨w.heap.size, 0, none⟩) 0 c) (w.alloc (.cells (madeCells #[.int .u8 0] (c * 1)) 5)) := by
  obtain ⟨i, hi, hz, hs, hb⟩ := info_parts infoByte
  have hr := run_make (P := Try.prog) w 29 5 i _ Try.underlying29 hi hz .i64 .i64 0 c (by omega) (by omega) (by rw [hb]; omega) (by omega)
  simp only [Int.toNat_natCast, hs] at hr
  exact hr
theorem own_made (w : World) (c : Nat) (hc : c ≤ 1073741824) : OwnB w.heap.size (w.alloc (.cells (madeCells #[.int .u8 0] (c * 1)) 5)) (.slice (some ⟨w.heap.size, 0, none⟩) 0 c) [] :=
  ⟨rfl, .inr ⟨w.heap.size, c, madeCells #[.int .u8 0] (c * 1), rfl, Nat.le_refl _, heap_alloc_new _ _, Nat.zero_le _, by unfold maxLen; omega, by rw [size_madeCells], by simp [ub]⟩⟩
def DigPost (d : Nat) (w : World) (e : Ending) (w' : World) : Prop := e = .returned (.int .u64 (d : Int)) ∧ Touch Nil w w'

/-- A box of four, ahead of which nothing else is read. -/
theorem box4 (w : World) (x y z u : Value) (t : Nat) : ((w.alloc (.cells #[x, y, z, u] t)).cell? ⟨w.heap.size, 0, none⟩ = some x) ∧ ((w.alloc (.cells #[x, y, z, u] t)).cell? ⟨w.heap.size, 1, none⟩ = some y) ∧ ((w.alloc (.cells #[x, y, z, u] t)).cell? ⟨w.heap.size, 2, none⟩ = some z) ∧ ((w.alloc (.cells #[x, y, z, u] t)).cell? ⟨w.heap.size, 3, none⟩ = some u) := by
  refine ⟨?_, ?_, ?_, ?_⟩ <;> (rw [cell_new]; rfl)

set_option maxRecDepth 100000 in
set_option maxHeartbeats 4000000 in
theorem sideDigest_any (seed : Int) (k v : Key) (kx vx : Value) (dl dr : Nat) (w : World) (hk : BV w kx k) (hv : BV w vx v) (hkl : k.length ≤ 1000000) (hvl : v.length ≤ 1000000) (hdl : dl ≤ 18446744073709551615) (hdr : dr ≤ 18446744073709551615) :
    Calls Try.prog 85 #[.int .u64 seed, .agg #[kx, vx, .int .u64 (dl : Int), .int .u64 (dr : Int)]] w (DigPost (markN seed dl k v dr) w) := by
  have hK := hk
  have hV := hv
  obtain ⟨ka, kc, rfl, _, _⟩ := hk
  obtain ⟨va, vc, rfl, _, _⟩ := hv
  have HK := Lib.hid hK
  have HV := Lib.hid hV
  have HMC := Lib.hid (markN_cast seed dl k v dr)
  have HTOLD := Lib.hid (show toldB dl k v dr = leB dl 8 ++ [lo k.length] ++ k ++ leB v.length 2 ++ v ++ leB dr 8 from rfl)
  unfold markI at HMC
  generalize markN seed dl k v dr = d at *
  generalize toldB dl k v dr = told at *
  have HE : ∃ kl, k.length = kl := ⟨_, rfl⟩
  obtain ⟨kl, ekl⟩ := HE
  have HE : ∃ vl, v.length = vl := ⟨_, rfl⟩
  obtain ⟨vl, evl⟩ := HE
  rw [ekl] at HK HTOLD hkl ⊢
  rw [evl] at HV HTOLD hvl ⊢
  have HKL := Lib.hid ekl
  have HVL := Lib.hid evl
  obtain ⟨b0, b1, b2, b3⟩ := box4 w (.slice ka kl kc) (.slice va vl vc) (.int .u64 (dl : Int)) (.int .u64 (dr : Int)) 76
  have HTB := Lib.hid ((Touch.refl Nil w).alloc (.cells #[.slice ka kl kc, .slice va vl vc, .int .u64 (dl : Int), .int .u64 (dr : Int)] 76))
  have HBX := Lib.hid (show (w.alloc (.cells #[.slice ka kl kc, .slice va vl vc, .int .u64 (dl : Int), .int .u64 (dr : Int)] 76)).heap[w.heap.size]? = some (.cells #[.slice ka kl kc, .slice va vl vc, .int .u64 (dl : Int), .int .u64 (dr : Int)] 76 (0, 0)) from heap_alloc_new _ _)
  have hcap : (9 : Int) + (kl : Int) + 2 + (vl : Int) + 8 = ((9 + kl + 2 + vl + 8 : Nat) : Int) := by omega
  have HC := Lib.hid (show 9 + kl + 2 + vl + 8 ≤ 1073741824 by omega)
  generalize 9 + kl + 2 + vl + 8 = c at hcap HC
  have hmk := run_make_bytes c HC.out
  clear hK hV ekl evl
  go_enter Try.func85, Try.ntmps85
  go_wp2_with fail
  have HO2 := Lib.hid (own_made (w.alloc (.cells #[.slice ka kl kc, .slice va vl vc, .int .u64 (dl : Int), .int .u64 (dr : Int)] 76)) c HC.out)
  have HT2 := Lib.hid (HTB.out.alloc (.cells (madeCells #[.int .u8 0] (c * 1)) 5))
  have HX2 := Lib.hid ((((Touch.refl Nil (w.alloc (.cells #[.slice ka kl kc, .slice va vl vc, .int .u64 (dl : Int), .int .u64 (dr : Int)] 76))).alloc (.cells (madeCells #[.int .u8 0] (c * 1)) 5)).same w.heap.size (by simp) (fun c => c)).trans HBX.out)
  have HB2 := Lib.hid (show w.heap.size + 1 ≤ ((w.alloc (.cells #[.slice ka kl kc, .slice va vl vc, .int .u64 (dl : Int), .int .u64 (dr : Int)] 76)).alloc (.cells (madeCells #[.int .u8 0] (c * 1)) 5)).heap.size by simp)
  have HN2 := Lib.hid (show ([] : List UInt8).length ≤ 100 by simp)
  rw [show (w.alloc (.cells #[.slice ka kl kc, .slice va vl vc, .int .u64 (dl : Int), .int .u64 (dr : Int)] 76)).heap.size = w.heap.size + 1 from by simp] at HO2
  simp only [Nat.mul_one] at HO2 HT2 HX2 HB2
  generalize (w.alloc (.cells #[.slice ka kl kc, .slice va vl vc, .int .u64 (dl : Int), .int .u64 (dr : Int)] 76)).alloc (.cells (madeCells #[.int .u8 0] c) 5) = w2 at *
  clear hmk hcap b0 b1 b2 b3 HTB HBX
  refine (appendLittle_any (w.heap.size + 1) dl 8 _ ([]) _ HO2.out HB2.out (by have := HN2.out; omega) (by omega) (by omega)).mono ?_
  rintro e w3 ⟨v3, rfl, ho3, ht3⟩
  obtain ⟨va3, vl3, vc3, rfl⟩ := ho3.form
  have HO3 := Lib.hid (show OwnB (w.heap.size + 1) w3 (.slice va3 vl3 vc3) (leB dl 8) from by first | exact ho3 | simpa using ho3)
  have HT3 := Lib.hid (show Touch Nil w w3 from HT2.out.trans' ht3 fun b hb hs => by have hs : w.heap.size + 1 ≤ b := hs; omega)
  have HX3 := Lib.hid ((ht3.same w.heap.size (Array.getElem?_eq_some_iff.1 HX2.out).1 (fun hs => by have hs : w.heap.size + 1 ≤ w.heap.size := hs; omega)).trans HX2.out)
  have HB3 := Lib.hid (Nat.le_trans HB2.out ht3.size)
  have HN3 := Lib.hid (show (leB dl 8).length ≤ 3000000 by have := HN2.out; simp only [List.length_append, leB_len, List.length_nil, List.length_singleton, HKL.out, HVL.out] at this ⊢; omega)
  clear ho3 ht3 HO2 HX2 HT2 HB2 HN2
  have x30 : w3.cell? ⟨w.heap.size, 0, none⟩ = some (.slice ka kl kc) := by simp [World.cell?, HX3.out]
  have x31 : w3.cell? ⟨w.heap.size, 1, none⟩ = some (.slice va vl vc) := by simp [World.cell?, HX3.out]
  have x32 : w3.cell? ⟨w.heap.size, 2, none⟩ = some (.int .u64 (dl : Int)) := by simp [World.cell?, HX3.out]
  have x33 : w3.cell? ⟨w.heap.size, 3, none⟩ = some (.int .u64 (dr : Int)) := by simp [World.cell?, HX3.out]
  have HL4 := Lib.hid (own_lit w3 [lo kl] _ (lo_cells kl) (by simp))
  have hta4 := (Touch.refl Nil w3).alloc (.cells #[.int .u8 ((kl : Int) % 256)] 5)
  have HOA4 := Lib.hid (HO3.out.keepT hta4 (notBytes_nil _))
  have HSA4 := Lib.hid (Nat.le_trans HB3.out hta4.size)
  have HTA4 := Lib.hid hta4
  clear hta4
  go_wp2_with (refine wpList_append_bytes rfl (.tmp 21) (.tmp 26) rfl (w.heap.size + 1) (.slice va3 vl3 vc3) (.slice (some ⟨w3.heap.size, 0, none⟩) 1 1) (leB dl 8) [lo kl] ?a4 ?b4 ?c4 ?d4 ?e4 ?f4 ?g4)
  case b4 => exact HOA4.out
  case a4 => rfl
  case c4 => rfl
  case d4 => exact HL4.out.bv
  case e4 => have := HN3.out; simp only [List.length_singleton]; omega
  case f4 => exact HSA4.out
  intro v4 w4 hO4 hT4 _
  obtain ⟨va4, vl4, vc4, rfl⟩ := hO4.out.form
  have HO4 := Lib.hid (show OwnB (w.heap.size + 1) w4 (.slice va4 vl4 vc4) (leB dl 8 ++ [lo kl]) from by first | exact hO4.out | simpa [List.append_assoc] using hO4.out)
  have ht4 : Touch (From (w.heap.size + 1)) w3 w4 := HTA4.out.of_nil.trans (hT4.out.mono fun b _ hs => (HOA4.out.block b hs).1)
  have HT4 := Lib.hid (show Touch Nil w w4 from HT3.out.trans' ht4 fun b hb hs => by have hs : w.heap.size + 1 ≤ b := hs; omega)
  have HX4 := Lib.hid ((ht4.same w.heap.size (Array.getElem?_eq_some_iff.1 HX3.out).1 (fun hs => by have hs : w.heap.size + 1 ≤ w.heap.size := hs; omega)).trans HX3.out)
  have HB4 := Lib.hid (Nat.le_trans HB3.out ht4.size)
  have HN4 := Lib.hid (show (leB dl 8 ++ [lo kl]).length ≤ 3000000 by have := HN3.out; simp only [List.length_append, leB_len, List.length_nil, List.length_singleton, HKL.out, HVL.out] at this ⊢; omega)
  clear ht4 hO4 hT4 HOA4 HTA4 HSA4 HL4 HO3 HX3 HT3 HB3 HN3 x30 x31 x32 x33
  have x40 : w4.cell? ⟨w.heap.size, 0, none⟩ = some (.slice ka kl kc) := by simp [World.cell?, HX4.out]
  have x41 : w4.cell? ⟨w.heap.size, 1, none⟩ = some (.slice va vl vc) := by simp [World.cell?, HX4.out]
  have x42 : w4.cell? ⟨w.heap.size, 2, none⟩ = some (.int .u64 (dl : Int)) := by simp [World.cell?, HX4.out]
  have x43 : w4.cell? ⟨w.heap.size, 3, none⟩ = some (.int .u64 (dr : Int)) := by simp [World.cell?, HX4.out]
  have HV5 := Lib.hid (HK.out.keepN HT4.out)
  go_wp2_with (refine wpList_append_bytes rfl (.tmp 28) (.tmp 30) rfl (w.heap.size + 1) (.slice va4 vl4 vc4) (.slice ka kl kc) (leB dl 8 ++ [lo kl]) k ?a5 ?b5 ?c5 ?d5 ?e5 ?f5 ?g5)
  case b5 => exact HO4.out
  case a5 => rfl
  case c5 => rfl
  case d5 => exact HV5.out
  case e5 => have := HN4.out; rw [HKL.out]; omega
  case f5 => exact HB4.out
  intro v5 w5 hO5 hT5 _
  obtain ⟨va5, vl5, vc5, rfl⟩ := hO5.out.form
  have HO5 := Lib.hid (show OwnB (w.heap.size + 1) w5 (.slice va5 vl5 vc5) (leB dl 8 ++ [lo kl] ++ k) from by first | exact hO5.out | simpa [List.append_assoc] using hO5.out)
  have ht5 : Touch (From (w.heap.size + 1)) w4 w5 := hT5.out.mono fun b _ hs => (HO4.out.block b hs).1
  have HT5 := Lib.hid (show Touch Nil w w5 from HT4.out.trans' ht5 fun b hb hs => by have hs : w.heap.size + 1 ≤ b := hs; omega)
  have HX5 := Lib.hid ((ht5.same w.heap.size (Array.getElem?_eq_some_iff.1 HX4.out).1 (fun hs => by have hs : w.heap.size + 1 ≤ w.heap.size := hs; omega)).trans HX4.out)
  have HB5 := Lib.hid (Nat.le_trans HB4.out ht5.size)
  have HN5 := Lib.hid (show (leB dl 8 ++ [lo kl] ++ k).length ≤ 3000000 by have := HN4.out; simp only [List.length_append, leB_len, List.length_nil, List.length_singleton, HKL.out, HVL.out] at this ⊢; omega)
  clear ht5 hO5 hT5 HV5 HO4 HX4 HT4 HB4 HN4 x40 x41 x42 x43
  have x50 : w5.cell? ⟨w.heap.size, 0, none⟩ = some (.slice ka kl kc) := by simp [World.cell?, HX5.out]
  have x51 : w5.cell? ⟨w.heap.size, 1, none⟩ = some (.slice va vl vc) := by simp [World.cell?, HX5.out]
  have x52 : w5.cell? ⟨w.heap.size, 2, none⟩ = some (.int .u64 (dl : Int)) := by simp [World.cell?, HX5.out]
  have x53 : w5.cell? ⟨w.heap.size, 3, none⟩ = some (.int .u64 (dr : Int)) := by simp [World.cell?, HX5.out]
  go_wp2_with fail
  refine (appendLittle_any (w.heap.size + 1) vl 2 _ (leB dl 8 ++ [lo kl] ++ k) _ HO5.out HB5.out (by have := HN5.out; omega) (by omega) (by omega)).mono ?_
  rintro e w6 ⟨v6, rfl, ho6, ht6⟩
  obtain ⟨va6, vl6, vc6, rfl⟩ := ho6.form
  have HO6 := Lib.hid (show OwnB (w.heap.size + 1) w6 (.slice va6 vl6 vc6) (leB dl 8 ++ [lo kl] ++ k ++ leB vl 2) from by first | exact ho6 | simpa using ho6)
  have HT6 := Lib.hid (show Touch Nil w w6 from HT5.out.trans' ht6 fun b hb hs => by have hs : w.heap.size + 1 ≤ b := hs; omega)
  have HX6 := Lib.hid ((ht6.same w.heap.size (Array.getElem?_eq_some_iff.1 HX5.out).1 (fun hs => by have hs : w.heap.size + 1 ≤ w.heap.size := hs; omega)).trans HX5.out)
  have HB6 := Lib.hid (Nat.le_trans HB5.out ht6.size)
  have HN6 := Lib.hid (show (leB dl 8 ++ [lo kl] ++ k ++ leB vl 2).length ≤ 3000000 by have := HN5.out; simp only [List.length_append, leB_len, List.length_nil, List.length_singleton, HKL.out, HVL.out] at this ⊢; omega)
  clear ho6 ht6 x50 x51 x52 x53 HO5 HX5 HT5 HB5 HN5
  have x60 : w6.cell? ⟨w.heap.size, 0, none⟩ = some (.slice ka kl kc) := by simp [World.cell?, HX6.out]
  have x61 : w6.cell? ⟨w.heap.size, 1, none⟩ = some (.slice va vl vc) := by simp [World.cell?, HX6.out]
  have x62 : w6.cell? ⟨w.heap.size, 2, none⟩ = some (.int .u64 (dl : Int)) := by simp [World.cell?, HX6.out]
  have x63 : w6.cell? ⟨w.heap.size, 3, none⟩ = some (.int .u64 (dr : Int)) := by simp [World.cell?, HX6.out]
  have HV7 := Lib.hid (HV.out.keepN HT6.out)
  go_wp2_with (refine wpList_append_bytes rfl (.tmp 38) (.tmp 40) rfl (w.heap.size + 1) (.slice va6 vl6 vc6) (.slice va vl vc) (leB dl 8 ++ [lo kl] ++ k ++ leB vl 2) v ?a7 ?b7 ?c7 ?d7 ?e7 ?f7 ?g7)
  case b7 => exact HO6.out
  case a7 => rfl
  case c7 => rfl
  case d7 => exact HV7.out
  case e7 => have := HN6.out; rw [HVL.out]; omega
  case f7 => exact HB6.out
  intro v7 w7 hO7 hT7 _
  obtain ⟨va7, vl7, vc7, rfl⟩ := hO7.out.form
  have HO7 := Lib.hid (show OwnB (w.heap.size + 1) w7 (.slice va7 vl7 vc7) (leB dl 8 ++ [lo kl] ++ k ++ leB vl 2 ++ v) from by first | exact hO7.out | simpa [List.append_assoc] using hO7.out)
  have ht7 : Touch (From (w.heap.size + 1)) w6 w7 := hT7.out.mono fun b _ hs => (HO6.out.block b hs).1
  have HT7 := Lib.hid (show Touch Nil w w7 from HT6.out.trans' ht7 fun b hb hs => by have hs : w.heap.size + 1 ≤ b := hs; omega)
  have HX7 := Lib.hid ((ht7.same w.heap.size (Array.getElem?_eq_some_iff.1 HX6.out).1 (fun hs => by have hs : w.heap.size + 1 ≤ w.heap.size := hs; omega)).trans HX6.out)
  have HB7 := Lib.hid (Nat.le_trans HB6.out ht7.size)
  have HN7 := Lib.hid (show (leB dl 8 ++ [lo kl] ++ k ++ leB vl 2 ++ v).length ≤ 3000000 by have := HN6.out; simp only [List.length_append, leB_len, List.length_nil, List.length_singleton, HKL.out, HVL.out] at this ⊢; omega)
  clear ht7 hO7 hT7 HV7 HO6 HX6 HT6 HB6 HN6 x60 x61 x62 x63
  have x70 : w7.cell? ⟨w.heap.size, 0, none⟩ = some (.slice ka kl kc) := by simp [World.cell?, HX7.out]
  have x71 : w7.cell? ⟨w.heap.size, 1, none⟩ = some (.slice va vl vc) := by simp [World.cell?, HX7.out]
  have x72 : w7.cell? ⟨w.heap.size, 2, none⟩ = some (.int .u64 (dl : Int)) := by simp [World.cell?, HX7.out]
  have x73 : w7.cell? ⟨w.heap.size, 3, none⟩ = some (.int .u64 (dr : Int)) := by simp [World.cell?, HX7.out]
  go_wp2_with fail
  refine (appendLittle_any (w.heap.size + 1) dr 8 _ (leB dl 8 ++ [lo kl] ++ k ++ leB vl 2 ++ v) _ HO7.out HB7.out (by have := HN7.out; omega) (by omega) (by omega)).mono ?_
  rintro e w8 ⟨v8, rfl, ho8, ht8⟩
  obtain ⟨va8, vl8, vc8, rfl⟩ := ho8.form
  have HO8 := Lib.hid (show OwnB (w.heap.size + 1) w8 (.slice va8 vl8 vc8) (leB dl 8 ++ [lo kl] ++ k ++ leB vl 2 ++ v ++ leB dr 8) from by first | exact ho8 | simpa using ho8)
  have HT8 := Lib.hid (show Touch Nil w w8 from HT7.out.trans' ht8 fun b hb hs => by have hs : w.heap.size + 1 ≤ b := hs; omega)
  have HX8 := Lib.hid ((ht8.same w.heap.size (Array.getElem?_eq_some_iff.1 HX7.out).1 (fun hs => by have hs : w.heap.size + 1 ≤ w.heap.size := hs; omega)).trans HX7.out)
  have HB8 := Lib.hid (Nat.le_trans HB7.out ht8.size)
  have HN8 := Lib.hid (show (leB dl 8 ++ [lo kl] ++ k ++ leB vl 2 ++ v ++ leB dr 8).length ≤ 3000000 by have := HN7.out; simp only [List.length_append, leB_len, List.length_nil, List.length_singleton, HKL.out, HVL.out] at this ⊢; omega)
  clear ho8 ht8 x70 x71 x72 x73 HO7 HX7 HT7 HB7 HN7
  have HCO := Lib.hid (show Calls Try.prog 111 #[.int .u64 seed, .int .i64 4, .slice va8 vl8 vc8] w8 (fun e w' => e = .returned (.int .u64 (d : Int)) ∧ w8 = w') from by
    have hbv := HO8.out.bv
    obtain ⟨ao, cap, e, _, hs⟩ := hbv
    injection e with e1 e2 e3
    subst e1
    have := coinP_any seed 4 (ub (leB dl 8 ++ [lo kl] ++ k ++ leB vl 2 ++ v ++ leB dr 8)) va8 vc8 w8 (by have := HN8.out; simp only [ub_length]; omega) hs
    rw [ub_length, ← e2] at this
    rw [HMC.out, HTOLD.out]
    exact this)
  clear HO8 HX8 HB8 HN8
  go_wp2_with fail
  refine HCO.out.mono ?_
  rintro e w9 ⟨rfl, rfl⟩
  go_wp2_with fail
  go_ret
  exact ⟨rfl, HT8.out⟩
end Go.Proofs.Ytkkpcndpjkebkaa
