import Derived.Test.YtkkpcndpjkebkaaOwnB
/- Numbers as bytes, the least one first: of the program and of the reference. -/
namespace Go.Proofs.Ytkkpcndpjkebkaa
open Go.ChangeShapes Go.WideShapes Go.ChangeAt Go.RowKit Go.Deep

/-- The first n bytes of a number, the least one first. -/
def leB (x : Nat) : Nat → List UInt8
  | 0 => []
  | n + 1 => leB x n ++ [lo (x / 256 ^ n)]
theorem leB_len (x : Nat) : ∀ n, (leB x n).length = n
  | 0 => rfl
  | n + 1 => by simp [leB, leB_len x n]
def LittlePost (base : Nat) (l : List UInt8) (w : World) (e : Ending) (w' : World) : Prop := ∃ v, e = .returned v ∧ OwnB base w' v l ∧ Touch (From base) w w'
theorem lo_cells (n : Nat) : #[Value.int .u8 ((n : Int) % 256)] = ((ub [lo n]).map (Value.int .u8)).toArray := by
  simp only [ub, List.map_cons, List.map_nil, lo_int]

set_option maxRecDepth 100000 in
set_option maxHeartbeats 2000000 in
theorem appendLittle_any (base : Nat) (x n : Nat) (v : Value) (l : List UInt8) (w : World) (h : OwnB base w v l) (hb : base ≤ w.heap.size) (hl : l.length ≤ 1000000000) (hn : n ≤ 8) (hx : x ≤ 18446744073709551615) :
    Calls Try.prog 75 #[v, .int .u64 (x : Int), .int .i64 (n : Int)] w (LittlePost base (l ++ leB x n) w) := by
  have HO := Lib.hid h
  have HB := Lib.hid hb
  obtain ⟨va, vl, vc, rfl⟩ := h.form
  have HX : ∃ f : Nat → Nat, f = fun k => x / 256 ^ k := ⟨_, rfl⟩
  obtain ⟨f, ef⟩ := HX
  have HF0 := Lib.hid (show (x : Int) = ((f 0 : Nat) : Int) by rw [ef]; simp)
  have HFS := Lib.hid (show ∀ k, f (k + 1) = f k / 256 by intro k; rw [ef]; simp only []; rw [Nat.pow_succ, Nat.div_div_eq_div_mul])
  have HFB := Lib.hid (show ∀ k, f k ≤ 18446744073709551615 by intro k; rw [ef]; exact Nat.le_trans (Nat.div_le_self _ _) hx)
  have HFL := Lib.hid (show ∀ k, leB x (k + 1) = leB x k ++ [lo (f k)] by intro k; rw [ef]; rfl)
  clear h hb hx ef
  go_enter Try.func75, Try.ntmps75
  go_wp2_with fail
  go_loopw [0, 1, 8] (fun u y i wr => ∃ k : Nat, k ≤ n ∧ i = .int .i64 (k : Int) ∧ y = .int .u64 ((f k : Nat) : Int) ∧ OwnB base wr u (l ++ leB x k) ∧ Touch (From base) w wr) (fun _ _ i _ => n - (intOf i).toNat)
  case atStart => exact ⟨0, Nat.zero_le _, rfl, by rw [← HF0.out], by simpa [leB] using HO.out, Touch.refl _ _⟩
  obtain ⟨k, hk, rfl, rfl, hown, hto⟩ := hrel
  obtain ⟨ua, ul, uc, rfl⟩ := hown.form
  have HU := Lib.hid hown
  have HT := Lib.hid hto
  clear hown hto
  by_cases hlt : k < n
  · have i1 : (k : Int) < (n : Int) := by omega
    have i2 : (0 : Int) ≤ (k : Int) := by omega
    have hfb := HFB.out k
    have HFK := Lib.hid (show (f k : Int) / 256 = ((f (k + 1) : Nat) : Int) by rw [HFS.out k]; omega)
    have HLN := Lib.hid (show (l ++ leB x k).length + ([lo (f k)] : List UInt8).length ≤ 1073741824 by rw [List.length_append, leB_len]; simp; omega)
    have HFLK := Lib.hid (HFL.out k)
    have HN := Lib.hid (own_lit wr [lo (f k)] _ (lo_cells (f k)) (by simp))
    have HOA := Lib.hid (HU.out.keepT ((Touch.refl Nil wr).alloc (.cells #[.int .u8 ((f k : Int) % 256)] 5)) (notBytes_nil _))
    have HSZ := Lib.hid (show base ≤ (wr.alloc (.cells #[.int .u8 ((f k : Int) % 256)] 5)).heap.size by have := HB.out; have := HT.out.size; rw [nblk_alloc]; omega)
    have HTA := Lib.hid (HT.out.alloc (.cells #[.int .u8 ((f k : Int) % 256)] 5))
    generalize f k = y at *
    go_wp2_with (refine wpList_append_bytes rfl (.tmp 10) (.tmp 13) rfl base (.slice ua ul uc) (.slice (some ⟨wr.heap.size, 0, none⟩) 1 1) (l ++ leB x k) [lo y] ?p1 ?p2 ?p3 ?p4 ?p5 ?p6 ?p7)
    case p2 => exact HOA.out
    case p1 => rfl
    case p3 => rfl
    case p4 => exact HN.out.bv
    case p5 => exact HLN.out
    case p6 => exact HSZ.out
    intro v' w3 hO3 hT3 _
    have HT3 := Lib.hid (show Touch (From base) w w3 from HTA.out.trans (hT3.out.mono fun b _ hs => (HOA.out.block b hs).1))
    go_wp2_with fail
    go_roundw
    case rel => exact ⟨k + 1, by omega, by go_num, by rw [HFK.out], by rw [HFLK.out]; first | exact hO3.out | (rw [← List.append_assoc]; exact hO3.out), HT3.out⟩
    case measure => simp [intOf]; omega
  · obtain rfl : k = n := by omega
    go_wp2_with fail
    go_ret
    exact ⟨_, rfl, HU.out, HT.out⟩

set_option maxRecDepth 100000 in
set_option maxHeartbeats 2000000 in
theorem littleR_any (x n : Nat) (w : World) (hn : n ≤ 8) (hx : x ≤ 18446744073709551615) :
    Calls Try.prog 101 #[.int .u64 (x : Int), .int .i64 (n : Int)] w (ClonePost (leB x n) w) := by
  have HO := Lib.hid (show OwnB w.heap.size w (.slice none 0 0) [] from ⟨rfl, .inl ⟨rfl, rfl⟩⟩)
  have HX : ∃ f : Nat → Nat, f = fun k => x / 256 ^ k := ⟨_, rfl⟩
  obtain ⟨f, ef⟩ := HX
  have HFB := Lib.hid (show ∀ k, f k ≤ 18446744073709551615 by intro k; rw [ef]; exact Nat.le_trans (Nat.div_le_self _ _) hx)
  have HFL := Lib.hid (show ∀ k, leB x (k + 1) = leB x k ++ [lo (f k)] by intro k; rw [ef]; rfl)
  have HEF := Lib.hid ef
  clear ef
  go_enter Try.func101, Try.ntmps101
  go_wp2_with fail
  go_loopw [5, 6] (fun u i wr => ∃ k : Nat, k ≤ n ∧ i = .int .i64 (k : Int) ∧ OwnB w.heap.size wr u (leB x k) ∧ Touch Nil w wr) (fun _ i _ => n - (intOf i).toNat)
  case atStart => exact ⟨0, Nat.zero_le _, rfl, HO.out, Touch.refl _ _⟩
  obtain ⟨k, hk, rfl, hown, hto⟩ := hrel
  obtain ⟨ua, ul, uc, rfl⟩ := hown.form
  have HU := Lib.hid hown
  have HT := Lib.hid hto
  clear hown hto
  by_cases hlt : k < n
  · have i1 : (k : Int) < (n : Int) := by omega
    have i2 : (0 : Int) ≤ (k : Int) := by omega
    have hsh : (x : Int) / 2 ^ (8 * k) = ((f k : Nat) : Int) := by
      rw [HEF.out]
      show _ = ((x / 256 ^ k : Nat) : Int)
      rw [Int.natCast_ediv, Int.natCast_pow, Int.pow_mul]
      rfl
    have hfb := HFB.out k
    have HLN := Lib.hid (show (leB x k).length + ([lo (f k)] : List UInt8).length ≤ 1073741824 by rw [leB_len]; simp; omega)
    have HFLK := Lib.hid (HFL.out k)
    have HN := Lib.hid (own_lit wr [lo (f k)] _ (lo_cells (f k)) (by simp))
    have HOA := Lib.hid (HU.out.keepT ((Touch.refl Nil wr).alloc (.cells #[.int .u8 ((f k : Int) % 256)] 5)) (notBytes_nil _))
    have HSZ := Lib.hid (show w.heap.size ≤ (wr.alloc (.cells #[.int .u8 ((f k : Int) % 256)] 5)).heap.size by have := HT.out.size; rw [nblk_alloc]; omega)
    have HTA := Lib.hid (HT.out.alloc (.cells #[.int .u8 ((f k : Int) % 256)] 5))
    generalize f k = y at *
    go_wp2_with (refine wpList_append_bytes rfl (.tmp 12) (.tmp 18) rfl w.heap.size (.slice ua ul uc) (.slice (some ⟨wr.heap.size, 0, none⟩) 1 1) (leB x k) [lo y] ?q1 ?q2 ?q3 ?q4 ?q5 ?q6 ?q7)
    case q2 => exact HOA.out
    case q1 => rfl
    case q3 => rfl
    case q4 => exact HN.out.bv
    case q5 => exact HLN.out
    case q6 => exact HSZ.out
    intro v' w3 hO3 hT3 _
    have HT3 := Lib.hid (show Touch Nil w w3 from HTA.out.trans' hT3.out fun b hb hs => by have := (HOA.out.block b hs).1; omega)
    go_wp2_with fail
    go_roundw
    case rel => exact ⟨k + 1, by omega, by go_num, by rw [HFLK.out]; exact hO3.out, HT3.out⟩
    case measure => simp [intOf]; omega
  · obtain rfl : k = n := by omega
    go_wp2_with fail
    go_ret
    exact ⟨_, rfl, HU.out, HT.out⟩
end Go.Proofs.Ytkkpcndpjkebkaa
