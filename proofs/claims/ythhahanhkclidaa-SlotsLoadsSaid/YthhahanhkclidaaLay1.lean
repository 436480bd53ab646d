import Derived.Test.YthhahanhkclidaaSort5
import Derived.WalkSmall
import Derived.Test.YthhahanhkclidaaRow
/- What a layout is made of: numbers, Repeat of -1, the first free cell. -/
namespace Go.Proofs.Ythhahanhkclidaa
open Go.ChangeShapes Go.WideShapes Go.ChangeAt Go.RowKit Go.Deep

theorem infoInt : (Try.prog.info? 3).map (fun i => (i.zero, i.size, i.bytes)) = some (some (.int .i64 0), 1, 8) := by kernel_rfl

/-- A new row of ints is handed back. -/
def NewInts (n : Nat) (f : Nat → Nat) (w : World) (e : Ending) (w' : World) : Prop :=
  ∃ b, e = .returned (.slice (some ⟨b, 0, none⟩) n n) ∧ w.heap.size ≤ b ∧ Ints w' b n f ∧ Touch Nil w w'

set_option maxHeartbeats 1000000 in
theorem numbers_any (n : Nat) (w : World) (hn : n ≤ 1048576) :
    Calls Try.prog 48 #[.int .i64 n] w (NewInts n (fun k => k) w) := by
  have hmk := run_make_row' (P := Try.prog) 27 3 (.int .i64 0) 8 Try.underlying27 infoInt rfl .i64 .i64 n (by omega) (by omega)
  go_enter Try.func48, Try.ntmps48
  go_wp2
  clear hmk
  go_loopw [9] (fun i wr => ∃ x : Nat, x ≤ n ∧ i = .int .i64 x ∧ Ints wr w.heap.size n (fun k => if k < x then k else 0) ∧ Touch Nil w wr) (fun i _ => n - (intOf i).toNat)
  case atStart =>
    refine ⟨0, by omega, rfl, World.rowIs.congr (World.rowIs_made w (.int .i64 0) n 3) fun i _ => by simp, ?_⟩
    exact (Touch.refl _ _).alloc _
  obtain ⟨x, hx, rfl, hf, hto⟩ := hrel
  by_cases hlt : x < n
  · have c1 := hf.cell hlt
    have z1 := hf.frozen x
    have HF := Lib.hid (hf.set x x)
    have HT := Lib.hid (hto.setCell ⟨w.heap.size, x, none⟩ (.int .i64 (x : Int)) fun h => by simp at h)
    clear hf hto
    go_wp2
    go_roundw
    case rel => exact ⟨x + 1, by omega, by go_num, HF.out.congr (fun i hi => by by_cases c : i = x <;> simp [c] <;> (try omega) <;> (repeat' split) <;> omega), HT.out⟩
    case measure => simp [intOf]; omega
  · obtain rfl : x = n := by omega
    have HF := Lib.hid hf
    have HT := Lib.hid hto
    clear hf hto
    go_wp2
    go_ret
    exact ⟨_, rfl, Nat.le_refl _, HF.out.congr fun i hi => by simp [hi], HT.out⟩

theorem low32 (y : Nat) (h : y ≤ 1048576) : bits BinOp.and IntKind.u64 (y : Int) 4294967295 = (y : Int) := by
  have := bits_and_u64_nat y 4294967295 (by omega) (by omega)
  rw [show (4294967295 : Nat) = 2 ^ 32 - 1 from rfl, Nat.and_two_pow_sub_one_eq_mod, Nat.mod_eq_of_lt (by omega)] at this
  exact this

set_option maxHeartbeats 1000000 in
theorem mul64_one (y : Nat) (w : World) (h : y ≤ 1048576) :
    Calls Try.prog 89 #[.int .u64 1, .int .u64 y] w fun e w' => e = .returned (.tuple #[.int .u64 0, .int .u64 y]) ∧ w = w' := by
  have h1 := low32 y h
  have h2 : (y : Int) / 4294967296 = 0 := by omega
  have h3 : bits BinOp.and IntKind.u64 1 4294967295 = 1 := low32 1 (by omega)
  have h4 : bits BinOp.and IntKind.u64 0 4294967295 = 0 := low32 0 (by omega)
  go_enter Try.func89, Try.ntmps89
  go_wp2
  go_ret2
  exact ⟨rfl, rfl⟩

set_option maxHeartbeats 1000000 in
theorem mul_one' (y : Nat) (w : World) (h : y ≤ 1048576) :
    Calls Try.prog 74 #[.int .u64 1, .int .u64 y] w fun e w' => e = .returned (.tuple #[.int .u64 0, .int .u64 y]) ∧ w = w' := by
  have H := Lib.hid (mul64_one y w h)
  go_enter Try.func74, Try.ntmps74
  go_wp2_with fail
  refine H.out.mono ?_
  rintro e w' ⟨rfl, rfl⟩
  go_wp2_with fail
  go_ret2
  exact ⟨rfl, rfl⟩

/-- A new row whose cells all hold one value. -/
def NewSame (n : Nat) (v : Value) (w : World) (e : Ending) (w' : World) : Prop :=
  ∃ b, e = .returned (.slice (some ⟨b, 0, none⟩) n n) ∧ w.heap.size ≤ b ∧ w'.rowIs b 3 n (fun _ => v) ∧ Touch Nil w w'

set_option maxRecDepth 100000 in
set_option maxHeartbeats 1000000 in
theorem repeat_any (v : Value) (hv : v.oneCell' = true) (b0 cap y : Nat) (w : World) (h : 1 ≤ y) (hy : y ≤ 1048576) (hc : w.cell? ⟨b0, 0, none⟩ = some v) :
    Calls Try.prog 47 #[.slice (some ⟨b0, 0, none⟩) 1 cap, .int .i64 y] w (NewSame y v w) := by
  have hmk := run_make_row' (P := Try.prog) 27 3 (.int .i64 0) 8 Try.underlying27 infoInt rfl .i64 .i64 y (by omega) (by omega)
  have H := Lib.hid (mul_one' y w hy)
  have hd1 : decide ((y : Int) < 0) = false := by simp
  have hd2 : decide ((9223372036854775807 : Int) < (y : Int)) = false := by simp; omega
  go_enter Try.func47, Try.ntmps47
  go_wp2_with fail
  refine H.out.mono ?_
  rintro e w' ⟨rfl, rfl⟩
  clear H
  have hrow := World.rowIs_made w (.int .i64 0) y 3
  have ht := (Touch.refl Nil w).alloc (.cells (madeCells #[.int .i64 0] y) 3)
  have hc2 : (w.alloc (.cells (madeCells #[.int .i64 0] y) 3)).cell? ⟨b0, 0, none⟩ = some v := by rw [World.cell?_alloc_lt _ _ _ (World.block_lt_of_cell? w _ hc)]; exact hc
  have hlt0 := World.block_lt_of_cell? w _ hc
  have HROW := Lib.hid hrow
  have HT := Lib.hid ht
  have HC2 := Lib.hid hc2
  clear hrow ht hc2
  go_wp2_with (refine wpList_copy_row rfl (.tmp 31) (.tmp 32) 27 27 rfl 3 Try.underlying27 (by kernel_rfl) w.heap.size 0 y y 1 cap (some ⟨b0, 0, none⟩) rfl rfl 3 y 1 (fun _ => .int .i64 0) (fun _ => v) HROW.out ?q1 ?q2 ?q3 ?q4 ?q5)
  case q1 => exact (Nat.min_eq_left h).symm
  case q2 => exact fun _ => ⟨b0, 0, rfl, fun j hj => by rw [show 0 + j = 0 from by omega]; exact HC2.out⟩
  case q3 => omega
  case q4 => exact fun _ _ => hv
  intro w2 HR2 HT2
  have HT2 := Lib.hid (HT.out.trans' HT2.out (S' := Just w.heap.size) fun b hb hs => by cases hs; omega)
  clear hmk HROW HT HC2 hc
  go_wp2_with fail
  go_loopw [8] (fun k wr => ∃ x : Nat, 1 ≤ x ∧ x ≤ y ∧ k = .int .i64 x ∧ wr.rowIs w.heap.size 3 y (fun i => if i < x then v else .int .i64 0) ∧ Touch Nil w wr) (fun k _ => y - (intOf k).toNat)
  case atStart => exact ⟨1, by omega, h, rfl, HR2.out.congr fun i _ => by unfold laid; by_cases c : i < 1 <;> simp [c] <;> omega, HT2.out⟩
  obtain ⟨x, hx1, hxy, rfl, hrow, hto⟩ := hrel
  by_cases hlt : x < y
  · have HROW := Lib.hid hrow
    have HTO := Lib.hid hto
    clear hrow hto
    have hne : ¬ y = x := by omega
    obtain ⟨m, HM⟩ : ∃ m, Hid (m = min x (y - x)) := ⟨_, Lib.hid rfl⟩
    have hm1 : 1 ≤ m := by have := HM.out; omega
    have hm2 : x + m ≤ y := by have := HM.out; omega
    have hm3 : m ≤ x := by have := HM.out; omega
    have HSRC := Lib.hid (show 0 < m → ∃ b o, some (⟨w.heap.size, 0, none⟩ : Addr) = some ⟨b, o, none⟩ ∧ ∀ j, j < m → wr.drew.cell? ⟨b, o + j, none⟩ = some v from
      fun _ => ⟨w.heap.size, 0, rfl, fun j hj => by
        have := HROW.out.cell (i := j) (by omega)
        rw [if_pos (by omega)] at this
        rw [Nat.zero_add]; exact this⟩)
    have ew : IntKind.i64.wrap ((x : Int) + (m : Int)) = ((x + m : Nat) : Int) := by rw [IntWalk.i64_in _ (by omega)]; omega
    go_wp2_with fail
    go_region_law (refine step_copy_row rfl (.tmp 41) (.tmp 44) 27 27 rfl 3 Try.underlying27 (by kernel_rfl) w.heap.size x (y - x) (y - x) x y (some ⟨w.heap.size, 0, none⟩) (by simp [Act.eval, Act.put]) (by simp [Act.eval, Act.put]) 3 y m _ (fun _ => v) HROW.out.drew HM.out HSRC.out (by omega) (fun _ _ => hv) ?_; intro w3 HR3 HT3)
    all_goals
      go_simp
      clear ew
      go_wp2_with fail
      go_roundw
      case rel =>
        refine ⟨x + m, by omega, by omega, by go_num, HR3.out.congr fun i hi => ?_, (HTO.out.drew).trans' HT3.out fun b hb hs => by cases hs; omega⟩
        unfold laid
        by_cases c1 : i < x <;> by_cases c2 : i < x + m <;> simp [c1, c2] <;> omega
      case measure => simp [intOf]; omega
  · obtain rfl : x = y := by omega
    have HROW := Lib.hid hrow
    have HTO := Lib.hid hto
    clear hrow hto
    go_wp2_with fail
    go_ret
    exact ⟨_, rfl, Nat.le_refl _, HROW.out.congr fun i hi => by simp [hi], HTO.out⟩
end Go.Proofs.Ythhahanhkclidaa
