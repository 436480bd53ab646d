import Derived.Test.YthhahanhkclidaaPick
import Derived.Test.YthhahanhkclidaaTab1
import Derived.BigQuiet
import Derived.Test.YthhahanhkclidaaRef1
import Derived.Test.YthhahanhkclidaaLay3
/- The reference's layout. -/
namespace Go.Proofs.Ythhahanhkclidaa
open Go.ChangeShapes Go.WideShapes Go.ChangeAt Go.RowKit Go.Deep

theorem tmod_parts {C : Nat} (hC : 0 < C) (s : Int) : ∃ t : Int, s.tmod (C : Int) = t ∧ -(C : Int) < t ∧ t < C ∧ (if t < 0 then t + C else t) = s % (C : Int) := by
  have h1 := Int.emod_nonneg s (show (C : Int) ≠ 0 by omega)
  have h2 := Int.emod_lt_of_pos s (show (0 : Int) < C by omega)
  have key : s.tmod (C : Int) = s % (C : Int) ∨ (s.tmod (C : Int) = s % (C : Int) - C ∧ s % (C : Int) ≠ 0) := by
    rw [Int.tmod_eq_emod]
    split
    · exact .inl (by simp)
    · rename_i hn
      have : (((C : Int).natAbs : Nat) : Int) = (C : Int) := by omega
      rw [this]
      exact .inr ⟨rfl, fun e => hn (.inr (Int.dvd_of_emod_eq_zero e))⟩
  refine ⟨_, rfl, ?_, ?_, ?_⟩
  · rcases key with k | ⟨k, k'⟩ <;> omega
  · rcases key with k | ⟨k, k'⟩ <;> omega
  · rcases key with k | ⟨k, k'⟩ <;> split <;> omega

set_option maxHeartbeats 1000000 in
theorem mod_any (s : Int) (C : Nat) (hC : 1 ≤ C) (hC2 : C ≤ 1048576) (w : World) :
    Calls Try.prog 46 #[.int .i64 s, .int .i64 (C : Int)] w fun e w' => e = .returned (.int .i64 (s % (C : Int))) ∧ w' = w := by
  obtain ⟨t, et, t1, t2, t3⟩ := tmod_parts (show 0 < C by omega) s
  have hC0 : (C : Int) ≠ 0 := by omega
  have hbeq : ((C : Int) == 0) = false := by simp; omega
  go_enter Try.func46, Try.ntmps46
  by_cases hneg : t < 0
  · rw [if_pos hneg] at t3
    have hd : decide (t < 0) = true := decide_eq_true hneg
    go_wp2_with fail
    go_ret
    refine ⟨?_, rfl⟩
    rw [← t3]
    rfl
  · rw [if_neg hneg] at t3
    have hd : decide (t < 0) = false := decide_eq_false hneg
    go_wp2_with fail
    go_ret
    refine ⟨?_, rfl⟩
    rw [← t3]
    rfl

set_option maxHeartbeats 1000000 in
/-- The reference's layout where there is none. -/
theorem layRef_none (cells : Int) (ao : Option Addr) (n cap : Nat) (w : World) (h : ¬ (1 ≤ cells ∧ cells ≤ 1048576 ∧ (n : Int) ≤ cells)) :
    Calls Try.prog 18 #[.int .i64 cells, .slice ao n cap] w fun e w' => e = .returned (.slice none 0 0) ∧ w' = w := by
  go_enter Try.func18, Try.ntmps18
  by_cases h1 : cells < 1
  · have d1 : decide (cells < 1) = true := decide_eq_true h1
    go_wp2_with fail
    go_ret
    exact ⟨rfl, rfl⟩
  · have d1 : decide (cells < 1) = false := decide_eq_false h1
    by_cases h2 : 1048576 < cells
    · have d2 : decide (1048576 < cells) = true := decide_eq_true h2
      go_wp2_with fail
      go_ret
      exact ⟨rfl, rfl⟩
    · have d2 : decide (1048576 < cells) = false := decide_eq_false h2
      have d3 : decide (cells < (n : Int)) = true := decide_eq_true (by omega)
      go_wp2_with fail
      go_ret
      exact ⟨rfl, rfl⟩

/-- Ints in a slice. -/
def IntsS (w : World) (ao : Option Addr) (n : Nat) (f : Nat → Int) : Prop := 0 < n → ∃ b o, ao = some ⟨b, o, none⟩ ∧ ∀ j, j < n → w.cell? ⟨b, o + j, none⟩ = some (.int .i64 (f j))
theorem IntsS.keepN {w w' : World} {ao : Option Addr} {n : Nat} {f : Nat → Int} (h : IntsS w ao n f) (ht : Touch Nil w w') : IntsS w' ao n f := fun h0 => by
  obtain ⟨b, o, e, hc⟩ := h h0
  exact ⟨b, o, e, fun j hj => (ht.cell (World.block_lt_of_cell? w _ (hc j hj)) (fun c => c) _).trans (hc j hj)⟩

set_option maxRecDepth 100000 in
set_option maxHeartbeats 1000000 in
/-- Two lists of the same numbers are the same. -/
theorem sameI_true (n c1 c2 : Nat) (ao bo : Option Addr) (f : Nat → Int) (w : World) (hn : n ≤ 1048576) (ha : IntsS w ao n f) (hb : IntsS w bo n f) :
    Calls Try.prog 16 #[.slice ao n c1, .slice bo n c2] w (BoolN true w) := by
  have HA := Lib.hid ha
  have HB := Lib.hid hb
  have hnn : ((n : Int) != (n : Int)) = false := by simp
  clear ha hb
  go_enter Try.func16, Try.ntmps16
  go_wp2_with fail
  go_loopw [5] (fun i wr => ∃ x : Nat, x ≤ n ∧ i = .int .i64 (x : Int) ∧ Touch Nil w wr) (fun i _ => n - (intOf i).toNat)
  case atStart => exact ⟨0, Nat.zero_le _, rfl, Touch.refl _ _⟩
  obtain ⟨x, hx, rfl, hto⟩ := hrel
  have HT := Lib.hid hto
  clear hto
  by_cases hlt : x < n
  · obtain ⟨b, o, rfl, hc⟩ := HA.out (by omega)
    obtain ⟨b', o', rfl, hc'⟩ := HB.out (by omega)
    have c0 := (HT.out.cell (World.block_lt_of_cell? w _ (hc x hlt)) (fun c => c) _).trans (hc x hlt)
    have c1 := (HT.out.cell (World.block_lt_of_cell? w _ (hc' x hlt)) (fun c => c) _).trans (hc' x hlt)
    have i1 : (x : Int) < (n : Int) := by omega
    have i2 : (0 : Int) ≤ (x : Int) := by omega
    have hne : ((f x : Int) != f x) = false := by simp
    clear hc hc'
    go_wp2_with (go_quiet (fail))
    go_roundw
    case rel => exact ⟨x + 1, by omega, by go_num, HT.out.drewN _⟩
    case measure => simp [intOf]; omega
  · obtain rfl : x = n := by omega
    clear hlt hx
    go_wp2_with fail
    go_ret
    exact ⟨rfl, HT.out⟩
end Go.Proofs.Ythhahanhkclidaa
