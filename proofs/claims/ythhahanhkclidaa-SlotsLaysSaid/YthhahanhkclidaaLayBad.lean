import Derived.Test.YthhahanhkclidaaLay3
/- slots.Layout where it lays nothing. -/
namespace Go.Proofs.Ythhahanhkclidaa
open Go.ChangeShapes Go.WideShapes Go.ChangeAt Go.RowKit Go.Deep

theorem run_equalIn_nil (P : Program) (d : Nat) (t : TypeId) (ps rs : Array TypeId) (vd : Bool) (ht : P.underlying t = some (.func ps rs vd)) (w : World) :
    (Op.equalIn (d + 1) t .nilFunc .nilFunc).run P w = .ok true w := by
  simp [Op.equalIn, run_underlying ht]
/-- The nil function against nil. -/
theorem run_eql_nil (P : Program) (t : TypeId) (ps rs : Array TypeId) (vd : Bool) (ht : P.underlying t = some (.func ps rs vd)) (w : World) :
    (binOp .eql t .nilFunc .nilFunc).run P w = .ok (.bool true) w := by
  simp only [binOp]
  simp [Op.equal, Op.maxDepth, run_equalIn_nil P 9999 t ps rs vd ht w]

set_option maxHeartbeats 1000000 in
theorem layoutBadN (cells : Int) (ao : Option Addr) (n cap : Nat) (f g : Value) (w : World) (h : ¬ (1 ≤ cells ∧ cells ≤ 1048576 ∧ (n : Int) ≤ cells)) :
    Calls Try.prog 19 #[.int .i64 cells, .slice ao n cap, f, g] w fun e w' => e = .returned (.slice none 0 0) ∧ w' = w := by
  go_enter Try.func19, Try.ntmps19
  by_cases h1 : cells < 1
  · have d1 : decide (cells < 1) = true := decide_eq_true h1
    go_wp2_with fail
    go_ret
    exact ⟨rfl, rfl⟩
  · have d1 : decide (cells < 1) = false := decide_eq_false h1
    by_cases h2 : 1048576 < cells
    · have d2 : decide (1048576 < cells) = true := decide_eq_true h2
      go_wp2_with fail
      go_ret
      exact ⟨rfl, rfl⟩
    · have d2 : decide (1048576 < cells) = false := decide_eq_false h2
      have d3 : decide (cells < (n : Int)) = true := decide_eq_true (by omega)
      go_wp2_with fail
      go_ret
      exact ⟨rfl, rfl⟩

set_option maxHeartbeats 1000000 in
theorem layoutBadI (cells : Int) (ao : Option Addr) (n cap : Nat) (f g : Value) (w : World) (h : ¬ (1 ≤ cells ∧ cells ≤ 1048576 ∧ (n : Int) ≤ cells)) :
    Calls Try.prog 23 #[.int .i64 cells, .slice ao n cap, f, g] w fun e w' => e = .returned (.slice none 0 0) ∧ w' = w := by
  go_enter Try.func23, Try.ntmps23
  by_cases h1 : cells < 1
  · have d1 : decide (cells < 1) = true := decide_eq_true h1
    go_wp2_with fail
    go_ret
    exact ⟨rfl, rfl⟩
  · have d1 : decide (cells < 1) = false := decide_eq_false h1
    by_cases h2 : 1048576 < cells
    · have d2 : decide (1048576 < cells) = true := decide_eq_true h2
      go_wp2_with fail
      go_ret
      exact ⟨rfl, rfl⟩
    · have d2 : decide (1048576 < cells) = false := decide_eq_false h2
      have d3 : decide (cells < (n : Int)) = true := decide_eq_true (by omega)
      go_wp2_with fail
      go_ret
      exact ⟨rfl, rfl⟩

set_option maxHeartbeats 1000000 in
theorem layoutNoStartN (C : Nat) (ao : Option Addr) (n cap : Nat) (g : Value) (w : World) (h1 : 1 ≤ C) (h2 : C ≤ 1048576) (h3 : n ≤ C) :
    Calls Try.prog 19 #[.int .i64 (C : Int), .slice ao n cap, .nilFunc, g] w fun e w' => e = .returned (.slice none 0 0) ∧ w' = w := by
  have q1 := run_eql_nil Try.prog 34 _ _ _ Try.underlying34
  have d1 : decide ((C : Int) < 1) = false := by simp; omega
  have d2 : decide ((1048576 : Int) < (C : Int)) = false := by simp; omega
  have d3 : decide (C < n) = false := by simp; omega
  go_enter Try.func19, Try.ntmps19
  go_wp2_with fail
  go_ret
  exact ⟨rfl, rfl⟩
set_option maxHeartbeats 1000000 in
theorem layoutNoBeforeN (C : Nat) (ao : Option Addr) (n cap : Nat) (f : Fn) (a b : Array Value) (w : World) (h1 : 1 ≤ C) (h2 : C ≤ 1048576) (h3 : n ≤ C) :
    Calls Try.prog 19 #[.int .i64 (C : Int), .slice ao n cap, .func f a b, .nilFunc] w fun e w' => e = .returned (.slice none 0 0) ∧ w' = w := by
  have q1 := run_eql_func Try.prog 34 _ _ _ Try.underlying34 f a b
  have q2 := run_eql_nil Try.prog 35 _ _ _ Try.underlying35
  have d1 : decide ((C : Int) < 1) = false := by simp; omega
  have d2 : decide ((1048576 : Int) < (C : Int)) = false := by simp; omega
  have d3 : decide (C < n) = false := by simp; omega
  go_enter Try.func19, Try.ntmps19
  go_wp2_with fail
  go_ret
  exact ⟨rfl, rfl⟩

set_option maxHeartbeats 1000000 in
theorem layoutNoStartI (C : Nat) (ao : Option Addr) (n cap : Nat) (g : Value) (w : World) (h1 : 1 ≤ C) (h2 : C ≤ 1048576) (h3 : n ≤ C) :
    Calls Try.prog 23 #[.int .i64 (C : Int), .slice ao n cap, .nilFunc, g] w fun e w' => e = .returned (.slice none 0 0) ∧ w' = w := by
  have q1 := run_eql_nil Try.prog 37 _ _ _ Try.underlying37
  have d1 : decide ((C : Int) < 1) = false := by simp; omega
  have d2 : decide ((1048576 : Int) < (C : Int)) = false := by simp; omega
  have d3 : decide (C < n) = false := by simp; omega
  go_enter Try.func23, Try.ntmps23
  go_wp2_with fail
  go_ret
  exact ⟨rfl, rfl⟩
set_option maxHeartbeats 1000000 in
theorem layoutNoBeforeI (C : Nat) (ao : Option Addr) (n cap : Nat) (f : Fn) (a b : Array Value) (w : World) (h1 : 1 ≤ C) (h2 : C ≤ 1048576) (h3 : n ≤ C) :
    Calls Try.prog 23 #[.int .i64 (C : Int), .slice ao n cap, .func f a b, .nilFunc] w fun e w' => e = .returned (.slice none 0 0) ∧ w' = w := by
  have q1 := run_eql_func Try.prog 37 _ _ _ Try.underlying37 f a b
  have q2 := run_eql_nil Try.prog 80 _ _ _ Try.underlying80
  have d1 : decide ((C : Int) < 1) = false := by simp; omega
  have d2 : decide ((1048576 : Int) < (C : Int)) = false := by simp; omega
  have d3 : decide (C < n) = false := by simp; omega
  go_enter Try.func23, Try.ntmps23
  go_wp2_with fail
  go_ret
  exact ⟨rfl, rfl⟩
end Go.Proofs.Ythhahanhkclidaa
