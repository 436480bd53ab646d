import Derived.Test.YthhahanhkclidaaLay2
/- What a layout is asked and gives. -/
namespace Go.Proofs.Ythhahanhkclidaa
open Go.ChangeShapes Go.WideShapes Go.ChangeAt Go.RowKit Go.Deep

def IntPost (r : Int) (I : World → Prop) (S : Nat → Prop) (w : World) (e : Ending) (w' : World) : Prop := e = .returned (.int .i64 r) ∧ I w' ∧ Touch S w w'

/-- What a layout is told of the function that says where an item begins: I i holds ahead of the call for item i. -/
structure Sta (g : Nat) (cs : Array Value) (item : Nat → Value) (s : Nat → Int) (n B : Nat) (I : Nat → World → Prop) (S : Nat → Prop) : Prop where
  enter : ∀ args w, (callFunc g args).run Try.prog w = .ok (.enter g args) w
  call : ∀ w (x : Nat), I x w → x < n → Calls Try.prog g (#[item x] ++ cs) w (IntPost (s x) (I (x + 1)) S w)
  keep : ∀ i w w', I i w → Below B w w' → I i w'
  low : ∀ b, S b → b < B

def home (C : Nat) (s : Nat → Int) (i : Nat) : Nat := ((s i) % (C : Int)).toNat
theorem home_lt {C : Nat} (hC : 0 < C) (s : Nat → Int) (i : Nat) : home C s i < C := by
  unfold home
  have h1 := Int.emod_nonneg (s i) (show (C : Int) ≠ 0 by omega)
  have h2 := Int.emod_lt_of_pos (s i) (show (0 : Int) < C by omega)
  omega
theorem home_tmod {C : Nat} (hC : 0 < C) (s : Nat → Int) (i : Nat) : ((s i).tmod (C : Int) + (C : Int)).tmod (C : Int) = ((home C s i : Nat) : Int) := by
  have h1 := Int.emod_nonneg (s i) (show (C : Int) ≠ 0 by omega)
  have h2 := Int.emod_lt_of_pos (s i) (show (0 : Int) < C by omega)
  have e : ((home C s i : Nat) : Int) = (s i) % (C : Int) := by unfold home; omega
  rw [e]
  have key : (s i).tmod (C : Int) = s i % (C : Int) ∨ (s i).tmod (C : Int) = s i % (C : Int) - C := by
    rw [Int.tmod_eq_emod]
    split
    · exact .inl (by simp)
    · exact .inr (by have : (((C : Int).natAbs : Nat) : Int) = (C : Int) := by omega
                     rw [this])
  rcases key with k | k
  · rw [k, Int.tmod_eq_emod_of_nonneg (by omega), Int.add_emod_right, Int.emod_eq_of_lt h1 h2]
  · rw [k, Int.sub_add_cancel, Int.tmod_eq_emod_of_nonneg h1, Int.emod_eq_of_lt h1 h2]

theorem home_parts {C : Nat} (hC : 0 < C) (s : Nat → Int) (i : Nat) : ∃ t : Int, (s i).tmod (C : Int) = t ∧ -(C : Int) < t ∧ t < C ∧ (t + (C : Int)) % (C : Int) = ((home C s i : Nat) : Int) ∧ (t + (C : Int)).tmod (C : Int) = ((home C s i : Nat) : Int) := by
  have h := home_tmod hC s i
  have h1 := Int.emod_nonneg (s i) (show (C : Int) ≠ 0 by omega)
  have h2 := Int.emod_lt_of_pos (s i) (show (0 : Int) < C by omega)
  have key : (s i).tmod (C : Int) = s i % (C : Int) ∨ ((s i).tmod (C : Int) = s i % (C : Int) - C ∧ s i % (C : Int) ≠ 0) := by
    rw [Int.tmod_eq_emod]
    split
    · exact .inl (by simp)
    · rename_i hn
      have : (((C : Int).natAbs : Nat) : Int) = (C : Int) := by omega
      rw [this]
      exact .inr ⟨rfl, fun e => hn (.inr (Int.dvd_of_emod_eq_zero e))⟩
  have b1 : -(C : Int) < (s i).tmod C := by rcases key with k | ⟨k, k'⟩ <;> omega
  have b2 : (s i).tmod (C : Int) < C := by rcases key with k | ⟨k, k'⟩ <;> omega
  refine ⟨_, rfl, b1, b2, ?_, h⟩
  rw [← Int.tmod_eq_emod_of_nonneg (by omega)]; exact h

/-- The layout that is handed back: the items one after another in the order ord, which is the sorted one. -/
def LayPost (C n : Nat) (s : Nat → Int) (lt : Nat → Nat → Bool) (I : World → Prop) (S : Nat → Prop) (w : World) (e : Ending) (w' : World) : Prop :=
  ∃ b ord, e = .returned (.slice (some ⟨b, 0, none⟩) C C) ∧ w.heap.size ≤ b ∧ w'.rowIs b 3 C (fun c => .int .i64 (cellV (place C (home C s) ord n c))) ∧
    PermOn 0 n (fun k => k) ord ∧ Sorted lt ord 0 n ∧ I w' ∧ Touch S w w'

theorem run_equalIn_func (P : Program) (d : Nat) (t : TypeId) (ps rs : Array TypeId) (vd : Bool) (ht : P.underlying t = some (.func ps rs vd)) (f : Fn) (a b : Array Value) (w : World) :
    (Op.equalIn (d + 1) t (.func f a b) .nilFunc).run P w = .ok false w := by
  simp [Op.equalIn, run_underlying ht]
/-- A function against nil. -/
theorem run_eql_func (P : Program) (t : TypeId) (ps rs : Array TypeId) (vd : Bool) (ht : P.underlying t = some (.func ps rs vd)) (f : Fn) (a b : Array Value) (w : World) :
    (binOp .eql t (.func f a b) .nilFunc).run P w = .ok (.bool false) w := by
  simp only [binOp]
  simp [Op.equal, Op.maxDepth, run_equalIn_func P 9999 t ps rs vd ht f a b w]
end Go.Proofs.Ythhahanhkclidaa
