import Derived.Test.YtkkpcndpjkebkaaCmp
import Derived.Test.YtkkpcndpjkebkaaOwn
/- Words on bytes in memory. -/
namespace Go.Proofs.Ytkkpcndpjkebkaa
open Go.ChangeShapes Go.WideShapes Go.ChangeAt Go.RowKit Go.Deep

theorem BV.keep {S : Nat → Prop} {w w' : World} {x : Value} {l : List UInt8} (h : BV w x l) (ht : Touch S w w') (hS : ∀ b, OwnOf x b → ¬ S b) : BV w' x l := by
  obtain ⟨ao, cap, rfl, h1, h2⟩ := h
  refine ⟨ao, cap, rfl, h1, h2.keep ht fun a e _ => ?_⟩
  subst e
  exact hS a.block rfl
theorem BV.keepN {w w' : World} {x : Value} {l : List UInt8} (h : BV w x l) (ht : Touch Nil w w') : BV w' x l := h.keep ht fun _ _ c => c
def NotBytes (S : Nat → Prop) (w : World) : Prop := ∀ b, S b → ∀ cs z, w.heap[b]? ≠ some (.cells cs 5 z)
theorem notBytes_nil (w : World) : NotBytes Nil w := fun _ h => h.elim
def BoolN (r : Bool) (w : World) (e : Ending) (w' : World) : Prop := e = .returned (.bool r) ∧ Touch Nil w w'
theorem OwnB.base {b1 b2 : Nat} {w : World} {v : Value} {l : List UInt8} (h : OwnB b1 w v l) (hb : b2 ≤ b1) : OwnB b2 w v l :=
  ⟨h.1, h.2.imp (fun h => h) fun ⟨g, cap, cur, r1, r2, r3⟩ => ⟨g, cap, cur, r1, Nat.le_trans hb r2, r3⟩⟩
theorem OwnB.elem {b : Nat} {w : World} {v : Value} {l : List UInt8} (h : OwnB b w v l) {k : Nat} (hk : OwnOf v k) : ∃ cs z, w.heap[k]? = some (.cells cs 5 z) := by
  obtain ⟨hlen, ⟨rfl, hn⟩ | ⟨g, cap, cur, rfl, hb', hg, _⟩⟩ := h
  · cases hk
  · obtain rfl : k = g := by simpa [OwnOf, Value.ownBlock] using hk
    exact ⟨cur, _, hg⟩
/-- New bytes stay where no block of bytes is touched. -/
theorem OwnB.keepT {S : Nat → Prop} {b : Nat} {w w' : World} {v : Value} {l : List UInt8} (h : OwnB b w v l) (ht : Touch S w w') (hS : NotBytes S w) : OwnB b w' v l :=
  h.keep ht fun k hk hs => by obtain ⟨cs, z, e⟩ := h.elem hk; exact hS k hs cs z e
theorem OwnB.one {b : Nat} {w : World} {v : Value} {l : List UInt8} (h : OwnB b w v l) : v.oneCell' = true := by
  obtain ⟨_, ⟨rfl, _⟩ | ⟨g, cap, cur, rfl, _⟩⟩ := h <;> rfl
theorem OwnB.form {b : Nat} {w : World} {v : Value} {l : List UInt8} (h : OwnB b w v l) : ∃ ao n cap, v = .slice ao n cap := by
  obtain ⟨_, ⟨rfl, _⟩ | ⟨g, cap, cur, rfl, _⟩⟩ := h <;> exact ⟨_, _, _, rfl⟩
theorem notBytes_row {w : World} {b t n : Nat} {f : Nat → Value} (h : w.rowIs b t n f) (ht : t ≠ 5) : NotBytes (Just b) w := by
  rintro k rfl cs z e
  rw [row_block h] at e
  injection e with e
  injection e with _ e
  exact ht e
/-- The low byte of a number. -/
def lo (n : Nat) : UInt8 := UInt8.ofNat n
theorem lo_int (n : Nat) : (((lo n).toNat : Nat) : Int) = (n : Int) % 256 := by
  unfold lo
  rw [UInt8.toNat_ofNat']
  omega
theorem own_lit (w : World) (l : List UInt8) (cs : Array Value) (h : cs = ((ub l).map (Value.int .u8)).toArray) (hl : l.length ≤ 1048576) : OwnB w.heap.size (w.alloc (.cells cs 5)) (.slice (some ⟨w.heap.size, 0, none⟩) l.length l.length) l := by
  subst h
  refine ⟨by simp, .inr ⟨w.heap.size, l.length, ((ub l).map (Value.int .u8)).toArray, rfl, Nat.le_refl _, heap_alloc_new _ _, Nat.le_refl _, by unfold maxLen; omega, by simp, ?_⟩⟩
  exact List.take_of_length_le (by simp)
theorem bv_keep {base : Nat} {W w' : World} {v x : Value} {l m : List UInt8} (hown : OwnB base W v l) (ht : Touch (OwnOf v) W w') (hbv : BV W x m) (hlow : ∀ b, OwnOf x b → b < base) : BV w' x m :=
  hbv.keep ht fun b hb hs => by have := (hown.block b hs).1; have := hlow b hb; omega
theorem lo_nat (n : Nat) : (lo n).toNat = n % 256 := by have := lo_int n; omega
theorem lo_eq {n m : Nat} (h : lo n = lo m) : n % 256 = m % 256 := by rw [← lo_nat, ← lo_nat, h]
/-- What is touched lies from B on. -/
def From (B : Nat) : Nat → Prop := fun b => B ≤ b
end Go.Proofs.Ytkkpcndpjkebkaa
