import Derived.Test.YtkkpcndpjkebkaaMark
import Derived.Test.YtkkpcndpjkebkaaCompare
/- What a proof shows: of the program and of the reference. -/
namespace Go.Proofs.Ytkkpcndpjkebkaa
open Go.ChangeShapes Go.WideShapes Go.ChangeAt Go.RowKit Go.Deep

/-- Rows of structs that a law is given. -/
def Items (w : World) (ao : Option Addr) (n k : Nat) (v : Nat → Nat → Value) : Prop :=
  0 < n → ∃ b off, ao = some ⟨b, off, none⟩ ∧ b < w.heap.size ∧ ∀ i, i < n → ∀ c, c < k → w.cell? ⟨b, off + i * k + c, none⟩ = some (v i c)
theorem Items.keepN {w w' : World} {ao : Option Addr} {n k : Nat} {v : Nat → Nat → Value} (h : Items w ao n k v) (ht : Touch Nil w w') : Items w' ao n k v := by
  intro hn
  obtain ⟨b, off, e, hb, hc⟩ := h hn
  exact ⟨b, off, e, Nat.lt_of_lt_of_le hb ht.size, fun i hi c hc' => (ht.cell hb (fun c => c) _).trans (hc i hi c hc')⟩
/-- The steps of a proof. -/
structure Sds (w : World) (ao : Option Addr) (n : Nat) (v : Nat → Nat → Value) (kk vv : Nat → Key) (dl dr : Nat → Nat) : Prop where
  cells : Items w ao n 4 v
  keys : ∀ i, i < n → BV w (v i 0) (kk i)
  vals : ∀ i, i < n → BV w (v i 1) (vv i)
  left : ∀ i, i < n → v i 2 = .int .u64 ((dl i : Nat) : Int) ∧ dl i ≤ 18446744073709551615
  right : ∀ i, i < n → v i 3 = .int .u64 ((dr i : Nat) : Int) ∧ dr i ≤ 18446744073709551615
theorem Sds.keepN {w w' : World} {ao : Option Addr} {n : Nat} {v : Nat → Nat → Value} {kk vv : Nat → Key} {dl dr : Nat → Nat} (h : Sds w ao n v kk vv dl dr) (ht : Touch Nil w w') : Sds w' ao n v kk vv dl dr :=
  ⟨h.cells.keepN ht, fun i hi => (h.keys i hi).keepN ht, fun i hi => (h.vals i hi).keepN ht, h.left, h.right⟩

/-- What a proof shows: it is none; the value of a step; nothing. -/
inductive Res where
  | form : Res
  | there : Nat → Res
  | none : Res
def chk (seed : Int) (key : Key) (kk vv : Nat → Key) (dl dr : Nat → Nat) (n : Nat) : Nat → Nat → Nat → Res
  | 0, _, d => if d = 0 then .none else .form
  | f + 1, i, d =>
    if allowB (kk i).length (vv i).length = true then
      if markN seed (dl i) (kk i) (vv i) (dr i) = d then
        if key = kk i then (if i + 1 < n then .form else .there i)
        else chk seed key kk vv dl dr n f (i + 1) (if Lib.compareBytes key (kk i) < 0 then dl i else dr i)
      else .form
    else .form
def ResOk (w' : World) (vv : Nat → Key) (n : Nat) (e : Ending) : Res → Prop
  | .form => e = .returned (.tuple #[.slice none 0 0, .bool false, .int .i64 2])
  | .none => e = .returned (.tuple #[.slice none 0 0, .bool false, .int .i64 0])
  | .there i => ∃ y, e = .returned (.tuple #[y, .bool true, .int .i64 0]) ∧ BV w' y (vv i) ∧ i < n
def ChkPost (vv : Nat → Key) (n : Nat) (r : Res) (w : World) (e : Ending) (w' : World) : Prop := ResOk w' vv n e r ∧ Touch Nil w w'

def U64T (d : Nat) (w : World) (e : Ending) (w' : World) : Prop := e = .returned (.int .u64 (d : Int)) ∧ Touch Nil w w'
set_option maxHeartbeats 1000000 in
theorem leadsTo_any {w : World} {x y kx : Value} {key k : Key} (dl dr : Nat) (hx : BV w x k) (_hy : y.oneCell' = true) (hk : BV w kx key) :
    Calls Try.prog 87 #[.agg #[x, y, .int .u64 (dl : Int), .int .u64 (dr : Int)], kx] w (U64T (if Lib.compareBytes key k < 0 then dl else dr) w) := by
  have HC := Lib.hid (fun w' (ht : Touch Nil w w') => compareP_any (hk.keepN ht) (hx.keepN ht))
  obtain ⟨a1, c1, rfl, _, _⟩ := hx
  obtain ⟨a2, c2, rfl, _, _⟩ := hk
  have HTB := Lib.hid ((Touch.refl Nil w).alloc (.cells #[.slice a1 k.length c1, y, .int .u64 (dl : Int), .int .u64 (dr : Int)] 76))
  have HR : ∃ r, Lib.compareBytes key k = r := ⟨_, rfl⟩
  obtain ⟨r, er⟩ := HR
  rw [er] at HC ⊢
  generalize k.length = kl at *
  generalize key.length = ql at *
  clear er
  by_cases hr : r < 0
  · have d1 : decide (r < 0) = true := decide_eq_true hr
    rw [if_pos hr]
    clear hr
    go_enter Try.func87, Try.ntmps87
    go_wp2_with fail
    refine (HC.out _ HTB.out).mono ?_
    rintro e w' ⟨rfl, rfl⟩
    go_wp2_with fail
    go_ret
    exact ⟨rfl, HTB.out⟩
  · have d1 : decide (r < 0) = false := decide_eq_false hr
    rw [if_neg hr]
    clear hr
    go_enter Try.func87, Try.ntmps87
    go_wp2_with fail
    refine (HC.out _ HTB.out).mono ?_
    rintro e w' ⟨rfl, rfl⟩
    go_wp2_with fail
    go_ret
    exact ⟨rfl, HTB.out⟩
end Go.Proofs.Ytkkpcndpjkebkaa
