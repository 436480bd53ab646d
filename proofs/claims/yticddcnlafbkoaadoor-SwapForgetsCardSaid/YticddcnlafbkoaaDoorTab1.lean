import Derived.Test.YticddcnlafbkoaaDoorKeys
/- A table in memory: its body, its cells; reading of it. -/
namespace Go.Proofs.YticddcnlafbkoaaDoor
open Go.ChangeShapes Go.WideShapes Go.ChangeAt Go.RowKit Go.Deep

/-- Bytes of a table: their block is one of R, and has bytes alone. -/
def OB (R : Nat → Prop) (w : World) (x : Value) (l : List UInt8) : Prop := BV w x l ∧ ∀ b, OwnOf x b → R b ∧ ∃ cs z, w.heap[b]? = some (.cells cs 5 z)
def CellOk (R : Nat → Prop) (w : World) (x y : Value) : Option (Key × Key) → Prop
  | none => x = .slice none 0 0 ∧ y = .slice none 0 0
  | some (k, v) => OB R w x k ∧ OB R w y v ∧ 1 ≤ k.length ∧ k.length ≤ 64 ∧ v.length ≤ 1000
def NotBytes (S : Nat → Prop) (w : World) : Prop := ∀ b, S b → ∀ cs z, w.heap[b]? ≠ some (.cells cs 5 z)

theorem BV.keep {S : Nat → Prop} {w w' : World} {x : Value} {l : List UInt8} (h : BV w x l) (ht : Touch S w w') (hS : ∀ b, OwnOf x b → ¬ S b) : BV w' x l := by
  obtain ⟨ao, cap, rfl, h1, h2⟩ := h
  refine ⟨ao, cap, rfl, h1, h2.keep ht fun a e _ => ?_⟩
  subst e
  exact hS a.block rfl
theorem BV.keepN {w w' : World} {x : Value} {l : List UInt8} (h : BV w x l) (ht : Touch Nil w w') : BV w' x l := h.keep ht fun _ _ c => c
theorem OB.lt {R : Nat → Prop} {w : World} {x : Value} {l : List UInt8} (h : OB R w x l) {b : Nat} (hb : OwnOf x b) : b < w.heap.size := by
  obtain ⟨_, cs, z, e⟩ := h.2 b hb
  exact (Array.getElem?_eq_some_iff.1 e).1
theorem OB.keep {R R' S : Nat → Prop} {w w' : World} {x : Value} {l : List UInt8} (h : OB R w x l) (ht : Touch S w w') (hS : NotBytes S w) (hR : ∀ b, R b → R' b) : OB R' w' x l := by
  have hn : ∀ b, OwnOf x b → ¬ S b := fun b hb hs => by
    obtain ⟨_, cs, z, e⟩ := h.2 b hb
    exact hS b hs cs z e
  refine ⟨h.1.keep ht hn, fun b hb => ?_⟩
  obtain ⟨r, cs, z, e⟩ := h.2 b hb
  exact ⟨hR b r, cs, z, (ht.same b (h.lt hb) (hn b hb)).trans e⟩
theorem CellOk.keep {R R' S : Nat → Prop} {w w' : World} {x y : Value} {o : Option (Key × Key)} (h : CellOk R w x y o) (ht : Touch S w w') (hS : NotBytes S w) (hR : ∀ b, R b → R' b) : CellOk R' w' x y o := by
  cases o with
  | none => exact h
  | some p => exact ⟨h.1.keep ht hS hR, h.2.1.keep ht hS hR, h.2.2⟩
theorem notBytes_nil (w : World) : NotBytes Nil w := fun _ h => h.elim
/-- New bytes. -/
theorem OwnB.ob {base : Nat} {w : World} {x : Value} {l : List UInt8} {R : Nat → Prop} (h : OwnB base w x l) (hR : ∀ b, base ≤ b → R b) : OB R w x l := by
  refine ⟨h.bv, fun b hb => ⟨hR b (h.block b hb).1, ?_⟩⟩
  obtain ⟨hlen, ⟨rfl, hn⟩ | ⟨g, cap, cur, rfl, hb', hg, _⟩⟩ := h
  · cases hb
  · obtain rfl : b = g := by simpa [OwnOf, Value.ownBlock] using hb
    exact ⟨cur, _, hg⟩

structure Bod (R : Nat → Prop) (w : World) (bb bc : Nat) (seed : Int) (n C : Nat) (vv : Nat → Nat → Value) (T : Cells) : Prop where
  body : w.heap[bb]? = some (.cells #[.int .u64 seed, .int .i64 n, .slice (some ⟨bc, 0, none⟩) C C] 72 (0, 0))
  row : w.rowIs bc 79 (2 * C) (fun i => vv (i / 2) (i % 2))
  cells : ∀ c, c < C → CellOk R w (vv c 0) (vv c 1) (T c)
  rb : R bb
  rc : R bc

namespace Bod
variable {R : Nat → Prop} {w w' : World} {bb bc : Nat} {seed : Int} {n C : Nat} {vv : Nat → Nat → Value} {T : Cells}
theorem seedC (h : Bod R w bb bc seed n C vv T) : w.cell? ⟨bb, 0, none⟩ = some (.int .u64 seed) := by simp [World.cell?, h.body]
theorem countC (h : Bod R w bb bc seed n C vv T) : w.cell? ⟨bb, 1, none⟩ = some (.int .i64 n) := by simp [World.cell?, h.body]
theorem cellsC (h : Bod R w bb bc seed n C vv T) : w.cell? ⟨bb, 2, none⟩ = some (.slice (some ⟨bc, 0, none⟩) C C) := by simp [World.cell?, h.body]
theorem lb (h : Bod R w bb bc seed n C vv T) : bb < w.heap.size := (Array.getElem?_eq_some_iff.1 h.body).1
theorem lc (h : Bod R w bb bc seed n C vv T) : bc < w.heap.size := h.row.lt
theorem keyC (h : Bod R w bb bc seed n C vv T) {c : Nat} (hc : c < C) : w.cell? ⟨bc, c * 2, none⟩ = some (vv c 0) := by
  have := h.row.cell (i := c * 2) (by omega)
  rw [show c * 2 / 2 = c from by omega, show c * 2 % 2 = 0 from by omega] at this
  exact this
theorem valC (h : Bod R w bb bc seed n C vv T) {c : Nat} (hc : c < C) : w.cell? ⟨bc, c * 2 + 1, none⟩ = some (vv c 1) := by
  have := h.row.cell (i := c * 2 + 1) (by omega)
  rw [show (c * 2 + 1) / 2 = c from by omega, show (c * 2 + 1) % 2 = 1 from by omega] at this
  exact this
theorem keep {S : Nat → Prop} (h : Bod R w bb bc seed n C vv T) (ht : Touch S w w') (hS : NotBytes S w) (h1 : ¬ S bb) (h2 : ¬ S bc) : Bod R w' bb bc seed n C vv T :=
  ⟨(ht.same bb h.lb h1).trans h.body, ht.row h.row h2, fun c hc => (h.cells c hc).keep ht hS fun _ r => r, h.rb, h.rc⟩
theorem keepN (h : Bod R w bb bc seed n C vv T) (ht : Touch Nil w w') : Bod R w' bb bc seed n C vv T := h.keep ht (notBytes_nil w) (fun c => c) fun c => c
/-- What lies in a cell. -/
theorem slice (h : Bod R w bb bc seed n C vv T) {c : Nat} (hc : c < C) : ∃ ao l cap bo m cap', vv c 0 = .slice ao l cap ∧ vv c 1 = .slice bo m cap' ∧ (decide (l = 0)) = (T c).isNone ∧ l ≤ 64 ∧ m ≤ 1000 := by
  have := h.cells c hc
  cases e : T c with
  | none => rw [e] at this; exact ⟨_, _, _, _, _, _, this.1, this.2, rfl, by omega, by omega⟩
  | some p =>
    rw [e] at this
    obtain ⟨⟨⟨ao, cap, e1, _, _⟩, _⟩, ⟨⟨bo, cap', e2, _, _⟩, _⟩, h3, h4, h5⟩ := this
    exact ⟨_, _, _, _, _, _, e1, e2, by simp; intro h; rw [h] at h3; simp at h3, h4, h5⟩
theorem pair (h : Bod R w bb bc seed n C vv T) {c : Nat} (hc : c < C) {k v : Key} (e : T c = some (k, v)) : OB R w (vv c 0) k ∧ OB R w (vv c 1) v ∧ 1 ≤ k.length ∧ k.length ≤ 64 ∧ v.length ≤ 1000 := by
  have := h.cells c hc
  rw [e] at this
  exact this
end Bod

def BoolN (r : Bool) (w : World) (e : Ending) (w' : World) : Prop := e = .returned (.bool r) ∧ Touch Nil w w'

set_option maxHeartbeats 1000000 in
theorem isFree_any (ao : Option Addr) (l cap : Nat) (y : Value) (w : World) (_hl : l ≤ 1048576) :
    Calls Tryd.prog 44 #[.agg #[.slice ao l cap, y]] w (BoolN (decide (l = 0)) w) := by
  have hb : ((l : Int) == 0) = decide (l = 0) := by
    rw [Bool.eq_iff_iff]; simp
  go_enter Tryd.func44, Tryd.ntmps44
  go_wp2_with fail
  go_ret
  exact ⟨by first | rfl | (rw [← hb]; rfl), (Touch.refl _ _).alloc _⟩

set_option maxHeartbeats 1000000 in
theorem next_any (bb bc a C : Nat) (w : World) (h : w.cell? ⟨bb, 2, none⟩ = some (.slice (some ⟨bc, 0, none⟩) C C)) (ha : a < C) (hC : C ≤ 1048576) :
    Calls Tryd.prog 60 #[.pointer (some ⟨bb, 0, none⟩), .int .i64 a] w fun e w' => e = .returned (.int .i64 ((nx C a : Nat) : Int)) ∧ w = w' := by
  have hz0 : ((C : Int) == 0) = false := by simp; omega
  have hm' : ((a : Int) + 1) % (C : Int) = ((nx C a : Nat) : Int) := by
    unfold nx; split
    · rw [Int.emod_eq_of_lt (by omega) (by omega)]; omega
    · rw [show (a : Int) + 1 = (C : Int) from by omega, Int.emod_self]; rfl
  have hm : ((a : Int) + 1).tmod (C : Int) = ((nx C a : Nat) : Int) := by
    rw [Int.tmod_eq_emod_of_nonneg (by omega)]; exact hm'
  generalize nx C a = r at *
  go_enter Tryd.func60, Tryd.ntmps60
  go_wp2_with fail
  go_ret
  exact ⟨rfl, rfl⟩

set_option maxHeartbeats 1000000 in
theorem missing_any (bt bb : Nat) (w : World) (h : w.cell? ⟨bt, 0, none⟩ = some (.pointer (some ⟨bb, 0, none⟩))) :
    Calls Tryd.prog 41 #[.pointer (some ⟨bt, 0, none⟩)] w fun e w' => e = .returned (.bool false) ∧ w = w' := by
  go_enter Tryd.func41, Tryd.ntmps41
  go_wp2_with fail
  go_ret
  exact ⟨rfl, rfl⟩
set_option maxHeartbeats 1000000 in
theorem missing_nil (w : World) :
    Calls Tryd.prog 41 #[.pointer none] w fun e w' => e = .returned (.bool true) ∧ w = w' := by
  go_enter Tryd.func41, Tryd.ntmps41
  go_wp2_with fail
  go_ret
  exact ⟨rfl, rfl⟩
set_option maxHeartbeats 1000000 in
theorem missing_zero (bt : Nat) (w : World) (h : w.cell? ⟨bt, 0, none⟩ = some (.pointer none)) :
    Calls Tryd.prog 41 #[.pointer (some ⟨bt, 0, none⟩)] w fun e w' => e = .returned (.bool true) ∧ w = w' := by
  go_enter Tryd.func41, Tryd.ntmps41
  go_wp2_with fail
  go_ret
  exact ⟨rfl, rfl⟩
set_option maxHeartbeats 1000000 in
theorem allowed_any (k v : Nat) (w : World) (hk : k ≤ 1073741824) (hv : v ≤ 1073741824) :
    Calls Tryd.prog 54 #[.int .i64 k, .int .i64 v] w fun e w' => e = .returned (.bool (decide (1 ≤ k ∧ k ≤ 64 ∧ v ≤ 1000))) ∧ w = w' := by
  have HR := Lib.hid (show decide (1 ≤ k ∧ k ≤ 64 ∧ v ≤ 1000) = (!decide ((k : Int) < 1) && (!decide ((64 : Int) < k) && decide ((v : Int) ≤ 1000))) by
    rw [Bool.eq_iff_iff]; simp; omega)
  generalize decide (1 ≤ k ∧ k ≤ 64 ∧ v ≤ 1000) = r at *
  by_cases c1 : k < 1
  · have d1 : decide ((k : Int) < 1) = true := by simp; omega
    have D := Lib.hid d1
    go_enter Tryd.func54, Tryd.ntmps54
    go_wp2_with (go_quiet (fail))
    go_ret
    exact ⟨by rw [HR.out, D.out]; rfl, rfl⟩
  · have d1 : decide ((k : Int) < 1) = false := by simp; omega
    have D := Lib.hid d1
    by_cases c2 : 64 < k
    · have d2 : decide ((64 : Int) < k) = true := by simp; omega
      have D2 := Lib.hid d2
      go_enter Tryd.func54, Tryd.ntmps54
      go_wp2_with (go_quiet (fail))
      go_ret
      exact ⟨by rw [HR.out, D.out, D2.out]; rfl, rfl⟩
    · have d2 : decide ((64 : Int) < k) = false := by simp; omega
      have D2 := Lib.hid d2
      cases d3 : decide ((v : Int) ≤ 1000)
      all_goals
        have D3 := Lib.hid d3
        go_enter Tryd.func54, Tryd.ntmps54
        go_wp2_with (go_quiet (fail))
        go_ret
        exact ⟨by rw [HR.out, D.out, D2.out, D3.out]; rfl, rfl⟩
end Go.Proofs.YticddcnlafbkoaaDoor
