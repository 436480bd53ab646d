/- Words used throughout: what a call may have changed (Touch), slices of numbers (SlI), rows of numbers. -/
import Derived.Test.YticddcnlafbkoaaDoorRows
import Derived.WalkKit
import Derived.ProofKit
import Derived.OpenShut
import Derived.Lib.Hide
import Derived.Below
import Derived.Deep.OwnRows
import Derived.StillTailTactics
import Derived.Deep.QuietTactic
import Derived.BigQuiet
namespace Go.Proofs.YticddcnlafbkoaaDoor
open Go.ChangeShapes Go.WideShapes Go.ChangeAt Go.RowKit Go.Deep

/-- Of the blocks that were there only those of S may have changed; new ones may have come. -/
structure Touch (S : Nat → Prop) (w w' : World) : Prop where
  os : w'.os = w.os
  tape : w'.tape = w.tape
  output : w'.output = w.output
  size : w.heap.size ≤ w'.heap.size
  same : ∀ b, b < w.heap.size → ¬ S b → w'.heap[b]? = w.heap[b]?

def Nil : Nat → Prop := fun _ => False
def Just (a : Nat) : Nat → Prop := fun b => b = a

namespace Touch
variable {S S' : Nat → Prop} {w w' w'' : World}
theorem refl (S : Nat → Prop) (w : World) : Touch S w w := ⟨rfl, rfl, rfl, Nat.le_refl _, fun _ _ _ => rfl⟩
/-- The second step may touch S, and whatever is new since w. -/
theorem trans' (h : Touch S w w') (k : Touch S' w' w'') (hs : ∀ b, b < w.heap.size → S' b → S b) : Touch S w w'' :=
  ⟨k.os.trans h.os, k.tape.trans h.tape, k.output.trans h.output, Nat.le_trans h.size k.size,
   fun b hb hn => (k.same b (Nat.lt_of_lt_of_le hb h.size) (fun c => hn (hs b hb c))).trans (h.same b hb hn)⟩
theorem trans (h : Touch S w w') (k : Touch S w' w'') : Touch S w w'' := h.trans' k fun _ _ c => c
theorem mono (h : Touch S w w') (hs : ∀ b, b < w.heap.size → S b → S' b) : Touch S' w w' :=
  ⟨h.os, h.tape, h.output, h.size, fun b hb hn => h.same b hb fun c => hn (hs b hb c)⟩
theorem of_nil (h : Touch Nil w w') : Touch S w w' := h.mono fun _ _ c => c.elim
theorem drew (h : Touch S w w') : Touch S w w'.drew := ⟨h.os, h.tape, h.output, h.size, h.same⟩
theorem drewN (h : Touch S w w') (n : Nat) : Touch S w (w'.drewN n) := ⟨h.os, h.tape, h.output, h.size, h.same⟩
theorem alloc (h : Touch S w w') (o : Obj) : Touch S w (w'.alloc o) :=
  ⟨h.os, h.tape, h.output, by rw [nblk_alloc]; exact Nat.le_succ_of_le h.size, fun b hb hn => (blk_alloc_lt _ _ _ (Nat.lt_of_lt_of_le hb h.size)).trans (h.same b hb hn)⟩
theorem setCell (h : Touch S w w') (a : Addr) (v : Value) (hs : a.block < w.heap.size → S a.block) : Touch S w (w'.setCell a v) :=
  ⟨h.os, h.tape, h.output, by rw [nblk_setCell]; exact h.size, fun b hb hn => (blk_setCell_other _ _ _ _ (by intro e; subst e; exact hn (hs hb))).trans (h.same b hb hn)⟩
theorem below (h : Touch S w w') (B : Nat) (hB : B ≤ w.heap.size) (hs : ∀ b, b < B → ¬ S b) : Below B w w' :=
  ⟨h.os, h.tape, h.output, h.size, fun k hk => h.same k (by omega) (hs k hk)⟩
theorem below_nil (h : Touch Nil w w') : Below w.heap.size w w' := h.below _ (Nat.le_refl _) fun _ _ c => c
theorem of_below (h : Below w.heap.size w w') : Touch Nil w w' := ⟨h.os, h.tape, h.output, h.size, fun b hb _ => h.block b hb⟩
theorem cell (h : Touch S w w') {b : Nat} (hb : b < w.heap.size) (hn : ¬ S b) (o : Nat) : w'.cell? ⟨b, o, none⟩ = w.cell? ⟨b, o, none⟩ := World.cell?_of_block (w := w) (h.same b hb hn)
theorem frozen (h : Touch S w w') {b : Nat} (hb : b < w.heap.size) (hn : ¬ S b) (o : Nat) : w'.frozen? ⟨b, o, none⟩ = w.frozen? ⟨b, o, none⟩ := World.frozen?_of_block (w := w) (h.same b hb hn)
theorem cells (h : Touch Nil w w') : (∀ b o, b < w.heap.size → w'.cell? ⟨b, o, none⟩ = w.cell? ⟨b, o, none⟩) ∧ (∀ b o, b < w.heap.size → w'.frozen? ⟨b, o, none⟩ = w.frozen? ⟨b, o, none⟩) :=
  ⟨fun _ o hb => h.cell hb (fun c => c) o, fun _ o hb => h.frozen hb (fun c => c) o⟩
theorem row {t n : Nat} {b : Nat} {f : Nat → Value} (h : Touch S w w') (hr : w.rowIs b t n f) (hn : ¬ S b) : w'.rowIs b t n f := hr.of_block (h.same b hr.lt hn)
end Touch

/-- The numbers of a slice, wherever it lies; of an empty one nothing is asked. -/
def SlI (w : World) (k : IntKind) (ao : Option Addr) (l : List Int) : Prop :=
  ∀ i, i < l.length → ∃ b off, ao = some ⟨b, off, none⟩ ∧ w.cell? ⟨b, off + i, none⟩ = some (.int k (l.getD i 0))

theorem SlI.lt {w : World} {k : IntKind} {b : Nat} {off : Nat} {l : List Int} (h : SlI w k (some ⟨b, off, none⟩) l) (hl : 0 < l.length) : b < w.heap.size := by
  obtain ⟨b', off', e, hc⟩ := h 0 hl
  cases e
  exact World.block_lt_of_cell? w _ hc

theorem SlI.keep {S : Nat → Prop} {w w' : World} {k : IntKind} {ao : Option Addr} {l : List Int} (h : SlI w k ao l) (ht : Touch S w w') (hn : ∀ a, ao = some a → 0 < l.length → ¬ S a.block) : SlI w' k ao l := by
  intro i hi
  obtain ⟨b, off, e, hc⟩ := h i hi
  refine ⟨b, off, e, ?_⟩
  rw [ht.cell (World.block_lt_of_cell? w _ hc) (by have := hn ⟨b, off, none⟩ e (by omega); exact this)]
  exact hc

theorem SlI.keepN {w w' : World} {k : IntKind} {ao : Option Addr} {l : List Int} (h : SlI w k ao l) (ht : Touch Nil w w') : SlI w' k ao l := h.keep ht fun _ _ _ c => c

theorem slI_nil (w : World) (k : IntKind) (ao : Option Addr) : SlI w k ao [] := fun i h => by simp at h

theorem ret_int {k : IntKind} {a b : Int} (h : a = b) : Ending.returned (.int k a) = .returned (.int k b) := by rw [h]

theorem own : ownKnob Tryd.prog.godebug = none := by kernel_rfl
theorem laidOut : laidOutB Tryd.prog = true := by kernel_rfl

/-- A slice of integers that came in, as the walks ask it. -/
theorem open_slI {H : Type} {enc : TypeId × Value → H} {P : Program} {w : World} {base : Nat} {spare : Nat → Bool} {held : Bool} {t e : TypeId} {k : IntKind} {fuel : Nat} {ao : Option Addr} {len cap : Nat} {x : DataW H × List MemPlace}
    (ht : P.underlying t = some (.slice e)) (he : P.underlying e = some (.int k)) (hc : P.cellsOf e = 1)
    (h : DataW.trod enc P w base spare held fuel t [.slice ao len cap] = some x) :
    ∃ l : List Int, len = l.length ∧ l.length ≤ maxLen ∧ SlI w k ao l ∧ ∀ n ∈ l, (Lit.int k n).wf = true := by
  rcases open_ints ht he hc h with ⟨hcs, _⟩ | ⟨a, l, c, zs, hcs, _, hl, hm, hz, _, hcell, hwz⟩
  · simp at hcs
    obtain ⟨rfl, rfl, rfl⟩ := hcs
    exact ⟨[], rfl, by simp, fun i h => by simp at h, by simp⟩
  · simp at hcs
    obtain ⟨rfl, rfl, rfl⟩ := hcs
    have hz' : len ≤ zs.length := by rw [hz]; split <;> omega
    have hlt : (zs.take len).length = len := by simp; omega
    refine ⟨zs.take len, hlt.symm, by omega, ?_, fun n hn => hwz n (List.mem_of_mem_take hn)⟩
    intro i hi
    have hi' : i < len := by omega
    have hx := hcell i (by omega)
    obtain ⟨b, off, spot⟩ := a
    by_cases h0 : spot = none
    · subst h0
      refine ⟨b, off, rfl, ?_⟩
      rw [add_plain] at hx
      rw [hx]
      simp [List.getD_eq_getElem?_getD, hi']
    · exfalso
      have hx0 := hcell 0 (by omega)
      have : (Addr.add ⟨b, off, spot⟩ 0) = ⟨b, off, spot⟩ := by simp [Addr.add]
      rw [this] at hx0
      exact h0 (by simpa using World.cell?_spot hx0)
end Go.Proofs.YticddcnlafbkoaaDoor
