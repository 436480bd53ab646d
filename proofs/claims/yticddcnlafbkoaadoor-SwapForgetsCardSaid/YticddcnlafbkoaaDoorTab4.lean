import Derived.Test.YticddcnlafbkoaaDoorTab3
import Derived.Deep.RegionHeld3
/- Cells. -/
namespace Go.Proofs.YticddcnlafbkoaaDoor
open Go.ChangeShapes Go.WideShapes Go.ChangeAt Go.RowKit Go.Deep

/-- A cell as it is shown: copies of the bytes. -/
def Shown (base : Nat) (w : World) (f y z : Value) : Option (Key × Key) → Prop
  | none => f = .bool false ∧ y = .slice none 0 0 ∧ z = .slice none 0 0
  | some (k, v) => f = .bool true ∧ OwnB base w y k ∧ OwnB base w z v
def CellsPost (C : Nat) (T : Cells) (w : World) (e : Ending) (w' : World) : Prop :=
  ∃ b f, e = .returned (.slice (some ⟨b, 0, none⟩) C C) ∧ w.heap.size ≤ b ∧ w'.rowIs b 92 (C * 3) f ∧ (∀ c, c < C → Shown w.heap.size w' (f (c * 3)) (f (c * 3 + 1)) (f (c * 3 + 2)) (T c)) ∧ Touch Nil w w'

theorem OwnB.base {b1 b2 : Nat} {w : World} {v : Value} {l : List UInt8} (h : OwnB b1 w v l) (hb : b2 ≤ b1) : OwnB b2 w v l :=
  ⟨h.1, h.2.imp (fun h => h) fun ⟨g, cap, cur, r1, r2, r3⟩ => ⟨g, cap, cur, r1, Nat.le_trans hb r2, r3⟩⟩
theorem OwnB.elem {b : Nat} {w : World} {v : Value} {l : List UInt8} (h : OwnB b w v l) {k : Nat} (hk : OwnOf v k) : ∃ cs z, w.heap[k]? = some (.cells cs 5 z) := by
  obtain ⟨hlen, ⟨rfl, hn⟩ | ⟨g, cap, cur, rfl, hb', hg, _⟩⟩ := h
  · cases hk
  · obtain rfl : k = g := by simpa [OwnOf, Value.ownBlock] using hk
    exact ⟨cur, _, hg⟩
/-- New bytes stay where no block of bytes is touched. -/
theorem OwnB.keepT {S : Nat → Prop} {b : Nat} {w w' : World} {v : Value} {l : List UInt8} (h : OwnB b w v l) (ht : Touch S w w') (hS : NotBytes S w) : OwnB b w' v l :=
  h.keep ht fun k hk hs => by obtain ⟨cs, z, e⟩ := h.elem hk; exact hS k hs cs z e
theorem Shown.keep {S : Nat → Prop} {b : Nat} {w w' : World} {f y z : Value} {o : Option (Key × Key)} (h : Shown b w f y z o) (ht : Touch S w w') (hS : NotBytes S w) : Shown b w' f y z o := by
  cases o with
  | none => exact h
  | some p => exact ⟨h.1, h.2.1.keepT ht hS, h.2.2.keepT ht hS⟩
theorem OwnB.one {b : Nat} {w : World} {v : Value} {l : List UInt8} (h : OwnB b w v l) : v.oneCell' = true := by
  obtain ⟨_, ⟨rfl, _⟩ | ⟨g, cap, cur, rfl, _⟩⟩ := h <;> rfl
theorem OwnB.form {b : Nat} {w : World} {v : Value} {l : List UInt8} (h : OwnB b w v l) : ∃ ao n cap, v = .slice ao n cap := by
  obtain ⟨_, ⟨rfl, _⟩ | ⟨g, cap, cur, rfl, _⟩⟩ := h <;> exact ⟨_, _, _, rfl⟩
theorem notBytes_row {w : World} {b t n : Nat} {f : Nat → Value} (h : w.rowIs b t n f) (ht : t ≠ 5) : NotBytes (Just b) w := by
  rintro k rfl cs z e
  rw [row_block h] at e
  injection e with e
  injection e with _ e
  exact ht e

/-- A box of two values; the three cells of a row that are written; and that only block o is touched since. -/
abbrev BoxS (o pb n p : Nat) (q : World → Nat → Value) (k v : Value) (w0 w' : World) : Prop :=
  w'.cell? ⟨pb, 0, none⟩ = some k ∧ w'.cell? ⟨pb, 1, none⟩ = some v ∧ w'.cell? ⟨o, p, none⟩ = some (q w' p) ∧ w'.cell? ⟨o, p + 1, none⟩ = some (q w' (p + 1)) ∧ w'.cell? ⟨o, p + 2, none⟩ = some (q w' (p + 2)) ∧
    w'.frozen? ⟨o, p, none⟩ = false ∧ w'.frozen? ⟨o, p + 1, none⟩ = false ∧ w'.frozen? ⟨o, p + 2, none⟩ = false ∧ Hid (Touch (Just o) w0 w' ∧ ∃ g, w'.rowIs o 92 n g)
def QOk (o : Nat) (q : World → Nat → Value) : Prop := ∀ w i, (w.cell? ⟨o, i, none⟩).isSome = true → w.cell? ⟨o, i, none⟩ = some (q w i)
theorem q_ex (o : Nat) : ∃ q, QOk o q := ⟨fun w i => (w.cell? ⟨o, i, none⟩).getD undef, fun w i h => by
  cases hc : w.cell? ⟨o, i, none⟩ with
  | none => rw [hc] at h; cases h
  | some v => simp [hc]⟩
section
variable {o pb n p : Nat} {q : World → Nat → Value} {k v : Value} {w0 w w' : World}
theorem BoxS.of (hq : QOk o q) (hp : p + 2 < n) (h0 : w.cell? ⟨pb, 0, none⟩ = some k) (h1 : w.cell? ⟨pb, 1, none⟩ = some v) (ht : Touch (Just o) w0 w) (hr : ∃ g, w.rowIs o 92 n g) : BoxS o pb n p q k v w0 w := by
  have hr' := hr
  obtain ⟨g, hg⟩ := hr
  refine ⟨h0, h1, hq _ _ ?_, hq _ _ ?_, hq _ _ ?_, hg.frozen _, hg.frozen _, hg.frozen _, Lib.hid ⟨ht, hr'⟩⟩ <;> (rw [hg.cell (by omega)]; rfl)
theorem BoxS.start (hq : QOk o q) (hp : p + 2 < n) (h0 : w0.cell? ⟨pb, 0, none⟩ = some k) (h1 : w0.cell? ⟨pb, 1, none⟩ = some v) {g : Nat → Value} (hr : w0.rowIs o 92 n g) : BoxS o pb n p q k v w0 w0.drew := BoxS.of hq hp h0 h1 (Touch.refl _ _).drew ⟨g, hr⟩
theorem BoxS.step (hq : QOk o q) (hp : p + 2 < n) (hs : Touch Nil w w') (h : BoxS o pb n p q k v w0 w) : BoxS o pb n p q k v w0 w' := by
  have hl := World.block_lt_of_cell? w _ h.1
  obtain ⟨h0, h1, _, _, _, _, _, _, ht⟩ := h
  obtain ⟨g, hg⟩ := ht.out.2
  exact BoxS.of hq hp ((hs.cell hl (fun c => c) 0).trans h0) ((hs.cell hl (fun c => c) 1).trans h1) (ht.out.1.trans hs.of_nil) ⟨g, hs.row hg fun c => c⟩
theorem BoxS.set (hq : QOk o q) (hp : p + 2 < n) (hne : pb ≠ o) (h : BoxS o pb n p q k v w0 w) (i : Nat) (u : Value) : BoxS o pb n p q k v w0 (w.setCell ⟨o, i, none⟩ u) := by
  obtain ⟨h0, h1, _, _, _, _, _, _, ht⟩ := h
  obtain ⟨g, hg⟩ := ht.out.2
  exact BoxS.of hq hp ((World.cell?_setCell_far _ _ _ _ (Ne.symm hne)).trans h0) ((World.cell?_setCell_far _ _ _ _ (Ne.symm hne)).trans h1) (ht.out.1.setCell _ _ fun _ => rfl) ⟨_, hg.set i u⟩
end

def set3 (f : Nat → Value) (x : Nat) (u y z : Value) : Nat → Value := fun j => if j = x * 3 + 2 then z else if j = x * 3 + 1 then y else if j = x * 3 then u else f j
theorem set3_at (f : Nat → Value) (x : Nat) (u y z : Value) : set3 f x u y z (x * 3) = u ∧ set3 f x u y z (x * 3 + 1) = y ∧ set3 f x u y z (x * 3 + 2) = z := by
  unfold set3
  refine ⟨?_, ?_, ?_⟩ <;> simp
theorem set3_far (f : Nat → Value) (x : Nat) (u y z : Value) {c : Nat} (h : c ≠ x) : set3 f x u y z (c * 3) = f (c * 3) ∧ set3 f x u y z (c * 3 + 1) = f (c * 3 + 1) ∧ set3 f x u y z (c * 3 + 2) = f (c * 3 + 2) := by
  unfold set3
  refine ⟨?_, ?_, ?_⟩ <;> rw [if_neg (by omega), if_neg (by omega), if_neg (by omega)]
end Go.Proofs.YticddcnlafbkoaaDoor
