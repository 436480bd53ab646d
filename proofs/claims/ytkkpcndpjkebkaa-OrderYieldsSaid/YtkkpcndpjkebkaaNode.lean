import Derived.Test.YtkkpcndpjkebkaaMark
import Derived.Test.YtkkpcndpjkebkaaCompare
import Derived.Test.YtkkpcndpjkebkaaTreap
/- Trees in memory: items and nodes. -/
namespace Go.Proofs.Ytkkpcndpjkebkaa
open Go.ChangeShapes Go.WideShapes Go.ChangeAt Go.RowKit Go.Deep

def hgt (seed : Int) (k : Key) : Int := coin seed 3 (ub k)
theorem hgt_bd (seed : Int) (k : Key) : 0 ≤ hgt seed k ∧ hgt seed k ≤ 18446744073709551615 := coin_bd _ _ _
/-- Which key stands above another one. -/
def abv (seed : Int) (a b : Key) : Bool := decide (hgt seed b < hgt seed a) || (decide (hgt seed a = hgt seed b) && klt a b)
theorem abv_iff {seed : Int} {a b : Key} : abv seed a b = true ↔ hgt seed b < hgt seed a ∨ (hgt seed a = hgt seed b ∧ klt a b = true) := by simp [abv]
theorem abv_ko (seed : Int) : KO (abv seed) where
  irrefl := fun a => by simp [abv, klt_ko.irrefl]
  trans := fun a b c h k => by
    rw [abv_iff] at *
    rcases h with h | ⟨h, h'⟩ <;> rcases k with k | ⟨k, k'⟩
    · exact .inl (by omega)
    · exact .inl (by omega)
    · exact .inl (by omega)
    · exact .inr ⟨by omega, klt_ko.trans _ _ _ h' k'⟩
  tot := fun a b h => by
    rw [abv_iff, abv_iff]
    rcases Int.lt_trichotomy (hgt seed a) (hgt seed b) with c | c | c
    · exact .inr (.inl c)
    · rcases klt_ko.tot a b h with d | d
      · exact .inl (.inr ⟨c, d⟩)
      · exact .inr (.inr ⟨c.symm, d⟩)
    · exact .inl (.inl c)

/-- The digest of a tree. -/
def digT (seed : Int) : Tree → Nat
  | .nil => 0
  | .node l k u r => markN seed (digT seed l) k u (digT seed r)
theorem digT_bd (seed : Int) : ∀ t : Tree, digT seed t ≤ 18446744073709551615
  | .nil => by simp [digT]
  | .node _ _ _ _ => markN_bd _ _ _ _ _
/-- Lengths that are allowed. -/
def okK (k u : Key) : Prop := 1 ≤ k.length ∧ k.length ≤ 64 ∧ u.length ≤ 1000
theorem okK_iff {k u : Key} : allowB k.length u.length = true ↔ okK k u := by simp [allowB, okK]

/-- Bytes in blocks of R. -/
def MB (R : Nat → Prop) (w : World) (v : Value) (l : Key) : Prop := OwnB 0 w v l ∧ ∀ b, OwnOf v b → R b
/-- An item in blocks of R. -/
def ItemAt (seed : Int) (R : Nat → Prop) (w : World) (iv : Value) (k u : Key) : Prop :=
  ∃ ib kx ux, iv = .pointer (some ⟨ib, 0, none⟩) ∧ R ib ∧ w.heap[ib]? = some (.cells #[kx, ux, .int .u64 (hgt seed k)] 129 (0, 0)) ∧ MB R w kx k ∧ MB R w ux u ∧ okK k u
/-- A tree in blocks of R. -/
def TreeAt (seed : Int) (R : Nat → Prop) (w : World) : Tree → Value → Prop
  | .nil, v => v = .pointer none
  | .node l k u r, v => ∃ b iv lv rv, v = .pointer (some ⟨b, 0, none⟩) ∧ R b ∧ w.heap[b]? = some (.cells #[iv, .int .u64 ((digT seed (.node l k u r) : Nat) : Int), .int .i64 (((Tree.node l k u r).size : Nat) : Int), lv, rv] 127 (0, 0)) ∧
      ItemAt seed R w iv k u ∧ TreeAt seed R w l lv ∧ TreeAt seed R w r rv

section
variable {seed : Int} {R R' S : Nat → Prop} {w w' : World}
theorem lt_of_heap {w : World} {b : Nat} {o : Obj} (h : w.heap[b]? = some o) : b < w.heap.size := (Array.getElem?_eq_some_iff.1 h).1
theorem MB.keep {v : Value} {l : Key} (h : MB R w v l) (ht : Touch S w w') (hS : ∀ b, R b → ¬ S b) : MB R w' v l := ⟨h.1.keep ht fun k hk => hS k (h.2 k hk), h.2⟩
theorem MB.mono {v : Value} {l : Key} (h : MB R w v l) (hR : ∀ b, b < w.heap.size → R b → R' b) : MB R' w v l := ⟨h.1, fun b hb => hR b (h.1.block b hb).2 (h.2 b hb)⟩
theorem MB.bv {v : Value} {l : Key} (h : MB R w v l) : BV w v l := h.1.bv
theorem ItemAt.keep {iv : Value} {k u : Key} (h : ItemAt seed R w iv k u) (ht : Touch S w w') (hS : ∀ b, R b → ¬ S b) : ItemAt seed R w' iv k u := by
  obtain ⟨ib, kx, ux, e, hr, hh, h1, h2, h3⟩ := h
  exact ⟨ib, kx, ux, e, hr, (ht.same ib (lt_of_heap hh) (hS ib hr)).trans hh, h1.keep ht hS, h2.keep ht hS, h3⟩
theorem ItemAt.mono {iv : Value} {k u : Key} (h : ItemAt seed R w iv k u) (hR : ∀ b, b < w.heap.size → R b → R' b) : ItemAt seed R' w iv k u := by
  obtain ⟨ib, kx, ux, e, hr, hh, h1, h2, h3⟩ := h
  exact ⟨ib, kx, ux, e, hR ib (lt_of_heap hh) hr, hh, h1.mono hR, h2.mono hR, h3⟩
theorem TreeAt.keep (ht : Touch S w w') (hS : ∀ b, R b → ¬ S b) : ∀ {t : Tree} {v : Value}, TreeAt seed R w t v → TreeAt seed R w' t v
  | .nil, _, h => h
  | .node _ _ _ _, _, ⟨b, iv, lv, rv, e, hr, hh, hi, hl, hr'⟩ => ⟨b, iv, lv, rv, e, hr, (ht.same b (lt_of_heap hh) (hS b hr)).trans hh, hi.keep ht hS, hl.keep ht hS, hr'.keep ht hS⟩
theorem TreeAt.keepN (ht : Touch Nil w w') {t : Tree} {v : Value} (h : TreeAt seed R w t v) : TreeAt seed R w' t v := h.keep ht fun _ _ c => c
theorem ItemAt.keepN (ht : Touch Nil w w') {iv : Value} {k u : Key} (h : ItemAt seed R w iv k u) : ItemAt seed R w' iv k u := h.keep ht fun _ _ c => c
theorem TreeAt.mono (hR : ∀ b, b < w.heap.size → R b → R' b) : ∀ {t : Tree} {v : Value}, TreeAt seed R w t v → TreeAt seed R' w t v
  | .nil, _, h => h
  | .node _ _ _ _, _, ⟨b, iv, lv, rv, e, hr, hh, hi, hl, hr'⟩ => ⟨b, iv, lv, rv, e, hR b (lt_of_heap hh) hr, hh, hi.mono hR, hl.mono hR, hr'.mono hR⟩
theorem ItemAt.form {iv : Value} {k u : Key} (h : ItemAt seed R w iv k u) : ∃ ib, iv = .pointer (some ⟨ib, 0, none⟩) := by
  obtain ⟨ib, kx, ux, e, _⟩ := h
  exact ⟨ib, e⟩
theorem TreeAt.form {t : Tree} {v : Value} (h : TreeAt seed R w t v) : ∃ ao, v = .pointer ao := by
  cases t with
  | nil => exact ⟨_, h⟩
  | node l k u r => obtain ⟨b, iv, lv, rv, e, _⟩ := h; exact ⟨_, e⟩
theorem ItemAt.same {iv : Value} {k u k' u' : Key} (h : ItemAt seed R w iv k u) (h' : ItemAt seed R' w iv k' u') : k = k' ∧ u = u' := by
  obtain ⟨ib, kx, ux, e, _, hh, h1, h2, _⟩ := h
  obtain ⟨ib', kx', ux', e', _, hh', h1', h2', _⟩ := h'
  subst e
  injection e' with e'
  injection e' with e'
  injection e' with e'
  subst e'
  rw [hh] at hh'
  injection hh' with hh'
  injection hh' with hh'
  simp only [Array.mk.injEq, List.cons.injEq] at hh'
  obtain ⟨rfl, rfl, _⟩ := hh'
  exact ⟨h1.bv.same h1'.bv, h2.bv.same h2'.bv⟩
/-- At one place there is one tree. -/
theorem TreeAt.same : ∀ {t t' : Tree} {v : Value}, TreeAt seed R w t v → TreeAt seed R' w t' v → t = t'
  | .nil, .nil, _, _, _ => rfl
  | .nil, .node _ _ _ _, _, h, ⟨_, _, _, _, e, _⟩ => by have h : _ = Value.pointer none := h; rw [h] at e; cases e
  | .node _ _ _ _, .nil, _, ⟨_, _, _, _, e, _⟩, h => by have h : _ = Value.pointer none := h; rw [h] at e; cases e
  | .node l k u r, .node l' k' u' r', _, ⟨b, iv, lv, rv, e, _, hh, hi, hl, hr⟩, ⟨b', iv', lv', rv', e', _, hh', hi', hl', hr'⟩ => by
    subst e
    injection e' with e'
    injection e' with e'
    injection e' with e'
    subst e'
    rw [hh] at hh'
    injection hh' with hh'
    injection hh' with hh'
    simp only [Array.mk.injEq, List.cons.injEq] at hh'
    obtain ⟨rfl, _, _, rfl, rfl, _⟩ := hh'
    obtain ⟨rfl, rfl⟩ := hi.same hi'
    rw [TreeAt.same hl hl', TreeAt.same hr hr']
/-- The cells of a node. -/
theorem node_cells {b t : Nat} {x y z u v : Value} (h : w.heap[b]? = some (.cells #[x, y, z, u, v] t (0, 0))) :
    w.cell? ⟨b, 0, none⟩ = some x ∧ w.cell? ⟨b, 1, none⟩ = some y ∧ w.cell? ⟨b, 2, none⟩ = some z ∧ w.cell? ⟨b, 3, none⟩ = some u ∧ w.cell? ⟨b, 4, none⟩ = some v := by
  refine ⟨?_, ?_, ?_, ?_, ?_⟩ <;> simp [World.cell?, h]
theorem item_cells {b t : Nat} {x y z : Value} (h : w.heap[b]? = some (.cells #[x, y, z] t (0, 0))) :
    w.cell? ⟨b, 0, none⟩ = some x ∧ w.cell? ⟨b, 1, none⟩ = some y ∧ w.cell? ⟨b, 2, none⟩ = some z := by
  refine ⟨?_, ?_, ?_⟩ <;> simp [World.cell?, h]
end
end Go.Proofs.Ytkkpcndpjkebkaa
