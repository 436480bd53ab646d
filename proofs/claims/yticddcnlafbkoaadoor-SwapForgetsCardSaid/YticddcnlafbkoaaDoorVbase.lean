import Derived.Test.YticddcnlafbkoaaDoorGrow5
import Derived.Test.YticddcnlafbkoaaDoorTab8
/- Layer 7: words on bytes. -/
namespace Go.Proofs.YticddcnlafbkoaaDoor
open Go.ChangeShapes Go.WideShapes Go.ChangeAt Go.RowKit Go.Deep

theorem lo_nat (n : Nat) : (lo n).toNat = n % 256 := by have := lo_int n; omega
theorem lo_eq {n m : Nat} (h : lo n = lo m) : n % 256 = m % 256 := by rw [← lo_nat, ← lo_nat, h]
/-- What is touched lies from B on. -/
def From (B : Nat) : Nat → Prop := fun b => B ≤ b

theorem OwnB.set {base g n cap : Nat} {w : World} {l : List UInt8} (h : OwnB base w (.slice (some ⟨g, 0, none⟩) n cap) l) {i : Nat} (hi : i < l.length) (y : UInt8) :
    OwnB base (w.setCell ⟨g, i, none⟩ (.int .u8 ((y.toNat : Nat) : Int))) (.slice (some ⟨g, 0, none⟩) n cap) (l.set i y) ∧ w.cell? ⟨g, i, none⟩ = some (.int .u8 (((l.getD i 0).toNat : Nat) : Int)) ∧ w.frozen? ⟨g, i, none⟩ = false := by
  have hbv := h.bv
  obtain ⟨hlen, ⟨h1, hn⟩ | ⟨g', cap', cur, h1, hb, hg, hc, hm, hs, ht⟩⟩ := h
  · cases h1
  · cases h1
    have hcell : w.cell? ⟨g, i, none⟩ = some (.int .u8 (((l.getD i 0).toNat : Nat) : Int)) := by
      obtain ⟨ao, c, e, _, hsl⟩ := hbv
      cases e
      obtain ⟨b, off, e, hcc⟩ := hsl i (by simpa using hi)
      cases e
      rw [Nat.zero_add, ub_getD l i hi] at hcc
      exact hcc
    have hrow : w.rowIs g 5 cap (fun j => cur.getD j undef) := ⟨cur, hg, by omega, fun j hj => by
      have : j < cur.size := by omega
      simp [this]⟩
    have hset := hrow.set i (.int .u8 ((y.toNat : Nat) : Int))
    refine ⟨⟨by simp, .inr ⟨g, cap, _, by simp, hb, row_block hset, by simpa using hc, hm, by simp, ?_⟩⟩, hcell, by simp [World.frozen?, hg]⟩
    apply List.ext_getElem?
    intro j
    rw [List.getElem?_take]
    by_cases hj : j < l.length
    · have hcj : cur[j]? = some (.int .u8 (((l.getD j 0).toNat : Nat) : Int)) := by
        have := congrArg (fun z => z[j]?) ht
        simp only [List.getElem?_take, List.getElem?_map, Array.getElem?_toList] at this
        rw [if_pos (by omega)] at this
        rw [this]
        simp [ub, hj, List.getD_eq_getElem?_getD]
      rw [if_pos (by simp; omega)]
      have hjc : j < cap := by omega
      simp only [List.getElem?_map, List.getElem?_range hjc, Option.map_some, Array.getD_eq_getD_getElem?, hcj, ub, List.getElem?_set, List.map_map]
      by_cases e : j = i
      · subst e; simp [hj]
      · rw [if_neg (fun h => e h), if_neg (fun h => e h.symm)]
        simp [hj, List.getD_eq_getElem?_getD]
    · rw [if_neg (by simp; omega)]
      simp [ub]
      omega

theorem xor_zero : ∀ a : Fin 256, bits BinOp.xor IntKind.u8 (a.1 : Int) 0 = (a.1 : Int) := by decide +kernel
theorem xor_u8 (x : UInt8) (m : Nat) : ∃ y : UInt8, bits BinOp.xor IntKind.u8 ((x.toNat : Nat) : Int) (m : Int) = ((y.toNat : Nat) : Int) := by
  have h1 : 0 ≤ bits BinOp.xor IntKind.u8 ((x.toNat : Nat) : Int) (m : Int) ∧ bits BinOp.xor IntKind.u8 ((x.toNat : Nat) : Int) (m : Int) ≤ 255 := by
    have := wf_bits BinOp.xor IntKind.u8 ((x.toNat : Nat) : Int) (m : Int)
    simpa [Lit.wf, IntKind.min, IntKind.max, IntKind.signed, IntKind.bits] using this
  exact ⟨UInt8.ofNat (bits BinOp.xor IntKind.u8 ((x.toNat : Nat) : Int) (m : Int)).toNat, by rw [UInt8.toNat_ofNat']; omega⟩
end Go.Proofs.YticddcnlafbkoaaDoor
