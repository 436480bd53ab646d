import Derived.Test.YticddcnlafbkoaaDoorBase
import Derived.Laws.CopyOwn
import Derived.Laws.AppendOwnNone
/- Laws on rows that are known by their index: copy into a row. -/
namespace Go.Proofs.YticddcnlafbkoaaDoor
open Go.ChangeShapes Go.WideShapes Go.ChangeAt Go.RowKit Go.Deep

theorem row_block {w : World} {b t n : Nat} {f : Nat → Value} (h : w.rowIs b t n f) : w.heap[b]? = some (.cells ((List.range n).map f).toArray t (0, 0)) := by
  obtain ⟨c, hb, hn, hc⟩ := h
  rw [hb]
  congr 2
  apply Array.ext
  · simp [hn]
  · intro i h1 h2
    have := hc i (by omega)
    rw [Array.getElem?_eq_getElem h1] at this
    simpa using this

/-- The row behind a copy: m cells of src from off on. -/
def laid (f src : Nat → Value) (off m : Nat) : Nat → Value := fun i => if off ≤ i ∧ i < off + m then src (i - off) else f i

theorem row_setRow {w : World} {g t n off m : Nat} {f src : Nat → Value} (h : w.rowIs g t n f) (hfit : off + m ≤ n) :
    (w.setRow g (((List.range n).map f).take off ++ ((List.range m).map src ++ ((List.range n).map f).drop (off + ((List.range m).map src).length))).toArray).rowIs g t n (laid f src off m) := by
  have hb := row_block h
  refine ⟨_, setRow_heap w g _ _ t _ hb, by simp; omega, fun i hi => ?_⟩
  unfold laid
  simp only [List.getElem?_toArray, List.length_map, List.length_range]
  by_cases h1 : i < off
  · rw [List.getElem?_append_left (by simp; omega), if_neg (by omega)]
    simp [h1, hi]
  · rw [List.getElem?_append_right (by simp; omega)]
    have hl : (List.take off (List.map f (List.range n))).length = off := by simp; omega
    rw [hl]
    by_cases h2 : i < off + m
    · rw [List.getElem?_append_left (by simp; omega), if_pos (by omega)]
      rw [List.getElem?_map, List.getElem?_range (by omega)]
      rfl
    · rw [List.getElem?_append_right (by simp; omega), if_neg (by omega), List.getElem?_drop]
      have hx : off + m + (i - off - (List.map src (List.range m)).length) = i := by simp; omega
      rw [hx]
      simp [hi]

theorem touch_setRow (w : World) (g : Nat) (cs : Array Value) : Touch (Just g) w (w.setRow g cs) :=
  ⟨rfl, rfl, rfl, by simp [World.setRow], fun k _ hk => setRow_other w g k cs hk⟩

/-- copy into a row that is known, from a slice whose cells are known. -/
theorem wpList_copy_row {P : Program} {w : World} {ops : Array Oper} {rest : List Oper} {o : Oper} {a : Act} {Q : Exit → Act → World → Prop} (hgd : o.guard = none) (d s : Operand) (dT sT : TypeId)
    (ho : o.op = .call { callee := .builtin .copy, args := #[d, s], argTypes := #[dT, sT] }) (elem : TypeId) (hu : P.underlying dT = some (.slice elem)) (hsz : (P.info? elem).map (·.size) = some 1)
    (g off dLen dCap sLen sCap : Nat) (sp : Option Addr) (hd : a.eval d = .slice (some ⟨g, off, none⟩) dLen dCap) (hs : a.eval s = .slice sp sLen sCap)
    (t n m : Nat) (f src : Nat → Value) (hr : w.rowIs g t n f) (hm : m = Nat.min sLen dLen) (hsrc : 0 < m → ∃ b o, sp = some ⟨b, o, none⟩ ∧ ∀ j, j < m → w.cell? ⟨b, o + j, none⟩ = some (src j))
    (hfit : off + m ≤ n) (h1 : ∀ j, j < m → (src j).oneCell' = true)
    (h : ∀ w', Hid (w'.rowIs g t n (laid f src off m)) → Hid (Touch (Just g) w w') → wpList P ops Q rest (a.put o.dst (goInt m)) w') :
    wpList P ops Q (o :: rest) a w := by
  by_cases h0 : m = 0
  · subst h0
    refine wpList_copy_nothing hgd d s dT sT ho elem hu hsz _ sp dLen dCap sLen sCap hd hs hm.symm ?_
    exact h w (show _ from hr.congr fun i _ => by unfold laid; rw [if_neg (by omega)]) (show _ from Touch.refl _ _)
  · obtain ⟨b, o', rfl, hcell⟩ := hsrc (by omega)
    have hlen : ((List.range m).map src).length = m := by simp
    refine wpList_copy_own hgd d s dT sT ho elem hu hsz g off dLen dCap ⟨b, o', none⟩ sLen sCap hd hs _ t (row_block hr) ((List.range m).map src) (by rw [hlen]; exact hm) ?_ (by simp; omega) ?_ ?_
    · intro j v hj
      rw [add_plain]
      by_cases hjm : j < m
      · rw [hcell j hjm]
        simpa [hjm] using hj
      · simp [hjm] at hj
    · intro v hv
      obtain ⟨j, hj, rfl⟩ := List.mem_map.1 hv
      exact h1 j (List.mem_range.1 hj)
    · rw [hlen]
      have := row_setRow (src := src) hr hfit
      rw [hlen] at this
      exact h _ this (touch_setRow _ _ _)

/-- The same as one step of a region that draws its order. -/
theorem step_copy_row {P : Program} {w : World} {ops : Array Oper} {o : Oper} {a : Act} {K : Act → World → Prop} {Q : Exit → Act → World → Prop} {E : Prop} (hgd : o.guard = none) (d s : Operand) (dT sT : TypeId)
    (ho : o.op = .call { callee := .builtin .copy, args := #[d, s], argTypes := #[dT, sT] }) (elem : TypeId) (hu : P.underlying dT = some (.slice elem)) (hsz : (P.info? elem).map (·.size) = some 1)
    (g off dLen dCap sLen sCap : Nat) (sp : Option Addr) (hd : a.eval d = .slice (some ⟨g, off, none⟩) dLen dCap) (hs : a.eval s = .slice sp sLen sCap)
    (t n m : Nat) (f src : Nat → Value) (hr : w.rowIs g t n f) (hm : m = Nat.min sLen dLen) (hsrc : 0 < m → ∃ b o, sp = some ⟨b, o, none⟩ ∧ ∀ j, j < m → w.cell? ⟨b, o + j, none⟩ = some (src j))
    (hfit : off + m ≤ n) (h1 : ∀ j, j < m → (src j).oneCell' = true)
    (h : ∀ w', Hid (w'.rowIs g t n (laid f src off m)) → Hid (Touch (Just g) w w') → K (a.put o.dst (goInt m)) w') :
    if Region.wanted o (yielded ops a.tmps) = true then Oper.wp P o a w K Q else E := by
  have hw : Region.wanted o (yielded ops a.tmps) = true := by simp [Region.wanted, hgd]
  rw [if_pos hw]
  by_cases h0 : m = 0
  · subst h0
    have hrun := run_copy_none (P := P) w dT sT o.type elem (some ⟨g, off, none⟩) sp dLen dCap sLen sCap hu hsz (by simpa using hm.symm)
    unfold Oper.wp
    simp [execOp, ho, resolve, invoke, builtin, hd, hs, hrun, Result.andThen]
    exact h w (show _ from hr.congr fun i _ => by unfold laid; rw [if_neg (by omega)]) (show _ from Touch.refl _ _)
  · obtain ⟨b, o', rfl, hcell⟩ := hsrc (by omega)
    have hlen : ((List.range m).map src).length = m := by simp
    have hrun := run_copy_row (P := P) w dT sT o.type elem g off dLen dCap ⟨b, o', none⟩ sLen sCap ((List.range n).map f).toArray t ((List.range m).map src) hu hsz (row_block hr) (by rw [hlen]; exact hm)
      (by intro j v hj
          rw [add_plain]
          by_cases hjm : j < m
          · rw [hcell j hjm]
            simpa [hjm] using hj
          · simp [hjm] at hj) (by simp; omega)
      (by intro v hv
          obtain ⟨j, hj, rfl⟩ := List.mem_map.1 hv
          exact h1 j (List.mem_range.1 hj))
    unfold Oper.wp
    simp [execOp, ho, resolve, invoke, builtin, hd, hs, hrun, Result.andThen]
    have := row_setRow (src := src) hr hfit
    rw [hlen] at this
    have hx := h _ this (touch_setRow _ _ _)
    rw [Oper.upon_value]
    simpa using hx
end Go.Proofs.YticddcnlafbkoaaDoor
