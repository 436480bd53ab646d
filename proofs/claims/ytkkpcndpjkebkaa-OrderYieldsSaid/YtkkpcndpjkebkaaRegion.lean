import Derived.OrdersIn
import Derived.Test.YtkkpcndpjkebkaaBase
/- A region that draws its order, by what holds at every point of it: one proof for each operation, not for each order. -/
namespace Go.Proofs.Ytkkpcndpjkebkaa
open Go

section
variable {F : Fence} {n : Nat} {P : Program} {md : Region.Mode} {ops : Array Oper} {Q : Exit → Act → World → Prop}
/-- No operation waits for one that stands behind it. -/
def inOrder (md : Region.Mode) (ops : Array Oper) : Bool := (List.range ops.size).all fun i => ((ops[i]?).map (·.after.all fun e => !Region.binds md e || decide (e.on < i))).getD true
/-- How many operations are left. -/
def leftOf (ops : Array Oper) (listed : Array Bool) : Nat := ((List.range ops.size).filter fun i => !listed.getD i true).length
theorem leftOf_set {listed : Array Bool} {i : Nat} (hi : i < ops.size) (h : listed.getD i true = false) : leftOf ops (listed.setIfInBounds i true) < leftOf ops listed := by
  unfold leftOf
  have hlt : i < listed.size := by
    rcases Nat.lt_or_ge i listed.size with c | c
    · exact c
    · simp [Array.getD, Nat.not_lt.2 c] at h
  have hs : ((List.range ops.size).filter fun j => !(listed.setIfInBounds i true).getD j true).Sublist ((List.range ops.size).filter fun j => !listed.getD j true) := by
    have hp : ∀ j, (!(listed.setIfInBounds i true).getD j true) = true → (!listed.getD j true) = true := fun j hj => by
      by_cases e : j = i
      · subst e; simp [Array.getD, hlt] at hj
      · simp only [Array.getD_eq_getD_getElem?, Array.getElem?_setIfInBounds_ne (Ne.symm e)] at hj ⊢
        exact hj
    have he : ((List.range ops.size).filter fun j => !(listed.setIfInBounds i true).getD j true) = ((List.range ops.size).filter fun j => !listed.getD j true).filter fun j => !(listed.setIfInBounds i true).getD j true := by
      rw [List.filter_filter]
      refine List.filter_congr fun j _ => ?_
      rw [Bool.eq_iff_iff, Bool.and_eq_true]
      exact ⟨fun h => ⟨h, hp j h⟩, fun h => h.1⟩
    rw [he]
    exact List.filter_sublist
  rcases Nat.lt_or_ge (((List.range ops.size).filter fun j => !(listed.setIfInBounds i true).getD j true).length) (((List.range ops.size).filter fun j => !listed.getD j true).length) with c | c
  · exact c
  · have he := hs.eq_of_length_le c
    have hm : i ∈ (List.range ops.size).filter fun j => !listed.getD j true := List.mem_filter.2 ⟨List.mem_range.2 hi, by simp [h]⟩
    rw [← he] at hm
    have := (List.mem_filter.1 hm).2
    simp [Array.getD, hlt] at this
theorem ready_none (hin : inOrder md ops = true) {listed : Array Bool} (h : Region.ready md ops listed = []) : ∀ i, i < ops.size → listed.getD i true = true := by
  intro i
  induction i using Nat.strongRecOn with
  | ind i ih =>
    intro hi
    rcases hb : listed.getD i true with _ | _
    · exfalso
      have hm : i ∈ Region.ready md ops listed := by
        unfold Region.ready
        rw [List.mem_filter]
        refine ⟨List.mem_range.2 hi, ?_⟩
        rw [Array.getElem?_eq_getElem hi]
        simp only [hb, Option.map_some, Option.getD_some, Bool.not_false, Bool.true_and]
        rw [Array.all_eq_true]
        intro j hj
        have h1 := List.all_eq_true.1 hin i (List.mem_range.2 hi)
        rw [Array.getElem?_eq_getElem hi] at h1
        simp only [Option.map_some, Option.getD_some] at h1
        have h2 := Array.all_eq_true.1 h1 j hj
        rw [Bool.or_eq_true] at h2 ⊢
        refine h2.imp (fun h => h) fun h => ?_
        have hlt := of_decide_eq_true h
        have h3 := ih _ hlt (by omega)
        rcases Nat.lt_or_ge (ops[i].after[j].on) listed.size with c | c
        · simpa [Array.getD, c] using h3
        · exfalso
          have : i < listed.size := by
            rcases Nat.lt_or_ge i listed.size with c | c
            · exact c
            · simp [Array.getD, Nat.not_lt.2 c] at hb
          omega
      rw [h] at hm
      cases hm
    · rfl
/-- A region that draws, by what holds at every point. -/
theorem wpAnyIn_inv (hin : inOrder md ops = true) (Inv : Array Bool → Act → World → Prop)
    (hdone : ∀ listed a w, Inv listed a w → (∀ i, i < ops.size → listed.getD i true = true) → Q .normal a w)
    (hstep : ∀ listed a w i o, ops[i]? = some o → Inv listed a w → listed.getD i true = false → (∀ e ∈ o.after, Region.binds md e = true → listed.getD e.on false = true) → ∀ K : Act → World → Prop, (∀ a' w', Inv (listed.setIfInBounds i true) a' w' → K a' w') →
      if Region.wanted o (yielded ops a.tmps) = true then Oper.wpIn F n P o a w K Q else (∀ f, o.about P w a.eval = some f → F.fn f) ∧ K (a.put o.dst undef) w) :
    ∀ fuel listed a w, leftOf ops listed ≤ fuel → Inv listed a w → wpAnyIn F n P md ops Q fuel listed a w := by
  intro fuel
  induction fuel with
  | zero =>
    intro listed a w hf hi
    have hr : Region.ready md ops listed = [] := by
      rw [List.eq_nil_iff_forall_not_mem]
      intro i hm
      unfold Region.ready at hm
      obtain ⟨h1, h2⟩ := List.mem_filter.1 hm
      have h3 := (Bool.and_eq_true _ _).mp h2 |>.1
      have h4 : i ∈ (List.range ops.size).filter fun j => !listed.getD j true := List.mem_filter.2 ⟨h1, h3⟩
      unfold leftOf at hf
      rw [List.length_eq_zero_iff.1 (Nat.le_zero.1 hf)] at h4
      cases h4
    exact ⟨hr, hdone _ _ _ hi (ready_none hin hr)⟩
  | succ fuel ih =>
    intro listed a w hf hi
    refine ⟨fun hr => hdone _ _ _ hi (ready_none hin hr), fun i hm => ?_⟩
    unfold Region.ready at hm
    obtain ⟨h1, h2⟩ := List.mem_filter.1 hm
    have hlt := List.mem_range.1 h1
    obtain ⟨h3, h4⟩ := (Bool.and_eq_true _ _).mp h2
    have hl : listed.getD i true = false := by simpa using h3
    rw [Array.getElem?_eq_getElem hlt] at h4
    simp only [Option.map_some, Option.getD_some] at h4
    refine wpOpIn_step (Array.getElem?_eq_getElem hlt) fun K' hK => ?_
    refine hstep listed a w i _ (Array.getElem?_eq_getElem hlt) hi hl (fun e he hb => ?_) K' fun a' w' hi' => hK _ _ (ih _ _ _ (by have := leftOf_set hlt hl; omega) hi')
    obtain ⟨j, hj, rfl⟩ := Array.mem_iff_getElem.1 he
    have h5 := Array.all_eq_true.1 h4 j hj
    rw [Bool.or_eq_true] at h5
    rcases h5 with h5 | h5
    · rw [hb] at h5; cases h5
    · exact h5
theorem region_inv {id : Nat} {a : Act} {w : World} (hm : P.follows .mixedOrders = true) (hin : inOrder .any ops = true) (Inv : Array Bool → Act → World → Prop) (h0 : Inv (Array.replicate ops.size false) a w.drew)
    (hdone : ∀ listed a w, Inv listed a w → (∀ i, i < ops.size → listed.getD i true = true) → Q .normal a w)
    (hstep : ∀ listed a w i o, ops[i]? = some o → Inv listed a w → listed.getD i true = false → (∀ e ∈ o.after, Region.binds .any e = true → listed.getD e.on false = true) → ∀ K : Act → World → Prop, (∀ a' w', Inv (listed.setIfInBounds i true) a' w' → K a' w') →
      if Region.wanted o (yielded ops a.tmps) = true then Oper.wpIn F n P o a w K Q else (∀ f, o.about P w a.eval = some f → F.fn f) ∧ K (a.put o.dst undef) w) :
    (Code.region id ops true).wpIn F n P Q a w :=
  wpIn_region_any hm (wpAnyIn_inv hin Inv hdone hstep _ _ _ _ (by unfold leftOf; exact Nat.le_trans (List.length_filter_le _ _) (by simp)) h0)
end
end Go.Proofs.Ytkkpcndpjkebkaa
