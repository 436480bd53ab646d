/- Plain mathematics: a layout of pairs with different keys, in the order of the keys, is such as a table has. Nothing of the program. -/
import Derived.Test.YticddcnlafbkoaaDoorTabMath
import Derived.Test.YticddcnlafbkoaaDoorOneMath
namespace Go.Proofs.YticddcnlafbkoaaDoor

/-- The cells of a layout of pairs. -/
def layT (C : Nat) (h ord : Nat → Nat) (n : Nat) (p : Nat → Key × Key) : Cells := fun c => (place C h ord n c).map p

theorem frees_map {α β : Type} {L : Nat → Option α} {p : α → β} : ∀ C, frees C (fun c => (L c).map p) = frees C L
  | 0 => rfl
  | C + 1 => by
    simp only [frees, frees_map C]
    have : ((L C).map p).isNone = (L C).isNone := by cases L C <;> rfl
    rw [this]

theorem layT_runs {bf : Key → Key → Bool} {hom : Key → Nat} {C n : Nat} {p : Nat → Key × Key} {ord : Nat → Nat} (ko : KO bf) (hC : 0 < C) (hh : ∀ k, hom k < C) (hn : n ≤ C)
    (hd : ∀ i j, i < n → j < n → i ≠ j → (p i).1 ≠ (p j).1) (ho : Ordr (fun i j => bf (p i).1 (p j).1) n ord) :
    Runs bf hom C (layT C (fun i => hom (p i).1) ord n p) ∧ (∀ x, InT C (layT C (fun i => hom (p i).1) ord n p) x ↔ ∃ i, i < n ∧ x = p i) ∧ frees C (layT C (fun i => hom (p i).1) ord n p) + n = C := by
  obtain ⟨s1, s2⟩ := place_spec (C := C) (n := n) (h := fun i => hom (p i).1) (ord := ord) hC (fun i => hh _) hn n (Nat.le_refl _)
  refine ⟨fun c hc k v e t ht => ?_, fun x => ⟨?_, ?_⟩, ?_⟩
  · unfold layT at e
    cases hp : place C (fun i => hom (p i).1) ord n c with
    | none => rw [hp] at e; cases e
    | some i =>
      rw [hp] at e
      have e : p i = (k, v) := by simpa using e
      obtain ⟨j, hj, ej, hs⟩ := s1 c hc i hp
      have ek : k = (p i).1 := by rw [e]
      rw [ek] at ht ⊢
      obtain ⟨j', hj', ep⟩ := hs t ht
      refine ⟨(p (ord j')).1, (p (ord j')).2, by unfold layT; rw [ep]; rfl, ?_⟩
      have l1 := ho.lt' j' (by omega)
      have l2 := ho.lt' j hj
      rw [← ej]
      rcases ho.sorted j' j (by omega) hj' hj with a | ⟨a, b⟩
      · exact a
      · have a' : bf (p (ord j)).1 (p (ord j')).1 = false := a
        exact (ko.tot _ _ (hd _ _ l1 l2 (by omega))).resolve_right (by rw [a']; simp)
  · rintro ⟨c, hc, e⟩
    unfold layT at e
    cases hp : place C (fun i => hom (p i).1) ord n c with
    | none => rw [hp] at e; cases e
    | some i =>
      rw [hp] at e
      obtain ⟨j, hj, ej, hs⟩ := s1 c hc i hp
      exact ⟨i, by rw [← ej]; exact ho.lt' j hj, by simpa using e.symm⟩
  · rintro ⟨i, hi, rfl⟩
    obtain ⟨j, hj, ej⟩ := ho.all i hi
    obtain ⟨c, hc, e⟩ := s2 j hj
    exact ⟨c, hc, by unfold layT; rw [e, ej]; rfl⟩
  · unfold layT
    rw [frees_map]
    exact place_frees hC (fun i => hh _) hn n (Nat.le_refl _)
end Go.Proofs.YticddcnlafbkoaaDoor
