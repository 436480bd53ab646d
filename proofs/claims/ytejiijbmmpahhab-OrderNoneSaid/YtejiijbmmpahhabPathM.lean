import Derived.Test.YtejiijbmmpahhabProveM
import Derived.Test.YtejiijbmmpahhabRefG
/- What Check finds in a map's own steps, and what the list has. -/
namespace Go.Proofs.Ytejiijbmmpahhab
open Go.ChangeShapes Go.WideShapes Go.ChangeAt Go.RowKit Go.Deep

theorem touch_base' {w0 w w' : World} {bb : Nat} (h : Touch Nil w0 w) (ht : Touch (Just bb) w w') (hb : w0.heap.size ≤ bb) : Touch Nil w0 w' := h.trans' ht fun b hb' hs => by have hs : b = bb := hs; omega
/-- What Check finds, and what the list has. -/
theorem path_has {seed : Int} {t : Tree} {key : Key} (hg : GoodT seed t) : (hasF key t.toL = false ∧ chk seed key (fun i => ((pathT seed key t).getD i ⟨[], [], 0, 0⟩).k) (fun i => ((pathT seed key t).getD i ⟨[], [], 0, 0⟩).u) (fun i => ((pathT seed key t).getD i ⟨[], [], 0, 0⟩).l) (fun i => ((pathT seed key t).getD i ⟨[], [], 0, 0⟩).r) (pathT seed key t).length (pathT seed key t).length 0 (digT seed t) = .none) ∨
    (hasF key t.toL = true ∧ ∃ j, chk seed key (fun i => ((pathT seed key t).getD i ⟨[], [], 0, 0⟩).k) (fun i => ((pathT seed key t).getD i ⟨[], [], 0, 0⟩).u) (fun i => ((pathT seed key t).getD i ⟨[], [], 0, 0⟩).l) (fun i => ((pathT seed key t).getD i ⟨[], [], 0, 0⟩).r) (pathT seed key t).length (pathT seed key t).length 0 (digT seed t) = .there j ∧ ∀ p, t.toL[rankF key t.toL]? = some p → p.1 = key → p.2 = ((pathT seed key t).getD j ⟨[], [], 0, 0⟩).u ∧ ((pathT seed key t).getD j ⟨[], [], 0, 0⟩).u.length ≤ 1000) := by
  rcases chk_path (kk := fun i => ((pathT seed key t).getD i ⟨[], [], 0, 0⟩).k) (vv := fun i => ((pathT seed key t).getD i ⟨[], [], 0, 0⟩).u) (dl := fun i => ((pathT seed key t).getD i ⟨[], [], 0, 0⟩).l) (dr := fun i => ((pathT seed key t).getD i ⟨[], [], 0, 0⟩).r) (n := (pathT seed key t).length) (key := key) t 0 hg (fun j q hq => by
      simp only [Nat.zero_add, List.getD_eq_getElem?_getD, hq, Option.getD_some, and_self]) (by omega) with ⟨h1, h2⟩ | ⟨j, h1, h2, h3⟩
  · refine .inl ⟨?_, h1⟩
    cases e : hasF key t.toL with
    | false => rfl
    | true =>
      obtain ⟨u, hu⟩ := (hasF_iff hg.srt).1 e
      exact absurd rfl (h2 _ hu)
  · refine .inr ⟨(hasF_iff hg.srt).2 ⟨_, h3⟩, j, h1, fun p hp hk => ?_⟩
    have hmem : p ∈ t.toL := List.mem_of_getElem? hp
    have e : p = (key, ((pathT seed key t).getD j ⟨[], [], 0, 0⟩).u) := by
      have hsrt := hg.srt
      obtain ⟨a, ha⟩ := List.getElem?_of_mem h3
      have hpw : ∀ i j, i < j → ∀ p q : Key × Key, t.toL[i]? = some p → t.toL[j]? = some q → klt p.1 q.1 = true := fun i j hij p q h1 h2 => by
        obtain ⟨hi, e1⟩ := List.getElem?_eq_some_iff.1 h1
        obtain ⟨hj, e2⟩ := List.getElem?_eq_some_iff.1 h2
        rw [← e1, ← e2]
        exact List.pairwise_iff_getElem.1 hsrt i j hi hj hij
      rcases Nat.lt_trichotomy a (rankF key t.toL) with c | c | c
      · have := hpw _ _ c _ _ ha hp
        rw [hk, klt_ko.irrefl] at this; cases this
      · subst c; rw [hp] at ha; cases ha; rfl
      · have := hpw _ _ c _ _ hp ha
        rw [hk, klt_ko.irrefl] at this; cases this
    rw [e]
    exact ⟨rfl, (hg.ok _ h3).2.2⟩

theorem at_uniq {L : Pairs} (hsrt : Srt L) {key u : Key} {i : Nat} {p : Key × Key} (h3 : (key, u) ∈ L) (hp : L[i]? = some p) (hk : p.1 = key) : p = (key, u) := by
  obtain ⟨a, ha⟩ := List.getElem?_of_mem h3
  have hpw : ∀ i j, i < j → ∀ p q : Key × Key, L[i]? = some p → L[j]? = some q → klt p.1 q.1 = true := fun i j hij p q h1 h2 => by
    obtain ⟨hi, e1⟩ := List.getElem?_eq_some_iff.1 h1
    obtain ⟨hj, e2⟩ := List.getElem?_eq_some_iff.1 h2
    rw [← e1, ← e2]
    exact List.pairwise_iff_getElem.1 hsrt i j hi hj hij
  rcases Nat.lt_trichotomy a i with c | c | c
  · have := hpw _ _ c _ _ ha hp
    rw [hk, klt_ko.irrefl] at this; cases this
  · subst c; rw [hp] at ha; cases ha; rfl
  · have := hpw _ _ c _ _ hp ha
    rw [hk, klt_ko.irrefl] at this; cases this
end Go.Proofs.Ytejiijbmmpahhab
