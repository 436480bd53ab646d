import Derived.Test.YtejiijbmmpahhabStepV
import Derived.Test.YtejiijbmmpahhabCheckP
/- A map's own proof is a proof: mathematics, and the steps as Check reads them. -/
namespace Go.Proofs.Ytejiijbmmpahhab
open Go.ChangeShapes Go.WideShapes Go.ChangeAt Go.RowKit Go.Deep

/-- Steps as Check reads them. -/
theorem SL.sds {w : World} {ao : Option Addr} {n cap : Nat} {L : List SideC} (h : SL w (.slice ao n cap) L) (hb : ∀ q ∈ L, q.l ≤ 18446744073709551615 ∧ q.r ≤ 18446744073709551615) :
    ∃ v, Sds w ao n v (fun i => (L.getD i ⟨[], [], 0, 0⟩).k) (fun i => (L.getD i ⟨[], [], 0, 0⟩).u) (fun i => (L.getD i ⟨[], [], 0, 0⟩).l) (fun i => (L.getD i ⟨[], [], 0, 0⟩).r) := by
  obtain ⟨ao', cap', v, e, h1, h2, h3, h4⟩ := h
  cases e
  have hget : ∀ i, i < L.length → L[i]? = some (L.getD i ⟨[], [], 0, 0⟩) := fun i hi => by
    rw [List.getD_eq_getElem?_getD, List.getElem?_eq_getElem hi]; rfl
  refine ⟨v, h3, fun i hi => ?_, fun i hi => ?_, fun i hi => ?_, fun i hi => ?_⟩
  · exact h4 i _ (hget i hi) 0 (by omega)
  · exact h4 i _ (hget i hi) 1 (by omega)
  · exact ⟨h4 i _ (hget i hi) 2 (by omega), (hb _ (List.mem_of_getElem? (hget i hi))).1⟩
  · exact ⟨h4 i _ (hget i hi) 3 (by omega), (hb _ (List.mem_of_getElem? (hget i hi))).2⟩
theorem pathT_bd (seed : Int) (key : Key) : ∀ (t : Tree), OkL t.toL → ∀ q ∈ pathT seed key t, (q.l ≤ 18446744073709551615 ∧ q.r ≤ 18446744073709551615) ∧ okK q.k q.u
  | .nil, _, q, hq => by simp [pathT] at hq
  | .node l k u r, ho, q, hq => by
    simp only [pathT, List.mem_cons] at hq
    rcases hq with rfl | hq
    · exact ⟨⟨digT_bd _ _, digT_bd _ _⟩, ho (k, u) (by simp [Tree.toL])⟩
    · split at hq
      · simp at hq
      · split at hq
        · exact pathT_bd seed key l (fun p hp => ho p (by simp [Tree.toL, hp])) q hq
        · exact pathT_bd seed key r (fun p hp => ho p (by simp [Tree.toL, hp])) q hq
/-- What Check finds in a map's own steps. -/
theorem chk_path {seed : Int} {key : Key} {kk vv : Nat → Key} {dl dr : Nat → Nat} {n : Nat} : ∀ (s : Tree) (i : Nat), GoodT seed s → (∀ j q, (pathT seed key s)[j]? = some q → kk (i + j) = q.k ∧ vv (i + j) = q.u ∧ dl (i + j) = q.l ∧ dr (i + j) = q.r) → n = i + (pathT seed key s).length →
    (chk seed key kk vv dl dr n (pathT seed key s).length i (digT seed s) = .none ∧ ∀ p ∈ s.toL, p.1 ≠ key) ∨ ∃ j, chk seed key kk vv dl dr n (pathT seed key s).length i (digT seed s) = .there j ∧ j < n ∧ (key, vv j) ∈ s.toL
  | .nil, i, _, _, _ => .inl ⟨rfl, fun p hp => by simp [Tree.toL] at hp⟩
  | .node l k u r, i, hg, hP, hn => by
    obtain ⟨s1, s2, a1, a2⟩ := srt_node.1 hg.srt
    obtain ⟨e1, e2, e3, e4⟩ := hP 0 ⟨k, u, digT seed l, digT seed r⟩ (by simp [pathT])
    rw [Nat.add_zero] at e1 e2 e3 e4
    have hok : allowB k.length u.length = true := okK_iff.2 (hg.ok (k, u) (by simp [Tree.toL]))
    by_cases hk : key = k
    · have hp : pathT seed key (.node l k u r) = [⟨k, u, digT seed l, digT seed r⟩] := by simp only [pathT]; rw [if_pos hk]
      rw [hp] at hn ⊢
      refine .inr ⟨i, ?_, by simp at hn; omega, by rw [e2, hk]; simp [Tree.toL]⟩
      simp only [List.length_singleton, chk, e1, e2, e3, e4, hok, if_true, digT]
      rw [if_pos hk, if_neg (by simp at hn; omega)]
    · by_cases hlt : klt key k = true
      · have hp : pathT seed key (.node l k u r) = ⟨k, u, digT seed l, digT seed r⟩ :: pathT seed key l := by simp only [pathT]; rw [if_neg hk, if_pos hlt]
        rw [hp] at hn hP ⊢
        have hcmp : Lib.compareBytes key k < 0 := klt_iff.1 hlt
        have ih := chk_path (n := n) (kk := kk) (vv := vv) (dl := dl) (dr := dr) l (i + 1) hg.left (fun j q hq => by
          have := hP (j + 1) q (by simpa using hq)
          rwa [show i + (j + 1) = i + 1 + j by omega] at this) (by rw [hn, List.length_cons]; omega)
        have hc : chk seed key kk vv dl dr n (⟨k, u, digT seed l, digT seed r⟩ :: pathT seed key l : List SideC).length i (digT seed (.node l k u r)) = chk seed key kk vv dl dr n (pathT seed key l).length (i + 1) (digT seed l) := by
          simp only [List.length_cons, chk, e1, e2, e3, e4, hok, if_true, digT]
          rw [if_neg hk, if_pos hcmp]
        rw [hc]
        rcases ih with ⟨h1, h2⟩ | ⟨j, h1, h2, h3⟩
        · refine .inl ⟨h1, fun p hp => ?_⟩
          simp only [Tree.toL, List.mem_append, List.mem_cons] at hp
          rcases hp with hp | rfl | hp
          · exact h2 p hp
          · exact fun e => hk e.symm
          · intro e
            have := a2 p hp
            rw [e, klt_ko.asym hlt] at this
            cases this
        · exact .inr ⟨j, h1, h2, by simp [Tree.toL, h3]⟩
      · have hp : pathT seed key (.node l k u r) = ⟨k, u, digT seed l, digT seed r⟩ :: pathT seed key r := by simp only [pathT]; rw [if_neg hk, if_neg hlt]
        rw [hp] at hn hP ⊢
        have hcmp : ¬ Lib.compareBytes key k < 0 := fun h => hlt (klt_iff.2 h)
        have ih := chk_path (n := n) (kk := kk) (vv := vv) (dl := dl) (dr := dr) r (i + 1) hg.right (fun j q hq => by
          have := hP (j + 1) q (by simpa using hq)
          rwa [show i + (j + 1) = i + 1 + j by omega] at this) (by rw [hn, List.length_cons]; omega)
        have hc : chk seed key kk vv dl dr n (⟨k, u, digT seed l, digT seed r⟩ :: pathT seed key r : List SideC).length i (digT seed (.node l k u r)) = chk seed key kk vv dl dr n (pathT seed key r).length (i + 1) (digT seed r) := by
          simp only [List.length_cons, chk, e1, e2, e3, e4, hok, if_true, digT]
          rw [if_neg hk, if_neg hcmp]
        rw [hc]
        rcases ih with ⟨h1, h2⟩ | ⟨j, h1, h2, h3⟩
        · refine .inl ⟨h1, fun p hp => ?_⟩
          simp only [Tree.toL, List.mem_append, List.mem_cons] at hp
          rcases hp with hp | rfl | hp
          · intro e
            have := a1 p hp
            rw [e] at this
            exact hlt this
          · exact fun e => hk e.symm
          · exact h2 p hp
        · exact .inr ⟨j, h1, h2, by simp [Tree.toL, h3]⟩
end Go.Proofs.Ytejiijbmmpahhab
