import Derived.Test.YtejiijbmmpahhabPathM
/- What steps that are handed in show under a map's digest: mathematics. -/
namespace Go.Proofs.Ytejiijbmmpahhab
open Go.ChangeShapes Go.WideShapes Go.ChangeAt Go.RowKit Go.Deep

/-- Whether steps meet a node with the digest of another one, or none. -/
def metT (seed : Int) (key : Key) (kk vv : Nat → Key) (dl dr : Nat → Nat) : Nat → Nat → Tree → Bool
  | 0, _, .nil => false
  | 0, _, .node _ _ _ _ => true
  | _ + 1, _, .nil => true
  | f + 1, i, .node l k u r => if k ≠ kk i ∨ u ≠ vv i then true else if digT seed l ≠ dl i ∨ digT seed r ≠ dr i then true else if key = k then false else
      metT seed key kk vv dl dr f (i + 1) (if Lib.compareBytes key k < 0 then l else r)

/-- Steps that are a proof have allowed keys and values. -/
theorem chk_ok {seed : Int} {key : Key} {kk vv : Nat → Key} {dl dr : Nat → Nat} {n : Nat} : ∀ (f i d : Nat), n = i + f → chk seed key kk vv dl dr n f i d ≠ .form → ∀ j, i ≤ j → j < n → okK (kk j) (vv j)
  | 0, i, d, hn, h, j, h1, h2 => by omega
  | f + 1, i, d, hn, h, j, h1, h2 => by
    simp only [chk] at h
    split at h
    · rename_i ha
      split at h
      · split at h
        · split at h
          · exact absurd rfl h
          · obtain rfl : j = i := by omega
            exact okK_iff.1 ha
        · by_cases e : j = i
          · subst e; exact okK_iff.1 ha
          · exact chk_ok f (i + 1) _ (by omega) h j (by omega) h2
      · exact absurd rfl h
    · exact absurd rfl h

theorem chk_true {seed : Int} {key : Key} {kk vv : Nat → Key} {dl dr : Nat → Nat} {n : Nat} : ∀ (f i : Nat) (t : Tree), GoodT seed t → chk seed key kk vv dl dr n f i (digT seed t) ≠ .form →
    metT seed key kk vv dl dr f i t = true ∨ (chk seed key kk vv dl dr n f i (digT seed t) = .none ∧ ∀ p ∈ t.toL, p.1 ≠ key) ∨ ∃ j, chk seed key kk vv dl dr n f i (digT seed t) = .there j ∧ (key, vv j) ∈ t.toL
  | 0, i, .nil, _, _ => .inr (.inl ⟨rfl, fun p hp => by simp [Tree.toL] at hp⟩)
  | 0, i, .node l k u r, _, _ => .inl rfl
  | f + 1, i, .nil, _, _ => .inl rfl
  | f + 1, i, .node l k u r, hg, h => by
    obtain ⟨s1, s2, a1, a2⟩ := srt_node.1 hg.srt
    by_cases hk : k = kk i
    · by_cases hu : u = vv i
      · by_cases hl : digT seed l = dl i
        · by_cases hr : digT seed r = dr i
          · have hok : allowB k.length u.length = true := okK_iff.2 (hg.ok (k, u) (by simp [Tree.toL]))
            by_cases he : key = k
            · have hc : chk seed key kk vv dl dr n (f + 1) i (digT seed (.node l k u r)) = if i + 1 < n then .form else .there i := by
                simp only [chk, ← hk, ← hu, ← hl, ← hr, hok, if_true, digT]
                rw [if_pos he]
              rw [hc] at h ⊢
              by_cases hi : i + 1 < n
              · rw [if_pos hi] at h; exact absurd rfl h
              · rw [if_neg hi]
                exact .inr (.inr ⟨i, rfl, by rw [he, ← hu]; simp [Tree.toL]⟩)
            · have hm : metT seed key kk vv dl dr (f + 1) i (.node l k u r) = metT seed key kk vv dl dr f (i + 1) (if Lib.compareBytes key k < 0 then l else r) := by
                simp only [metT]
                rw [if_neg (by rw [← hk, ← hu]; simp), if_neg (by rw [← hl, ← hr]; simp), if_neg he]
              have hc : chk seed key kk vv dl dr n (f + 1) i (digT seed (.node l k u r)) = chk seed key kk vv dl dr n f (i + 1) (digT seed (if Lib.compareBytes key k < 0 then l else r)) := by
                simp only [chk, ← hk, ← hu, ← hl, ← hr, hok, if_true, digT]
                rw [if_neg he]
                split <;> rfl
              rw [hm]
              rw [hc] at h ⊢
              by_cases hlt : Lib.compareBytes key k < 0
              · rw [if_pos hlt] at h ⊢
                have hlt' : klt key k = true := klt_iff.2 hlt
                rcases chk_true f (i + 1) l hg.left h with h1 | ⟨h1, h2⟩ | ⟨j, h1, h2⟩
                · exact .inl h1
                · refine .inr (.inl ⟨h1, fun p hp => ?_⟩)
                  simp only [Tree.toL, List.mem_append, List.mem_cons] at hp
                  rcases hp with hp | rfl | hp
                  · exact h2 p hp
                  · exact fun e => he e.symm
                  · intro e
                    have := klt_ko.trans _ _ _ hlt' (a2 p hp)
                    rw [e, klt_ko.irrefl] at this; cases this
                · exact .inr (.inr ⟨j, h1, by simp [Tree.toL, h2]⟩)
              · rw [if_neg hlt] at h ⊢
                have hlt' : klt k key = true := by
                  rcases klt_ko.tot key k he with c | c
                  · exact absurd (klt_iff.1 c) hlt
                  · exact c
                rcases chk_true f (i + 1) r hg.right h with h1 | ⟨h1, h2⟩ | ⟨j, h1, h2⟩
                · exact .inl h1
                · refine .inr (.inl ⟨h1, fun p hp => ?_⟩)
                  simp only [Tree.toL, List.mem_append, List.mem_cons] at hp
                  rcases hp with hp | rfl | hp
                  · intro e
                    have h3 := a1 p hp
                    rw [e] at h3
                    have := klt_ko.trans _ _ _ hlt' h3
                    rw [klt_ko.irrefl] at this; cases this
                  · exact fun e => he e.symm
                  · exact h2 p hp
                · exact .inr (.inr ⟨j, h1, by simp [Tree.toL, h2]⟩)
          · exact .inl (by simp only [metT]; rw [if_neg (by rw [← hk, ← hu]; simp), if_pos (.inr hr)])
        · exact .inl (by simp only [metT]; rw [if_neg (by rw [← hk, ← hu]; simp), if_pos (.inl hl)])
      · exact .inl (by simp only [metT]; rw [if_pos (.inr hu)])
    · exact .inl (by simp only [metT]; rw [if_pos (.inl hk)])
end Go.Proofs.Ytejiijbmmpahhab
