import Derived.Test.YtkkpcndpjkebkaaGrow
/- The nodes and the proof of a key, as the definition has them. -/
namespace Go.Proofs.Ytkkpcndpjkebkaa
open Go.ChangeShapes Go.WideShapes Go.ChangeAt Go.RowKit Go.Deep

/-- The nodes, in new memory with all their bytes. -/
def NodesNew (seed : Int) (t : Tree) (w : World) (e : Ending) (w' : World) : Prop := ∃ x, e = .returned x ∧ NG w.heap.size w.heap.size w' x (nodesT seed 0 t) ∧ Touch Nil w w'
set_option maxHeartbeats 1000000 in
theorem nodesR_new {seed : Int} {t : Tree} {w : World} {lx : Value} (hs : Srt t.toL) (hh : t.Heap (abv seed)) (ho : OkL t.toL) (hp : PL w lx t.toL) (hz : t.size ≤ 1000000) :
    Calls Try.prog 21 #[.int .u64 seed, lx] w (NodesNew seed t w) := by
  have HG := Lib.hid (growR_any (seed := seed) (B := w.heap.size) (w0 := w) (Nat.le_refl _) t.size t (w := w) (x := .slice none 0 0) (lx := lx) (N0 := []) (Nat.le_refl _) hs hh ho hp (Touch.refl _ _) (Nat.le_refl _) OL.nil (by simpa using hz))
  obtain ⟨la, ln, lc, rfl⟩ := hp.form3
  clear hs hh ho hp hz
  go_enter Try.func21, Try.ntmps21
  go_wp2_with fail
  refine HG.out.mono ?_
  rintro e w2 ⟨x2, rfl, ho, ht, _⟩
  obtain ⟨xa2, xl2, xc2, rfl⟩ := ho.form3
  have HO := Lib.hid (And.intro ho ht)
  clear ho ht
  go_wp2_with fail
  go_ret
  exact ⟨_, rfl, by simpa using HO.out.1, HO.out.2.mono fun b hb hs => by cases hs⟩

theorem nodesR_any {seed : Int} {t : Tree} {w : World} {lx : Value} (hs : Srt t.toL) (hh : t.Heap (abv seed)) (ho : OkL t.toL) (hp : PL w lx t.toL) (hz : t.size ≤ 1000000) :
    Calls Try.prog 21 #[.int .u64 seed, lx] w (NodesOf seed t w) := (nodesR_new hs hh ho hp hz).mono fun _ _ ⟨x, he, h, ht⟩ => ⟨x, he, h.no, ht⟩
/-- A tree's nodes within a list. -/
theorem nodes_left (seed : Int) {b : Nat} {l r : Tree} {k u : Key} {N rest : List NodeC} (h : N.drop b = nodesT seed b (.node l k u r) ++ rest) : N[b]? = some (nodeAt seed b l k u r) ∧ N.drop (b + 1) = nodesT seed (b + 1) l ++ (nodesT seed (b + 1 + l.size) r ++ rest) ∧ N.drop (b + 1 + l.size) = nodesT seed (b + 1 + l.size) r ++ rest := by
  have h0 : N[b]? = (N.drop b)[0]? := by rw [List.getElem?_drop, Nat.add_zero]
  have d1 : N.drop (b + 1) = nodesT seed (b + 1) l ++ (nodesT seed (b + 1 + l.size) r ++ rest) := by
    rw [← List.drop_drop, h]; simp [nodesT]
  refine ⟨by rw [h0, h]; rfl, d1, ?_⟩
  rw [← List.drop_drop, d1, List.drop_append, List.drop_of_length_le (by rw [nodesT_len]; exact Nat.le_refl _), nodesT_len]; simp
theorem nodes_root (seed : Int) {b : Nat} {s : Tree} {N rest : List NodeC} (h : N.drop b = nodesT seed b s ++ rest) : (s = .nil) ∨ ∃ x, N[b]? = some x ∧ x.d = digT seed s ∧ b < N.length := by
  cases s with
  | nil => exact .inl rfl
  | node l k u r =>
    have hx := (nodes_left seed h).1
    exact .inr ⟨_, hx, rfl, (List.getElem?_eq_some_iff.1 hx).1⟩
end Go.Proofs.Ytkkpcndpjkebkaa
