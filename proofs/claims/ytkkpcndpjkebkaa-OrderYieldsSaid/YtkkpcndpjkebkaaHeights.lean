import Derived.Test.YtkkpcndpjkebkaaNodesG
import Derived.Test.YtkkpcndpjkebkaaLawP
/- What stands in a list of nodes: each node, its children. -/
namespace Go.Proofs.Ytkkpcndpjkebkaa
open Go.ChangeShapes Go.WideShapes Go.ChangeAt Go.RowKit Go.Deep

/-- A tree of a map. -/
structure GoodT (seed : Int) (t : Tree) : Prop where
  srt : Srt t.toL
  heap : t.Heap (abv seed)
  ok : OkL t.toL
theorem GoodT.left {seed : Int} {l r : Tree} {k u : Key} (h : GoodT seed (.node l k u r)) : GoodT seed l := ⟨(srt_node.1 h.srt).1, h.heap.2.2.1, fun p hp => h.ok p (by simp [Tree.toL, hp])⟩
theorem GoodT.right {seed : Int} {l r : Tree} {k u : Key} (h : GoodT seed (.node l k u r)) : GoodT seed r := ⟨(srt_node.1 h.srt).2.1, h.heap.2.2.2, fun p hp => h.ok p (by simp [Tree.toL, hp])⟩
/-- Where a node stands, those below it follow. -/
theorem nodes_at (seed : Int) : ∀ (t : Tree) (b i : Nat) (x : NodeC), GoodT seed t → (nodesT seed b t)[i]? = some x →
    ∃ l k u r rest, GoodT seed (.node l k u r) ∧ x = nodeAt seed (b + i) l k u r ∧ (nodesT seed b t).drop i = nodesT seed (b + i) (.node l k u r) ++ rest
  | .nil, b, i, x, _, h => by simp [nodesT] at h
  | .node l k u r, b, 0, x, hg, h => by
    simp only [nodesT, List.getElem?_cons_zero, Option.some.injEq] at h
    exact ⟨l, k, u, r, [], hg, by rw [← h, Nat.add_zero], by simp⟩
  | .node l k u r, b, i + 1, x, hg, h => by
    simp only [nodesT, List.getElem?_cons_succ] at h
    by_cases hi : i < l.size
    · rw [List.getElem?_append_left (by rw [nodesT_len]; exact hi)] at h
      obtain ⟨l', k', u', r', rest, g, e1, e2⟩ := nodes_at seed l (b + 1) i x hg.left h
      refine ⟨l', k', u', r', rest ++ nodesT seed (b + 1 + l.size) r, g, by rw [e1, show b + 1 + i = b + (i + 1) by omega], ?_⟩
      simp only [nodesT, List.drop_succ_cons]
      rw [List.drop_append_of_le_length (by rw [nodesT_len]; omega), e2, show b + 1 + i = b + (i + 1) by omega, List.append_assoc]
      rfl
    · rw [List.getElem?_append_right (by rw [nodesT_len]; omega), nodesT_len] at h
      obtain ⟨l', k', u', r', rest, g, e1, e2⟩ := nodes_at seed r (b + 1 + l.size) (i - l.size) x hg.right h
      refine ⟨l', k', u', r', rest, g, by rw [e1, show b + 1 + l.size + (i - l.size) = b + (i + 1) by omega], ?_⟩
      simp only [nodesT, List.drop_succ_cons]
      rw [List.drop_append, List.drop_of_length_le (by rw [nodesT_len]; omega), List.nil_append, nodesT_len, e2, show b + 1 + l.size + (i - l.size) = b + (i + 1) by omega]
      rfl
/-- What a node tells of a child. -/
def ChildOk (seed : Int) (N : List NodeC) (i : Nat) (k : Key) (left : Bool) (at' : Int) (d s : Nat) : Prop :=
  (at' = -1 ∧ d = 0 ∧ s = 0) ∨ ∃ (j : Nat) (y : NodeC), at' = (j : Int) ∧ i < j ∧ N[j]? = some y ∧ y.d = d ∧ y.s = s ∧ abv seed k y.k = true ∧ klt y.k k = left ∧ y.k.length ≤ 64
theorem child_ok {seed : Int} {N rest : List NodeC} {i j : Nat} {k : Key} {left : Bool} {s : Tree} (hj : i < j) (hd : N.drop j = nodesT seed j s ++ rest) (hg : GoodT seed s) (hab : ∀ p ∈ s.toL, abv seed k p.1 = true ∧ klt p.1 k = left) : ChildOk seed N i k left (childAt s j) (digT seed s) s.size := by
  cases s with
  | nil => exact .inl ⟨rfl, rfl, rfl⟩
  | node l k' u' r =>
    refine .inr ⟨j, nodeAt seed j l k' u' r, rfl, hj, ?_, rfl, rfl, (hab (k', u') (by simp [Tree.toL])).1, (hab (k', u') (by simp [Tree.toL])).2, (hg.ok (k', u') (by simp [Tree.toL])).2.1⟩
    have : (N.drop j)[0]? = some (nodeAt seed j l k' u' r) := by rw [hd]; simp [nodesT]
    rw [List.getElem?_drop, Nat.add_zero] at this
    exact this
/-- What the law asks of a node. -/
structure NodeOk (seed : Int) (N : List NodeC) (i : Nat) (x : NodeC) (dl dr sl sr : Nat) : Prop where
  left : ChildOk seed N i x.k true x.l dl sl
  right : ChildOk seed N i x.k false x.r dr sr
  size : x.s = 1 + sl + sr
  dig : x.d = markN seed dl x.k x.u dr
  ok : okK x.k x.u
  bl : dl ≤ 18446744073709551615
  br : dr ≤ 18446744073709551615
theorem node_ok {seed : Int} {t : Tree} (hg : GoodT seed t) {i : Nat} {x : NodeC} (h : (nodesT seed 0 t)[i]? = some x) : ∃ dl dr sl sr, NodeOk seed (nodesT seed 0 t) i x dl dr sl sr := by
  obtain ⟨l, k, u, r, rest, g, e1, e2⟩ := nodes_at seed t 0 i x hg h
  rw [Nat.zero_add] at e1 e2
  obtain ⟨s1, s2, a1, a2⟩ := srt_node.1 g.srt
  have d1 : (nodesT seed 0 t).drop (i + 1) = nodesT seed (i + 1) l ++ (nodesT seed (i + 1 + l.size) r ++ rest) := by
    rw [← List.drop_drop, e2]; simp [nodesT]
  have d2 : (nodesT seed 0 t).drop (i + 1 + l.size) = nodesT seed (i + 1 + l.size) r ++ rest := by
    rw [← List.drop_drop, d1, List.drop_append, List.drop_of_length_le (by rw [nodesT_len]; exact Nat.le_refl _), nodesT_len]; simp
  refine ⟨digT seed l, digT seed r, l.size, r.size, ?_, ?_, ?_, ?_, ?_, digT_bd _ _, digT_bd _ _⟩
  · rw [e1]; exact child_ok (by omega) d1 g.left fun p hp => ⟨g.heap.1 p hp, a1 p hp⟩
  · rw [e1]; exact child_ok (by omega) d2 g.right fun p hp => ⟨g.heap.2.1 p hp, klt_ko.asym (a2 p hp)⟩
  · rw [e1]; simp only [nodeAt, Tree.size]; omega
  · rw [e1]; rfl
  · rw [e1]; exact g.ok (k, u) (by simp [Tree.toL])
theorem MapAt.good {seed : Int} {R : Nat → Prop} {w : World} {mb bb : Nat} {ra : Option Addr} {t : Tree} (h : MapAt seed R w mb bb ra t) (ho : OkL t.toL) : GoodT seed t := ⟨h.srt, h.heap, ho⟩
theorem treeAt_ok {seed : Int} {R : Nat → Prop} {w : World} : ∀ {t : Tree} {v : Value}, TreeAt seed R w t v → OkL t.toL
  | .nil, _, _ => fun p hp => by simp [Tree.toL] at hp
  | .node l k u r, _, ⟨_, _, _, _, _, _, _, ⟨_, _, _, _, _, _, _, _, hok⟩, hl, hr⟩ => fun p hp => by
    simp only [Tree.toL, List.mem_append, List.mem_cons] at hp
    rcases hp with hp | rfl | hp
    · exact treeAt_ok hl p hp
    · exact hok
    · exact treeAt_ok hr p hp

/-- An element of a list of nodes. -/
theorem NL.el {w : World} {ao : Option Addr} {n cap : Nat} {L : List NodeC} (h : NL w (.slice ao n cap) L) {i : Nat} {x : NodeC} (hx : L[i]? = some x) :
    ∃ b off ka kc ua uc, ao = some ⟨b, off, none⟩ ∧ b < w.heap.size ∧ (w.cell? ⟨b, off + i * 6, none⟩ = some (.slice ka x.k.length kc) ∧ w.cell? ⟨b, off + i * 6 + 1, none⟩ = some (.slice ua x.u.length uc) ∧ w.cell? ⟨b, off + i * 6 + 2, none⟩ = some (.int .u64 (x.d : Int)) ∧ w.cell? ⟨b, off + i * 6 + 3, none⟩ = some (.int .i64 (x.s : Int)) ∧ w.cell? ⟨b, off + i * 6 + 4, none⟩ = some (.int .i64 x.l) ∧ w.cell? ⟨b, off + i * 6 + 5, none⟩ = some (.int .i64 x.r)) ∧ BV w (.slice ka x.k.length kc) x.k ∧ BV w (.slice ua x.u.length uc) x.u := by
  obtain ⟨b, off, e, hb, f, hc, hf⟩ := h.at hx
  have h0 : BV w (f 0) x.k := hf 0 (by omega)
  have h1 : BV w (f 1) x.u := hf 1 (by omega)
  have h2 : f 2 = .int .u64 (x.d : Int) := hf 2 (by omega)
  have h3 : f 3 = .int .i64 (x.s : Int) := hf 3 (by omega)
  have h4 : f 4 = .int .i64 x.l := hf 4 (by omega)
  have h5 : f 5 = .int .i64 x.r := hf 5 (by omega)
  obtain ⟨ka, kc, e0⟩ := h0.len'
  obtain ⟨ua, uc, e1⟩ := h1.len'
  rw [e0] at h0
  rw [e1] at h1
  refine ⟨b, off, ka, kc, ua, uc, e, hb, ⟨?_, ?_, ?_, ?_, ?_, ?_⟩, h0, h1⟩
  · rw [← e0]; exact hc 0 (by omega)
  · rw [← e1]; exact hc 1 (by omega)
  · rw [← h2]; exact hc 2 (by omega)
  · rw [← h3]; exact hc 3 (by omega)
  · rw [← h4]; exact hc 4 (by omega)
  · rw [← h5]; exact hc 5 (by omega)
end Go.Proofs.Ytkkpcndpjkebkaa
