import Derived.Test.YtkkpcndpjkebkaaCmp
/- Plain mathematics of a map: trees in the order of their keys, with what comes first in another order above. Nothing of the program. -/
namespace Go.Proofs.Ytkkpcndpjkebkaa

inductive Tree where
  | nil : Tree
  | node : Tree → Key → Key → Tree → Tree
namespace Tree
/-- The pairs in the order in which they hang. -/
def toL : Tree → List (Key × Key)
  | nil => []
  | node l k v r => l.toL ++ (k, v) :: r.toL
def size : Tree → Nat
  | nil => 0
  | node l _ _ r => l.size + 1 + r.size
/-- Each stands above those below it. -/
def Heap (ab : Key → Key → Bool) : Tree → Prop
  | nil => True
  | node l k _ r => (∀ x ∈ l.toL, ab k x.1 = true) ∧ (∀ x ∈ r.toL, ab k x.1 = true) ∧ l.Heap ab ∧ r.Heap ab
end Tree

def klt (a b : Key) : Bool := decide (Lib.compareBytes a b < 0)
theorem klt_iff {a b : Key} : klt a b = true ↔ Lib.compareBytes a b < 0 := by simp [klt]
theorem klt_ko : KO klt where
  irrefl := fun a => by simp [klt, cmp_self]
  trans := fun a b c h k => by rw [klt_iff] at *; exact cmp_trans a b c h k
  tot := fun a b h => by
    rw [klt_iff, klt_iff]
    have hn := cmp_neg a b
    have hne : Lib.compareBytes a b ≠ 0 := fun e => h (cmp_eq0 _ _ e)
    omega
theorem klt_false {a b : Key} : klt a b = false ↔ a = b ∨ klt b a = true := by
  constructor
  · intro h
    by_cases e : a = b
    · exact .inl e
    · rcases klt_ko.tot a b e with c | c
      · rw [h] at c; cases c
      · exact .inr c
  · rintro (rfl | h)
    · exact klt_ko.irrefl _
    · exact klt_ko.asym h

abbrev Pairs := List (Key × Key)
/-- Pairs in the order of their keys. -/
def Srt (L : Pairs) : Prop := L.Pairwise fun x y => klt x.1 y.1 = true
theorem srt_nil : Srt [] := List.Pairwise.nil
theorem srt_node {l r : Pairs} {k v : Key} : Srt (l ++ (k, v) :: r) ↔ Srt l ∧ Srt r ∧ (∀ x ∈ l, klt x.1 k = true) ∧ (∀ x ∈ r, klt k x.1 = true) := by
  unfold Srt
  rw [List.pairwise_append, List.pairwise_cons]
  constructor
  · rintro ⟨h1, ⟨h2, h3⟩, h4⟩
    exact ⟨h1, h3, fun x hx => h4 x hx (k, v) (List.mem_cons_self ..), h2⟩
  · rintro ⟨h1, h2, h3, h4⟩
    refine ⟨h1, ⟨h4, h2⟩, fun x hx y hy => ?_⟩
    rcases List.mem_cons.1 hy with rfl | hy
    · exact h3 x hx
    · exact klt_ko.trans _ _ _ (h3 x hx) (h4 y hy)
theorem Srt.filter {L : Pairs} (h : Srt L) (p : Key × Key → Bool) : Srt (L.filter p) := List.Pairwise.sublist List.filter_sublist h
/-- A key is there once. -/
theorem Srt.once {L : Pairs} (h : Srt L) {k v u : Key} (h1 : (k, v) ∈ L) (h2 : (k, u) ∈ L) : v = u := by
  induction L with
  | nil => cases h1
  | cons x L ih =>
    unfold Srt at h
    rw [List.pairwise_cons] at h
    rcases List.mem_cons.1 h1 with e1 | e1 <;> rcases List.mem_cons.1 h2 with e2 | e2
    · rw [← e1] at e2; cases e2; rfl
    · have := h.1 _ e2; rw [← e1] at this; simp [klt_ko.irrefl] at this
    · have := h.1 _ e1; rw [← e2] at this; simp [klt_ko.irrefl] at this
    · exact ih h.2 e1 e2
theorem split_uniq {k v v' : Key} : ∀ {l l' r r' : Pairs}, Srt (l ++ (k, v) :: r) → l ++ (k, v) :: r = l' ++ (k, v') :: r' → l = l' ∧ v = v' ∧ r = r'
  | [], [], r, r', _, e => by simp at e; exact ⟨rfl, e.1, e.2⟩
  | [], x :: l', r, r', h, e => by
    simp only [List.nil_append, List.cons_append, List.cons.injEq] at e
    obtain ⟨e1, e2⟩ := e
    unfold Srt at h
    rw [List.nil_append, List.pairwise_cons] at h
    have := h.1 (k, v') (by rw [e2]; simp)
    simp [klt_ko.irrefl] at this
  | x :: l, [], r, r', h, e => by
    simp only [List.nil_append, List.cons_append, List.cons.injEq] at e
    obtain ⟨e1, e2⟩ := e
    unfold Srt at h
    rw [List.cons_append, List.pairwise_cons] at h
    have := h.1 (k, v) (by simp)
    rw [e1] at this
    simp [klt_ko.irrefl] at this
  | x :: l, y :: l', r, r', h, e => by
    simp only [List.cons_append, List.cons.injEq] at e
    obtain ⟨e1, e2⟩ := e
    unfold Srt at h
    rw [List.cons_append, List.pairwise_cons] at h
    obtain ⟨a, b, c⟩ := split_uniq h.2 e2
    exact ⟨by rw [e1, a], b, c⟩

section
variable {ab : Key → Key → Bool}
/-- One shape: two trees of the same pairs are one. -/
theorem tree_unique (ko : KO ab) : ∀ {t t' : Tree}, t.Heap ab → t'.Heap ab → t.toL = t'.toL → Srt t.toL → t = t'
  | .nil, .nil, _, _, _, _ => rfl
  | .nil, .node l k v r, _, _, e, _ => by simp [Tree.toL] at e
  | .node l k v r, .nil, _, _, e, _ => by simp [Tree.toL] at e
  | .node l k v r, .node l' k' v' r', h, h', e, hs => by
    have hk : k = k' := by
      apply Classical.byContradiction
      intro hne
      have m1 : (k', v') ∈ (Tree.node l k v r).toL := by rw [e]; simp [Tree.toL]
      have m2 : (k, v) ∈ (Tree.node l' k' v' r').toL := by rw [← e]; simp [Tree.toL]
      simp only [Tree.toL, List.mem_append, List.mem_cons] at m1 m2
      have a1 : ab k k' = true := by
        rcases m1 with m | m | m
        · exact h.1 _ m
        · cases m; exact absurd rfl hne
        · exact h.2.1 _ m
      have a2 : ab k' k = true := by
        rcases m2 with m | m | m
        · exact h'.1 _ m
        · cases m; exact absurd rfl hne
        · exact h'.2.1 _ m
      rw [ko.asym a1] at a2; cases a2
    subst hk
    simp only [Tree.toL] at e hs
    obtain ⟨e1, e2, e3⟩ := split_uniq hs e
    obtain ⟨s1, s2, _, _⟩ := srt_node.1 hs
    rw [tree_unique ko h.2.2.1 h'.2.2.1 e1 s1, tree_unique ko h.2.2.2 h'.2.2.2 e3 s2, e2]

/-! ### Splitting -/
def splitT (k : Key) : Tree → Tree × Tree
  | .nil => (.nil, .nil)
  | .node l x v r => if klt x k = true then (.node l x v (splitT k r).1, (splitT k r).2) else ((splitT k l).1, .node (splitT k l).2 x v r)
theorem filter_all {p : Key × Key → Bool} {L : Pairs} (h : ∀ x ∈ L, p x = true) : L.filter p = L := List.filter_eq_self.2 h
theorem filter_none {p : Key × Key → Bool} {L : Pairs} (h : ∀ x ∈ L, p x = false) : L.filter p = [] := List.filter_eq_nil_iff.2 fun x hx => by rw [h x hx]; simp
theorem split_toL (k : Key) : ∀ {t : Tree}, Srt t.toL → (splitT k t).1.toL = t.toL.filter (fun x => klt x.1 k) ∧ (splitT k t).2.toL = t.toL.filter (fun x => !klt x.1 k)
  | .nil, _ => ⟨rfl, rfl⟩
  | .node l x v r, h => by
    obtain ⟨s1, s2, a1, a2⟩ := srt_node.1 h
    by_cases c : klt x k = true
    · obtain ⟨e1, e2⟩ := split_toL k s2
      have hl : ∀ y ∈ l.toL, klt y.1 k = true := fun y hy => klt_ko.trans _ _ _ (a1 y hy) c
      constructor
      · simp only [splitT, c, if_true, Tree.toL, e1, List.filter_append, List.filter_cons]
        rw [filter_all hl]
      · simp only [splitT, c, if_true, Tree.toL, e2, List.filter_append, List.filter_cons]
        rw [filter_none (L := l.toL) fun y hy => by rw [hl y hy]; rfl]
        simp
    · have c' : klt x k = false := by simpa using c
      obtain ⟨e1, e2⟩ := split_toL k s1
      have hr : ∀ y ∈ r.toL, klt y.1 k = false := fun y hy => by
        rcases klt_false.1 c' with e | e
        · rw [← e]; exact klt_ko.asym (a2 y hy)
        · exact klt_ko.asym (klt_ko.trans _ _ _ e (a2 y hy))
      constructor
      · simp only [splitT, c', Tree.toL, e1, List.filter_append, List.filter_cons]
        rw [filter_none (L := r.toL) hr]
        simp [e1]
      · simp only [splitT, c', Tree.toL, e2, List.filter_append, List.filter_cons]
        rw [filter_all (L := r.toL) fun y hy => by rw [hr y hy]; rfl]
        simp [Tree.toL, e2]
theorem split_heap (k : Key) : ∀ {t : Tree}, Srt t.toL → t.Heap ab → (splitT k t).1.Heap ab ∧ (splitT k t).2.Heap ab
  | .nil, _, _ => ⟨trivial, trivial⟩
  | .node l x v r, h, hp => by
    obtain ⟨s1, s2, _, _⟩ := srt_node.1 h
    obtain ⟨p1, p2, p3, p4⟩ := hp
    by_cases c : klt x k = true
    · obtain ⟨e1, _⟩ := split_toL k s2
      obtain ⟨i1, i2⟩ := split_heap k s2 p4
      simp only [splitT, c, if_true]
      exact ⟨⟨p1, fun y hy => p2 y (by rw [e1] at hy; exact (List.mem_filter.1 hy).1), p3, i1⟩, i2⟩
    · obtain ⟨_, e2⟩ := split_toL k s1
      obtain ⟨i1, i2⟩ := split_heap k s1 p3
      simp only [splitT, c]
      exact ⟨i1, ⟨fun y hy => p1 y (by rw [e2] at hy; exact (List.mem_filter.1 hy).1), p2, i2, p4⟩⟩

/-! ### Merging -/
def mergeT (ab : Key → Key → Bool) : Tree → Tree → Tree
  | .nil, b => b
  | .node l x v r, .nil => .node l x v r
  | .node l x v r, .node l' y u r' => if ab x y = true then .node l x v (mergeT ab r (.node l' y u r')) else .node (mergeT ab (.node l x v r) l') y u r'
termination_by a b => a.size + b.size
decreasing_by all_goals (simp only [Tree.size]; omega)
theorem merge_toL (ab : Key → Key → Bool) (a b : Tree) : (mergeT ab a b).toL = a.toL ++ b.toL := by
  fun_induction mergeT ab a b with
  | case1 b => simp [Tree.toL]
  | case2 l x v r => simp [Tree.toL]
  | case3 l x v r l' y u r' c ih => simp [Tree.toL, ih]
  | case4 l x v r l' y u r' c ih => simp [Tree.toL, ih]
theorem merge_heap (ko : KO ab) (a b : Tree) (ha : a.Heap ab) (hb : b.Heap ab) (hne : ∀ x ∈ a.toL, ∀ y ∈ b.toL, x.1 ≠ y.1) : (mergeT ab a b).Heap ab := by
  fun_induction mergeT ab a b with
  | case1 b => exact hb
  | case2 l x v r => exact ha
  | case3 l x v r l' y u r' c ih =>
    obtain ⟨p1, p2, p3, p4⟩ := ha
    refine ⟨p1, fun z hz => ?_, p3, ih p4 hb fun z hz w hw => hne z (by simp [Tree.toL, hz]) w hw⟩
    rw [merge_toL] at hz
    rcases List.mem_append.1 hz with hz | hz
    · exact p2 z hz
    · simp only [Tree.toL, List.mem_append, List.mem_cons] at hz
      rcases hz with hz | rfl | hz
      · exact ko.trans _ _ _ c (hb.1 z hz)
      · exact c
      · exact ko.trans _ _ _ c (hb.2.1 z hz)
  | case4 l x v r l' y u r' c ih =>
    obtain ⟨p1, p2, p3, p4⟩ := hb
    have hxy : x ≠ y := hne (x, v) (by simp [Tree.toL]) (y, u) (by simp [Tree.toL])
    have c' : ab y x = true := (ko.tot x y hxy).resolve_left c
    refine ⟨fun z hz => ?_, p2, ih ha p3 fun z hz w hw => hne z hz w (by simp [Tree.toL, hw]), p4⟩
    rw [merge_toL] at hz
    rcases List.mem_append.1 hz with hz | hz
    · simp only [Tree.toL, List.mem_append, List.mem_cons] at hz
      rcases hz with hz | rfl | hz
      · exact ko.trans _ _ _ c' (ha.1 z hz)
      · exact c'
      · exact ko.trans _ _ _ c' (ha.2.1 z hz)
    · exact p1 z hz

/-! ### Putting in, taking out -/
def insT (ab : Key → Key → Bool) (k v : Key) : Tree → Tree
  | .nil => .node .nil k v .nil
  | .node l x u r => if ab k x = true then .node (splitT k (.node l x u r)).1 k v (splitT k (.node l x u r)).2
    else if klt k x = true then .node (insT ab k v l) x u r else if klt x k = true then .node l x u (insT ab k v r) else .node l k v r
def delT (ab : Key → Key → Bool) (k : Key) : Tree → Tree
  | .nil => .nil
  | .node l x u r => if klt k x = true then .node (delT ab k l) x u r else if klt x k = true then .node l x u (delT ab k r) else mergeT ab l r
/-- The pairs with a pair; without a key. -/
def insL (k v : Key) (L : Pairs) : Pairs := L.filter (fun x => klt x.1 k) ++ (k, v) :: L.filter (fun x => klt k x.1)
def delL (k : Key) (L : Pairs) : Pairs := L.filter (fun x => klt x.1 k || klt k x.1)
theorem insL_srt (k v : Key) {L : Pairs} (h : Srt L) : Srt (insL k v L) :=
  srt_node.2 ⟨h.filter _, h.filter _, fun x hx => (List.mem_filter.1 hx).2, fun x hx => (List.mem_filter.1 hx).2⟩
theorem delL_srt (k : Key) {L : Pairs} (h : Srt L) : Srt (delL k L) := h.filter _
theorem insL_mem {k v : Key} {L : Pairs} {x : Key × Key} : x ∈ insL k v L ↔ x = (k, v) ∨ (x ∈ L ∧ x.1 ≠ k) := by
  unfold insL
  rw [List.mem_append, List.mem_cons, List.mem_filter, List.mem_filter]
  constructor
  · rintro (⟨h, c⟩ | h | ⟨h, c⟩)
    · exact .inr ⟨h, klt_ko.ne c⟩
    · exact .inl h
    · exact .inr ⟨h, fun e => klt_ko.ne c e.symm⟩
  · rintro (h | ⟨h, c⟩)
    · exact .inr (.inl h)
    · rcases klt_ko.tot _ _ c with d | d
      · exact .inl ⟨h, d⟩
      · exact .inr (.inr ⟨h, d⟩)
theorem delL_mem {k : Key} {L : Pairs} {x : Key × Key} : x ∈ delL k L ↔ x ∈ L ∧ x.1 ≠ k := by
  unfold delL
  rw [List.mem_filter, Bool.or_eq_true]
  constructor
  · rintro ⟨h, c | c⟩
    · exact ⟨h, klt_ko.ne c⟩
    · exact ⟨h, fun e => klt_ko.ne c e.symm⟩
  · rintro ⟨h, c⟩
    exact ⟨h, klt_ko.tot _ _ c⟩
theorem nmem_of_above (ko : KO ab) {l r : Tree} {x u k : Key} (hp : (Tree.node l x u r).Heap ab) (c : ab k x = true) : ∀ y ∈ (Tree.node l x u r).toL, y.1 ≠ k := by
  intro y hy
  simp only [Tree.toL, List.mem_append, List.mem_cons] at hy
  rcases hy with hy | rfl | hy
  · intro e; have := hp.1 y hy; rw [e, ko.asym c] at this; cases this
  · exact fun e => ko.ne c e.symm
  · intro e; have := hp.2.1 y hy; rw [e, ko.asym c] at this; cases this
theorem filter_ge {k : Key} {L : Pairs} (h : ∀ y ∈ L, y.1 ≠ k) : L.filter (fun x => !klt x.1 k) = L.filter (fun x => klt k x.1) :=
  List.filter_congr fun y hy => by
    rcases klt_ko.tot _ _ (h y hy) with c | c
    · rw [c, klt_ko.asym c]; rfl
    · rw [c, klt_ko.asym c]; rfl
theorem ins_toL (ko : KO ab) (k v : Key) : ∀ {t : Tree}, Srt t.toL → t.Heap ab → (insT ab k v t).toL = insL k v t.toL
  | .nil, _, _ => rfl
  | .node l x u r, h, hp => by
    by_cases c : ab k x = true
    · obtain ⟨e1, e2⟩ := split_toL k h
      simp only [insT, c, if_true]
      rw [Tree.toL, e1, e2, filter_ge (nmem_of_above ko hp c)]
      rfl
    · obtain ⟨s1, s2, a1, a2⟩ := srt_node.1 h
      have cf : ab k x = false := by simpa using c
      by_cases d : klt k x = true
      · have hr : ∀ y ∈ r.toL, klt k y.1 = true := fun y hy => klt_ko.trans _ _ _ d (a2 y hy)
        simp only [insT, cf, d, if_true, Tree.toL, ins_toL ko k v s1 hp.2.2.1]
        simp only [insL, List.filter_append, List.filter_cons, d, klt_ko.asym d, if_true]
        rw [filter_all hr, filter_none (L := r.toL) fun y hy => klt_ko.asym (hr y hy)]
        simp [insL, Tree.toL, ins_toL ko k v s1 hp.2.2.1]
      · have df : klt k x = false := by simpa using d
        by_cases g : klt x k = true
        · have hl : ∀ y ∈ l.toL, klt y.1 k = true := fun y hy => klt_ko.trans _ _ _ (a1 y hy) g
          simp only [insT, cf, df, g, if_true, Tree.toL, ins_toL ko k v s2 hp.2.2.2]
          simp only [insL, List.filter_append, List.filter_cons, g, df, if_true]
          rw [filter_all hl, filter_none (L := l.toL) fun y hy => klt_ko.asym (hl y hy)]
          simp [insL, Tree.toL, ins_toL ko k v s2 hp.2.2.2]
        · have gf : klt x k = false := by simpa using g
          have e : k = x := (klt_false.1 df).resolve_right g
          subst e
          simp only [insT, cf, df, Tree.toL]
          simp only [insL, List.filter_append, List.filter_cons, df]
          rw [filter_all a1, filter_all a2, filter_none (L := l.toL) fun y hy => klt_ko.asym (a1 y hy), filter_none (L := r.toL) fun y hy => klt_ko.asym (a2 y hy)]
          simp [Tree.toL]
theorem ins_heap (ko : KO ab) (k v : Key) : ∀ {t : Tree}, Srt t.toL → t.Heap ab → (insT ab k v t).Heap ab
  | .nil, _, _ => ⟨fun x hx => (by cases hx), fun x hx => (by cases hx), trivial, trivial⟩
  | .node l x u r, h, hp => by
    by_cases c : ab k x = true
    · obtain ⟨e1, e2⟩ := split_toL k h
      obtain ⟨h1, h2⟩ := split_heap k h hp
      simp only [insT, c, if_true]
      have habove : ∀ y ∈ (Tree.node l x u r).toL, ab k y.1 = true := fun y hy => by
        simp only [Tree.toL, List.mem_append, List.mem_cons] at hy
        rcases hy with hy | rfl | hy
        · exact ko.trans _ _ _ c (hp.1 y hy)
        · exact c
        · exact ko.trans _ _ _ c (hp.2.1 y hy)
      exact ⟨fun y hy => habove y (by rw [e1] at hy; exact (List.mem_filter.1 hy).1), fun y hy => habove y (by rw [e2] at hy; exact (List.mem_filter.1 hy).1), h1, h2⟩
    · obtain ⟨s1, s2, a1, a2⟩ := srt_node.1 h
      obtain ⟨p1, p2, p3, p4⟩ := hp
      have cf : ab k x = false := by simpa using c
      by_cases d : klt k x = true
      · simp only [insT, cf, d, if_true]
        refine ⟨fun y hy => ?_, p2, ins_heap ko k v s1 p3, p4⟩
        rw [ins_toL ko k v s1 p3, insL_mem] at hy
        rcases hy with rfl | hy
        · exact (ko.tot _ _ (klt_ko.ne d)).resolve_left c
        · exact p1 y hy.1
      · have df : klt k x = false := by simpa using d
        by_cases g : klt x k = true
        · simp only [insT, cf, df, g, if_true]
          refine ⟨p1, fun y hy => ?_, p3, ins_heap ko k v s2 p4⟩
          rw [ins_toL ko k v s2 p4, insL_mem] at hy
          rcases hy with rfl | hy
          · exact (ko.tot _ _ (fun e => klt_ko.ne g e.symm)).resolve_left c
          · exact p2 y hy.1
        · have gf : klt x k = false := by simpa using g
          have e : k = x := (klt_false.1 df).resolve_right g
          subst e
          simp only [insT, cf, df]
          exact ⟨p1, p2, p3, p4⟩
theorem del_toL (k : Key) : ∀ {t : Tree}, Srt t.toL → (delT ab k t).toL = delL k t.toL
  | .nil, _ => rfl
  | .node l x u r, h => by
    obtain ⟨s1, s2, a1, a2⟩ := srt_node.1 h
    by_cases d : klt k x = true
    · have hr : ∀ y ∈ r.toL, (klt y.1 k || klt k y.1) = true := fun y hy => by rw [klt_ko.trans _ _ _ d (a2 y hy)]; simp
      simp only [delT, d, if_true, Tree.toL, del_toL k s1, delL, List.filter_append, List.filter_cons, Bool.or_true]
      rw [filter_all hr]
    · have df : klt k x = false := by simpa using d
      by_cases g : klt x k = true
      · have hl : ∀ y ∈ l.toL, (klt y.1 k || klt k y.1) = true := fun y hy => by rw [klt_ko.trans _ _ _ (a1 y hy) g]; simp
        simp only [delT, df, g, if_true, Tree.toL, del_toL k s2, delL, List.filter_append, List.filter_cons, Bool.true_or]
        rw [filter_all hl]
        simp [Tree.toL, del_toL k s2, delL]
      · have gf : klt x k = false := by simpa using g
        have e : k = x := (klt_false.1 df).resolve_right g
        subst e
        simp only [delT, df, Tree.toL, delL, List.filter_append, List.filter_cons]
        rw [filter_all (L := l.toL) fun y hy => by rw [a1 y hy]; rfl, filter_all (L := r.toL) fun y hy => by rw [a2 y hy]; simp]
        simp [merge_toL]
theorem del_heap (ko : KO ab) (k : Key) : ∀ {t : Tree}, Srt t.toL → t.Heap ab → (delT ab k t).Heap ab
  | .nil, _, _ => trivial
  | .node l x u r, h, hp => by
    obtain ⟨s1, s2, a1, a2⟩ := srt_node.1 h
    obtain ⟨p1, p2, p3, p4⟩ := hp
    by_cases d : klt k x = true
    · simp only [delT, d, if_true]
      exact ⟨fun y hy => p1 y (by rw [del_toL k s1, delL_mem] at hy; exact hy.1), p2, del_heap ko k s1 p3, p4⟩
    · have df : klt k x = false := by simpa using d
      by_cases g : klt x k = true
      · simp only [delT, df, g, if_true]
        exact ⟨p1, fun y hy => p2 y (by rw [del_toL k s2, delL_mem] at hy; exact hy.1), p3, del_heap ko k s2 p4⟩
      · have gf : klt x k = false := by simpa using g
        simp only [delT, df, gf]
        exact merge_heap ko l r p3 p4 fun y hy z hz => klt_ko.ne (klt_ko.trans _ _ _ (a1 y hy) (a2 z hz))
end

theorem size_toL : ∀ t : Tree, t.size = t.toL.length
  | .nil => rfl
  | .node l k v r => by simp [Tree.size, Tree.toL, size_toL l, size_toL r]; omega
end Go.Proofs.Ytkkpcndpjkebkaa
