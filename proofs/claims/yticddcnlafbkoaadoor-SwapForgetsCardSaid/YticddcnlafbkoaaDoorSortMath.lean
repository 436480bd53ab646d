/- Plain mathematics of the stable sort: segments of a function, permutations of a segment, rotations, merges. Nothing of the program. -/
namespace Go.Proofs.YticddcnlafbkoaaDoor

/-- f' is f with the places of [a, b) permuted. -/
def PermOn (a b : Nat) (f f' : Nat → Nat) : Prop :=
  ∃ σ τ : Nat → Nat, (∀ i, σ (τ i) = i) ∧ (∀ i, τ (σ i) = i) ∧ (∀ i, ¬ (a ≤ i ∧ i < b) → σ i = i) ∧ (∀ i, f' i = f (σ i))

namespace PermOn
variable {a b : Nat} {f f' f'' : Nat → Nat}
theorem refl (a b : Nat) (f : Nat → Nat) : PermOn a b f f := ⟨id, id, fun _ => rfl, fun _ => rfl, fun _ _ => rfl, fun _ => rfl⟩
theorem inside {σ τ : Nat → Nat} (_h1 : ∀ i, σ (τ i) = i) (h2 : ∀ i, τ (σ i) = i) (h3 : ∀ i, ¬ (a ≤ i ∧ i < b) → σ i = i) (i : Nat) (hi : a ≤ i ∧ i < b) : a ≤ σ i ∧ σ i < b := by
  apply Classical.byContradiction
  intro hn
  have e := h3 _ hn
  have : σ i = i := by have := congrArg τ e; rw [h2, h2] at this; exact this
  rw [this] at hn
  exact hn hi
theorem trans (h : PermOn a b f f') (k : PermOn a b f' f'') : PermOn a b f f'' := by
  obtain ⟨σ, τ, h1, h2, h3, h4⟩ := h
  obtain ⟨σ', τ', k1, k2, k3, k4⟩ := k
  refine ⟨fun i => σ (σ' i), fun i => τ' (τ i), fun i => by simp [k1, h1], fun i => by simp [h2, k2], fun i hi => ?_, fun i => by rw [k4, h4]⟩
  show σ (σ' i) = i
  rw [k3 i hi, h3 i hi]
theorem wide {a' b' : Nat} (h : PermOn a b f f') (ha : a' ≤ a) (hb : b ≤ b') : PermOn a' b' f f' := by
  obtain ⟨σ, τ, h1, h2, h3, h4⟩ := h
  exact ⟨σ, τ, h1, h2, fun i hi => h3 i (by omega), h4⟩
theorem out (h : PermOn a b f f') (i : Nat) (hi : ¬ (a ≤ i ∧ i < b)) : f' i = f i := by
  obtain ⟨σ, τ, h1, h2, h3, h4⟩ := h
  rw [h4, h3 i hi]
/-- What holds of all elements of the segment holds of all elements behind the permutation. -/
theorem all {p : Nat → Prop} (h : PermOn a b f f') (hp : ∀ i, a ≤ i → i < b → p (f i)) : ∀ i, a ≤ i → i < b → p (f' i) := by
  obtain ⟨σ, τ, h1, h2, h3, h4⟩ := h
  intro i hi hb
  rw [h4]
  have := inside h1 h2 h3 i ⟨hi, hb⟩
  exact hp _ this.1 this.2
theorem back (h : PermOn a b f f') (i : Nat) (hi : a ≤ i ∧ i < b) : ∃ j, a ≤ j ∧ j < b ∧ f' i = f j := by
  obtain ⟨σ, τ, h1, h2, h3, h4⟩ := h
  have := inside h1 h2 h3 i hi
  exact ⟨_, this.1, this.2, h4 i⟩
end PermOn

def swp (f : Nat → Nat) (i j : Nat) : Nat → Nat := fun k => if k = j then f i else if k = i then f j else f k
theorem swp_perm {a b i j : Nat} (f : Nat → Nat) (hi : a ≤ i ∧ i < b) (hj : a ≤ j ∧ j < b) : PermOn a b f (swp f i j) := by
  have hs : ∀ k, (fun k => if k = j then i else if k = i then j else k) ((fun k => if k = j then i else if k = i then j else k) k) = k := by
    intro k
    by_cases h1 : k = j <;> by_cases h2 : k = i <;> by_cases h3 : i = j <;> simp [h1, h2, h3] <;> (first | omega | (intro h; omega))
  refine ⟨fun k => if k = j then i else if k = i then j else k, fun k => if k = j then i else if k = i then j else k, hs, hs, fun k hk => ?_, fun k => ?_⟩
  · have h1 : k ≠ j := by omega
    have h2 : k ≠ i := by omega
    simp [h1, h2]
  · simp only [swp]
    split
    · rfl
    · split <;> rfl

/-- The segment [lo, hi) turned so that what begins at m comes first. -/
def rotIx (lo m hi k : Nat) : Nat := if k < lo ∨ hi ≤ k then k else if k < lo + (hi - m) then k - lo + m else k - (hi - m)
def rot (lo m hi : Nat) (f : Nat → Nat) : Nat → Nat := fun k => f (rotIx lo m hi k)
def swapFn (f : Nat → Nat) (p q n : Nat) : Nat → Nat := fun k => f (if p ≤ k ∧ k < p + n then k - p + q else if q ≤ k ∧ k < q + n then k - q + p else k)

theorem rot_perm {lo m hi : Nat} (f : Nat → Nat) (h1 : lo ≤ m) (h2 : m ≤ hi) : PermOn lo hi f (rot lo m hi f) := by
  refine ⟨rotIx lo m hi, rotIx lo (lo + (hi - m)) hi, fun k => ?_, fun k => ?_, fun k hk => ?_, fun k => rfl⟩
  · unfold rotIx; repeat' split
    all_goals omega
  · unfold rotIx; repeat' split
    all_goals omega
  · unfold rotIx; rw [if_pos (by omega)]

theorem rot_step1 (f : Nat → Nat) (m i j : Nat) (hi : i ≤ m) (hij : j < i) : rot (m - (i - j)) m (m + j) (swapFn f (m - i) m j) = rot (m - i) m (m + j) f := by
  funext k
  simp only [rot, swapFn]
  congr 1
  unfold rotIx; repeat' split
  all_goals omega
theorem rot_step2 (f : Nat → Nat) (m i j : Nat) (hi : i ≤ m) (hij : i < j) : rot (m - i) m (m + (j - i)) (swapFn f (m - i) (m + j - i) i) = rot (m - i) m (m + j) f := by
  funext k
  simp only [rot, swapFn]
  congr 1
  unfold rotIx; repeat' split
  all_goals omega
theorem rot_last (f : Nat → Nat) (m i : Nat) (hi : i ≤ m) : swapFn f (m - i) m i = rot (m - i) m (m + i) f := by
  funext k
  simp only [rot, swapFn]
  congr 1
  unfold rotIx; repeat' split
  all_goals omega
theorem swapFn_zero (f : Nat → Nat) (p q : Nat) : swapFn f p q 0 = f := by
  funext k
  simp only [swapFn]
  congr 1
  repeat' split
  all_goals omega
theorem swapFn_succ (f : Nat → Nat) (p q n : Nat) (h : p + n < q) : swp (swapFn f p q n) (p + n) (q + n) = swapFn f p q (n + 1) := by
  funext k
  simp only [swapFn, swp]
  repeat' split
  all_goals (first | omega | (congr 1; omega))
/-- One place after another to the right: from a on the element of a has come to k. -/
theorem rot_right (f : Nat → Nat) (a k : Nat) (h : a ≤ k) : swp (rot a (a + 1) (k + 1) f) k (k + 1) = rot a (a + 1) (k + 2) f := by
  funext x
  simp only [rot, swp]
  unfold rotIx
  repeat' split
  all_goals (first | omega | (congr 1; omega))
theorem rot_right0 (f : Nat → Nat) (a : Nat) : rot a (a + 1) (a + 1) f = f := by
  funext x
  simp only [rot]
  congr 1
  unfold rotIx
  repeat' split
  all_goals omega
/-- One place after another to the left: the element of m has come to k. -/
theorem rot_left (f : Nat → Nat) (k m : Nat) (h : k + 1 ≤ m) : swp (rot (k + 1) m (m + 1) f) (k + 1) k = rot k m (m + 1) f := by
  funext x
  simp only [rot, swp]
  unfold rotIx
  repeat' split
  all_goals (first | omega | (congr 1; omega))
theorem rot_left0 (f : Nat → Nat) (m : Nat) : rot m m (m + 1) f = f := by
  funext x
  simp only [rot]
  congr 1
  unfold rotIx
  repeat' split
  all_goals omega

/-- The order of a stable sort: what the test says, else the lesser number first. -/
def Rel (lt : Nat → Nat → Bool) (x y : Nat) : Prop := lt x y = true ∨ lt y x = false ∧ x < y
/-- A strict weak order of the numbers below n. -/
structure SWO (lt : Nat → Nat → Bool) (n : Nat) : Prop where
  asym : ∀ x y, x < n → y < n → lt x y = true → lt y x = false
  trans : ∀ x y z, x < n → y < n → z < n → lt x y = true → lt y z = true → lt x z = true
  neg : ∀ x y z, x < n → y < n → z < n → lt x y = false → lt y z = false → lt x z = false

section
variable {lt : Nat → Nat → Bool} {n : Nat}
theorem Rel.trans (h : SWO lt n) {x y z : Nat} (hx : x < n) (hy : y < n) (hz : z < n) (a : Rel lt x y) (b : Rel lt y z) : Rel lt x z := by
  rcases a with a | ⟨a, a'⟩ <;> rcases b with b | ⟨b, b'⟩
  · exact .inl (h.trans x y z hx hy hz a b)
  · refine .inl ?_
    cases hc : lt x z
    · have := h.neg x z y hx hz hy hc b
      rw [this] at a; cases a
    · rfl
  · refine .inl ?_
    cases hc : lt x z
    · have := h.neg y x z hy hx hz a hc
      rw [this] at b; cases b
    · rfl
  · by_cases hc : lt x z = true
    · exact .inl hc
    · exact .inr ⟨h.neg z y x hz hy hx b a, by omega⟩
theorem Rel.irrefl (h : SWO lt n) {x : Nat} (hx : x < n) : ¬ Rel lt x x := by
  rintro (a | ⟨_, a⟩)
  · have := h.asym x x hx hx a; rw [this] at a; cases a
  · omega
theorem Rel.asym (h : SWO lt n) {x y : Nat} (hx : x < n) (hy : y < n) (a : Rel lt x y) : ¬ Rel lt y x := fun b => Rel.irrefl h hx (Rel.trans h hx hy hx a b)
theorem Rel.tot (_h : SWO lt n) {x y : Nat} (_hx : x < n) (_hy : y < n) (hne : x ≠ y) : Rel lt x y ∨ Rel lt y x := by
  unfold Rel
  cases hc : lt x y <;> cases hd : lt y x <;> simp
  omega
theorem Rel.not (h : SWO lt n) {x y : Nat} (hx : x < n) (hy : y < n) (hne : x ≠ y) (a : ¬ Rel lt x y) : Rel lt y x := (Rel.tot h hx hy hne).resolve_left a
/-- Where the greater number is asked first the test tells the order. -/
theorem Rel.of_gt {x y : Nat} (hxy : y < x) : Rel lt x y ↔ lt x y = true := by
  unfold Rel
  constructor
  · rintro (a | ⟨_, a⟩)
    · exact a
    · omega
  · exact .inl
end

/-- [a, b) lies in the order. -/
def Sorted (lt : Nat → Nat → Bool) (f : Nat → Nat) (a b : Nat) : Prop := ∀ p q, a ≤ p → p < q → q < b → Rel lt (f p) (f q)

section
variable {lt : Nat → Nat → Bool} {n : Nat} {f : Nat → Nat}

/-- The inner loop of the insertion: the element at j has come down from i. -/
structure Ins (lt : Nat → Nat → Bool) (f0 f : Nat → Nat) (a i j : Nat) : Prop where
  perm : PermOn a (i + 1) f0 f
  at_ : f j = f0 i
  rest : ∀ p q, a ≤ p → p < q → q ≤ i → p ≠ j → q ≠ j → Rel lt (f p) (f q)
  up : ∀ q, j < q → q ≤ i → Rel lt (f j) (f q)
  lo : a ≤ j
  hi : j ≤ i

theorem Ins.start {f0 f : Nat → Nat} {a i : Nat} (hp : PermOn a i f0 f) (hs : Sorted lt f a i) (hai : a ≤ i) : Ins lt f0 f a i i :=
  ⟨hp.wide (Nat.le_refl _) (Nat.le_succ _), hp.out i (by omega), fun p q h1 h2 h3 h4 h5 => hs p q h1 h2 (by omega), fun q h1 h2 => by omega, hai, Nat.le_refl _⟩

theorem Ins.down {f0 f : Nat → Nat} {a i j : Nat} (h : Ins lt f0 f a i (j + 1)) (haj : a ≤ j) (hr : Rel lt (f (j + 1)) (f j)) : Ins lt f0 (swp f (j + 1) j) a i j := by
  have hi := h.hi
  refine ⟨h.perm.trans (swp_perm f (by omega) (by omega)), ?_, ?_, ?_, haj, by omega⟩
  · simp only [swp]; rw [if_pos trivial]; exact h.at_
  · intro p q h1 h2 h3 h4 h5
    have e : ∀ k, k ≠ j → swp f (j + 1) j k = if k = j + 1 then f j else f k := by
      intro k hk; simp only [swp]; rw [if_neg hk]
    rw [e p h4, e q h5]
    by_cases hp : p = j + 1
    · rw [if_pos hp, if_neg (by omega)]
      exact h.rest j q haj (by omega) h3 (by omega) (by omega)
    · rw [if_neg hp]
      by_cases hq : q = j + 1
      · rw [if_pos hq]; exact h.rest p j h1 (by omega) (by omega) (by omega) (by omega)
      · rw [if_neg hq]; exact h.rest p q h1 h2 h3 hp hq
  · intro q h1 h2
    have e1 : swp f (j + 1) j j = f (j + 1) := by simp [swp]
    rw [e1]
    by_cases hq : q = j + 1
    · subst hq
      have e2 : swp f (j + 1) j (j + 1) = f j := by simp [swp]
      rw [e2]; exact hr
    · have e2 : swp f (j + 1) j q = f q := by simp only [swp]; rw [if_neg (by omega), if_neg hq]
      rw [e2]; exact h.up q (by omega) h2

theorem Ins.stop (hw : SWO lt n) {f0 f : Nat → Nat} {a i j : Nat} (h : Ins lt f0 f a i j) (hb : ∀ k, a ≤ k → k ≤ i → f k < n) (hr : a < j → Rel lt (f (j - 1)) (f j)) : Sorted lt f a (i + 1) := by
  intro p q h1 h2 h3
  by_cases hp : p = j
  · subst hp; exact h.up q h2 (by omega)
  · by_cases hq : q = j
    · subst hq
      by_cases hp1 : p = q - 1
      · subst hp1; exact hr (by omega)
      · exact Rel.trans hw (hb p h1 (by omega)) (hb (q - 1) (by omega) (by omega)) (hb q (by omega) (by omega)) (h.rest p (q - 1) h1 (by omega) (by omega) hp (by omega)) (hr (by omega))
    · exact h.rest p q h1 h2 (by omega) hp hq

theorem Ins.less {f0 f : Nat → Nat} {a b i j : Nat} (h : Ins lt f0 f a i j) (hj : a < j) (hib : i < b) (hup : ∀ p q, a ≤ p → p < q → q < b → f0 p < f0 q) : f (j - 1) < f j := by
  have hji := h.hi
  have hat := h.at_
  obtain ⟨σ, τ, h1, h2, h3, h4⟩ := h.perm
  have u := PermOn.inside h1 h2 h3 (j - 1) (by omega)
  have v := PermOn.inside h1 h2 h3 j (by omega)
  have hne : σ (j - 1) ≠ σ j := by
    intro e
    have := congrArg τ e
    rw [h2, h2] at this
    omega
  have hx : σ j = i := by
    rcases Nat.lt_trichotomy (σ j) i with c | c | c
    · have := hup _ _ v.1 c (by omega)
      rw [← h4, hat] at this; omega
    · exact c
    · omega
  rw [h4 (j - 1), hat]
  exact hup _ _ u.1 (by omega) (by omega)

/-- THE MERGE: where the two halves lie in order, and are cut so that what comes first comes first, the rotation in between and the merges of both parts give the whole in order. -/
theorem merge_cut (hw : SWO lt n) {a s m e b : Nat} (h1 : a ≤ s) (h2 : s ≤ m) (h3 : m ≤ e) (h4 : e ≤ b) (hb : ∀ k, a ≤ k → k < b → f k < n)
    (hA : Sorted lt f a m) (hB : Sorted lt f m b)
    (hc1 : a < s → e < b → Rel lt (f (s - 1)) (f e)) (hc2 : m < e → s < m → Rel lt (f (e - 1)) (f s)) :
    let f1 := rot s m e f
    let mid := s + (e - m)
    (Sorted lt f1 a s ∧ Sorted lt f1 s mid ∧ Sorted lt f1 mid e ∧ Sorted lt f1 e b) ∧ (∀ p q, a ≤ p → p < mid → mid ≤ q → q < b → Rel lt (f1 p) (f1 q)) := by
  intro f1 mid
  have e1 : ∀ k, k < s → f1 k = f k := fun k hk => by simp only [f1, rot]; unfold rotIx; rw [if_pos (by omega)]
  have e2 : ∀ k, s ≤ k → k < mid → f1 k = f (k - s + m) := fun k hk hk' => by simp only [f1, rot]; unfold rotIx; rw [if_neg (by omega), if_pos (by omega)]
  have e3 : ∀ k, mid ≤ k → k < e → f1 k = f (k - (e - m)) := fun k hk hk' => by simp only [f1, rot]; unfold rotIx; rw [if_neg (by omega), if_neg (by omega)]
  have e4 : ∀ k, e ≤ k → f1 k = f k := fun k hk => by simp only [f1, rot]; unfold rotIx; rw [if_pos (by omega)]
  refine ⟨⟨?_, ?_, ?_, ?_⟩, ?_⟩
  · intro p q p1 p2 p3; rw [e1 p (by omega), e1 q (by omega)]; exact hA p q p1 p2 (by omega)
  · intro p q p1 p2 p3; rw [e2 p p1 (by omega), e2 q (by omega) p3]; exact hB _ _ (by omega) (by omega) (by omega)
  · intro p q p1 p2 p3; rw [e3 p p1 (by omega), e3 q (by omega) p3]; exact hA _ _ (by omega) (by omega) (by omega)
  · intro p q p1 p2 p3; rw [e4 p p1, e4 q (by omega)]; exact hB _ _ (by omega) p2 p3
  · intro p q p1 p2 p3 p4
    have le_A : ∀ x y, a ≤ x → x ≤ y → y < m → x = y ∨ Rel lt (f x) (f y) := fun x y g1 g2 g3 => by
      by_cases hxy : x = y
      · exact .inl hxy
      · exact .inr (hA x y g1 (by omega) g3)
    have le_B : ∀ x y, m ≤ x → x ≤ y → y < b → x = y ∨ Rel lt (f x) (f y) := fun x y g1 g2 g3 => by
      by_cases hxy : x = y
      · exact .inl hxy
      · exact .inr (hB x y g1 (by omega) g3)
    have tr : ∀ x y z, a ≤ x → x < b → a ≤ y → y < b → a ≤ z → z < b → (x = y ∨ Rel lt (f x) (f y)) → Rel lt (f y) (f z) → Rel lt (f x) (f z) := by
      intro x y z g1 g2 g3 g4 g5 g6 hxy hyz
      rcases hxy with rfl | hxy
      · exact hyz
      · exact Rel.trans hw (hb x g1 g2) (hb y g3 g4) (hb z g5 g6) hxy hyz
    have tr' : ∀ x y z, a ≤ x → x < b → a ≤ y → y < b → a ≤ z → z < b → Rel lt (f x) (f y) → (y = z ∨ Rel lt (f y) (f z)) → Rel lt (f x) (f z) := by
      intro x y z g1 g2 g3 g4 g5 g6 hxy hyz
      rcases hyz with rfl | hyz
      · exact hxy
      · exact Rel.trans hw (hb x g1 g2) (hb y g3 g4) (hb z g5 g6) hxy hyz
    by_cases hp : p < s
    · rw [e1 p hp]
      by_cases hq : q < e
      · rw [e3 q p3 hq]; exact hA _ _ p1 (by omega) (by omega)
      · rw [e4 q (by omega)]
        have c := hc1 (by omega) (by omega)
        have u := le_A p (s - 1) p1 (by omega) (by omega)
        have v := le_B e q h3 (by omega) p4
        exact tr p (s - 1) q p1 (by omega) (by omega) (by omega) (by omega) p4 u (tr' (s - 1) e q (by omega) (by omega) (by omega) (by omega) (by omega) p4 c v)
    · rw [e2 p (by omega) p2]
      by_cases hq : q < e
      · rw [e3 q p3 hq]
        have c := hc2 (by omega) (by omega)
        have u := le_B (p - s + m) (e - 1) (by omega) (by omega) (by omega)
        have v := le_A s (q - (e - m)) h1 (by omega) (by omega)
        exact tr (p - s + m) (e - 1) (q - (e - m)) (by omega) (by omega) (by omega) (by omega) (by omega) (by omega) u (tr' (e - 1) s (q - (e - m)) (by omega) (by omega) (by omega) (by omega) (by omega) (by omega) c v)
      · rw [e4 q (by omega)]; exact hB _ _ (by omega) (by omega) p4

theorem sorted_glue {a mid b : Nat} (h1 : Sorted lt f a mid) (h2 : Sorted lt f mid b) (hc : ∀ p q, a ≤ p → p < mid → mid ≤ q → q < b → Rel lt (f p) (f q)) : Sorted lt f a b := by
  intro p q p1 p2 p3
  by_cases hq : q < mid
  · exact h1 p q p1 p2 hq
  · by_cases hp : p < mid
    · exact hc p q p1 hp (by omega) p3
    · exact h2 p q (by omega) p2 p3
theorem sorted_congr {g : Nat → Nat} {a b : Nat} (h : Sorted lt f a b) (e : ∀ k, a ≤ k → k < b → g k = f k) : Sorted lt g a b := by
  intro p q p1 p2 p3
  rw [e p p1 (by omega), e q (by omega) p3]
  exact h p q p1 p2 p3
theorem insert_right {a i b : Nat} (h1 : a + 1 ≤ i) (h2 : i ≤ b) (hs : Sorted lt f (a + 1) b) (hl : ∀ k, a + 1 ≤ k → k < i → Rel lt (f k) (f a)) (hr : ∀ k, i ≤ k → k < b → Rel lt (f a) (f k)) : Sorted lt (rot a (a + 1) i f) a b := by
  have e1 : ∀ k, a ≤ k → k < i - 1 → rot a (a + 1) i f k = f (k + 1) := fun k hk hk' => by
    simp only [rot]; unfold rotIx; rw [if_neg (by omega), if_pos (by omega)]; congr 1; omega
  have e2 : rot a (a + 1) i f (i - 1) = f a := by
    simp only [rot]; unfold rotIx; rw [if_neg (by omega), if_neg (by omega)]; congr 1; omega
  have e3 : ∀ k, i ≤ k → rot a (a + 1) i f k = f k := fun k hk => by simp only [rot]; unfold rotIx; rw [if_pos (by omega)]
  intro p q p1 p2 p3
  by_cases hp : p < i - 1
  · rw [e1 p p1 hp]
    by_cases hq : q < i - 1
    · rw [e1 q (by omega) hq]; exact hs _ _ (by omega) (by omega) (by omega)
    · by_cases hq' : q = i - 1
      · rw [hq', e2]; exact hl _ (by omega) (by omega)
      · rw [e3 q (by omega)]; exact hs _ _ (by omega) (by omega) p3
  · by_cases hp' : p = i - 1
    · rw [hp', e2, e3 q (by omega)]; exact hr _ (by omega) p3
    · rw [e3 p (by omega), e3 q (by omega)]; exact hs _ _ (by omega) p2 p3
theorem insert_left {a i m : Nat} (h1 : a ≤ i) (h2 : i ≤ m) (hs : Sorted lt f a m) (hl : ∀ k, a ≤ k → k < i → Rel lt (f k) (f m)) (hr : ∀ k, i ≤ k → k < m → Rel lt (f m) (f k)) : Sorted lt (rot i m (m + 1) f) a (m + 1) := by
  have e1 : ∀ k, k < i → rot i m (m + 1) f k = f k := fun k hk => by simp only [rot]; unfold rotIx; rw [if_pos (by omega)]
  have e2 : rot i m (m + 1) f i = f m := by
    simp only [rot]; unfold rotIx; rw [if_neg (by omega), if_pos (by omega)]; congr 1; omega
  have e3 : ∀ k, i < k → k ≤ m → rot i m (m + 1) f k = f (k - 1) := fun k hk hk' => by
    simp only [rot]; unfold rotIx; rw [if_neg (by omega), if_neg (by omega)]; congr 1; omega
  intro p q p1 p2 p3
  by_cases hp : p < i
  · rw [e1 p hp]
    by_cases hq : q < i
    · rw [e1 q hq]; exact hs _ _ p1 p2 (by omega)
    · by_cases hq' : q = i
      · rw [hq', e2]; exact hl _ p1 hp
      · rw [e3 q (by omega) (by omega)]; exact hs _ _ p1 (by omega) (by omega)
  · by_cases hp' : p = i
    · rw [hp', e2, e3 q (by omega) (by omega)]; exact hr _ (by omega) (by omega)
    · rw [e3 p (by omega) (by omega), e3 q (by omega) (by omega)]; exact hs _ _ (by omega) (by omega) (by omega)
theorem rot_id {s m e : Nat} (h1 : s ≤ m) (h2 : m ≤ e) (h : ¬ (s < m ∧ m < e)) : rot s m e f = f := by
  funext k
  simp only [rot]
  congr 1
  unfold rotIx
  repeat' split
  all_goals omega
/-- Behind the rotation and the merges of both parts the whole lies in order. -/
theorem merge_end {f1 f2 f3 : Nat → Nat} {a mid b : Nat} (h1 : a ≤ mid) (h2 : mid ≤ b) (hc : ∀ p q, a ≤ p → p < mid → mid ≤ q → q < b → Rel lt (f1 p) (f1 q))
    (p2 : PermOn a mid f1 f2) (s2 : Sorted lt f2 a mid) (p3 : PermOn mid b f2 f3) (s3 : Sorted lt f3 mid b) : PermOn a b f1 f3 ∧ Sorted lt f3 a b := by
  refine ⟨(p2.wide (Nat.le_refl _) h2).trans (p3.wide h1 (Nat.le_refl _)), sorted_glue (mid := mid) (sorted_congr s2 fun k h h' => p3.out k (by omega)) s3 ?_⟩
  intro p q g1 g2 g3 g4
  rw [p3.out p (by omega)]
  obtain ⟨p', u1, u2, u3⟩ := p2.back p ⟨g1, g2⟩
  obtain ⟨q', v1, v2, v3⟩ := p3.back q ⟨g3, g4⟩
  rw [u3, v3, p2.out q' (by omega)]
  exact hc p' q' u1 u2 v1 v2
/-- What the rotation in the middle of the merge gives for the two merges behind it. -/
theorem cut_facts {a s m e b : Nat} (h1 : a ≤ s) (h2 : s ≤ m) (h3 : m ≤ e) (h4 : e ≤ b) (hup : ∀ p q, a ≤ p → p < m → m ≤ q → q < b → f p < f q) :
    (∀ p q, a ≤ p → p < s → s ≤ q → q < s + (e - m) → rot s m e f p < rot s m e f q) ∧ (∀ p q, s + (e - m) ≤ p → p < e → e ≤ q → q < b → rot s m e f p < rot s m e f q) := by
  constructor
  · intro p q g1 g2 g3 g4
    have e1 : rot s m e f p = f p := by simp only [rot]; unfold rotIx; rw [if_pos (by omega)]
    have e2 : rot s m e f q = f (q - s + m) := by simp only [rot]; unfold rotIx; rw [if_neg (by omega), if_pos (by omega)]
    rw [e1, e2]; exact hup _ _ (by omega) (by omega) (by omega) (by omega)
  · intro p q g1 g2 g3 g4
    have e1 : rot s m e f p = f (p - (e - m)) := by simp only [rot]; unfold rotIx; rw [if_neg (by omega), if_neg (by omega)]
    have e2 : rot s m e f q = f q := by simp only [rot]; unfold rotIx; rw [if_pos (by omega)]
    rw [e1, e2]; exact hup _ _ (by omega) (by omega) (by omega) (by omega)
theorem sorted_short {a b : Nat} (h : b ≤ a + 1) : Sorted lt f a b := fun p q p1 p2 p3 => by omega
end
end Go.Proofs.YticddcnlafbkoaaDoor
