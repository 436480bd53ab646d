import Derived.Test.YticddcnlafbkoaaDoorBytes
/- Rows of the call's own that grow by one element. -/
namespace Go.Proofs.YticddcnlafbkoaaDoor
open Go.ChangeShapes Go.WideShapes Go.ChangeAt Go.RowKit Go.Deep

/-- append of one element to a row of the call's own. -/
theorem wpList_append_one {w : World} {ops : Array Oper} {rest : List Oper} {o : Oper} {a : Act} {Q : Exit → Act → World → Prop} (hgd : o.guard = none) (s x : Operand) (t e : TypeId)
    (ho : o.op = .call { callee := .builtin .append, args := #[s, x], argTypes := #[t, t] }) (base k by' : Nat) (z : Value) (ht : Tryd.prog.underlying t = some (.slice e)) (hinfo : (Tryd.prog.info? e).map (fun i => (i.zero, i.size, i.bytes)) = some (some z, k, by'))
    (hzs : z.cells.size = k) (hk : 0 < k) (hby : by' ≤ 1000) (v : Value) (n : Nat) (xs : List Value) (hs : a.eval s = v) (hown : w.ownsRow base e k v n xs)
    (b c : Nat) (hx : a.eval x = .slice (some ⟨b, 0, none⟩) 1 c) (us : List Value) (hus : us.length = k) (hb : ∀ j u, us[j]? = some u → w.cell? ⟨b, j, none⟩ = some u) (h1 : ∀ u ∈ us, u.oneCell' = true) (hn : n ≤ 1048576) (hbase : base ≤ w.heap.size)
    (h : ∀ v' w', Hid (w'.ownsRow base e k v' (n + 1) (xs ++ us)) → Hid (Touch (OwnOf v) w w') → wpList Tryd.prog ops Q rest (a.put o.dst v') w') : wpList Tryd.prog ops Q (o :: rest) a w := by
  obtain ⟨i0, hi, hz0, hz1, hz2⟩ := info_parts hinfo
  refine wpList_append_own w hgd s x t ho base e i0 z k by' ht hi hz0 hz1 hz2 hzs hk v n xs hs hown ⟨b, 0, none⟩ 1 c us hx (by omega) ?_ h1 (by unfold maxLen; omega) ?_ hbase ?_
  · intro j u hj
    rw [add_plain, Nat.zero_add]
    exact hb j u hj
  · have : (n + 1) * by' ≤ 1048577 * 1000 := Nat.mul_le_mul (by omega) hby
    omega
  · intro v' w' hown' hgrow _
    exact h v' w' (show _ from hown') (show _ from touch_grown hgrow)

/-- The same as one step of a region that draws its order. -/
theorem step_append_one {w : World} {ops : Array Oper} {o : Oper} {a : Act} {K : Act → World → Prop} {Q : Exit → Act → World → Prop} {E : Prop} (hgd : o.guard = none) (s x : Operand) (t e : TypeId)
    (ho : o.op = .call { callee := .builtin .append, args := #[s, x], argTypes := #[t, t] }) (base k by' : Nat) (z : Value) (ht : Tryd.prog.underlying t = some (.slice e)) (hinfo : (Tryd.prog.info? e).map (fun i => (i.zero, i.size, i.bytes)) = some (some z, k, by'))
    (hzs : z.cells.size = k) (hk : 0 < k) (hby : by' ≤ 1000) (v : Value) (n : Nat) (xs : List Value) (hs : a.eval s = v) (hown : w.ownsRow base e k v n xs)
    (b c : Nat) (hx : a.eval x = .slice (some ⟨b, 0, none⟩) 1 c) (us : List Value) (hus : us.length = k) (hb : ∀ j u, us[j]? = some u → w.cell? ⟨b, j, none⟩ = some u) (h1 : ∀ u ∈ us, u.oneCell' = true) (hn : n ≤ 1048576) (hbase : base ≤ w.heap.size)
    (h : ∀ v' w', Hid (w'.ownsRow base e k v' (n + 1) (xs ++ us)) → Hid (Touch (OwnOf v) w w') → K (a.put o.dst v') w') :
    if Region.wanted o (yielded ops a.tmps) = true then Oper.wp Tryd.prog o a w K Q else E := by
  obtain ⟨i0, hi, hz0, hz1, hz2⟩ := info_parts hinfo
  have hw : Region.wanted o (yielded ops a.tmps) = true := by simp [Region.wanted, hgd]
  rw [if_pos hw]
  refine wp_append_own w s x t ho base e i0 z k by' ht hi hz0 hz1 hz2 hzs hk v n xs hs hown ⟨b, 0, none⟩ 1 c us hx (by omega) ?_ h1 (by unfold maxLen; omega) ?_ hbase ?_
  · intro j u hj
    rw [add_plain, Nat.zero_add]
    exact hb j u hj
  · have : (n + 1) * by' ≤ 1048577 * 1000 := Nat.mul_le_mul (by omega) hby
    omega
  · intro v' w' hown' hgrow _
    exact h v' w' (show _ from hown') (show _ from touch_grown hgrow)

theorem cell_new (w : World) (cs : Array Value) (t j : Nat) : (w.alloc (.cells cs t)).cell? ⟨w.heap.size, j, none⟩ = cs[j]? := by
  simp only [World.cell?]
  rw [heap_alloc_new]
  rfl

/-- What a row of the call's own holds. -/
theorem own_row {w : World} {base e k n : Nat} {v : Value} {xs : List Value} (h : w.ownsRow base e k v n xs) : ∃ ao cap, v = .slice ao n cap ∧ (0 < n → ∃ g, ao = some ⟨g, 0, none⟩ ∧ base ≤ g ∧ g < w.heap.size ∧ ∀ j, j < n * k → w.cell? ⟨g, j, none⟩ = xs[j]?) := by
  obtain ⟨hl, ⟨rfl, hn⟩ | ⟨g, cap, cur, rfl, hb, hg, hc, hm, hs, ht⟩⟩ := h
  · subst hn
    exact ⟨none, 0, rfl, fun h => by omega⟩
  · refine ⟨_, cap, rfl, fun _ => ⟨g, rfl, hb, (Array.getElem?_eq_some_iff.1 hg).1, fun j hj => ?_⟩⟩
    simp only [World.cell?, hg]
    rw [← ht, List.getElem?_take, if_pos hj]
    simp
theorem own_keep {S : Nat → Prop} {w w' : World} {base e k n : Nat} {v : Value} {xs : List Value} (h : w.ownsRow base e k v n xs) (ht : Touch S w w') (hS : ∀ b, S b → ∀ cs z, w.heap[b]? ≠ some (.cells cs e z)) : w'.ownsRow base e k v n xs := by
  obtain ⟨hl, hcase⟩ := h
  refine ⟨hl, ?_⟩
  rcases hcase with hcase | ⟨g, cap, cur, rfl, hb', hg, r⟩
  · exact .inl hcase
  · exact .inr ⟨g, cap, cur, rfl, hb', (ht.same g (Array.getElem?_eq_some_iff.1 hg).1 (fun hs => hS g hs _ _ hg)).trans hg, r⟩
theorem own_keepN {w w' : World} {base e k n : Nat} {v : Value} {xs : List Value} (h : w.ownsRow base e k v n xs) (ht : Touch Nil w w') : w'.ownsRow base e k v n xs := own_keep h ht fun _ c => c.elim
/-- Blocks of one type have not another one. -/
theorem own_other {w : World} {base e k n e' : Nat} {v : Value} {xs : List Value} (h : w.ownsRow base e k v n xs) (hne : e ≠ e') : ∀ b, OwnOf v b → ∀ cs z, w.heap[b]? ≠ some (.cells cs e' z) := by
  obtain ⟨hl, ⟨rfl, hn⟩ | ⟨g, cap, cur, rfl, hb, hg, _⟩⟩ := h
  · intro b hb; cases hb
  · intro b hb cs z he
    obtain rfl : b = g := by simpa [OwnOf, Value.ownBlock] using hb
    rw [hg] at he
    injection he with he
    injection he with _ he
    exact hne he
theorem own_base {w : World} {base e k n : Nat} {v : Value} {xs : List Value} (h : w.ownsRow base e k v n xs) : ∀ b, OwnOf v b → base ≤ b := by
  obtain ⟨hl, ⟨rfl, hn⟩ | ⟨g, cap, cur, rfl, hb, hg, _⟩⟩ := h
  · intro b hb; cases hb
  · intro b hb'
    obtain rfl : b = g := by simpa [OwnOf, Value.ownBlock] using hb'
    exact hb
/-- A literal of no elements. -/
theorem own_empty (w : World) (e k : Nat) : (w.alloc (.cells #[] e)).ownsRow w.heap.size e k (.slice (some ⟨w.heap.size, 0, none⟩) 0 0) 0 [] :=
  ⟨by simp, .inr ⟨w.heap.size, 0, #[], rfl, Nat.le_refl _, by rw [heap_alloc_new], Nat.le_refl _, by simp, by simp, by simp⟩⟩
theorem own_lower {w : World} {base base' e k n : Nat} {v : Value} {xs : List Value} (h : w.ownsRow base e k v n xs) (hb : base' ≤ base) : w.ownsRow base' e k v n xs :=
  ⟨h.1, h.2.imp (fun h => h) fun ⟨g, cap, cur, r1, r2, r3⟩ => ⟨g, cap, cur, r1, Nat.le_trans hb r2, r3⟩⟩
/-- The elements of a row one after another, k cells each. -/
def flat (k : Nat) (f : Nat → Nat → Value) : Nat → List Value
  | 0 => []
  | n + 1 => flat k f n ++ (List.range k).map (f n)
theorem flat_len (k : Nat) (f : Nat → Nat → Value) : ∀ n, (flat k f n).length = n * k
  | 0 => by simp [flat]
  | n + 1 => by simp [flat, flat_len k f n, Nat.succ_mul]
theorem flat_get (k : Nat) (f : Nat → Nat → Value) : ∀ n i c, i < n → c < k → (flat k f n)[i * k + c]? = some (f i c)
  | 0, i, c, hi, _ => by omega
  | n + 1, i, c, hi, hc => by
    have hl := flat_len k f n
    by_cases h : i = n
    · subst h
      simp only [flat]
      rw [List.getElem?_append_right (by omega), hl, show i * k + c - i * k = c by omega]
      simp [hc]
    · have hlt : i * k + c < n * k := by
        have : (i + 1) * k ≤ n * k := Nat.mul_le_mul_right k (by omega)
        rw [Nat.succ_mul] at this; omega
      simp only [flat]
      rw [List.getElem?_append_left (by omega)]
      exact flat_get k f n i c (by omega) hc
theorem flat_congr (k : Nat) {f g : Nat → Nat → Value} : ∀ n, (∀ i, i < n → ∀ c, c < k → f i c = g i c) → flat k f n = flat k g n
  | 0, _ => rfl
  | n + 1, h => by
    simp only [flat]
    rw [flat_congr k n fun i hi => h i (by omega)]
    congr 1
    exact List.map_congr_left fun c hc => h n (by omega) c (by simpa using hc)
end Go.Proofs.YticddcnlafbkoaaDoor
