import Derived.Test.YtkkpcndpjkebkaaRegion
import Derived.Test.YtkkpcndpjkebkaaYieldL
/- The first statement of OrderYields: whatever the order in which its variables are made. -/
namespace Go.Proofs.Ytkkpcndpjkebkaa
open Go.ChangeShapes Go.WideShapes Go.ChangeAt Go.RowKit Go.Deep
attribute [local go_sem] Oper.semAt_some

theorem yc5 {w : World} {b t : Nat} {x0 x1 x2 x3 x4 : Value} (h : w.heap[b]? = some (.cells #[x0, x1, x2, x3, x4] t (0, 0))) : w.cell? ⟨b, 0, none⟩ = some x0 ∧ w.cell? ⟨b, 1, none⟩ = some x1 ∧ w.cell? ⟨b, 2, none⟩ = some x2 ∧ w.cell? ⟨b, 3, none⟩ = some x3 ∧ w.cell? ⟨b, 4, none⟩ = some x4 := by
  refine ⟨?_, ?_, ?_, ?_, ?_⟩ <;> simp [World.cell?, h]
theorem yfr {w : World} {b t : Nat} {cs : Array Value} (h : w.heap[b]? = some (.cells cs t (0, 0))) (i : Nat) : w.frozen? ⟨b, i, none⟩ = false := by simp [World.frozen?, h]
theorem res1 {w : World} {b : Nat} {x : Bool} {fn : Func} {p : Tmp} (hr : fn.results = #[.cell p 4]) {tmps : Array Value} (hp : tmps.getD p undef = .pointer (some ⟨b, 0, none⟩)) (h : w.heap[b]? = some (.cells #[.bool x] 4 (0, 0))) :
    (results fn tmps).run Try.prog w = .ok (.bool x) w := by
  have hp' : tmps[p]?.getD undef = .pointer (some ⟨b, 0, none⟩) := by simpa using hp
  have hc := cells1 h
  have hu := Try.underlying4
  simp [results, hr, hp', asAddr, go_sem, hc, hu]
theorem stp {l : Array Bool} {i j : Nat} (h : (l.setIfInBounds i true).getD j false = true) (hne : i ≠ j) : l.getD j false = true := by
  simpa only [Array.getD_eq_getD_getElem?, Array.getElem?_setIfInBounds_ne hne] using h
theorem mon {l : Array Bool} {i j : Nat} (h : l.getD j false = true) : (l.setIfInBounds i true).getD j false = true := by
  by_cases e : i = j
  · subst e
    have hlt : i < l.size := by
      rcases Nat.lt_or_ge i l.size with c | c
      · exact c
      · simp [Array.getD, Nat.not_lt.2 c] at h
    simp [Array.getD, hlt]
  · simpa only [Array.getD_eq_getD_getElem?, Array.getElem?_setIfInBounds_ne e] using h
theorem ngd {l : Array Bool} {i : Nat} (h : l.getD i true = false) (h' : l.getD i false = true) : False := by
  rcases Nat.lt_or_ge i l.size with c | c
  · simp [Array.getD, c] at h h'
    rw [h] at h'
    cases h'
  · simp [Array.getD, Nat.not_lt.2 c] at h
theorem allL {L : Array Bool} {n : Nat} (hs : L.size = n) (h : ∀ i, i < n → L.getD i true = true) (i : Nat) (hi : i < n) : L.getD i false = true := by
  have := h i hi
  have hlt : i < L.size := by omega
  simpa [Array.getD, hlt] using this
/-- A variable of its own. -/
def Own1 (W : World) (N T : Nat) (v x : Value) : Prop := ∃ b, v = .pointer (some ⟨b, 0, none⟩) ∧ W.heap[b]? = some (.cells #[x] T (0, 0)) ∧ N ≤ b
theorem Own1.keep {S : Nat → Prop} {W W' : World} {N T : Nat} {v x : Value} (h : Own1 W N T v x) (ht : Touch S W W') (hS : ∀ b, v = .pointer (some ⟨b, 0, none⟩) → ¬ S b) : Own1 W' N T v x := by
  obtain ⟨b, h1, h2, h3⟩ := h
  exact ⟨b, h1, (ht.same b (lt_of_heap h2) (hS b h1)).trans h2, h3⟩
theorem Own1.keepN {W W' : World} {N T : Nat} {v x : Value} (h : Own1 W N T v x) (ht : Touch Nil W W') : Own1 W' N T v x := h.keep ht fun _ _ c => c
theorem Own1.lt {W : World} {N T : Nat} {v x : Value} (h : Own1 W N T v x) {b : Nat} (hb : v = .pointer (some ⟨b, 0, none⟩)) : b < W.heap.size := by
  obtain ⟨b', h1, h2, h3⟩ := h
  rw [hb] at h1
  cases h1
  exact lt_of_heap h2
theorem own1_new (W : World) (N T : Nat) (x : Value) (hN : N ≤ W.heap.size) : Own1 (W.alloc (.cells #[x] T)) N T (.pointer (some ⟨W.heap.size, 0, none⟩)) x := ⟨_, rfl, heap_alloc_new _ _, hN⟩
/-- What holds while the first statement is carried out. -/
structure Y1 (N B : Nat) (seed stop : Int) (pv kv vv : Value) (L : Array Bool) (W : World) (v3 v4 v5 v6 v7 v20 v21 v22 v23 v24 v25 v26 v27 v28 v29 : Value) : Prop where
  f0 : L.getD 0 false = true → v20 = .pointer (some ⟨B, 0, none⟩)
  f1 : L.getD 1 false = true → v21 = .int .u64 seed
  f2 : L.getD 2 false = true → v22 = .pointer (some ⟨B, 1, none⟩)
  f3 : L.getD 3 false = true → v23 = pv
  f4 : L.getD 4 false = true → v24 = .pointer (some ⟨B, 2, none⟩)
  f5 : L.getD 5 false = true → v25 = .int .i64 stop
  f6 : L.getD 6 false = true → v26 = .pointer (some ⟨B, 3, none⟩)
  f7 : L.getD 7 false = true → v27 = kv
  f8 : L.getD 8 false = true → v28 = .pointer (some ⟨B, 4, none⟩)
  f9 : L.getD 9 false = true → v29 = vv
  f10 : L.getD 10 false = true → ∃ x, Own1 W N 3 v5 x ∧ (L.getD 15 false = true → x = .int .i64 stop)
  f11 : L.getD 11 false = true → ∃ x, Own1 W N 29 v6 x ∧ (L.getD 16 false = true → x = kv)
  f12 : L.getD 12 false = true → ∃ x, Own1 W N 29 v7 x ∧ (L.getD 17 false = true → x = vv)
  f13 : L.getD 13 false = true → v3 = .int .u64 seed
  f14 : L.getD 14 false = true → v4 = pv
  d56 : L.getD 10 false = true → L.getD 11 false = true → v5 ≠ v6
  d57 : L.getD 10 false = true → L.getD 12 false = true → v5 ≠ v7
  d67 : L.getD 11 false = true → L.getD 12 false = true → v6 ≠ v7
  g15 : L.getD 15 false = true → L.getD 10 false = true
  g16 : L.getD 16 false = true → L.getD 11 false = true
  g17 : L.getD 17 false = true → L.getD 12 false = true
  t : N ≤ W.heap.size
end Go.Proofs.Ytkkpcndpjkebkaa
