import Derived.Test.YticddcnlafbkoaaDoorTab8
import Derived.Test.YticddcnlafbkoaaDoorGrow1
import Derived.Deep.Slices
/- What an image tells: its bytes are those of one table. -/
namespace Go.Proofs.YticddcnlafbkoaaDoor
open Go.ChangeShapes Go.WideShapes Go.ChangeAt Go.RowKit Go.Deep

/-- A pair whose lengths are allowed, or none. -/
def okP : Option (Key × Key) → Prop
  | none => True
  | some (k, v) => 1 ≤ k.length ∧ k.length ≤ 64 ∧ v.length ≤ 1000

theorem lo_nat (n : Nat) : (lo n).toNat = n % 256 := by have := lo_int n; omega
theorem lo_eq {n m : Nat} (h : lo n = lo m) : n % 256 = m % 256 := by rw [← lo_nat, ← lo_nat, h]

theorem cellB_inj {o o' : Option (Key × Key)} (h : okP o) (h' : okP o') {r r' : List UInt8} (e : cellB o ++ r = cellB o' ++ r') : o = o' ∧ r = r' := by
  cases o with
  | none =>
    cases o' with
    | none => exact ⟨rfl, by simpa [cellB] using e⟩
    | some p => obtain ⟨k, v⟩ := p; simp [cellB] at e
  | some p =>
    obtain ⟨k, v⟩ := p
    cases o' with
    | none => simp [cellB] at e
    | some p =>
      obtain ⟨k', v'⟩ := p
      simp only [cellB, List.append_assoc, List.cons_append, List.nil_append, List.cons.injEq, true_and] at e
      obtain ⟨e1, e2, e3, e4⟩ := e
      have f1 := lo_eq e1
      have f2 := lo_eq e2
      have f3 := lo_eq e3
      obtain ⟨_, a2, a3⟩ := h
      obtain ⟨_, b2, b3⟩ := h'
      have g1 : k.length = k'.length := by omega
      have g2 : v.length = v'.length := by omega
      obtain ⟨rfl, e5⟩ := List.append_inj e4 g1
      obtain ⟨rfl, rfl⟩ := List.append_inj e5 g2
      exact ⟨rfl, rfl⟩
theorem bodyB_inj {T T' : Cells} : ∀ (x : Nat) {r r' : List UInt8}, (∀ c, c < x → okP (T c)) → (∀ c, c < x → okP (T' c)) → bodyB T x ++ r = bodyB T' x ++ r' → (∀ c, c < x → T c = T' c) ∧ r = r'
  | 0, _, _, _, _, e => ⟨fun c hc => by omega, by simpa [bodyB] using e⟩
  | x + 1, r, r', h, h', e => by
    simp only [bodyB, List.append_assoc] at e
    obtain ⟨e1, e2⟩ := bodyB_inj x (fun c hc => h c (by omega)) (fun c hc => h' c (by omega)) e
    obtain ⟨e3, e4⟩ := cellB_inj (h x (by omega)) (h' x (by omega)) e2
    refine ⟨fun c hc => ?_, e4⟩
    by_cases e : c = x
    · rw [e]; exact e3
    · exact e1 c (by omega)
theorem bodyB_congr {T T' : Cells} : ∀ x, (∀ c, c < x → T c = T' c) → bodyB T x = bodyB T' x
  | 0, _ => rfl
  | x + 1, h => by simp only [bodyB]; rw [bodyB_congr x fun c hc => h c (by omega), h x (by omega)]
/-- The cells ahead of a place are read again in more of them. -/
theorem bodyB_split (T : Cells) (x : Nat) : ∀ C, x < C → ∃ more, bodyB T C = bodyB T x ++ (cellB (T x) ++ more)
  | 0, h => by omega
  | C + 1, h => by
    by_cases e : x = C
    · subst e; exact ⟨[], by simp [bodyB]⟩
    · obtain ⟨more, hm⟩ := bodyB_split T x C (by omega)
      exact ⟨more ++ cellB (T C), by simp [bodyB, hm]⟩
theorem headB_inj {n n' : Nat} (h : n < 4294967296) (h' : n' < 4294967296) {r r' : List UInt8} (e : headB n ++ r = headB n' ++ r') : n = n' ∧ r = r' := by
  simp only [headB, List.cons_append, List.nil_append, List.cons.injEq] at e
  obtain ⟨e1, e2, e3, e4, e5⟩ := e
  have f1 := lo_eq e1
  have f2 := lo_eq e2
  have f3 := lo_eq e3
  have f4 := lo_eq e4
  exact ⟨by omega, e5⟩

/-- Bytes that are the image of a table. -/
def IsImg (seed : Int) (l : List UInt8) (n : Nat) (T : Cells) : Prop := Good seed n (cellsN n) T ∧ (∀ c, c < cellsN n → okP (T c)) ∧ l = imageB n (cellsN n) T
theorem IsImg.inj {seed : Int} {l : List UInt8} {n n' : Nat} {T T' : Cells} (h : IsImg seed l n T) (h' : IsImg seed l n' T') : n = n' ∧ ∀ c, c < cellsN n → T c = T' c := by
  obtain ⟨g, o, e⟩ := h
  obtain ⟨g', o', e'⟩ := h'
  have hn := g.2.2.2
  have hn' := g'.2.2.2
  rw [e] at e'
  unfold imageB at e'
  obtain ⟨rfl, e2⟩ := headB_inj (by omega) (by omega) e'
  exact ⟨rfl, (bodyB_inj (r := []) (r' := []) _ o o' (by simpa using e2)).1⟩

/-- The first mark of a cell. -/
theorem cellB_head (o : Option (Key × Key)) : ∃ c r, cellB o = c :: r ∧ (c = 0 ∧ o = none ∧ r = [] ∨ c = 1 ∧ ∃ k v, o = some (k, v) ∧ r = [lo k.length, lo v.length, lo (v.length / 256)] ++ k ++ v) := by
  cases o with
  | none => exact ⟨0, [], rfl, .inl ⟨rfl, rfl, rfl⟩⟩
  | some p => obtain ⟨k, v⟩ := p; exact ⟨1, _, rfl, .inr ⟨rfl, k, v, rfl, rfl⟩⟩
theorem cellB_pos (o : Option (Key × Key)) : 1 ≤ (cellB o).length := by obtain ⟨c, r, e, _⟩ := cellB_head o; rw [e]; simp
theorem bodyB_ge (T : Cells) : ∀ C, C ≤ (bodyB T C).length
  | 0 => Nat.zero_le _
  | C + 1 => by have := bodyB_ge T C; have := cellB_pos (T C); simp only [bodyB, List.length_append]; omega

/-! ### Soundness -/
def soundB (seed : Int) (n C : Nat) (T : Cells) : Prop := (fullL T C).length = n ∧ ∀ c, c < C → ∀ k v, T c = some (k, v) → seekAt (bfS seed) (homS seed C) C T k = c
theorem free_of {C n : Nat} {T : Cells} (h : (fullL T C).length = n) (hC : C = cellsN n) (hn : n ≤ 100000) : ∃ x, x < C ∧ T x = none := by
  have h1 := fullL_len T C
  obtain ⟨s1, s2, s3, _⟩ := cellsN_spec n (by omega)
  rw [← hC] at s1 s2 s3
  exact exists_free C (by omega)
theorem sound_good {seed : Int} {n C : Nat} {T : Cells} (hC : C = cellsN n) (hn : n ≤ 100000) : soundB seed n C T ↔ Good seed n C T := by
  constructor
  · rintro ⟨h1, h2⟩
    have hf := free_of h1 hC hn
    obtain ⟨x, hx, _⟩ := hf
    have hh := homS_lt (C := C) (by omega) seed
    refine ⟨fun c hc k v e => ?_, hC, by have := fullL_len T C; omega, hn⟩
    have := seek_path (koS seed) (k := k) (free_of h1 hC hn) (hh k)
    rw [h2 c hc k v e] at this
    exact this
  · intro h
    have hh := homS_lt (C := C) (by have := h.free; omega) seed
    exact ⟨by have := fullL_len T C; have := h.2.2.1; omega, fun c hc k v e => (seek_there (koS seed) h.1 (hh k) hc e).1⟩
end Go.Proofs.YticddcnlafbkoaaDoor

/- Bytes that are cut: a slice of bytes with its room. -/
namespace Go.Proofs.YticddcnlafbkoaaDoor
open Go.ChangeShapes Go.WideShapes Go.ChangeAt Go.RowKit Go.Deep

/-- Bytes in a slice whose room is at least its length. -/
def BC (w : World) (x : Value) (l : List UInt8) : Prop :=
  ∃ ao n cap, x = .slice ao n cap ∧ n = l.length ∧ n ≤ cap ∧ (ao = none → n = 0 ∧ cap = 0) ∧ SlI w .u8 ao (ub l)
theorem BC.bv {w : World} {x : Value} {l : List UInt8} (h : BC w x l) : BV w x l := by
  obtain ⟨ao, n, cap, rfl, rfl, _, h1, h2⟩ := h
  exact ⟨ao, cap, rfl, fun e => ⟨List.eq_nil_of_length_eq_zero (h1 e).1, (h1 e).2⟩, h2⟩
theorem BC.keep {S : Nat → Prop} {w w' : World} {x : Value} {l : List UInt8} (h : BC w x l) (ht : Touch S w w') (hS : ∀ b, OwnOf x b → ¬ S b) : BC w' x l := by
  obtain ⟨ao, n, cap, rfl, rfl, h0, h1, h2⟩ := h
  refine ⟨ao, _, cap, rfl, rfl, h0, h1, h2.keep ht fun a e _ => ?_⟩
  subst e
  exact hS a.block rfl
theorem BC.keepN {w w' : World} {x : Value} {l : List UInt8} (h : BC w x l) (ht : Touch Nil w w') : BC w' x l := h.keep ht fun _ _ c => c
theorem OwnB.bc {base : Nat} {w : World} {v : Value} {l : List UInt8} (h : OwnB base w v l) : BC w v l := by
  have hb := h.bv
  obtain ⟨hlen, ⟨rfl, hn⟩ | ⟨g, cap, cur, rfl, _, _, hc, _⟩⟩ := h
  · obtain ⟨ao, c, e, h1, h2⟩ := hb
    injection e with e1 _ _
    subst e1
    exact ⟨none, 0, 0, rfl, hn.symm, Nat.le_refl _, fun _ => ⟨rfl, rfl⟩, h2⟩
  · obtain ⟨ao, c, e, h1, h2⟩ := hb
    cases e
    exact ⟨_, _, _, rfl, rfl, hc, fun e => (by cases e), h2⟩

theorem elemB : Tryd.prog.elem 27 = 5 := by kernel_rfl
theorem slT : Tryd.prog.underlying 27 = some (.slice (Tryd.prog.elem 27)) := by rw [elemB]; exact Tryd.underlying27
theorem sizeB (w : World) : (sizeOf 5).run Tryd.prog w = .ok 1 w := by
  simp [sizeOf, go_sem]
  rfl

theorem bc_sub {w : World} {ao : Option Addr} {n cap : Nat} {l : List UInt8} (h : BC w (.slice ao n cap) l) {lo hi mx : Nat} (h1 : lo ≤ hi) (h2 : hi ≤ n) (h3 : hi ≤ mx) (h4 : mx ≤ cap) :
    BC w (.slice (if mx = lo then ao else ao.map (·.add (lo * 1))) (hi - lo) (mx - lo)) ((l.take hi).drop lo) := by
  obtain ⟨ao', n', cap', e, rfl, h0, hn, hs⟩ := h
  cases e
  refine ⟨_, _, _, rfl, by simp; omega, by omega, fun e => ?_, fun i hi' => ?_⟩
  · have : ao = none := by
      split at e
      · exact e
      · cases ao with
        | none => rfl
        | some a => cases e
    have := hn this
    omega
  · simp at hi'
    obtain ⟨b, off, ea, hc⟩ := hs (lo + i) (by simp; omega)
    subst ea
    rw [if_neg (by omega)]
    refine ⟨b, off + lo, by rw [Option.map_some, add_plain, Nat.mul_one], ?_⟩
    rw [show off + lo + i = off + (lo + i) from by omega, hc]
    rw [ub_getD _ _ (by omega), ub_getD _ _ (by simp; omega)]
    simp only [List.getD_eq_getElem?_getD, List.getElem?_drop]
    rw [List.getElem?_take, if_pos (by omega)]

/-- s[k:]. -/
theorem cut_l {w : World} {ao : Option Addr} {n cap : Nat} {l : List UInt8} (h : BC w (.slice ao n cap) l) {k : Nat} (hk : k ≤ n) :
    ∃ ao' n' cap', (∀ W, (Instr.slice 27 (.slice ao n cap) (some (.int .i64 (k : Int))) none none).run Tryd.prog W = .ok (.slice ao' n' cap') W) ∧ BC w (.slice ao' n' cap') (l.drop k) ∧ n' + k = n := by
  have hl : n = l.length := by obtain ⟨_, _, _, e, h1, _⟩ := h; cases e; exact h1
  have hc : n ≤ cap := by obtain ⟨_, _, _, e, _, h1, _⟩ := h; cases e; exact h1
  refine ⟨_, _, _, fun W => ?_, by have := bc_sub h (lo := k) (hi := n) (mx := cap) hk (Nat.le_refl _) hc (Nat.le_refl _); rw [hl, List.take_length] at this; exact this, by omega⟩
  rw [run_slice_l _ _ _ _ _ slT _ _ (by omega) (by omega), elemB, sizeB]
  simp only [Result.andThen, sliced, Int.toNat_natCast]
  rw [hl]
/-- s[:k]. -/
theorem cut_h {w : World} {ao : Option Addr} {n cap : Nat} {l : List UInt8} (h : BC w (.slice ao n cap) l) {k : Nat} (hk : k ≤ n) :
    ∃ ao' n' cap', (∀ W, (Instr.slice 27 (.slice ao n cap) none (some (.int .i64 (k : Int))) none).run Tryd.prog W = .ok (.slice ao' n' cap') W) ∧ BC w (.slice ao' n' cap') (l.take k) ∧ n' = k := by
  have hl : n = l.length := by obtain ⟨_, _, _, e, h1, _⟩ := h; cases e; exact h1
  have hc : n ≤ cap := by obtain ⟨_, _, _, e, _, h1, _⟩ := h; cases e; exact h1
  refine ⟨_, _, _, fun W => ?_, by have := bc_sub h (lo := 0) (hi := k) (mx := cap) (by omega) hk (by omega) (Nat.le_refl _); rw [List.drop_zero] at this; exact this, by omega⟩
  rw [run_slice_h _ _ _ _ _ slT _ _ (by omega) (by omega), elemB, sizeB]
  simp only [Result.andThen, sliced, Int.toNat_natCast]
/-- s[i:j]. -/
theorem cut_lh {w : World} {ao : Option Addr} {n cap : Nat} {l : List UInt8} (h : BC w (.slice ao n cap) l) {i j : Nat} (hi : i ≤ j) (hj : j ≤ n) :
    ∃ ao' n' cap', (∀ W, (Instr.slice 27 (.slice ao n cap) (some (.int .i64 (i : Int))) (some (.int .i64 (j : Int))) none).run Tryd.prog W = .ok (.slice ao' n' cap') W) ∧ BC w (.slice ao' n' cap') ((l.take j).drop i) ∧ n' + i = j := by
  have hc : n ≤ cap := by obtain ⟨_, _, _, e, _, h1, _⟩ := h; cases e; exact h1
  refine ⟨_, _, _, fun W => ?_, bc_sub h (lo := i) (hi := j) (mx := cap) hi hj (by omega) (Nat.le_refl _), by omega⟩
  rw [run_slice_lh _ _ _ _ _ slT _ _ _ _ (by omega) (by omega) (by omega), elemB, sizeB]
  simp only [Result.andThen, sliced, Int.toNat_natCast]
end Go.Proofs.YticddcnlafbkoaaDoor
