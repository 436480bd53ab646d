import Derived.Test.YthhahanhkclidaaTab8
import Derived.Test.YthhahanhkclidaaGrow1
/- What an image tells: its bytes are those of one table. -/
namespace Go.Proofs.Ythhahanhkclidaa
open Go.ChangeShapes Go.WideShapes Go.ChangeAt Go.RowKit Go.Deep

/-- A pair whose lengths are allowed, or none. -/
def okP : Option (Key × Key) → Prop
  | none => True
  | some (k, v) => 1 ≤ k.length ∧ k.length ≤ 64 ∧ v.length ≤ 1000

theorem lo_nat (n : Nat) : (lo n).toNat = n % 256 := by have := lo_int n; omega
theorem lo_eq {n m : Nat} (h : lo n = lo m) : n % 256 = m % 256 := by rw [← lo_nat, ← lo_nat, h]

theorem cellB_inj {o o' : Option (Key × Key)} (h : okP o) (h' : okP o') {r r' : List UInt8} (e : cellB o ++ r = cellB o' ++ r') : o = o' ∧ r = r' := by
  cases o with
  | none =>
    cases o' with
    | none => exact ⟨rfl, by simpa [cellB] using e⟩
    | some p => obtain ⟨k, v⟩ := p; simp [cellB] at e
  | some p =>
    obtain ⟨k, v⟩ := p
    cases o' with
    | none => simp [cellB] at e
    | some p =>
      obtain ⟨k', v'⟩ := p
      simp only [cellB, List.append_assoc, List.cons_append, List.nil_append, List.cons.injEq, true_and] at e
      obtain ⟨e1, e2, e3, e4⟩ := e
      have f1 := lo_eq e1
      have f2 := lo_eq e2
      have f3 := lo_eq e3
      obtain ⟨_, a2, a3⟩ := h
      obtain ⟨_, b2, b3⟩ := h'
      have g1 : k.length = k'.length := by omega
      have g2 : v.length = v'.length := by omega
      obtain ⟨rfl, e5⟩ := List.append_inj e4 g1
      obtain ⟨rfl, rfl⟩ := List.append_inj e5 g2
      exact ⟨rfl, rfl⟩
theorem bodyB_inj {T T' : Cells} : ∀ (x : Nat) {r r' : List UInt8}, (∀ c, c < x → okP (T c)) → (∀ c, c < x → okP (T' c)) → bodyB T x ++ r = bodyB T' x ++ r' → (∀ c, c < x → T c = T' c) ∧ r = r'
  | 0, _, _, _, _, e => ⟨fun c hc => by omega, by simpa [bodyB] using e⟩
  | x + 1, r, r', h, h', e => by
    simp only [bodyB, List.append_assoc] at e
    obtain ⟨e1, e2⟩ := bodyB_inj x (fun c hc => h c (by omega)) (fun c hc => h' c (by omega)) e
    obtain ⟨e3, e4⟩ := cellB_inj (h x (by omega)) (h' x (by omega)) e2
    refine ⟨fun c hc => ?_, e4⟩
    by_cases e : c = x
    · rw [e]; exact e3
    · exact e1 c (by omega)
theorem bodyB_congr {T T' : Cells} : ∀ x, (∀ c, c < x → T c = T' c) → bodyB T x = bodyB T' x
  | 0, _ => rfl
  | x + 1, h => by simp only [bodyB]; rw [bodyB_congr x fun c hc => h c (by omega), h x (by omega)]
/-- The cells ahead of a place are read again in more of them. -/
theorem bodyB_split (T : Cells) (x : Nat) : ∀ C, x < C → ∃ more, bodyB T C = bodyB T x ++ (cellB (T x) ++ more)
  | 0, h => by omega
  | C + 1, h => by
    by_cases e : x = C
    · subst e; exact ⟨[], by simp [bodyB]⟩
    · obtain ⟨more, hm⟩ := bodyB_split T x C (by omega)
      exact ⟨more ++ cellB (T C), by simp [bodyB, hm]⟩
theorem headB_inj {n n' : Nat} (h : n < 4294967296) (h' : n' < 4294967296) {r r' : List UInt8} (e : headB n ++ r = headB n' ++ r') : n = n' ∧ r = r' := by
  simp only [headB, List.cons_append, List.nil_append, List.cons.injEq] at e
  obtain ⟨e1, e2, e3, e4, e5⟩ := e
  have f1 := lo_eq e1
  have f2 := lo_eq e2
  have f3 := lo_eq e3
  have f4 := lo_eq e4
  exact ⟨by omega, e5⟩

/-- Bytes that are the image of a table. -/
def IsImg (seed : Int) (l : List UInt8) (n : Nat) (T : Cells) : Prop := Good seed n (cellsN n) T ∧ (∀ c, c < cellsN n → okP (T c)) ∧ l = imageB n (cellsN n) T
theorem IsImg.inj {seed : Int} {l : List UInt8} {n n' : Nat} {T T' : Cells} (h : IsImg seed l n T) (h' : IsImg seed l n' T') : n = n' ∧ ∀ c, c < cellsN n → T c = T' c := by
  obtain ⟨g, o, e⟩ := h
  obtain ⟨g', o', e'⟩ := h'
  have hn := g.2.2.2
  have hn' := g'.2.2.2
  rw [e] at e'
  unfold imageB at e'
  obtain ⟨rfl, e2⟩ := headB_inj (by omega) (by omega) e'
  exact ⟨rfl, (bodyB_inj (r := []) (r' := []) _ o o' (by simpa using e2)).1⟩

/-- The first mark of a cell. -/
theorem cellB_head (o : Option (Key × Key)) : ∃ c r, cellB o = c :: r ∧ (c = 0 ∧ o = none ∧ r = [] ∨ c = 1 ∧ ∃ k v, o = some (k, v) ∧ r = [lo k.length, lo v.length, lo (v.length / 256)] ++ k ++ v) := by
  cases o with
  | none => exact ⟨0, [], rfl, .inl ⟨rfl, rfl, rfl⟩⟩
  | some p => obtain ⟨k, v⟩ := p; exact ⟨1, _, rfl, .inr ⟨rfl, k, v, rfl, rfl⟩⟩
theorem cellB_pos (o : Option (Key × Key)) : 1 ≤ (cellB o).length := by obtain ⟨c, r, e, _⟩ := cellB_head o; rw [e]; simp
theorem bodyB_ge (T : Cells) : ∀ C, C ≤ (bodyB T C).length
  | 0 => Nat.zero_le _
  | C + 1 => by have := bodyB_ge T C; have := cellB_pos (T C); simp only [bodyB, List.length_append]; omega

/-! ### Soundness -/
def soundB (seed : Int) (n C : Nat) (T : Cells) : Prop := (fullL T C).length = n ∧ ∀ c, c < C → ∀ k v, T c = some (k, v) → seekAt (bfS seed) (homS seed C) C T k = c
theorem free_of {C n : Nat} {T : Cells} (h : (fullL T C).length = n) (hC : C = cellsN n) (hn : n ≤ 100000) : ∃ x, x < C ∧ T x = none := by
  have h1 := fullL_len T C
  obtain ⟨s1, s2, s3, _⟩ := cellsN_spec n (by omega)
  rw [← hC] at s1 s2 s3
  exact exists_free C (by omega)
theorem sound_good {seed : Int} {n C : Nat} {T : Cells} (hC : C = cellsN n) (hn : n ≤ 100000) : soundB seed n C T ↔ Good seed n C T := by
  constructor
  · rintro ⟨h1, h2⟩
    have hf := free_of h1 hC hn
    obtain ⟨x, hx, _⟩ := hf
    have hh := homS_lt (C := C) (by omega) seed
    refine ⟨fun c hc k v e => ?_, hC, by have := fullL_len T C; omega, hn⟩
    have := seek_path (koS seed) (k := k) (free_of h1 hC hn) (hh k)
    rw [h2 c hc k v e] at this
    exact this
  · intro h
    have hh := homS_lt (C := C) (by have := h.free; omega) seed
    exact ⟨by have := fullL_len T C; have := h.2.2.1; omega, fun c hc k v e => (seek_there (koS seed) h.1 (hh k) hc e).1⟩
end Go.Proofs.Ythhahanhkclidaa
