import Derived.Test.YtabjpejgnfeegaaScript
import Derived.Test.YtabjpejgnfeegaaTab8
/- Two tables at once; what tables touch. -/
namespace Go.Proofs.Ytabjpejgnfeegaa
open Go.ChangeShapes Go.WideShapes Go.ChangeAt Go.RowKit Go.Deep

/-- A block such as tables are made of. -/
def Tight (w : World) (b : Nat) : Prop := ∃ cs t z, w.heap[b]? = some (.cells cs t z) ∧ t ≠ 23
theorem Tab.tight {R : Nat → Prop} {w : World} {t : Value} {seed : Int} {n C : Nat} {T : Cells} (h : Tab R w t seed n C T) : Tab (fun b => R b ∧ Tight w b) w t seed n C T := by
  obtain ⟨⟨bt, bb, bc, vv, e, h1, h2, h3⟩, hg, hl⟩ := h
  refine ⟨⟨bt, bb, bc, vv, e, h1, ⟨h2, _, _, _, h1, by decide⟩, ⟨h3.body, h3.row, fun c hc => ?_, ⟨h3.rb, _, _, _, h3.body, by decide⟩, ⟨h3.rc, _, _, _, row_block h3.row, by decide⟩⟩⟩, hg, fun b hb => hl b hb.1⟩
  have := h3.cells c hc
  have ob : ∀ x l, OB R w x l → OB (fun b => R b ∧ Tight w b) w x l := fun x l hx => ⟨hx.1, fun b hb => by
    obtain ⟨r, cs, z, e⟩ := hx.2 b hb
    exact ⟨⟨r, cs, _, z, e, by decide⟩, cs, z, e⟩⟩
  cases e : T c with
  | none => rw [e] at this; exact this
  | some p => rw [e] at this; exact ⟨ob _ _ this.1, ob _ _ this.2.1, this.2.2⟩

/-- What a call on a table may have touched: blocks from B on, and none of a row of slices of bytes. -/
def FromT (B : Nat) (w : World) : Nat → Prop := fun b => B ≤ b ∧ Tight w b
theorem fromT_row {B : Nat} {w w' : World} {base k n : Nat} {v : Value} {xs : List Value} (h : w.ownsRow base 23 k v n xs) (ht : Touch (FromT B w) w w') : w'.ownsRow base 23 k v n xs :=
  own_keep h ht fun b hb cs z e => by
    obtain ⟨_, cs', t, z', e', hne⟩ := hb
    rw [e] at e'
    injection e' with e'
    injection e' with _ e'
    exact hne e'.symm
theorem fromT_nil {B : Nat} {w0 w w' : World} (h : Touch Nil w0 w) (ht : Touch (FromT B w) w w') (hB : w0.heap.size ≤ B) : Touch Nil w0 w' := h.trans' ht fun b hb hs => by have := hs.1; omega

/-- Two tables that share nothing. -/
def Duo (B : Nat) (w : World) (t u : Value) (seed : Int) (m k : Nat) (S U : Key × Key → Prop) : Prop :=
  ∃ R n C T R' n' C' T', Tab R w t seed n C T ∧ Tab R' w u seed n' C' T' ∧ (∀ b, R b → Tight w b) ∧ (∀ b, R' b → Tight w b) ∧ (∀ b, R b → B ≤ b) ∧ (∀ b, R' b → B ≤ b) ∧ (∀ b, R b → ¬ R' b) ∧ n ≤ m ∧ n' ≤ k ∧ (∀ x, InT C T x ↔ S x) ∧ (∀ x, InT C' T' x ↔ U x)
section
variable {B : Nat} {w w' : World} {t u : Value} {seed : Int} {m k : Nat} {S U : Key × Key → Prop}
theorem Duo.swap (h : Duo B w t u seed m k S U) : Duo B w u t seed k m U S := by
  obtain ⟨R, n, C, T, R', n', C', T', h1, h2, h3, h4, h5, h6, h7, h8, h9, h10, h11⟩ := h
  exact ⟨R', n', C', T', R, n, C, T, h2, h1, h4, h3, h6, h5, fun b hb hb' => h7 b hb' hb, h9, h8, h11, h10⟩
theorem Tight.keepN {b : Nat} (h : Tight w b) (ht : Touch Nil w w') : Tight w' b := by
  obtain ⟨cs, t, z, e, hne⟩ := h
  exact ⟨cs, t, z, (ht.same b (Array.getElem?_eq_some_iff.1 e).1 fun c => c).trans e, hne⟩
theorem Duo.keep {X : Nat → Prop} (h : Duo B w t u seed m k S U) (ht : Touch X w w') (hX : ∀ b, X b → ¬ Tight w b) : Duo B w' t u seed m k S U := by
  obtain ⟨R, n, C, T, R', n', C', T', h1, h2, h3, h4, h5, h6, h7, h8, h9, h10, h11⟩ := h
  have tk : ∀ b, Tight w b → Tight w' b := fun b hb => by
    have hb' := hb
    obtain ⟨cs, t, z, e, hne⟩ := hb
    exact ⟨cs, t, z, (ht.same b (Array.getElem?_eq_some_iff.1 e).1 fun c => hX b c hb').trans e, hne⟩
  exact ⟨R, n, C, T, R', n', C', T', h1.keep ht (fun b hb c => hX b c (h3 b hb)), h2.keep ht (fun b hb c => hX b c (h4 b hb)), fun b hb => tk b (h3 b hb), fun b hb => tk b (h4 b hb), h5, h6, h7, h8, h9, h10, h11⟩
theorem Duo.keepN (h : Duo B w t u seed m k S U) (ht : Touch Nil w w') : Duo B w' t u seed m k S U := h.keep ht fun _ c => c.elim
/-- A row of slices of bytes that grows touches no table. -/
theorem Duo.append {base k' n : Nat} {v : Value} {xs : List Value} (h : Duo B w t u seed m k S U) (hr : w.ownsRow base 23 k' v n xs) (ht : Touch (OwnOf v) w w') : Duo B w' t u seed m k S U := h.keep ht fun b hb hT => by
  obtain ⟨hl, ⟨rfl, hn⟩ | ⟨g, cap, cur, rfl, hb', hg, _⟩⟩ := hr
  · cases hb
  · obtain rfl : b = g := by simpa [OwnOf, Value.ownBlock] using hb
    obtain ⟨cs, t, z, e, hne⟩ := hT
    rw [hg] at e
    injection e with e
    injection e with _ e
    exact hne e.symm

def DuoP (B : Nat) (t u : Value) (seed : Int) (m k : Nat) (c : Int) (S U : Key × Key → Prop) (w : World) (e : Ending) (w' : World) : Prop := e = .returned (.int .i64 c) ∧ Duo B w' t u seed m k S U ∧ Touch (FromT B w) w w'

def DuoE (B : Nat) (t u : Value) (seed : Int) (m k : Nat) (S U : Key × Key → Prop) (w : World) (e : Ending) (w' : World) : Prop := ∃ c : Int, e = .returned (.int .i64 c) ∧ Duo B w' t u seed m k S U ∧ Touch (FromT B w) w w'
theorem DuoP.some {c : Int} {e : Ending} (h : DuoP B t u seed m k c S U w e w') : DuoE B t u seed m k S U w e w' := ⟨c, h⟩

theorem duo_step {R : Nat → Prop} {R' : Nat → Prop} {n' C' : Nat} {T' : Cells} {R2 : Nat → Prop} {n2 C2 : Nat} {T2 : Cells} {S2 : Key × Key → Prop} {m2 : Nat} (h2 : Tab R' w u seed n' C' T') (h3 : ∀ b, R b → Tight w b) (h4 : ∀ b, R' b → Tight w b) (h5 : ∀ b, R b → B ≤ b) (h6 : ∀ b, R' b → B ≤ b) (h7 : ∀ b, R b → ¬ R' b) (h9 : n' ≤ k) (h11 : ∀ x, InT C' T' x ↔ U x)
    (hT : Tab R2 w' t seed n2 C2 T2) (ht : Touch R w w') (hR : ∀ b, R2 b → R b ∨ w.heap.size ≤ b) (hB : B ≤ w.heap.size) (hn : n2 ≤ m2) (hS : ∀ x, InT C2 T2 x ↔ S2 x) : Duo B w' t u seed m2 k S2 U ∧ Touch (FromT B w) w w' := by
  refine ⟨⟨_, n2, C2, T2, _, n', C', T', hT.tight, (h2.keep ht fun b hb hb' => h7 b hb' hb), fun b hb => hb.2, fun b hb => ?_, fun b hb => (hR b hb.1).elim (h5 b) fun h => by omega, h6, fun b hb hb' => (hR b hb.1).elim (fun r => h7 b r hb') fun h => ?_, hn, h9, hS, h11⟩, ht.mono fun b _ hb => ⟨h5 b hb, h3 b hb⟩⟩
  · obtain ⟨cs, t, z, e, hne⟩ := h4 b hb
    exact ⟨cs, t, z, (ht.same b (Array.getElem?_eq_some_iff.1 e).1 fun c => h7 b c hb).trans e, hne⟩
  · have := h2.low b hb'; omega

theorem duo_put (h : Duo B w t u seed m k S U) (hm : m < 100000) (hB : B ≤ w.heap.size) (key val : Key) (kx vx : Value) (hk : BV w kx key) (hv : BV w vx val) (hkl : key.length ≤ 1048576) (hvl : val.length ≤ 1048576) :
    Calls Try.prog 39 #[t, kx, vx] w (DuoP B t u seed (m + 1) k (if allowB key val = true then 0 else 1) (updS S key val) U w) := by
  obtain ⟨R, n, C, T, R', n', C', T', h1, h2, h3, h4, h5, h6, h7, h8, h9, h10, h11⟩ := h
  refine (put_any h1 key val kx vx hk hv hkl hvl).mono fun e w' ⟨he, R2, n2, C2, T2, hT, ht, _, hR, hn, hc0, hc1⟩ => ?_
  unfold DuoP
  by_cases ha : allowB key val = true
  · have ha' := of_decide_eq_true ha
    have hp : ∀ b, putErr n b key val = 0 := fun b => by unfold putErr; rw [if_neg (by simpa using ha'), if_pos (.inr (by omega))]
    rw [if_pos ha]
    refine ⟨by rw [he, hp], duo_step h2 h3 h4 h5 h6 h7 h9 h11 hT ht hR hB (by omega) fun x => ?_⟩
    show InT C2 T2 x ↔ (if allowB key val = true then (x.1 ≠ key ∧ S x) ∨ x = (key, val) else S x)
    rw [if_pos ha, hc0 (hp _) x, h10 x]
  · have ha' : ¬ (1 ≤ key.length ∧ key.length ≤ 64 ∧ val.length ≤ 1000) := fun h => ha (decide_eq_true h)
    have hp : ∀ b, putErr n b key val = 1 := fun b => by unfold putErr; rw [if_pos ha']
    rw [if_neg ha]
    obtain ⟨e1, e2, e3⟩ := hc1 (by rw [hp]; decide)
    refine ⟨by rw [he, hp], duo_step h2 h3 h4 h5 h6 h7 h9 h11 hT ht hR hB (by omega) fun x => ?_⟩
    show InT C2 T2 x ↔ (if allowB key val = true then (x.1 ≠ key ∧ S x) ∨ x = (key, val) else S x)
    rw [if_neg ha, e2, e3, h10 x]
open Classical in
theorem duo_drop (h : Duo B w t u seed m k S U) (hB : B ≤ w.heap.size) (key : Key) (kx : Value) (hk : BV w kx key) (hkl : key.length ≤ 1048576) :
    Calls Try.prog 38 #[t, kx] w (DuoP B t u seed m k (if ∃ v, S (key, v) then 0 else 3) (fun x => S x ∧ x.1 ≠ key) U w) := by
  obtain ⟨R, n, C, T, R', n', C', T', h1, h2, h3, h4, h5, h6, h7, h8, h9, h10, h11⟩ := h
  refine (drop_any h1 key kx hk hkl).mono fun e w' ⟨he, R2, n2, C2, T2, hT, ht, _, hR, hn, hc⟩ => ?_
  refine ⟨?_, duo_step h2 h3 h4 h5 h6 h7 h9 h11 hT ht hR hB (by omega) fun x => by rw [hc x, h10 x]⟩
  rw [he]
  cases hv : valAt (T (seekAt (bfS seed) (homS seed C) C T key)) key with
  | none =>
    rw [if_neg]
    · rfl
    · rintro ⟨v, hs⟩
      rw [← h10, ← seek_iff h1] at hs
      rw [hv] at hs; cases hs
  | some v =>
    rw [if_pos ⟨v, (h10 _).1 ((seek_iff h1 key v).1 hv)⟩]
    rfl
/-- What is told of a key. -/
theorem duo_get (h : Duo B w t u seed m k S U) (key : Key) (kx : Value) (hk : BV w kx key) (hkl : key.length ≤ 1048576) :
    Calls Try.prog 40 #[t, kx] w fun e w' => ∃ o, (∀ v, o = some v ↔ S (key, v)) ∧ GetPost o w e w' := by
  obtain ⟨R, n, C, T, R', n', C', T', h1, h2, h3, h4, h5, h6, h7, h8, h9, h10, h11⟩ := h
  exact (get_any h1 key kx hk hkl).mono fun e w' hp => ⟨_, fun v => by rw [seek_iff h1, h10], hp⟩
end

/-! ### One content, one table -/
theorem count_le {seed : Int} {n C n' C' : Nat} {T T' : Cells} (h : Good seed n C T) (h' : Good seed n' C' T') (hin : ∀ x, InT C T x → InT C' T' x) : n ≤ n' := by
  have l1 := fullL_len T C
  have l2 := fullL_len T' C'
  have e1 := h.2.2.1
  have e2 := h'.2.2.1
  have key : ∀ i, i < (fullL T C).length → ∃ j, j < (fullL T' C').length ∧ T' (nthF T' C' j) = T (nthF T C i) := fun i hi => by
    obtain ⟨c1, c2⟩ := nthF_lt T C i hi
    obtain ⟨p, ep⟩ : ∃ p, T (nthF T C i) = some p := by
      cases e : T (nthF T C i) with
      | none => rw [e] at c2; cases c2
      | some p => exact ⟨p, rfl⟩
    obtain ⟨d, hd, ed⟩ := hin p ⟨_, c1, ep⟩
    obtain ⟨j, hj, ej⟩ := nthF_all T' C' d hd (by rw [ed]; rfl)
    exact ⟨j, hj, by rw [ej, ed, ep]⟩
  have hC : 0 < C := by have := h.free.1; omega
  obtain ⟨f, hf⟩ := choose_lt (α := Nat) (n := (fullL T C).length) (p := fun i j => j < (fullL T' C').length ∧ T' (nthF T' C' j) = T (nthF T C i)) key
  have hinj : ∀ i j, i < (fullL T C).length → j < (fullL T C).length → f i = f j → i = j := fun i j hi hj e => by
    have a := (hf i hi).2
    have b := (hf j hj).2
    rw [e] at a
    rw [a] at b
    obtain ⟨c1, c2⟩ := nthF_lt T C i hi
    obtain ⟨d1, d2⟩ := nthF_lt T C j hj
    cases e1 : T (nthF T C i) with
    | none => rw [e1] at c2; cases c2
    | some p =>
      have := h.1.inj (koS seed) (homS_lt hC seed) c1 d1 (k := p.1) (v := p.2) (v' := p.2) e1 (by rw [← b, e1])
      exact nthF_inj T C i j hi hj this
  have pig : ∀ a b (f : Nat → Nat), (∀ i, i < a → f i < b) → (∀ i j, i < a → j < a → f i = f j → i = j) → a ≤ b := by
    intro a
    induction a with
    | zero => intro b f _ _; omega
    | succ a ih =>
      intro b f h1 h2
      have hb : f a < b := h1 a (by omega)
      have := ih (b - 1) (fun i => if f i < f a then f i else f i - 1) (fun i hi => by
          have := h1 i (by omega)
          have hne : f i ≠ f a := fun e => by have := h2 i a (by omega) (by omega) e; omega
          show (if f i < f a then f i else f i - 1) < b - 1
          split <;> omega) (fun i j hi hj e => by
          have n1 : f i ≠ f a := fun e => by have := h2 i a (by omega) (by omega) e; omega
          have n2 : f j ≠ f a := fun e => by have := h2 j a (by omega) (by omega) e; omega
          have e : (if f i < f a then f i else f i - 1) = (if f j < f a then f j else f j - 1) := e
          refine h2 i j (by omega) (by omega) ?_
          (repeat' split at e) <;> omega)
      omega
  have := pig _ _ f (fun i hi => (hf i hi).1) hinj
  omega
theorem good_unique {seed : Int} {n C n' C' : Nat} {T T' : Cells} (h : Good seed n C T) (h' : Good seed n' C' T') (hin : ∀ x, InT C T x ↔ InT C' T' x) : n = n' ∧ C = C' ∧ ∀ c, c < C → T c = T' c := by
  have e : n = n' := Nat.le_antisymm (count_le h h' fun x hx => (hin x).1 hx) (count_le h' h fun x hx => (hin x).2 hx)
  subst e
  have eC : C = C' := h.2.1.trans h'.2.1.symm
  subst eC
  exact ⟨rfl, rfl, runs_unique (koS seed) (homS_lt (by have := h.free.1; omega) seed) h.1 h'.1 hin⟩
theorem find_congr {α : Type} {p q : α → Bool} : ∀ l : List α, (∀ x, x ∈ l → p x = q x) → l.find? p = l.find? q
  | [], _ => rfl
  | x :: l, h => by
    rw [List.find?_cons, List.find?_cons, h x (by simp), find_congr l fun y hy => h y (by simp [hy])]
theorem seekN_congr {bf : Key → Key → Bool} {hom : Key → Nat} {C : Nat} {T T' : Cells} (h : ∀ c, c < C → T c = T' c) {k : Key} (hh : hom k < C) : seekN bf hom C T k = seekN bf hom C T' k := by
  unfold seekN
  have e : (List.range C).find? (fun t => stops bf k (T (pos C (hom k) t))) = (List.range C).find? (fun t => stops bf k (T' (pos C (hom k) t))) := by
    apply find_congr
    intro t ht
    rw [h _ (pos_lt hh (List.mem_range.1 ht))]
  rw [e]
theorem bodyB_congrD {T T' : Cells} : ∀ C, (∀ c, c < C → T c = T' c) → bodyB T C = bodyB T' C
  | 0, _ => rfl
  | C + 1, h => by simp only [bodyB, bodyB_congrD C fun c hc => h c (by omega), h C (by omega)]
end Go.Proofs.Ytabjpejgnfeegaa
