import Derived.Test.YtabjpejgnfeegaaRefRead
import Derived.Test.YtabjpejgnfeegaaDuo
import Derived.Test.YtabjpejgnfeegaaAwake
import Derived.Test.YtabjpejgnfeegaaTab8
import Derived.Test.YtabjpejgnfeegaaScript
import Derived.OrdersIn
import Derived.OwnWalkIn
import Derived.TacticsIn
import Derived.Maps.AppendAt
import Derived.Test.YtabjpejgnfeegaaBackMath
/- What the reference's list is behind a call: mathematics. -/
namespace Go.Proofs.Ytabjpejgnfeegaa
open Go.ChangeShapes Go.WideShapes Go.ChangeAt Go.RowKit Go.Deep

abbrev KVs := List (Key × Key)
def Dist (L : KVs) : Prop := ∀ i j, i < L.length → j < L.length → i ≠ j → (atL L i).1 ≠ (atL L j).1
def atP (L : KVs) (key : Key) : Option Nat := atF (atL L) key L.length
/-- Put, by the place where the key stands; Drop; Get. -/
def insP (L : KVs) (key val : Key) : KVs := match atP L key with | some i => L.set i (key, val) | none => L ++ [(key, val)]
def delP (L : KVs) (key : Key) : KVs := match atP L key with | some i => L.take i ++ L.drop (i + 1) | none => L
def getP (L : KVs) (key : Key) : Option Key := (atP L key).map fun i => (atL L i).2
def Okay (L : KVs) : Prop := ∀ x ∈ L, 1 ≤ x.1.length ∧ x.1.length ≤ 64 ∧ x.2.length ≤ 1000

theorem atL_get {L : KVs} {i : Nat} (h : i < L.length) : L[i]? = some (atL L i) := by
  unfold atL; rw [List.getD_eq_getElem?_getD, List.getElem?_eq_getElem h]; rfl
theorem mem_at {L : KVs} {x : Key × Key} : x ∈ L ↔ ∃ i, i < L.length ∧ atL L i = x := by
  constructor
  · intro h
    obtain ⟨i, hi, e⟩ := atL_ex h
    exact ⟨i, hi, e.symm⟩
  · rintro ⟨i, hi, e⟩
    rw [← e]; exact atL_mem hi
theorem dist_of {L : KVs} (h : L.Pairwise fun a b => a.1 ≠ b.1) : Dist L := fun _ _ hi hj hne => atL_ne h hi hj hne
theorem Dist.pair {L : KVs} (h : Dist L) : L.Pairwise fun a b => a.1 ≠ b.1 := by
  rw [List.pairwise_iff_getElem]
  intro i j hi hj hij
  have := h i j hi hj (by omega)
  have e1 := atL_get hi
  have e2 := atL_get hj
  rw [List.getElem?_eq_getElem hi] at e1
  rw [List.getElem?_eq_getElem hj] at e2
  injection e1 with e1
  injection e2 with e2
  rw [e1, e2]; exact this
theorem atP_some {L : KVs} {key : Key} {i : Nat} (h : atP L key = some i) : i < L.length ∧ (atL L i).1 = key := ⟨(atF_some h).1, (atF_some h).2.1⟩
theorem atP_none {L : KVs} {key : Key} (h : atP L key = none) : ∀ x ∈ L, x.1 ≠ key := fun x hx => by
  obtain ⟨i, hi, e⟩ := mem_at.1 hx
  rw [← e]; exact atF_none h i hi
theorem set_at {L : KVs} {i j : Nat} {q : Key × Key} (hj : j < L.length) : atL (L.set i q) j = if i = j then q else atL L j := by
  unfold atL
  rw [List.getD_eq_getElem?_getD, List.getD_eq_getElem?_getD, List.getElem?_set]
  by_cases e : i = j
  · subst e; simp [hj]
  · simp [e]
theorem insP_mem {L : KVs} {key val : Key} (hd : Dist L) (x : Key × Key) : x ∈ insP L key val ↔ (x.1 ≠ key ∧ x ∈ L) ∨ x = (key, val) := by
  unfold insP
  cases h : atP L key with
  | none =>
    have hn := atP_none h
    simp only [List.mem_append, List.mem_singleton]
    exact ⟨fun h => h.imp (fun h => ⟨hn x h, h⟩) fun h => h, fun h => h.imp (fun h => h.2) fun h => h⟩
  | some i =>
    obtain ⟨hi, hk⟩ := atP_some h
    simp only []
    rw [mem_at]
    constructor
    · rintro ⟨j, hj, e⟩
      rw [List.length_set] at hj
      rw [set_at hj] at e
      by_cases c : i = j
      · rw [if_pos c] at e; exact .inr e.symm
      · rw [if_neg c] at e
        left
        rw [← e]
        refine ⟨?_, atL_mem hj⟩
        rw [← hk]; exact hd j i hj hi (by omega)
    · rintro (⟨h1, h2⟩ | h)
      · obtain ⟨j, hj, e⟩ := mem_at.1 h2
        refine ⟨j, by rw [List.length_set]; exact hj, ?_⟩
        rw [set_at hj, if_neg (fun c => by subst c; rw [e] at hk; exact h1 hk)]
        exact e
      · exact ⟨i, by rw [List.length_set]; exact hi, by rw [set_at hi, if_pos rfl]; exact h.symm⟩
theorem insP_dist {L : KVs} {key val : Key} (hd : Dist L) : Dist (insP L key val) := by
  unfold insP
  cases h : atP L key with
  | none =>
    have hn := atP_none h
    refine dist_of ?_
    rw [List.pairwise_append]
    refine ⟨hd.pair, List.pairwise_singleton _ _, fun a ha b hb => ?_⟩
    rw [List.mem_singleton] at hb
    subst hb
    exact hn a ha
  | some i =>
    obtain ⟨hi, hk⟩ := atP_some h
    simp only []
    intro a b ha hb hne
    rw [List.length_set] at ha hb
    rw [set_at ha, set_at hb]
    by_cases ca : i = a
    · subst ca
      rw [if_pos rfl, if_neg hne, ← hk]
      exact hd i b ha hb hne
    · rw [if_neg ca]
      by_cases cb : i = b
      · subst cb
        rw [if_pos rfl, ← hk]
        exact hd a i ha hb hne
      · rw [if_neg cb]; exact hd a b ha hb hne
theorem insP_len {L : KVs} {key val : Key} : (insP L key val).length ≤ L.length + 1 := by
  unfold insP
  cases atP L key <;> simp
theorem insP_okay {L : KVs} {key val : Key} (hd : Dist L) (h : Okay L) (ha : allowB key val = true) : Okay (insP L key val) := fun x hx => by
  rcases (insP_mem hd x).1 hx with ⟨_, h2⟩ | e
  · exact h x h2
  · rw [e]; exact of_decide_eq_true ha
theorem delP_mem {L : KVs} {key : Key} (hd : Dist L) (x : Key × Key) : x ∈ delP L key ↔ x ∈ L ∧ x.1 ≠ key := by
  unfold delP
  cases h : atP L key with
  | none => exact ⟨fun hx => ⟨hx, atP_none h x hx⟩, fun hx => hx.1⟩
  | some i =>
    obtain ⟨hi, hk⟩ := atP_some h
    simp only []
    rw [List.mem_append, List.mem_iff_getElem?, List.mem_iff_getElem?]
    constructor
    · rintro (⟨j, e⟩ | ⟨j, e⟩)
      · rw [List.getElem?_take] at e
        split at e
        · have hj : j < L.length := by omega
          rw [atL_get hj] at e
          injection e with e
          rw [← e]
          exact ⟨atL_mem hj, by rw [← hk]; exact hd j i hj hi (by omega)⟩
        · cases e
      · rw [List.getElem?_drop] at e
        have hj : i + 1 + j < L.length := by
          rcases Nat.lt_or_ge (i + 1 + j) L.length with c | c
          · exact c
          · rw [List.getElem?_eq_none c] at e; cases e
        rw [atL_get hj] at e
        injection e with e
        rw [← e]
        exact ⟨atL_mem hj, by rw [← hk]; exact hd _ i hj hi (by omega)⟩
    · rintro ⟨h1, h2⟩
      obtain ⟨j, hj, e⟩ := mem_at.1 h1
      rcases Nat.lt_trichotomy j i with c | c | c
      · left
        refine ⟨j, ?_⟩
        rw [List.getElem?_take, if_pos c, atL_get hj, e]
      · subst c; rw [e] at hk; exact absurd hk h2
      · right
        refine ⟨j - (i + 1), ?_⟩
        rw [List.getElem?_drop, show i + 1 + (j - (i + 1)) = j by omega, atL_get hj, e]
theorem delP_dist {L : KVs} {key : Key} (hd : Dist L) : Dist (delP L key) := by
  unfold delP
  cases h : atP L key with
  | none => exact hd
  | some i =>
    refine dist_of (hd.pair.sublist ?_)
    have h1 : (L.drop (i + 1)).Sublist (L.drop i) := by
      rw [← List.drop_drop]; exact List.drop_sublist _ _
    have := List.Sublist.append (List.Sublist.refl (L.take i)) h1
    rw [List.take_append_drop] at this
    exact this
theorem delP_len {L : KVs} {key : Key} : (delP L key).length ≤ L.length := by
  unfold delP
  cases h : atP L key with
  | none => exact Nat.le_refl _
  | some i => have := (atP_some h).1; simp; omega
theorem delP_okay {L : KVs} {key : Key} (hd : Dist L) (h : Okay L) : Okay (delP L key) := fun x hx => h x ((delP_mem hd x).1 hx).1
theorem getP_iff {L : KVs} {key v : Key} (hd : Dist L) : getP L key = some v ↔ (key, v) ∈ L := by
  unfold getP
  cases h : atP L key with
  | none => exact ⟨fun e => (by cases e), fun hx => absurd rfl (atP_none h _ hx)⟩
  | some i =>
    obtain ⟨hi, hk⟩ := atP_some h
    simp only [Option.map_some, Option.some.injEq]
    constructor
    · intro e
      have : atL L i = (key, v) := by rw [← hk, ← e]
      rw [← this]; exact atL_mem hi
    · intro hx
      obtain ⟨j, hj, e⟩ := mem_at.1 hx
      by_cases c : j = i
      · subst c; rw [e]
      · exact absurd (by rw [e, hk]) (hd j i hj hi c)
/-- A table with the pairs of a list. -/
theorem list_good {seed : Int} {n C : Nat} {T : Cells} {L : KVs} (hg : Good seed n C T) (hin : ∀ x, InT C T x ↔ x ∈ L) (hd : Dist L) (hl : L.length ≤ 100000) :
    n = L.length ∧ C = cellsN L.length ∧ ∀ ord, Ordr (fun i j => bfS seed (atL L i).1 (atL L j).1) L.length ord → ∀ c, c < C → T c = refT seed (cellsN L.length) L.length ord (atL L) c := by
  have hin' : ∀ x, InT C T x ↔ ∃ i, i < L.length ∧ x = atL L i := fun x => by
    rw [hin, mem_at]
    exact ⟨fun ⟨i, hi, e⟩ => ⟨i, hi, e.symm⟩, fun ⟨i, hi, e⟩ => ⟨i, hi, e.symm⟩⟩
  have key : ∀ ord, Ordr (fun i j => bfS seed (atL L i).1 (atL L j).1) L.length ord → n = L.length ∧ C = cellsN L.length ∧ ∀ c, c < C → T c = refT seed (cellsN L.length) L.length ord (atL L) c := fun ord ho => by
    obtain ⟨g, gi⟩ := refT_good hl hd ho
    exact good_unique hg g fun x => by rw [hin', gi]
  obtain ⟨ord, ho⟩ := ordr_exists (bf_swo (koS seed) hd)
  obtain ⟨a, b, _⟩ := key ord ho
  exact ⟨a, b, fun ord ho => (key ord ho).2.2⟩
theorem list_get {R : Nat → Prop} {w : World} {t : Value} {seed : Int} {n C : Nat} {T : Cells} {L : KVs} (h : Tab R w t seed n C T) (hin : ∀ x, InT C T x ↔ x ∈ L) (hd : Dist L) (key : Key) : valAt (T (seekAt (bfS seed) (homS seed C) C T key)) key = getP L key := by
  have h1 : ∀ v, valAt (T (seekAt (bfS seed) (homS seed C) C T key)) key = some v ↔ getP L key = some v := fun v => by rw [seek_iff h, hin, getP_iff hd]
  cases e : valAt (T (seekAt (bfS seed) (homS seed C) C T key)) key with
  | some v => exact ((h1 v).1 e).symm
  | none =>
    cases e2 : getP L key with
    | none => rfl
    | some v => rw [(h1 v).2 e2] at e; cases e
end Go.Proofs.Ytabjpejgnfeegaa

/- Lists of structs in memory: their fields are bytes and numbers. -/
namespace Go.Proofs.Ytabjpejgnfeegaa
open Go.ChangeShapes Go.WideShapes Go.ChangeAt Go.RowKit Go.Deep

theorem Items.keepN {w w' : World} {ao : Option Addr} {n k : Nat} {v : Nat → Nat → Value} (h : Items w ao n k v) (ht : Touch Nil w w') : Items w' ao n k v := h.keep (fun _ b _ _ l => ht.same b l (fun c => c)) ht.size
/-- What a field holds. -/
inductive Fv where
  | b (l : Key) : Fv
  | u (n : Nat) : Fv
  | i (n : Int) : Fv
  | f (c : Bool) : Fv
  | o (lo : Nat) (l : Key) : Fv
  | z (Z : Nat → Prop) (l : Key) : Fv
/-- The bytes of a field that holds some. -/
def Fv.key : Fv → Option Key
  | .b l => some l
  | .o _ l => some l
  | .z _ l => some l
  | .u _ => none
  | .i _ => none
  | .f _ => none
/-- A block of bytes that may be written. -/
def Fr (w : World) (b : Nat) : Prop := ∃ cs, w.heap[b]? = some (.cells cs 5 (0, 0))
theorem Fr.keep {S : Nat → Prop} {w w' : World} {b : Nat} (h : Fr w b) (ht : Touch S w w') (hS : ¬ S b) : Fr w' b := by
  obtain ⟨cs, e⟩ := h
  exact ⟨cs, (ht.same b (Array.getElem?_eq_some_iff.1 e).1 hS).trans e⟩
theorem OwnB.fr {base : Nat} {w : World} {v : Value} {l : Key} (h : OwnB base w v l) {k : Nat} (hk : OwnOf v k) : Fr w k := by
  obtain ⟨hlen, ⟨rfl, hn⟩ | ⟨g, cap, cur, rfl, hb', hg, _⟩⟩ := h
  · cases hk
  · obtain rfl : k = g := by simpa [OwnOf, Value.ownBlock] using hk
    exact ⟨cur, hg⟩
def FV (w : World) (x : Value) : Fv → Prop
  | .b l => BV w x l
  | .u n => x = .int .u64 (n : Int)
  | .i n => x = .int .i64 n
  | .f c => x = .bool c
  | .o lo l => BV w x l ∧ (l ≠ [] → ∀ b, OwnOf x b → lo ≤ b ∧ Fr w b)
  | .z Z l => OwnB 0 w x l ∧ ∀ b, OwnOf x b → Z b
theorem FV.bv {w : World} {x : Value} {f : Fv} (h : FV w x f) {l : Key} (e : f.key = some l) : BV w x l := by
  cases f with
  | b m => cases e; exact h
  | o lo m => cases e; exact h.1
  | z Z m => cases e; exact OwnB.bv h.1
  | u n => cases e
  | i n => cases e
  | f c => cases e
theorem FV.keepN {w w' : World} {x : Value} {f : Fv} (h : FV w x f) (ht : Touch Nil w w') : FV w' x f := by
  cases f with
  | b l => exact BV.keepN h ht
  | u n => exact h
  | i n => exact h
  | f c => exact h
  | o lo l => exact ⟨BV.keepN h.1 ht, fun hl b ho => ⟨(h.2 hl b ho).1, (h.2 hl b ho).2.keep ht fun c => c⟩⟩
  | z Z l => exact ⟨OwnB.keep h.1 ht fun _ _ c => c, h.2⟩
theorem FV.one {w : World} {x : Value} {f : Fv} (h : FV w x f) : x.oneCell' = true := by
  cases f with
  | b l => obtain ⟨_, _, rfl, _⟩ := h; rfl
  | u n => rw [show x = _ from h]; rfl
  | i n => rw [show x = _ from h]; rfl
  | f c => rw [show x = _ from h]; rfl
  | o lo l => obtain ⟨⟨_, _, rfl, _⟩, _⟩ := h; rfl
  | z Z l => exact OwnB.one h.1
/-- The same; apart from rows that lie from base on. -/
def KF (base : Nat) (w : World) (x : Value) (f : Fv) : Prop := FV w x f ∧ ∀ l, f.key = some l → l ≠ [] → ∀ b, OwnOf x b → b < base ∨ ∃ cs z, w.heap[b]? = some (.cells cs 5 z)
theorem BV.keepE {S : Nat → Prop} {w w' : World} {x : Value} {l : Key} (h : BV w x l) (ht : Touch S w w') (hS : l ≠ [] → ∀ b, OwnOf x b → ¬ S b) : BV w' x l := by
  obtain ⟨ao, cap, rfl, h1, h2⟩ := h
  refine ⟨ao, cap, rfl, h1, h2.keep ht fun a e hp => ?_⟩
  subst e
  exact hS (fun e => by rw [e] at hp; simp at hp) a.block rfl
theorem BV.low {w : World} {x : Value} {l : Key} (h : BV w x l) (hl : l ≠ []) : ∀ b, OwnOf x b → b < w.heap.size := by
  obtain ⟨ao, cap, rfl, h1, h2⟩ := h
  intro b hb
  obtain ⟨b', off, e, hc⟩ := h2 0 (by have := List.length_pos_iff.2 hl; simpa using this)
  subst e
  obtain rfl : b = b' := by simpa [OwnOf, Value.ownBlock] using hb
  exact World.block_lt_of_cell? w _ hc
theorem KF.of {base : Nat} {w : World} {x : Value} {f : Fv} (h : FV w x f) (hb : w.heap.size ≤ base) : KF base w x f :=
  ⟨h, fun l e hl b ho => .inl (Nat.lt_of_lt_of_le (BV.low (h.bv e) hl b ho) hb)⟩
theorem KF.ofOwn {base base' : Nat} {w : World} {x : Value} {l : Key} (h : OwnB base' w x l) : KF base w x (.b l) := ⟨h.bv, fun _ _ _ _ ho => .inr (h.elem ho)⟩
theorem KF.ofOwnG {lo base base' : Nat} {w : World} {x : Value} {l : Key} (h : OwnB base' w x l) (hlo : lo ≤ base') : KF base w x (.o lo l) := ⟨⟨h.bv, fun _ b ho => ⟨Nat.le_trans hlo (h.block b ho).1, h.fr ho⟩⟩, fun _ _ _ _ ho => .inr (h.elem ho)⟩
theorem KF.keepN {base : Nat} {w w' : World} {x : Value} {f : Fv} (h : KF base w x f) (ht : Touch Nil w w') : KF base w' x f :=
  ⟨h.1.keepN ht, fun l e hl b ho => (h.2 l e hl b ho).imp (fun h => h) fun ⟨cs, z, hh⟩ => ⟨cs, z, (ht.same b (Array.getElem?_eq_some_iff.1 hh).1 fun c => c).trans hh⟩⟩
theorem KF.base {base base' : Nat} {w : World} {x : Value} {f : Fv} (h : KF base w x f) (hb : base ≤ base') : KF base' w x f := ⟨h.1, fun l e hl b ho => (h.2 l e hl b ho).imp (fun h => by omega) fun h => h⟩
/-- A row grows beside it. -/
theorem KF.row {base T k n : Nat} {w w' : World} {x s : Value} {f : Fv} {xs : List Value} (h : KF base w x f) (hs : w.ownsRow base T k s n xs) (hT : T ≠ 5) (ht : Touch (OwnOf s) w w') : KF base w' x f := by
  have key : ∀ b, OwnOf s b → base ≤ b ∧ ∃ cur, w.heap[b]? = some (.cells cur T (0, 0)) := fun b hb => by
    obtain ⟨_, ⟨rfl, _⟩ | ⟨g, cap, cur, rfl, hb', hg, _⟩⟩ := hs
    · cases hb
    · obtain rfl : b = g := by simpa [OwnOf, Value.ownBlock] using hb
      exact ⟨hb', cur, hg⟩
  have far : ∀ l, f.key = some l → l ≠ [] → ∀ b, OwnOf x b → ¬ OwnOf s b := fun l e hl b ho hs => by
    obtain ⟨h1, cur, h2⟩ := key b hs
    rcases h.2 l e hl b ho with c | ⟨cs, z, c⟩
    · omega
    · rw [h2] at c
      injection c with c
      injection c with _ c
      exact hT c
  refine ⟨?_, fun l e hl b ho => ?_⟩
  · cases f with
    | b l => exact BV.keepE h.1 ht (far l rfl)
    | u n => exact h.1
    | i n => exact h.1
    | f c => exact h.1
    | o lo l => exact ⟨BV.keepE h.1.1 ht (far l rfl), fun hl b ho => ⟨(h.1.2 hl b ho).1, (h.1.2 hl b ho).2.keep ht (far l rfl hl b ho)⟩⟩
    | z Z l => exact ⟨OwnB.keep h.1.1 ht fun k hk hks => by
        obtain ⟨_, cur, h2⟩ := key k hks
        obtain ⟨cs, z, c⟩ := OwnB.elem h.1.1 hk
        rw [h2] at c
        injection c with c
        injection c with _ c
        exact hT c, h.1.2⟩
  · rcases h.2 l e hl b ho with c | ⟨cs, z, c⟩
    · exact .inl c
    · exact .inr ⟨cs, z, (ht.same b (Array.getElem?_eq_some_iff.1 c).1 (far l e hl b ho)).trans c⟩

section
variable {α : Type} {k T ST by' base : Nat} {fld : α → Nat → Fv} {w w' : World}
/-- A list of structs of k cells. -/
def RL (k : Nat) (fld : α → Nat → Fv) (w : World) (x : Value) (L : List α) : Prop :=
  ∃ ao cap v, x = .slice ao L.length cap ∧ L.length ≤ cap ∧ (ao = none → L.length = 0 ∧ cap = 0) ∧ Items w ao L.length k v ∧ ∀ i a, L[i]? = some a → ∀ c, c < k → FV w (v i c) (fld a c)
/-- The same in new memory, that may grow. -/
def OL (T base k : Nat) (fld : α → Nat → Fv) (w : World) (x : Value) (L : List α) : Prop :=
  ∃ V, w.ownsRow base T k x L.length (flat k V L.length) ∧ ∀ i a, L[i]? = some a → ∀ c, c < k → KF base w (V i c) (fld a c)
theorem RL.keepN {x : Value} {L : List α} (h : RL k fld w x L) (ht : Touch Nil w w') : RL k fld w' x L := by
  obtain ⟨ao, cap, v, e, h1, h2, h3, h4⟩ := h
  exact ⟨ao, cap, v, e, h1, h2, h3.keepN ht, fun i a ha c hc => (h4 i a ha c hc).keepN ht⟩
theorem OL.keepN {x : Value} {L : List α} (h : OL T base k fld w x L) (ht : Touch Nil w w') : OL T base k fld w' x L := by
  obtain ⟨V, h1, h2⟩ := h
  exact ⟨V, own_keepN h1 ht, fun i a ha c hc => (h2 i a ha c hc).keepN ht⟩
theorem RL.nil : RL k fld w (.slice none 0 0) ([] : List α) := ⟨none, 0, fun _ _ => .slice none 0 0, rfl, Nat.le_refl _, fun _ => ⟨rfl, rfl⟩, fun h => absurd h (by simp), fun i a h => by simp at h⟩
theorem OL.nil : OL T base k fld w (.slice none 0 0) ([] : List α) := ⟨fun _ _ => .slice none 0 0, ⟨by simp [flat], .inl ⟨rfl, rfl⟩⟩, fun i a h => by simp at h⟩
theorem OL.rl {x : Value} {L : List α} (h : OL T base k fld w x L) : RL k fld w x L := by
  obtain ⟨V, h1, h2⟩ := h
  have h1' := h1
  obtain ⟨hl, ⟨rfl, hn⟩ | ⟨g, cap, cur, rfl, hb, hg, hc, hm, hs, ht⟩⟩ := h1
  · refine ⟨none, 0, V, by rw [hn], by rw [hn]; exact Nat.le_refl _, fun _ => ⟨hn, rfl⟩, fun h => by omega, fun i a ha c hc => (h2 i a ha c hc).1⟩
  · refine ⟨_, cap, V, rfl, hc, (fun e => by cases e), fun h0 => ?_, fun i a ha c hc => (h2 i a ha c hc).1⟩
    obtain ⟨ao', cap', e, hcell⟩ := own_row h1'
    cases e
    obtain ⟨g', e, _, hg', hcell⟩ := hcell h0
    cases e
    refine ⟨g, 0, rfl, hg', fun i hi c hc => ?_⟩
    have hlt : i * k + c < L.length * k := by
      have : (i + 1) * k ≤ L.length * k := Nat.mul_le_mul_right k hi
      rw [Nat.succ_mul] at this; omega
    rw [show 0 + i * k + c = i * k + c by omega, hcell _ hlt]
    exact flat_get k V _ i c hi hc
theorem OL.base' {x : Value} {L : List α} (h : OL T base k fld w x L) : ∀ b, OwnOf x b → base ≤ b := by obtain ⟨V, h1, _⟩ := h; exact own_base h1
theorem OL.form {x : Value} {L : List α} (h : OL T base k fld w x L) : ∃ ao cap, x = .slice ao L.length cap := by obtain ⟨ao, cap, v, e, _⟩ := h.rl; exact ⟨ao, cap, e⟩
theorem RL.form {x : Value} {L : List α} (h : RL k fld w x L) : ∃ ao cap, x = .slice ao L.length cap := by obtain ⟨ao, cap, v, e, _⟩ := h; exact ⟨ao, cap, e⟩
theorem OL.form3 {x : Value} {L : List α} (h : OL T base k fld w x L) : ∃ ao n cap, x = .slice ao n cap := by obtain ⟨ao, cap, e⟩ := h.form; exact ⟨ao, _, cap, e⟩
theorem RL.form3 {x : Value} {L : List α} (h : RL k fld w x L) : ∃ ao n cap, x = .slice ao n cap := by obtain ⟨ao, cap, e⟩ := h.form; exact ⟨ao, _, cap, e⟩
/-- An element: where its cells lie, and what they hold. -/
theorem RL.cell {x : Value} {L : List α} (h : RL k fld w x L) {i : Nat} {a : α} (ha : L[i]? = some a) : ∃ b off cap, x = .slice (some ⟨b, off, none⟩) L.length cap ∧ b < w.heap.size ∧ ∃ f : Nat → Value, (∀ c, c < k → w.cell? ⟨b, off + i * k + c, none⟩ = some (f c)) ∧ ∀ c, c < k → FV w (f c) (fld a c) := by
  obtain ⟨ao, cap, v, rfl, h1, h2, h3, h4⟩ := h
  have hi : i < L.length := (List.getElem?_eq_some_iff.1 ha).1
  obtain ⟨b, off, rfl, hb, hc⟩ := h3 (by omega)
  exact ⟨b, off, cap, rfl, hb, v i, fun c hcc => hc i hi c hcc, fun c hcc => h4 i a ha c hcc⟩

theorem flat_app (k : Nat) (f g : Nat → Nat → Value) (n : Nat) : ∀ m, flat k f n ++ flat k g m = flat k (fun i => if i < n then f i else g (i - n)) (n + m)
  | 0 => by
    rw [Nat.add_zero]
    simp only [flat, List.append_nil]
    exact flat_congr k n fun i hi c _ => by rw [if_pos hi]
  | m + 1 => by
    rw [← Nat.add_assoc]
    simp only [flat]
    rw [← List.append_assoc, flat_app k f g n m, if_neg (by omega), show n + m - n = m by omega]
theorem flat_mem (k : Nat) (f : Nat → Nat → Value) {p : Value → Prop} : ∀ n, (∀ i, i < n → ∀ c, c < k → p (f i c)) → ∀ u ∈ flat k f n, p u
  | 0, _, u, hu => by simp [flat] at hu
  | n + 1, h, u, hu => by
    simp only [flat, List.mem_append, List.mem_map, List.mem_range] at hu
    rcases hu with hu | ⟨c, hc, rfl⟩
    · exact flat_mem k f n (fun i hi => h i (by omega)) u hu
    · exact h n (by omega) c hc
/-- A row behind another one. -/
theorem OL.app {x : Value} {s : Value} {L M : List α} {V v : Nat → Nat → Value} (hs : w.ownsRow base T k s L.length (flat k V L.length)) (hT : T ≠ 5) (hV : ∀ i a, L[i]? = some a → ∀ c, c < k → KF base w (V i c) (fld a c)) (hv : ∀ i a, M[i]? = some a → ∀ c, c < k → KF base w (v i c) (fld a c))
    (ht : Touch (OwnOf s) w w') (ho : w'.ownsRow base T k x (L.length + M.length) (flat k V L.length ++ flat k v M.length)) : OL T base k fld w' x (L ++ M) := by
  rw [flat_app] at ho
  refine ⟨_, by rw [List.length_append]; exact ho, fun i a ha c hc => ?_⟩
  by_cases h : i < L.length
  · rw [List.getElem?_append_left h] at ha
    simp only [if_pos h]
    exact (hV i a ha c hc).row hs hT ht
  · rw [List.getElem?_append_right (by omega)] at ha
    simp only [if_neg h]
    exact (hv _ a ha c hc).row hs hT ht

/-- append of a list to a list in new memory. -/
theorem wpList_append_rl {ops : Array Oper} {rest : List Oper} {o : Oper} {a : Act} {Q : Exit → Act → World → Prop} (hgd : o.guard = none) (s x : Operand)
    (ho : o.op = .call { callee := .builtin .append, args := #[s, x], argTypes := #[ST, ST] }) (z : Value) (hst : Try.prog.underlying ST = some (.slice T)) (hinfo : (Try.prog.info? T).map (fun i => (i.zero, i.size, i.bytes)) = some (some z, k, by'))
    (hzs : z.cells.size = k) (hk : 0 < k) (hby : by' ≤ 1000) (hT : T ≠ 5) (v xv : Value) {L M : List α} (hs : a.eval s = v) (hown : OL T base k fld w v L) (hx : a.eval x = xv) (w0 : World) (hr0 : RL k fld w0 xv M) (ht0 : Touch Nil w0 w) (hb0 : w0.heap.size ≤ base) (hlen : L.length + M.length ≤ 1048576) (hbase : base ≤ w.heap.size)
    (h : ∀ v' w', Hid (OL T base k fld w' v' (L ++ M)) → Hid (Touch (OwnOf v) w w') → wpList Try.prog ops Q rest (a.put o.dst v') w') : wpList Try.prog ops Q (o :: rest) a w := by
  obtain ⟨i0, hi, hz0, hz1, hz2⟩ := info_parts hinfo
  obtain ⟨V, hrow, hV⟩ := hown
  obtain ⟨ao, cap, f, rfl, hcap, hnone, hit, hf⟩ := hr0
  have hit := hit.keepN ht0
  have hfk : ∀ i a, M[i]? = some a → ∀ c, c < k → KF base w (f i c) (fld a c) := fun i a ha c hc => (KF.of (hf i a ha c hc) hb0).keepN ht0
  cases ao with
  | none =>
    obtain ⟨h0, rfl⟩ := hnone rfl
    have : M = [] := List.eq_nil_of_length_eq_zero h0
    subst this
    refine wpList_append_own_none hgd s x ST ho base T i0 k hst hi v L.length _ hs hrow hx ?_
    exact h v w (show _ from by rw [List.append_nil]; exact ⟨V, hrow, hV⟩) (show _ from Touch.refl _ _)
  | some ad =>
    refine wpList_append_own w hgd s x ST ho base T i0 z k by' hst hi hz0 hz1 hz2 hzs hk v L.length _ hs hrow ad M.length cap (flat k f M.length) hx (flat_len k f _) ?_ ?_ (by unfold maxLen; omega) ?_ hbase ?_
    · intro j u hj
      have hj' : j < M.length * k := by
        have := (List.getElem?_eq_some_iff.1 hj).1
        rw [flat_len] at this; exact this
      have hM : 0 < M.length := by
        rcases Nat.eq_zero_or_pos M.length with e | e
        · rw [e] at hj'; omega
        · exact e
      obtain ⟨b, off, e, hb, hc⟩ := hit hM
      cases e
      have hq : j / k < M.length := by rw [Nat.div_lt_iff_lt_mul hk]; exact hj'
      have hr : j % k < k := Nat.mod_lt _ hk
      have hjk : j / k * k + j % k = j := by rw [Nat.mul_comm]; exact Nat.div_add_mod j k
      have h1 := hc (j / k) hq (j % k) hr
      rw [show off + j / k * k + j % k = off + j by omega] at h1
      rw [add_plain, h1]
      have h2 := flat_get k f M.length (j / k) (j % k) hq hr
      rw [hjk, hj] at h2
      exact h2.symm
    · refine flat_mem k f M.length fun i hi c hc => ?_
      exact (hfk i M[i] (List.getElem?_eq_getElem hi) c hc).1.one
    · have : (L.length + M.length) * by' ≤ 1048576 * 1000 := Nat.mul_le_mul hlen hby
      omega
    · intro v' w' hown' hgrow _
      exact h v' w' (show _ from OL.app hrow hT hV hfk (touch_grown hgrow) hown') (show _ from touch_grown hgrow)

/-- append of one element. -/
theorem wpList_append_el {ops : Array Oper} {rest : List Oper} {o : Oper} {a : Act} {Q : Exit → Act → World → Prop} (hgd : o.guard = none) (s x : Operand)
    (ho : o.op = .call { callee := .builtin .append, args := #[s, x], argTypes := #[ST, ST] }) (z : Value) (hst : Try.prog.underlying ST = some (.slice T)) (hinfo : (Try.prog.info? T).map (fun i => (i.zero, i.size, i.bytes)) = some (some z, k, by'))
    (hzs : z.cells.size = k) (hk : 0 < k) (hby : by' ≤ 1000) (hT : T ≠ 5) (v : Value) {L : List α} (hs : a.eval s = v) (hown : OL T base k fld w v L) (b c : Nat) (hx : a.eval x = .slice (some ⟨b, 0, none⟩) 1 c) (us : List Value) (q : α) (hus : us.length = k) (hb : ∀ j u, us[j]? = some u → w.cell? ⟨b, j, none⟩ = some u ∧ KF base w u (fld q j)) (hn : L.length ≤ 1048576) (hbase : base ≤ w.heap.size)
    (h : ∀ v' w', Hid (OL T base k fld w' v' (L ++ [q])) → Hid (Touch (OwnOf v) w w') → wpList Try.prog ops Q rest (a.put o.dst v') w') : wpList Try.prog ops Q (o :: rest) a w := by
  obtain ⟨V, hrow, hV⟩ := hown
  have hfl : us = flat k (fun _ j => us.getD j undef) 1 := by
    apply List.ext_getElem?
    intro j
    by_cases hj : j < k
    · have := flat_get k (fun _ j => us.getD j undef) 1 0 j (by omega) hj
      rw [Nat.zero_mul, Nat.zero_add] at this
      rw [this, List.getD_eq_getElem?_getD, List.getElem?_eq_getElem (by omega)]; rfl
    · rw [List.getElem?_eq_none (by omega), List.getElem?_eq_none (by rw [flat_len]; omega)]
  refine wpList_append_one hgd s x ST T ho base k by' z hst hinfo hzs hk hby v L.length _ hs hrow b c hx us hus (fun j u hj => (hb j u hj).1) (fun u hu => ?_) hn hbase ?_
  · obtain ⟨j, hj, e⟩ := List.getElem_of_mem hu
    exact (hb j u (by rw [List.getElem?_eq_getElem hj, e])).2.1.one
  · intro v' w' ho' hto
    refine h v' w' (show _ from ?_) hto
    have ho2 := ho'.out
    rw [hfl] at ho2
    refine OL.app (M := [q]) hrow hT hV (fun i a ha j hj => ?_) hto.out ho2
    cases i with
    | succ i => simp at ha
    | zero =>
      simp only [List.getElem?_cons_zero, Option.some.injEq] at ha
      subst ha
      have e : us[j]? = some (us.getD j undef) := by rw [List.getD_eq_getElem?_getD, List.getElem?_eq_getElem (by omega)]; rfl
      exact (hb j _ e).2
/-- The same as one step of a region that draws its order. -/
theorem step_append_el {ops : Array Oper} {o : Oper} {a : Act} {K : Act → World → Prop} {Q : Exit → Act → World → Prop} {E : Prop} (hgd : o.guard = none) (s x : Operand)
    (ho : o.op = .call { callee := .builtin .append, args := #[s, x], argTypes := #[ST, ST] }) (z : Value) (hst : Try.prog.underlying ST = some (.slice T)) (hinfo : (Try.prog.info? T).map (fun i => (i.zero, i.size, i.bytes)) = some (some z, k, by'))
    (hzs : z.cells.size = k) (hk : 0 < k) (hby : by' ≤ 1000) (hT : T ≠ 5) (v : Value) {L : List α} (hs : a.eval s = v) (hown : OL T base k fld w v L) (b c : Nat) (hx : a.eval x = .slice (some ⟨b, 0, none⟩) 1 c) (us : List Value) (q : α) (hus : us.length = k) (hb : ∀ j u, us[j]? = some u → w.cell? ⟨b, j, none⟩ = some u ∧ KF base w u (fld q j)) (hn : L.length ≤ 1048576) (hbase : base ≤ w.heap.size)
    (h : ∀ v' w', Hid (OL T base k fld w' v' (L ++ [q])) → Hid (Touch (OwnOf v) w w') → K (a.put o.dst v') w') : if Region.wanted o (yielded ops a.tmps) = true then Oper.wp Try.prog o a w K Q else E := by
  obtain ⟨V, hrow, hV⟩ := hown
  have hfl : us = flat k (fun _ j => us.getD j undef) 1 := by
    apply List.ext_getElem?
    intro j
    by_cases hj : j < k
    · have := flat_get k (fun _ j => us.getD j undef) 1 0 j (by omega) hj
      rw [Nat.zero_mul, Nat.zero_add] at this
      rw [this, List.getD_eq_getElem?_getD, List.getElem?_eq_getElem (by omega)]; rfl
    · rw [List.getElem?_eq_none (by omega), List.getElem?_eq_none (by rw [flat_len]; omega)]
  refine step_append_one hgd s x ST T ho base k by' z hst hinfo hzs hk hby v L.length _ hs hrow b c hx us hus (fun j u hj => (hb j u hj).1) (fun u hu => ?_) hn hbase ?_
  · obtain ⟨j, hj, e⟩ := List.getElem_of_mem hu
    exact (hb j u (by rw [List.getElem?_eq_getElem hj, e])).2.1.one
  · intro v' w' ho' hto
    refine h v' w' (show _ from ?_) hto
    have ho2 := ho'.out
    rw [hfl] at ho2
    refine OL.app (M := [q]) hrow hT hV (fun i a ha j hj => ?_) hto.out ho2
    cases i with
    | succ i => simp at ha
    | zero =>
      simp only [List.getElem?_cons_zero, Option.some.injEq] at ha
      subst ha
      have e : us[j]? = some (us.getD j undef) := by rw [List.getD_eq_getElem?_getD, List.getElem?_eq_getElem (by omega)]; rfl
      exact (hb j _ e).2

/-- A part of a list. -/
theorem RL.sub {ao : Option Addr} {n cap : Nat} {L : List α} (h : RL k fld w (.slice ao n cap) L) {lo hi mx : Nat} (h1 : lo ≤ hi) (h2 : hi ≤ n) (h3 : hi ≤ mx) (h4 : mx ≤ cap) :
    RL k fld w (.slice (if mx = lo then ao else ao.map (·.add (lo * k))) (hi - lo) (mx - lo)) ((L.take hi).drop lo) := by
  obtain ⟨ao', cap', v, e, h0, hn, hit, hf⟩ := h
  cases e
  have hlen : ((L.take hi).drop lo).length = hi - lo := by simp; omega
  refine ⟨_, _, fun i => v (lo + i), by rw [hlen], by rw [hlen]; omega, fun e => ?_, fun hp => ?_, fun i a ha c hc => ?_⟩
  · have : ao = none := by
      split at e
      · exact e
      · cases ao with
        | none => rfl
        | some a => cases e
    have := hn this
    rw [hlen]; omega
  · rw [hlen] at hp
    obtain ⟨b, off, ea, hb, hc⟩ := hit (by omega)
    subst ea
    rw [if_neg (by omega)]
    refine ⟨b, off + lo * k, by rw [Option.map_some, add_plain], hb, fun i hi' c hcc => ?_⟩
    rw [hlen] at hi'
    have := hc (lo + i) (by omega) c hcc
    rw [Nat.add_mul] at this
    rw [show off + lo * k + i * k + c = off + (lo * k + i * k) + c by omega]
    exact this
  · rw [List.getElem?_drop, List.getElem?_take] at ha
    split at ha
    · exact hf (lo + i) a ha c hc
    · cases ha
theorem size_of {P : Program} {T k : Nat} (h : (P.info? T).map (fun i => i.size) = some k) (w : World) : (sizeOf T).run P w = .ok k w := by
  cases e : P.info? T with
  | none => rw [e] at h; cases h
  | some j =>
    rw [e] at h
    simp only [Option.map_some, Option.some.injEq] at h
    simp [sizeOf, typeInfo, e, h, go_sem]
/-- s[:n]. -/
theorem RL.cut_h {ao : Option Addr} {n cap : Nat} {L : List α} (h : RL k fld w (.slice ao n cap) L) (hst : Try.prog.underlying ST = some (.slice (Try.prog.elem ST))) (hsz : (Try.prog.info? (Try.prog.elem ST)).map (fun i => i.size) = some k) {m : Nat} (hm : m ≤ n) :
    ∃ ao' cap', (∀ W, (Instr.slice ST (.slice ao n cap) none (some (.int .i64 (m : Int))) none).run Try.prog W = .ok (.slice ao' m cap') W) ∧ RL k fld w (.slice ao' m cap') (L.take m) := by
  have hc : n ≤ cap := by obtain ⟨_, _, _, e, h1, _⟩ := h; cases e; exact h1
  refine ⟨_, _, fun W => ?_, by have := h.sub (lo := 0) (hi := m) (mx := cap) (by omega) hm (by omega) (Nat.le_refl _); rw [List.drop_zero, Nat.sub_zero] at this; exact this⟩
  rw [run_slice_h _ _ _ _ _ hst _ _ (by omega) (by omega), size_of hsz]
  simp only [Result.andThen, sliced, Int.toNat_natCast, Nat.sub_zero]
/-- s[n:]. -/
theorem RL.cut_l {ao : Option Addr} {n cap : Nat} {L : List α} (h : RL k fld w (.slice ao n cap) L) (hst : Try.prog.underlying ST = some (.slice (Try.prog.elem ST))) (hsz : (Try.prog.info? (Try.prog.elem ST)).map (fun i => i.size) = some k) {m : Nat} (hm : m ≤ n) :
    ∃ ao' cap', (∀ W, (Instr.slice ST (.slice ao n cap) (some (.int .i64 (m : Int))) none none).run Try.prog W = .ok (.slice ao' (n - m) cap') W) ∧ RL k fld w (.slice ao' (n - m) cap') (L.drop m) := by
  have hc : n ≤ cap := by obtain ⟨_, _, _, e, h1, _⟩ := h; cases e; exact h1
  have hl : n = L.length := by obtain ⟨_, _, _, e, _⟩ := h; cases e; rfl
  refine ⟨_, _, fun W => ?_, by have := h.sub (lo := m) (hi := n) (mx := cap) hm (Nat.le_refl _) hc (Nat.le_refl _); rw [hl, List.take_length] at this; rw [hl]; exact this⟩
  rw [run_slice_l _ _ _ _ _ hst _ _ (by omega) (by omega), size_of hsz]
  simp only [Result.andThen, sliced, Int.toNat_natCast]
/-- s[i:j]. -/
theorem RL.cut_lh {ao : Option Addr} {n cap : Nat} {L : List α} (h : RL k fld w (.slice ao n cap) L) (hst : Try.prog.underlying ST = some (.slice (Try.prog.elem ST))) (hsz : (Try.prog.info? (Try.prog.elem ST)).map (fun i => i.size) = some k) {i j : Nat} (hi : i ≤ j) (hj : j ≤ n) :
    ∃ ao' cap', (∀ W, (Instr.slice ST (.slice ao n cap) (some (.int .i64 (i : Int))) (some (.int .i64 (j : Int))) none).run Try.prog W = .ok (.slice ao' (j - i) cap') W) ∧ RL k fld w (.slice ao' (j - i) cap') ((L.take j).drop i) := by
  have hc : n ≤ cap := by obtain ⟨_, _, _, e, h1, _⟩ := h; cases e; exact h1
  refine ⟨_, _, fun W => ?_, h.sub (lo := i) (hi := j) (mx := cap) hi hj (by omega) (Nat.le_refl _)⟩
  rw [run_slice_lh _ _ _ _ _ hst _ _ _ _ (by omega) (by omega) (by omega), size_of hsz]
  simp only [Result.andThen, sliced, Int.toNat_natCast]
end

/-- A pair whose bytes lie in blocks of Z. -/
def zF (Z : Nat → Prop) (p : Key × Key) : Nat → Fv
  | 0 => .z Z p.1
  | _ => .z Z p.2
abbrev PZ (Z : Nat → Prop) (w : World) (x : Value) (L : KVs) : Prop := RL 2 (zF Z) w x L
abbrev OZ (Z : Nat → Prop) (base : Nat) (w : World) (x : Value) (L : KVs) : Prop := OL 72 base 2 (zF Z) w x L
theorem elemPair : Try.prog.elem 46 = 72 := by kernel_rfl
theorem slPair : Try.prog.underlying 46 = some (.slice (Try.prog.elem 46)) := by rw [elemPair]; exact Try.underlying46
theorem szPair : (Try.prog.info? (Try.prog.elem 46)).map (fun i => i.size) = some 2 := by kernel_rfl
theorem KF.z {Z : Nat → Prop} {base base' : Nat} {w : World} {x : Value} {l : Key} (h : OwnB base' w x l) (hZ : ∀ b, OwnOf x b → Z b) : KF base w x (.z Z l) := ⟨⟨h.base (Nat.zero_le _), hZ⟩, fun _ _ _ _ ho => .inr (h.elem ho)⟩
theorem FV.kz {Z : Nat → Prop} {base : Nat} {w : World} {x : Value} {l : Key} (h : FV w x (.z Z l)) : KF base w x (.z Z l) := ⟨h, fun _ _ _ _ ho => .inr (OwnB.elem h.1 ho)⟩
theorem FV.zmono {Z Z' : Nat → Prop} {w : World} {x : Value} {l : Key} (h : FV w x (.z Z l)) (hZ : ∀ b, Z b → Z' b) : FV w x (.z Z' l) := ⟨h.1, fun b hb => hZ b (h.2 b hb)⟩
theorem zF_mono {Z Z' : Nat → Prop} {w : World} {x : Value} {p : Key × Key} {c : Nat} (h : FV w x (zF Z p c)) (hZ : ∀ b, Z b → Z' b) : FV w x (zF Z' p c) := by
  cases c with
  | zero => exact FV.zmono h hZ
  | succ c => exact FV.zmono h hZ
theorem zF_kz {Z : Nat → Prop} {base : Nat} {w : World} {x : Value} {p : Key × Key} {c : Nat} (h : FV w x (zF Z p c)) : KF base w x (zF Z p c) := by
  cases c with
  | zero => exact FV.kz h
  | succ c => exact FV.kz h
theorem zF_keep {Z S : Nat → Prop} {w w' : World} {x : Value} {p : Key × Key} {c : Nat} (h : FV w x (zF Z p c)) (ht : Touch S w w') (hS : ∀ b, Z b → ¬ S b) : FV w' x (zF Z p c) := by
  cases c with
  | zero => exact ⟨OwnB.keep h.1 ht fun k hk hs => hS k (h.2 k hk) hs, h.2⟩
  | succ c => exact ⟨OwnB.keep h.1 ht fun k hk hs => hS k (h.2 k hk) hs, h.2⟩
theorem PZ.mono {Z Z' : Nat → Prop} {w : World} {x : Value} {L : KVs} (h : PZ Z w x L) (hZ : ∀ b, Z b → Z' b) : PZ Z' w x L := by
  obtain ⟨ao, cap, v, e, h1, h2, h3, h4⟩ := h
  exact ⟨ao, cap, v, e, h1, h2, h3, fun i a ha c hc => zF_mono (h4 i a ha c hc) hZ⟩
/-- The reference's list: it lies in blocks of Z. -/
structure LZ (Z : Nat → Prop) (w : World) (x : Value) (L : KVs) : Prop where
  pz : PZ Z w x L
  row : ∀ b, OwnOf x b → Z b
  low : ∀ b, Z b → b < w.heap.size
theorem LZ.keep {Z S : Nat → Prop} {w w' : World} {x : Value} {L : KVs} (h : LZ Z w x L) (ht : Touch S w w') (hS : ∀ b, Z b → ¬ S b) : LZ Z w' x L := by
  obtain ⟨⟨ao, cap, v, rfl, h1, h2, h3, h4⟩, h5, h6⟩ := h
  refine ⟨⟨ao, cap, v, rfl, h1, h2, h3.keep (fun _ b o e l => ht.same b l (hS b (h5 b (by subst e; rfl)))) ht.size, fun i a ha c hc => zF_keep (h4 i a ha c hc) ht hS⟩, h5, fun b hb => Nat.lt_of_lt_of_le (h6 b hb) ht.size⟩
theorem LZ.keepN {Z : Nat → Prop} {w w' : World} {x : Value} {L : KVs} (h : LZ Z w x L) (ht : Touch Nil w w') : LZ Z w' x L := h.keep ht fun _ _ c => c
/-- A list that a call made, in what was there and in new memory. -/
def NewZ (Z : Nat → Prop) (n : Nat) : Nat → Prop := fun b => Z b ∨ n ≤ b
theorem OZ.lz {Z : Nat → Prop} {n : Nat} {w : World} {x : Value} {L : KVs} (h : OZ (NewZ Z n) n w x L) (hZ : ∀ b, Z b → b < w.heap.size) : LZ (fun b => NewZ Z n b ∧ b < w.heap.size) w x L := by
  have hb := h.base'
  have hr := OL.rl h
  obtain ⟨V, h1, h2⟩ := h
  obtain ⟨ao, cap, v, rfl, r1, r2, r3, r4⟩ := hr
  refine ⟨⟨ao, cap, v, rfl, r1, r2, r3, fun i a ha c hc => ?_⟩, fun b ho => ⟨.inr (hb b ho), ?_⟩, fun b h => h.2⟩
  · have := r4 i a ha c hc
    cases c with
    | zero => exact ⟨this.1, fun b ho => ⟨this.2 b ho, (this.1.block b ho).2⟩⟩
    | succ c => exact ⟨this.1, fun b ho => ⟨this.2 b ho, (this.1.block b ho).2⟩⟩
  · obtain ⟨_, ⟨e, _⟩ | ⟨g, cap', cur, e, _, hg, _⟩⟩ := h1
    · rw [e] at ho; cases ho
    · rw [e] at ho
      obtain rfl : b = g := by simpa [OwnOf, Value.ownBlock] using ho
      exact (Array.getElem?_eq_some_iff.1 hg).1
theorem OL.at_some {α : Type} {T base k : Nat} {fld : α → Nat → Fv} {w : World} {x : Value} {L : List α} (h : OL T base k fld w x L) (h0 : 0 < L.length) : ∃ g cap, x = .slice (some ⟨g, 0, none⟩) L.length cap := by
  obtain ⟨V, h1, _⟩ := h
  obtain ⟨_, ⟨_, e⟩ | ⟨g, cap, cur, e, _⟩⟩ := h1
  · omega
  · exact ⟨g, cap, e⟩
theorem OZ.cells {Z : Nat → Prop} {base g cap : Nat} {w : World} {L : KVs} (h : OZ Z base w (.slice (some ⟨g, 0, none⟩) L.length cap) L) {i : Nat} (hi : i < L.length) : ∃ u0 u1, w.cell? ⟨g, i * 2, none⟩ = some u0 ∧ w.cell? ⟨g, i * 2 + 1, none⟩ = some u1 ∧ ∀ o, w.frozen? ⟨g, o, none⟩ = false := by
  obtain ⟨V, h1, _⟩ := h
  have hf : ∀ o, w.frozen? ⟨g, o, none⟩ = false := fun o => h1.frozenAt o
  obtain ⟨ao, cap', e, hc⟩ := own_row h1
  cases e
  obtain ⟨g', e, _, _, hcell⟩ := hc (by omega)
  cases e
  refine ⟨V i 0, V i 1, ?_, ?_, hf⟩
  · rw [hcell _ (by omega)]
    have := flat_get 2 V L.length i 0 hi (by omega)
    rw [Nat.add_zero] at this; exact this
  · rw [hcell _ (by omega)]
    exact flat_get 2 V L.length i 1 hi (by omega)
/-- As the other texts see it. -/
theorem PZ.toRl {Z : Nat → Prop} {w : World} {x : Value} {L : KVs} (h : PZ Z w x L) : ∃ ao cap v, x = .slice ao L.length cap ∧ Rl w ao L.length v (atL L) := by
  obtain ⟨ao, cap, v, rfl, h1, h2, h3, h4⟩ := h
  refine ⟨ao, cap, fun i c => if i < L.length ∧ c < 2 then v i c else .bool false, rfl, fun h0 => ?_, fun i hi => ?_, fun i hi => ?_, fun i c => ?_⟩
  · obtain ⟨b, off, e, hb, hc⟩ := h3 h0
    exact ⟨b, off, e, hb, fun i hi c hcc => by rw [if_pos ⟨hi, hcc⟩]; exact hc i hi c hcc⟩
  · rw [if_pos ⟨hi, by omega⟩]
    exact OwnB.bv (h4 i _ (atL_get hi) 0 (by omega)).1
  · rw [if_pos ⟨hi, by omega⟩]
    exact OwnB.bv (h4 i _ (atL_get hi) 1 (by omega)).1
  · split
    · rename_i hic
      exact (h4 i _ (atL_get hic.1) c hic.2).one
    · rfl
/-- A pair is written over. -/
theorem OZ.set {Z : Nat → Prop} {base g cap : Nat} {w : World} {L : KVs} (h : OZ Z base w (.slice (some ⟨g, 0, none⟩) L.length cap) L) {i : Nat} (hi : i < L.length) (q : Key × Key) (u0 u1 : Value) (hu0 : KF base w u0 (.z Z q.1)) (hu1 : KF base w u1 (.z Z q.2)) :
    OZ Z base ((w.setCell ⟨g, i * 2, none⟩ u0).setCell ⟨g, i * 2 + 1, none⟩ u1) (.slice (some ⟨g, 0, none⟩) L.length cap) (L.set i q) := by
  obtain ⟨V, h1, h2⟩ := h
  have s0 := (h1.stored (i * 2) u0).1
  have s1 := (s0.stored (i * 2 + 1) u1).1
  have hs : ∀ o, (⟨g, o, none⟩ : Addr).block < w.heap.size → OwnOf (.slice (some ⟨g, 0, none⟩) L.length cap) (⟨g, o, none⟩ : Addr).block := fun o _ => rfl
  have ht := ((Touch.refl (OwnOf (.slice (some ⟨g, 0, none⟩) L.length cap)) w).setCell _ u0 (hs (i * 2))).setCell _ u1 (hs (i * 2 + 1))
  have hfl : ((flat 2 V L.length).set (i * 2) u0).set (i * 2 + 1) u1 = flat 2 (fun j c => if j = i then (if c = 0 then u0 else u1) else V j c) L.length := by
    apply List.ext_getElem?
    intro p
    by_cases hp : p < L.length * 2
    · have e : p = (p / 2) * 2 + p % 2 := by omega
      have hj : p / 2 < L.length := by omega
      have hc : p % 2 < 2 := by omega
      generalize p / 2 = j at *
      generalize p % 2 = c at *
      subst e
      rw [flat_get 2 _ L.length j c hj hc]
      simp only [List.getElem?_set, List.length_set, flat_len]
      by_cases hji : j = i
      · subst hji
        rw [if_pos rfl]
        rcases Nat.lt_succ_iff_lt_or_eq.1 hc with h | h
        · obtain rfl : c = 0 := by omega
          rw [if_neg (by omega), if_pos (by omega), if_pos (by omega), if_pos rfl]
        · subst h
          rw [if_pos (by omega), if_pos (by omega), if_neg (by omega)]
      · rw [if_neg hji, if_neg (by omega), if_neg (by omega)]
        exact flat_get 2 V L.length j c hj hc
    · rw [List.getElem?_eq_none (by simp [flat_len]; omega), List.getElem?_eq_none (by rw [flat_len]; omega)]
  rw [hfl] at s1
  refine ⟨_, by rw [List.length_set]; exact s1, fun j a ha c hc => ?_⟩
  have hj : j < L.length := by have := (List.getElem?_eq_some_iff.1 ha).1; simpa using this
  have hT : 72 ≠ 5 := by decide
  rw [List.getElem?_set] at ha
  by_cases hji : j = i
  · subst hji
    rw [if_pos rfl, if_pos hj] at ha
    injection ha with ha
    subst ha
    simp only [if_pos]
    cases c with
    | zero => exact hu0.row h1 hT ht
    | succ c => exact hu1.row h1 hT ht
  · rw [if_neg (by omega)] at ha
    simp only [if_neg hji]
    exact (h2 j a ha c hc).row h1 hT ht
end Go.Proofs.Ytabjpejgnfeegaa

/- SlotsPlays: the reference's Get, Put, Drop. -/
namespace Go.Proofs.Ytabjpejgnfeegaa
open Go.ChangeShapes Go.WideShapes Go.ChangeAt Go.RowKit Go.Deep

set_option maxRecDepth 100000 in
set_option maxHeartbeats 1000000 in
theorem copied_any (x : Value) (l : List UInt8) (w : World) (h : BV w x l) (hl : l.length ≤ 1073741824) :
    Calls Try.prog 79 #[x] w (ClonePost l w) := by
  have HB2 := Lib.hid (h.keepN ((Touch.refl Nil w).alloc (.cells #[] 5)))
  obtain ⟨ao, cap, rfl, _, _⟩ := h
  go_enter Try.func79, Try.ntmps79
  go_wp2_with (refine wpList_append_bytes rfl (.tmp 3) (.tmp 4) rfl w.heap.size (.slice (some ⟨w.heap.size, 0, none⟩) 0 0) (.slice ao l.length cap) [] l rfl (own_new w) rfl HB2.out (by simpa using hl) (by simp) ?_)
  intro v' w' h1 h2 h3
  go_wp2_with fail
  go_ret
  exact ⟨v', rfl, h1.out, ((Touch.refl _ _).alloc _).trans' h2.out fun b hb hs => by
    have : b = w.heap.size := by simpa [OwnOf, Value.ownBlock] using hs
    omega⟩

def GetRP (L : KVs) (key : Key) (w : World) (e : Ending) (w' : World) : Prop :=
  (getP L key = none → e = .returned (.tuple #[.slice none 0 0, .int .i64 3])) ∧ (∀ v, getP L key = some v → ∃ y, e = .returned (.tuple #[y, .int .i64 0]) ∧ BV w' y v ∧ v.length ≤ 1000) ∧ Touch Nil w w'
set_option maxRecDepth 100000 in
set_option maxHeartbeats 1000000 in
theorem getR_any {Z : Nat → Prop} {w : World} {x : Value} {L : KVs} (h : PZ Z w x L) (hn : L.length ≤ 1000) (hok : Okay L) (key : Key) (kx : Value) (hk : BV w kx key) (hkl : key.length ≤ 1048576) :
    Calls Try.prog 61 #[x, kx] w (GetRP L key w) := by
  obtain ⟨ao, cap, v, rfl, hrl⟩ := h.toRl
  have HAT := Lib.hid (at_any cap hrl (by omega) (fun i hi => by have := hok _ (atL_mem hi); omega) key kx hk hkl)
  have HRL := Lib.hid hrl
  have HOK := Lib.hid hok
  obtain ⟨ka, kc, rfl, _, _⟩ := hk
  cases ha : atP L key with
  | none =>
    have HG := Lib.hid (show getP L key = none from by simp [getP, ha])
    unfold atP at ha
    rw [ha] at HAT
    rw [show cellV (none : Option Nat) = -1 from rfl] at HAT
    have dn : decide ((-1 : Int) < 0) = true := by decide
    clear ha hrl h hok
    generalize L.length = n at *
    generalize key.length = kl at *
    go_enter Try.func61, Try.ntmps61
    go_wp2_with fail
    refine HAT.out.mono ?_
    rintro e w' ⟨rfl, ht⟩
    go_wp2_with fail
    go_ret2
    exact ⟨fun _ => rfl, (fun v h => by rw [HG.out] at h; cases h), ht⟩
  | some i =>
    have HG := Lib.hid (show getP L key = some (atL L i).2 from by simp [getP, ha])
    have hi := (atP_some ha).1
    unfold atP at ha
    rw [ha] at HAT
    rw [show cellV (some i) = (i : Int) from rfl] at HAT
    have HL := Lib.hid (show (atL L i).2.length ≤ 1000 from by have := hok _ (atL_mem hi); omega)
    have dn : decide ((i : Int) < 0) = false := by simp
    have i1 : (i : Int) < ((L.length : Nat) : Int) := by omega
    have i2 : (0 : Int) ≤ (i : Int) := by omega
    clear ha hrl h hok
    generalize hn' : L.length = n at *
    generalize key.length = kl at *
    clear hn'
    go_enter Try.func61, Try.ntmps61
    go_wp2_with fail
    refine HAT.out.mono ?_
    rintro e w' ⟨rfl, ht⟩
    have hrl := HRL.out.keepN ht
    have HT := Lib.hid ht
    obtain ⟨b, off, rfl, hb, hcell⟩ := hrl.cells (by omega)
    have c1 := hcell i hi 1 (by omega)
    obtain ⟨a2, k2, e1, g1, g2⟩ := hrl.vals i hi
    have HV := Lib.hid (show BV w' (.slice a2 (atL L i).2.length k2) (atL L i).2 from ⟨a2, k2, rfl, g1, g2⟩)
    rw [e1] at c1
    clear hcell e1 g1 g2 hrl ht
    have HE : ∃ vv, (atL L i).2 = vv := ⟨_, rfl⟩
    obtain ⟨vv, evv⟩ := HE
    rw [evv] at HV HL HG c1
    have HE : ∃ vl, vv.length = vl := ⟨_, rfl⟩
    obtain ⟨vl, evl⟩ := HE
    rw [evl] at HV c1
    clear evv
    go_wp2_with fail
    go_ret2
    exact ⟨(fun h => by rw [HG.out] at h; cases h), (fun v h => by rw [HG.out] at h; cases h; exact ⟨_, rfl, HV.out, HL.out⟩), HT.out⟩

/-- What a call that changes the list hands back. -/
def ListRP (Z : Nat → Prop) (c : Int) (L' : KVs) (w : World) (e : Ending) (w' : World) : Prop :=
  ∃ ao cap Z', e = .returned (.tuple #[.slice ao L'.length cap, .int .i64 c]) ∧ LZ Z' w' (.slice ao L'.length cap) L' ∧ (∀ b, Z' b → Z b ∨ w.heap.size ≤ b) ∧ Touch Nil w w'

set_option maxRecDepth 100000 in
set_option maxHeartbeats 2000000 in
theorem dropR_any {Z : Nat → Prop} {w : World} {x : Value} {L : KVs} (h : LZ Z w x L) (hn : L.length ≤ 1000) (hok : Okay L) (key : Key) (kx : Value) (hk : BV w kx key) (hkl : key.length ≤ 1048576) :
    Calls Try.prog 60 #[x, kx] w (ListRP Z (if getP L key = none then 3 else 0) (delP L key) w) := by
  obtain ⟨ao, cap, v, rfl, hrl⟩ := h.pz.toRl
  have HAT := Lib.hid (at_any cap hrl (by omega) (fun i hi => by have := hok _ (atL_mem hi); omega) key kx hk hkl)
  have HLZ := Lib.hid h
  obtain ⟨ka, kc, rfl, _, _⟩ := hk
  cases ha : atP L key with
  | none =>
    have HG := Lib.hid (show getP L key = none ∧ delP L key = L from ⟨by simp [getP, ha], by simp [delP, ha]⟩)
    unfold atP at ha
    rw [ha] at HAT
    rw [show cellV (none : Option Nat) = -1 from rfl] at HAT
    have dn : decide ((-1 : Int) < 0) = true := by decide
    rw [HG.out.2, if_pos HG.out.1]
    unfold ListRP
    have HLN := Lib.hid (show L.length = L.length from rfl)
    clear ha hrl h hok HG
    generalize L.length = n at *
    generalize key.length = kl at *
    go_enter Try.func60, Try.ntmps60
    go_wp2_with fail
    refine HAT.out.mono ?_
    rintro e w' ⟨rfl, ht⟩
    go_wp2_with fail
    go_ret2
    exact ⟨_, _, Z, rfl, HLZ.out.keepN ht, fun b hb => .inl hb, ht⟩
  | some i =>
    have hi := (atP_some ha).1
    have HG := Lib.hid (show getP L key ≠ none ∧ delP L key = L.take i ++ L.drop (i + 1) from ⟨by simp [getP, ha], by simp [delP, ha]⟩)
    unfold atP at ha
    rw [ha] at HAT
    rw [show cellV (some i) = (i : Int) from rfl] at HAT
    have dn : decide ((i : Int) < 0) = false := by simp
    rw [HG.out.2, if_neg HG.out.1]
    have hpz := h.pz.mono (Z' := NewZ Z w.heap.size) fun b hb => .inl hb
    obtain ⟨a1, c1, hcut1, hp1⟩ := hpz.cut_h slPair szPair (m := i) (by omega)
    obtain ⟨a2, c2, hcut2, hp2⟩ := hpz.cut_l slPair szPair (m := i + 1) (by omega)
    have HP1 := Lib.hid hp1
    have HP2 := Lib.hid hp2
    have HL1 := Lib.hid (show (L.take i).length = i by simp; omega)
    have HL2 := Lib.hid (show (L.drop (i + 1)).length = L.length - (i + 1) by simp)
    have HNL := Lib.hid hn
    have HZL := Lib.hid h.low
    have hi1 : i ≤ 1000 := by omega
    unfold ListRP
    replace hcut2 : ∀ W, (Instr.slice 46 (.slice ao L.length cap) (some (.int .i64 ((i : Int) + 1))) none none).run Try.prog W = .ok (.slice a2 (L.length - (i + 1)) c2) W := hcut2
    have HE : ∃ m2, L.length - (i + 1) = m2 := ⟨_, rfl⟩
    obtain ⟨m2, em2⟩ := HE
    rw [em2] at HP2 HL2
    simp only [em2] at hcut2
    have HHI := Lib.hid (show m2 ≤ 1000 by omega)
    clear ha hrl h hok HG hp1 hp2 hpz hi em2
    generalize L.length = n at *
    generalize key.length = kl at *
    go_enter Try.func60, Try.ntmps60
    go_wp2_with fail
    refine HAT.out.mono ?_
    rintro e w1 ⟨rfl, ht⟩
    have HT := Lib.hid ht
    have HO0 := Lib.hid (show OZ (NewZ Z w.heap.size) w.heap.size (w1.alloc (.cells #[] 72)) (.slice (some ⟨w1.heap.size, 0, none⟩) 0 0) ([] : KVs) from
      ⟨fun _ _ => .slice none 0 0, own_lower (own_empty w1 72 2) ht.size, fun i a h => by simp at h⟩)
    have HTA := Lib.hid (ht.alloc (.cells #[] 72))
    have HBS := Lib.hid (HTA.out.size)
    clear ht
    go_wp2_with (refine wpList_append_rl (T := 72) (base := w.heap.size) (k := 2) (by' := 48) (fld := zF (NewZ Z w.heap.size)) rfl (.tmp 14) (.tmp 17) rfl _ Try.underlying46 infoPair rfl (by decide) (by decide) (by decide) (.slice (some ⟨w1.heap.size, 0, none⟩) 0 0) (.slice a1 i c1) (L := []) (M := L.take i) rfl HO0.out rfl w HP1.out HTA.out (Nat.le_refl _) (by rw [HL1.out]; simp; omega) HBS.out ?_)
    intro v3 w3 hO3 hT3
    obtain ⟨p3, n3, q3, rfl⟩ := hO3.out.form3
    have HO3 := Lib.hid (show OZ (NewZ Z w.heap.size) w.heap.size w3 (.slice p3 n3 q3) (L.take i) from by simpa using hO3.out)
    have HT3 := Lib.hid (show Touch Nil w w3 from HTA.out.trans' hT3.out fun b hb hs => by have := HO0.out.base' b hs; omega)
    have HBS3 := Lib.hid (HT3.out.size)
    clear hO3 hT3
    go_wp2_with (refine wpList_append_rl (T := 72) (base := w.heap.size) (k := 2) (by' := 48) (fld := zF (NewZ Z w.heap.size)) rfl (.tmp 19) (.tmp 23) rfl _ Try.underlying46 infoPair rfl (by decide) (by decide) (by decide) (.slice p3 n3 q3) (.slice a2 m2 c2) (L := L.take i) (M := L.drop (i + 1)) rfl HO3.out rfl w HP2.out HT3.out (Nat.le_refl _) (by have h1 := HL1.out; have h2 := HL2.out; have h3 := HHI.out; omega) HBS3.out ?_)
    intro v4 w4 hO4 hT4
    have HT4 := Lib.hid (show Touch Nil w w4 from HT3.out.trans' hT4.out fun b hb hs => by have := HO3.out.base' b hs; omega)
    have HO4 := hO4
    obtain ⟨p4, q4, rfl⟩ := hO4.out.form
    have HE : ∃ n4, (L.take i ++ L.drop (i + 1)).length = n4 := ⟨_, rfl⟩
    obtain ⟨n4, en4⟩ := HE
    rw [en4] at HO4
    have HEN := Lib.hid en4
    clear hO4 hT4 en4
    go_wp2_with fail
    go_ret2
    have ho := HO4.out
    rw [← HEN.out] at ho
    have hz := OZ.lz ho (fun b hb => Nat.lt_of_lt_of_le (HZL.out b hb) HT4.out.size)
    exact ⟨p4, q4, fun b => NewZ Z w.heap.size b ∧ b < w4.heap.size, by rw [HEN.out]; rfl, hz, fun b hb => hb.1, HT4.out⟩

set_option maxRecDepth 100000 in
set_option maxHeartbeats 2000000 in
theorem putR_bad {Z : Nat → Prop} {w : World} {x : Value} {L : KVs} (h : LZ Z w x L) (key val : Key) (kx vx : Value) (hk : BV w kx key) (hv : BV w vx val) (hkl : key.length ≤ 1048576) (hvl : val.length ≤ 1048576) (hal : allowB key val = false) :
    Calls Try.prog 59 #[x, kx, vx] w (ListRP Z 1 L w) := by
  obtain ⟨ao, cap, v, rfl, hrl⟩ := h.pz.toRl
  have HLZ := Lib.hid h
  obtain ⟨ka, kc, rfl, _, _⟩ := hk
  obtain ⟨va, vc, rfl, _, _⟩ := hv
  have HAL := Lib.hid (allowedR_any key.length val.length kc vc ka va w (by omega) (by omega))
  unfold allowB at hal
  rw [hal] at HAL
  unfold ListRP
  clear hal h hrl
  generalize L.length = n at *
  generalize key.length = kl at *
  generalize val.length = vl at *
  go_enter Try.func59, Try.ntmps59
  go_wp2_with fail
  refine HAL.out.mono ?_
  rintro e w1 ⟨rfl, rfl⟩
  go_wp2_with fail
  go_ret2
  exact ⟨_, _, Z, rfl, HLZ.out, fun b hb => .inl hb, Touch.refl _ _⟩

set_option maxRecDepth 100000 in
set_option maxHeartbeats 4000000 in
theorem putR_ok {Z : Nat → Prop} {w : World} {x : Value} {L : KVs} (h : LZ Z w x L) (hn : L.length ≤ 1000) (hok : Okay L) (key val : Key) (kx vx : Value) (hk : BV w kx key) (hv : BV w vx val) (hkl : key.length ≤ 1048576) (hvl : val.length ≤ 1048576) (hal : allowB key val = true) :
    Calls Try.prog 59 #[x, kx, vx] w (ListRP Z 0 (insP L key val) w) := by
  obtain ⟨ao, cap, v, rfl, hrl⟩ := h.pz.toRl
  have HLZ := Lib.hid h
  have HATF := Lib.hid (at_any cap hrl (by omega) (fun i hi => by have := hok _ (atL_mem hi); omega) key kx hk hkl)
  have HK := Lib.hid hk
  have HV := Lib.hid hv
  have HPZ := Lib.hid (h.pz.mono (Z' := NewZ Z w.heap.size) fun b hb => .inl hb)
  have HZL := Lib.hid h.low
  obtain ⟨ka, kc, rfl, _, _⟩ := hk
  obtain ⟨va, vc, rfl, _, _⟩ := hv
  have HAL := Lib.hid (allowedR_any key.length val.length kc vc ka va w (by omega) (by omega))
  have HCK := Lib.hid (fun w' (ht : Touch Nil w w') => copied_any _ key w' (HK.out.keepN ht) (by omega))
  have HCV := Lib.hid (fun w' (ht : Touch Nil w w') => copied_any _ val w' (HV.out.keepN ht) (by omega))
  unfold allowB at hal
  rw [hal] at HAL
  have HNL := Lib.hid hn
  have HNE := Lib.hid (show L.length = L.length from rfl)
  clear hal h hrl HLZ
  cases ha : atP L key with
  | none =>
    have HG := Lib.hid (show insP L key val = L ++ [(key, val)] from by simp [insP, ha])
    unfold atP at ha
    rw [ha] at HATF
    rw [show cellV (none : Option Nat) = -1 from rfl] at HATF
    have dn : decide ((-1 : Int) < 0) = true := by decide
    have d5 : decide ((100000 : Int) ≤ ((L.length : Nat) : Int)) = false := by rw [decide_eq_false_iff_not]; omega
    have d5' : decide (100000 ≤ L.length) = false := by rw [decide_eq_false_iff_not]; omega
    rw [HG.out]
    unfold ListRP
    clear ha HG
    generalize hLn : L.length = n at *
    have HLN := Lib.hid hLn
    generalize key.length = kl at *
    generalize val.length = vl at *
    clear hLn
    go_enter Try.func59, Try.ntmps59
    go_wp2_with fail
    refine HAL.out.mono ?_
    rintro e w0 ⟨rfl, rfl⟩
    go_wp2_with fail
    refine HATF.out.mono ?_
    rintro e w1 ⟨rfl, ht⟩
    have HT := Lib.hid ht
    have HO0 := Lib.hid (show OZ (NewZ Z w.heap.size) w.heap.size (w1.alloc (.cells #[] 72)) (.slice (some ⟨w1.heap.size, 0, none⟩) 0 0) ([] : KVs) from
      ⟨fun _ _ => .slice none 0 0, own_lower (own_empty w1 72 2) ht.size, fun i a h => by simp at h⟩)
    have HTA := Lib.hid (ht.alloc (.cells #[] 72))
    have HBS := Lib.hid (HTA.out.size)
    clear ht
    go_wp2_with (refine wpList_append_rl (T := 72) (base := w.heap.size) (k := 2) (by' := 48) (fld := zF (NewZ Z w.heap.size)) rfl (.tmp 26) (.tmp 27) rfl _ Try.underlying46 infoPair rfl (by decide) (by decide) (by decide) (.slice (some ⟨w1.heap.size, 0, none⟩) 0 0) (.slice ao n cap) (L := []) (M := L) rfl HO0.out rfl w HPZ.out HTA.out (Nat.le_refl _) (by have := HLN.out; have := HNL.out; simp; omega) HBS.out ?_)
    intro v3 w3 hO3 hT3
    have HT3 := Lib.hid (show Touch Nil w w3 from HTA.out.trans' hT3.out fun b hb hs => by have := HO0.out.base' b hs; omega)
    have HO3 := Lib.hid (show OZ (NewZ Z w.heap.size) w.heap.size w3 v3 L from by simpa using hO3.out)
    obtain ⟨p3, n3, q3, rfl⟩ := HO3.out.form3
    clear hO3 hT3
    go_wp2_with fail
    refine (HCK.out _ HT3.out).mono ?_
    rintro e w4 ⟨xk, rfl, hok4, ht4⟩
    obtain ⟨ya, yn, yc, rfl⟩ := hok4.form
    have HOK4 := Lib.hid hok4
    have HT4 := Lib.hid (HT3.out.trans ht4)
    have HO4 := Lib.hid (OL.keepN HO3.out ht4)
    clear hok4 ht4
    go_wp2_with fail
    refine (HCV.out _ HT4.out).mono ?_
    rintro e w5 ⟨xv, rfl, hov5, ht5⟩
    obtain ⟨za, zn, zc, rfl⟩ := hov5.form
    have HOV5 := Lib.hid hov5
    have HOK5 := Lib.hid (HOK4.out.keep ht5 (fun _ _ c => c))
    have HT5 := Lib.hid (HT4.out.trans ht5)
    have HO5 := Lib.hid (OL.keepN HO4.out ht5)
    have HTA5 := Lib.hid ((Touch.refl Nil w5).alloc (.cells #[.slice ya yn yc, .slice za zn zc] 72))
    have HO6 := Lib.hid (OL.keepN HO5.out HTA5.out)
    have HT6 := Lib.hid (HT5.out.trans HTA5.out)
    have HZK := Lib.hid (show ∀ b, OwnOf (.slice ya yn yc) b → NewZ Z w.heap.size b from fun b hb => .inr (Nat.le_trans HT3.out.size (HOK4.out.block b hb).1))
    have HZV := Lib.hid (show ∀ b, OwnOf (.slice za zn zc) b → NewZ Z w.heap.size b from fun b hb => .inr (Nat.le_trans HT4.out.size (HOV5.out.block b hb).1))
    have HUS := Lib.hid (show ∀ j v, ([.slice ya yn yc, .slice za zn zc] : List Value)[j]? = some v → (w5.alloc (.cells #[.slice ya yn yc, .slice za zn zc] 72)).cell? ⟨w5.heap.size, j, none⟩ = some v ∧ KF w.heap.size (w5.alloc (.cells #[.slice ya yn yc, .slice za zn zc] 72)) v (zF (NewZ Z w.heap.size) (key, val) j) from fun j v hj => by
      refine ⟨by rw [cell_new]; simpa using hj, ?_⟩
      match j, hj with
      | 0, hj => cases hj; exact (KF.z HOK5.out HZK.out).keepN HTA5.out
      | 1, hj => cases hj; exact (KF.z HOV5.out HZV.out).keepN HTA5.out)
    clear hov5 ht5
    go_wp2_with (refine wpList_append_el rfl (.tmp 31) (.tmp 37) rfl (.agg #[.slice none 0 0, .slice none 0 0]) Try.underlying46 infoPair rfl (by decide) (by decide) (by decide) (.slice p3 n3 q3) rfl HO6.out w5.heap.size 1 rfl [.slice ya yn yc, .slice za zn zc] (key, val) rfl HUS.out ?q1 HT6.out.size ?q2)
    case q1 => have := HLN.out; have := HNL.out; omega
    intro v7 w7 hO7 hT7
    have HT7 := Lib.hid (show Touch Nil w w7 from HT6.out.trans' hT7.out fun b hb hs => by have := HO6.out.base' b hs; omega)
    have HO7 := hO7
    obtain ⟨p7, q7, rfl⟩ := hO7.out.form
    have HE : ∃ n7, (L ++ [(key, val)]).length = n7 := ⟨_, rfl⟩
    obtain ⟨n7, en7⟩ := HE
    rw [en7] at HO7
    have HEN := Lib.hid en7
    clear hO7 hT7 en7
    go_wp2_with fail
    go_ret2
    have ho := HO7.out
    rw [← HEN.out] at ho
    have hz := OZ.lz ho (fun b hb => Nat.lt_of_lt_of_le (HZL.out b hb) HT7.out.size)
    exact ⟨p7, q7, fun b => NewZ Z w.heap.size b ∧ b < w7.heap.size, by rw [HEN.out]; rfl, hz, fun b hb => hb.1, HT7.out⟩
  | some i =>
    have hi := (atP_some ha).1
    have HG := Lib.hid (show insP L key val = L.set i (key, val) from by simp [insP, ha])
    unfold atP at ha
    rw [ha] at HATF
    rw [show cellV (some i) = (i : Int) from rfl] at HATF
    have dn : decide ((i : Int) < 0) = false := by simp
    rw [HG.out]
    unfold ListRP
    rw [List.length_set]
    have i1 : (i : Int) < ((L.length : Nat) : Int) := by omega
    have i2 : (0 : Int) ≤ (i : Int) := by omega
    have HI := Lib.hid hi
    clear ha HG hi
    generalize hLn : L.length = n at *
    have HLN := Lib.hid hLn
    generalize key.length = kl at *
    generalize val.length = vl at *
    clear hLn
    go_enter Try.func59, Try.ntmps59
    go_wp2_with fail
    refine HAL.out.mono ?_
    rintro e w0 ⟨rfl, rfl⟩
    go_wp2_with fail
    refine HATF.out.mono ?_
    rintro e w1 ⟨rfl, ht⟩
    have HT := Lib.hid ht
    have HO0 := Lib.hid (show OZ (NewZ Z w.heap.size) w.heap.size (w1.alloc (.cells #[] 72)) (.slice (some ⟨w1.heap.size, 0, none⟩) 0 0) ([] : KVs) from
      ⟨fun _ _ => .slice none 0 0, own_lower (own_empty w1 72 2) ht.size, fun i a h => by simp at h⟩)
    have HTA := Lib.hid (ht.alloc (.cells #[] 72))
    have HBS := Lib.hid (HTA.out.size)
    clear ht
    go_wp2_with (refine wpList_append_rl (T := 72) (base := w.heap.size) (k := 2) (by' := 48) (fld := zF (NewZ Z w.heap.size)) rfl (.tmp 26) (.tmp 27) rfl _ Try.underlying46 infoPair rfl (by decide) (by decide) (by decide) (.slice (some ⟨w1.heap.size, 0, none⟩) 0 0) (.slice ao n cap) (L := []) (M := L) rfl HO0.out rfl w HPZ.out HTA.out (Nat.le_refl _) (by have := HLN.out; have := HNL.out; simp; omega) HBS.out ?_)
    intro v3 w3 hO3 hT3
    have HT3 := Lib.hid (show Touch Nil w w3 from HTA.out.trans' hT3.out fun b hb hs => by have := HO0.out.base' b hs; omega)
    have HO3 := Lib.hid (show OZ (NewZ Z w.heap.size) w.heap.size w3 v3 L from by simpa using hO3.out)
    obtain ⟨g, q3, rfl⟩ := OL.at_some HO3.out (by have := HI.out; have := HLN.out; omega)
    rw [HLN.out] at HO3 ⊢
    clear hO3 hT3
    go_wp2_with fail
    refine (HCK.out _ HT3.out).mono ?_
    rintro e w4 ⟨xk, rfl, hok4, ht4⟩
    obtain ⟨ya, yn, yc, rfl⟩ := hok4.form
    have HOK4 := Lib.hid hok4
    have HT4 := Lib.hid (HT3.out.trans ht4)
    have HO4 := Lib.hid (OL.keepN HO3.out ht4)
    clear hok4 ht4
    go_wp2_with fail
    refine (HCV.out _ HT4.out).mono ?_
    rintro e w5 ⟨xv, rfl, hov5, ht5⟩
    obtain ⟨za, zn, zc, rfl⟩ := hov5.form
    have HOV5 := Lib.hid hov5
    have HOK5 := Lib.hid (HOK4.out.keep ht5 (fun _ _ c => c))
    have HT5 := Lib.hid (HT4.out.trans ht5)
    have HO5 := Lib.hid (OL.keepN HO4.out ht5)
    have HZK := Lib.hid (show ∀ b, OwnOf (.slice ya yn yc) b → NewZ Z w.heap.size b from fun b hb => .inr (Nat.le_trans HT3.out.size (HOK4.out.block b hb).1))
    have HZV := Lib.hid (show ∀ b, OwnOf (.slice za zn zc) b → NewZ Z w.heap.size b from fun b hb => .inr (Nat.le_trans HT4.out.size (HOV5.out.block b hb).1))
    have hset := OZ.set (L := L) (by rw [HLN.out]; exact HO5.out) (by rw [HLN.out]; exact HI.out) (key, val) (.slice ya yn yc) (.slice za zn zc) (KF.z HOK5.out HZK.out) (KF.z HOV5.out HZV.out)
    rw [HLN.out] at hset
    have HSET := Lib.hid hset
    obtain ⟨u0, u1, c0, c1, hfr⟩ := OZ.cells (L := L) (by rw [HLN.out]; exact HO5.out) (by rw [HLN.out]; exact HI.out)
    have z0 := hfr (i * 2)
    have z1 := hfr (i * 2 + 1)
    have HGB := Lib.hid (show w.heap.size ≤ g from HO5.out.base' g rfl)
    have HT6 := Lib.hid (show Touch Nil w ((w5.setCell ⟨g, i * 2, none⟩ (.slice ya yn yc)).setCell ⟨g, i * 2 + 1, none⟩ (.slice za zn zc)) from
      (HT5.out.setCell ⟨g, i * 2, none⟩ (.slice ya yn yc) fun h => by have := HGB.out; simp at h; omega).setCell ⟨g, i * 2 + 1, none⟩ (.slice za zn zc) fun h => by have := HGB.out; simp at h; omega)
    clear hov5 ht5 hset hfr
    go_wp2_with fail
    go_ret2
    have hz := HSET.out
    have hl : (L.set i (key, val)).length = n := by rw [List.length_set]; exact HLN.out
    rw [← hl] at hz
    have hz := OZ.lz hz (fun b hb => Nat.lt_of_lt_of_le (HZL.out b hb) HT6.out.size)
    rw [hl] at hz
    exact ⟨_, _, _, rfl, hz, (fun b (hb : NewZ Z w.heap.size b ∧ _) => hb.1), HT6.out⟩
end Go.Proofs.Ytabjpejgnfeegaa

/- SlotsPlays: the reference's Looks. -/
namespace Go.Proofs.Ytabjpejgnfeegaa
open Go.ChangeShapes Go.WideShapes Go.ChangeAt Go.RowKit Go.Deep

/-- What is known while a cell is looked at: the cell's variable, that of the item that is sought. -/
abbrev LkS (xb pb : Nat) (f y m0 m1 m2 : Value) (w0 w' : World) : Prop :=
  w'.cell? ⟨xb, 0, none⟩ = some f ∧ w'.cell? ⟨xb, 1, none⟩ = some y ∧ w'.cell? ⟨pb, 0, none⟩ = some m0 ∧ w'.cell? ⟨pb, 1, none⟩ = some m1 ∧ w'.cell? ⟨pb, 2, none⟩ = some m2 ∧ Hid (Touch Nil w0 w')
theorem LkS.step {xb pb : Nat} {f y m0 m1 m2 : Value} {w0 w w' : World} (hs : Touch Nil w w') (h : LkS xb pb f y m0 m1 m2 w0 w) : LkS xb pb f y m0 m1 m2 w0 w' := by
  obtain ⟨h0, h1, h2, h3, h4, h5⟩ := h
  have k : ∀ {b o : Nat} {u : Value}, w.cell? ⟨b, o, none⟩ = some u → w'.cell? ⟨b, o, none⟩ = some u := fun {b o u} h => (hs.cell (World.block_lt_of_cell? w _ h) (fun c => c) o).trans h
  exact ⟨k h0, k h1, k h2, k h3, k h4, Lib.hid (h5.out.trans hs)⟩
theorem befR_bfS (seed : Int) (a b : Key) : befI (rankK seed a) (rankK seed b) a b = bfS seed a b := rfl
def ItemC (v : Value) (w : World) (e : Ending) (w' : World) : Prop := e = .returned v ∧ Touch Nil w w'
theorem calls_class_val {S : World → Prop} {f : FuncId} {args : Array Value} {s : Wld S} {v : Value} (h : Calls Try.prog f args s.w (ItemC v s.w)) (hR : ∀ w', Touch Nil s.w w' → S w') :
    Calls Try.prog f args s.w fun e w'' => e = .returned v ∧ ∃ s' : Wld S, w'' = s'.w := calls_class h hR

theorem sameBV {w : World} {x y : Value} {a b : Key} (hx : BV w x a) (hy : BV w y b) (ha : a.length ≤ 9223372036854775807) (hb : b.length ≤ 9223372036854775807) : Calls Try.prog 25 #[x, y] w (BoolN (decide (a = b)) w) := by
  obtain ⟨ao, c1, rfl, _, h1⟩ := hx
  obtain ⟨bo, c2, rfl, _, h2⟩ := hy
  exact same_any a b ao bo c1 c2 w ha hb h1 h2
theorem beforeBV {w : World} {xa ya : Option Addr} {xl xc yl yc : Nat} {a b : Key} {h1 r1 h2 r2 : Int} (hx : BV w (.slice xa xl xc) a) (hy : BV w (.slice ya yl yc) b) (ha : a.length ≤ 9223372036854775807) (hb : b.length ≤ 9223372036854775807) :
    Calls Try.prog 44 #[.agg #[.int .i64 h1, .int .u64 r1, .slice xa xl xc], .agg #[.int .i64 h2, .int .u64 r2, .slice ya yl yc]] w (BoolN (befI r1 r2 a b) w) := by
  obtain ⟨ao, c1, e1, _, g1⟩ := hx
  obtain ⟨bo, c2, e2, _, g2⟩ := hy
  cases e1
  cases e2
  exact before_any r1 r2 a b (.int .i64 h1) (.int .i64 h2) _ _ _ _ w rfl rfl ha hb g1 g2
theorem stops_see (bf : Key → Key → Bool) (key : Key) (o : Option (Key × Key)) : stops bf key o = (!seeF o || (decide (seeK o = key) || bf key (seeK o))) := by
  cases o with
  | none => rfl
  | some p => simp only [stops, seeF, seeK]; rfl

set_option maxRecDepth 100000 in
set_option maxHeartbeats 8000000 in
theorem looksR_any {Z : Nat → Prop} {w : World} {x : Value} {L : KVs} (h : PZ Z w x L) (hn : L.length ≤ 1000) (hok : Okay L) (hd : Dist L) {seed : Int} {n0 C : Nat} {T : Cells} (hg : Good seed n0 C T) (hin : ∀ x, InT C T x ↔ x ∈ L) (key : Key) (kx : Value) (hk : BV w kx key) (hkl : key.length ≤ 1048576) :
    Calls Try.prog 63 #[.int .u64 seed, x, kx] w (LooksPost (seekN (bfS seed) (homS seed C) C T key + 1) w) := by
  obtain ⟨g1, g2, g3⟩ := hg.free
  obtain ⟨en, eC, hT⟩ := list_good hg hin hd (by omega)
  obtain ⟨ao, cap, v, rfl, hrl⟩ := h.toRl
  have HTB := Lib.hid (table_any seed cap hrl (by omega) (fun i hi => by have := hok _ (atL_mem hi); omega))
  rw [← eC] at HTB hT
  have HTR := Lib.hid hT
  have HRL := Lib.hid hrl
  have HOK := Lib.hid hok
  have HSP := Lib.hid (seek_spec (bf := bfS seed) (k := key) g3 (homS_lt (C := C) (by omega) seed key))
  have HHL := Lib.hid (homS_lt (C := C) (by omega) seed key)
  have HK := Lib.hid hk
  obtain ⟨ka, kc, rfl, _, _⟩ := hk
  have HIT := Lib.hid (fun w' (ht : Touch Nil w w') => item_any seed C key _ w' (HK.out.keepN ht) hkl (by omega) (by omega))
  have HPS := Lib.hid (show seekAt (bfS seed) (homS seed C) C T key = pos C (homS seed C key) (seekN (bfS seed) (homS seed C) C T key) from rfl)
  generalize seekAt (bfS seed) (homS seed C) C T key = A at *
  generalize seekN (bfS seed) (homS seed C) C T key = N at *
  unfold ItemPost at HIT
  have HHE : ∃ hh, homS seed C key = hh := ⟨_, rfl⟩
  obtain ⟨hh, ehh⟩ := HHE
  rw [ehh] at HSP HHL HPS
  simp only [ehh] at HIT
  have HHE : ∃ rk, rankK seed key = rk := ⟨_, rfl⟩
  obtain ⟨rk, erk⟩ := HHE
  simp only [erk] at HIT
  have HRK := Lib.hid erk
  have HNL := Lib.hid hn
  have HLC := Lib.hid (show L.length ≤ C from by have := hg.2.2.1; omega)
  have HNE := Lib.hid (show L.length = L.length from rfl)
  have HKL := Lib.hid hkl
  have HE : ∃ ll, L.length = ll := ⟨_, rfl⟩
  obtain ⟨ll, ell⟩ := HE
  rw [ell] at HTB HRL HTR HLC
  simp only [ell] at hn
  have HE : ∃ kl, key.length = kl := ⟨_, rfl⟩
  obtain ⟨kl, ekl⟩ := HE
  rw [ekl] at HK
  simp only [ekl] at HIT
  have HEKL := Lib.hid ekl
  have HELL := Lib.hid ell
  clear h hrl hok hd hin hT ehh erk g3 hg en eC ell ekl hkl
  rw [HELL.out, HEKL.out]
  go_enter Try.func63, Try.ntmps63
  go_wp2_with fail
  refine HTB.out.mono ?_
  rintro e w1 ⟨b, f, ord, rfl, hb, hrow, hord, hsh, ht1⟩
  have HR1 := Lib.hid hrow
  have HT1 := Lib.hid ht1
  have HTT := Lib.hid (fun c (hc : c < C) => HTR.out ord hord c hc)
  have HSH := Lib.hid hsh
  have HPL := Lib.hid (fun c i (hc : c < C) (e : refP seed C ll ord (atL L) c = some i) => refP_lt (by omega) HLC.out hord hc e)
  have HSEE := Lib.hid (show ∀ c, c < C → ∃ y yl yc zz, f (c * 3) = .bool (seeF (T c)) ∧ f (c * 3 + 1) = .slice y yl yc ∧ (∃ za zl zc, f (c * 3 + 2) = zz ∧ zz = .slice za zl zc) ∧ BV w1 (.slice y yl yc) (seeK (T c)) from fun c hc => by
    have hs := RowP.sees (HRL.out.keepN ht1) (fun i e => HPL.out c i hc e) (hsh c hc)
    rw [← refT_eq, ← HTT.out c hc] at hs
    obtain ⟨p1, p2, p3⟩ := hs.parts
    have p2' := p2
    obtain ⟨ya, yc, e1, _, _⟩ := p2'
    obtain ⟨za, zc, e2, _, _⟩ := p3
    exact ⟨ya, _, yc, _, p1, e1, ⟨za, _, zc, e2, rfl⟩, by rw [← e1]; exact p2⟩)
  clear hrow hord hsh ht1 HTB
  go_wp2_with fail
  refine (HIT.out _ HT1.out).mono ?_
  rintro e w2 ⟨rfl, ht2⟩
  have HT2 := Lib.hid (HT1.out.trans ht2)
  have HT12 := Lib.hid ht2
  clear ht2
  have HB0 := Lib.hid (show ∀ j, (w2.alloc (.cells #[.int .i64 (hh : Int), .int .u64 rk, .slice ka kl kc] 32)).cell? ⟨w2.heap.size, j, none⟩ = (#[.int .i64 (hh : Int), .int .u64 rk, .slice ka kl kc] : Array Value)[j]? from fun j => cell_new _ _ _ _)
  have HTW := Lib.hid (HT2.out.alloc (.cells #[.int .i64 (hh : Int), .int .u64 rk, .slice ka kl kc] 32))
  have HT1W := Lib.hid (HT12.out.alloc (.cells #[.int .i64 (hh : Int), .int .u64 rk, .slice ka kl kc] 32))
  go_wp2_with fail
  have HG : ∃ W, w2.alloc (.cells #[.int .i64 (hh : Int), .int .u64 rk, .slice ka kl kc] 32) = W := ⟨_, rfl⟩
  obtain ⟨W, eW⟩ := HG
  rw [eW] at HB0 HTW HT1W ⊢
  have HG : ∃ pb, w2.heap.size = pb := ⟨_, rfl⟩
  obtain ⟨pb, epb⟩ := HG
  rw [epb] at HB0 ⊢
  clear eW epb
  have HKW := Lib.hid (HK.out.keepN HTW.out)
  have HRW := Lib.hid (HT1W.out.row HR1.out (fun c => c))
  have HSEW := Lib.hid (show ∀ c, c < C → ∃ y yl yc za zl zc, f (c * 3) = .bool (seeF (T c)) ∧ f (c * 3 + 1) = .slice y yl yc ∧ f (c * 3 + 2) = .slice za zl zc ∧ BV W (.slice y yl yc) (seeK (T c)) ∧ (seeK (T c)).length ≤ 64 from fun c hc => by
    obtain ⟨y, yl, yc, zz, h1, h2, ⟨za, zl, zc, h3, h4⟩, h5⟩ := HSEE.out c hc
    refine ⟨y, yl, yc, za, zl, zc, h1, h2, h3.trans h4, h5.keepN HT1W.out, ?_⟩
    rw [HTT.out c hc, refT_eq]
    cases e : refP seed C ll ord (atL L) c with
    | none => simp [seeK]
    | some i =>
      have := HOK.out _ (atL_mem (P := L) (i := i) (by rw [HELL.out]; exact HPL.out c i hc e))
      simp only [Option.map_some, seeK]; omega)
  clear HSEE HR1 HSH HPL HTR HOK HT1 HT2 HT12 HT1W HIT
  go_loopw [9, 10] (fun i j wr => ∃ t u a : Nat, Hid (t ≤ N) ∧ Hid (u = t + 1) ∧ Hid (a = pos C hh t) ∧ i = .int .i64 (a : Int) ∧ j = .int .i64 (u : Int) ∧ Touch Nil W wr) (fun _ j _ => N + 2 - (intOf j).toNat)
  case atStart => exact ⟨0, 1, hh, Lib.hid (Nat.zero_le _), Lib.hid rfl, Lib.hid (pos_zero HHL.out).symm, rfl, rfl, Touch.refl _ _⟩
  obtain ⟨t, u, a, htN, HU, HAP, rfl, rfl, hto⟩ := hrel
  have HN := Lib.hid HSP.out.1
  have htC : t < C := by have := HN.out; have := htN.out; omega
  have ha : a < C := by rw [HAP.out]; exact pos_lt HHL.out htC
  have HST := Lib.hid (show t < N → stops (bfS seed) key (T a) = false from by rw [HAP.out]; exact HSP.out.2.2 t)
  have HEND := Lib.hid (show stops (bfS seed) key (T a) = true → t = N from fun h => by
    rcases Nat.lt_or_ge t N with c | c
    · rw [HST.out c] at h; cases h
    · have := htN.out; omega)
  have HNX := Lib.hid (show t + 1 < C → nx C a = pos C hh (t + 1) from by rw [HAP.out]; exact pos_nx HHL.out)
  have HNS := Lib.hid (show stops (bfS seed) key (T a) = false → t < N from fun h => by
    rcases Nat.lt_or_ge t N with c | c
    · exact c
    · have h1 : t = N := by have := htN.out; omega
      have h2 := HSP.out.2.1
      rw [HPS.out, ← h1, ← HAP.out, h] at h2; cases h2)
  have HT := Lib.hid hto
  obtain ⟨wz, rfl⟩ : ∃ wz : World, wz = wr := ⟨_, rfl⟩
  clear hto
  obtain ⟨y, yl, yc, za, zl, zc, h1, h2, h3, h4, h5⟩ := HSEW.out a ha
  have hrz := HT.out.row HRW.out (fun c => c)
  have o0 := hrz.cell (i := a * 3) (by omega)
  have o1 := hrz.cell (i := a * 3 + 1) (by omega)
  have o2 := hrz.cell (i := a * 3 + 2) (by omega)
  rw [h1] at o0
  rw [h2] at o1
  rw [h3] at o2
  have HY := Lib.hid (h4.keepN HT.out)
  have HYL := Lib.hid h5
  have i1 : (a : Int) < (C : Int) := by omega
  have i2 : (0 : Int) ≤ (a : Int) := by omega
  have m0 : wz.cell? ⟨pb, 0, none⟩ = some (.int .i64 (hh : Int)) := (HT.out.cell (World.block_lt_of_cell? W (⟨pb, 0, none⟩ : Addr) (HB0.out 0)) (fun c => c) 0).trans (HB0.out 0)
  have m1 : wz.cell? ⟨pb, 1, none⟩ = some (.int .u64 rk) := (HT.out.cell (World.block_lt_of_cell? W (⟨pb, 1, none⟩ : Addr) (HB0.out 1)) (fun c => c) 1).trans (HB0.out 1)
  have m2 : wz.cell? ⟨pb, 2, none⟩ = some (.slice ka kl kc) := (HT.out.cell (World.block_lt_of_cell? W (⟨pb, 2, none⟩ : Addr) (HB0.out 2)) (fun c => c) 2).trans (HB0.out 2)
  have HG : ∃ fv, seeF (T a) = fv := ⟨_, rfl⟩
  obtain ⟨fv, efv⟩ := HG
  rw [efv] at o0
  have HFV := Lib.hid efv
  clear h1 h2 h3 h4 h5 hrz efv
  have HSTART := Lib.hid (show LkS wz.heap.size pb (.bool fv) (.slice y yl yc) (.int .i64 (hh : Int)) (.int .u64 rk) (.slice ka kl kc) wz (wz.alloc (.cells #[.bool fv, .slice y yl yc, .slice za zl zc] 78)) from by
    have k : ∀ {b o : Nat} {u : Value}, wz.cell? ⟨b, o, none⟩ = some u → (wz.alloc (.cells #[.bool fv, .slice y yl yc, .slice za zl zc] 78)).cell? ⟨b, o, none⟩ = some u := fun {b o u} h => (((Touch.refl Nil wz).alloc _).cell (World.block_lt_of_cell? wz _ h) (fun c => c) o).trans h
    exact ⟨by rw [cell_new]; rfl, by rw [cell_new]; rfl, k m0, k m1, k m2, Lib.hid ((Touch.refl Nil wz).alloc _)⟩)
  have HSTOP := Lib.hid (stops_see (bfS seed) key (T a))
  rw [HFV.out] at HSTOP
  have HCS := Lib.hid (fun w' (ht : Touch Nil wz w') => sameBV (HY.out.keepN ht) ((HKW.out.keepN HT.out).keepN ht) (by have := HYL.out; omega) (by have := HKL.out; omega))
  have HCI := Lib.hid (show ∀ w', Touch Nil wz w' → Calls Try.prog 66 #[.int .u64 seed, .slice y yl yc, .int .i64 (C : Int)] w' (ItemC (.agg #[.int .i64 ((homS seed C (seeK (T a)) : Nat) : Int), .int .u64 (rankK seed (seeK (T a))), .slice y yl yc]) w') from fun w' ht => item_any seed C (seeK (T a)) _ w' (HY.out.keepN ht) (by have := HYL.out; omega) (by omega) (by omega))
  have HCB := Lib.hid (show ∀ w', Touch Nil wz w' → Calls Try.prog 44 #[.agg #[.int .i64 (hh : Int), .int .u64 rk, .slice ka kl kc], .agg #[.int .i64 ((homS seed C (seeK (T a)) : Nat) : Int), .int .u64 (rankK seed (seeK (T a))), .slice y yl yc]] w' (BoolN (bfS seed key (seeK (T a))) w') from fun w' ht => by
    have := beforeBV (h1 := (hh : Int)) (h2 := ((homS seed C (seeK (T a)) : Nat) : Int)) (r1 := rk) (r2 := rankK seed (seeK (T a))) ((HKW.out.keepN HT.out).keepN ht) (HY.out.keepN ht) (by have := HKL.out; omega) (by have := HYL.out; omega)
    rw [← HRK.out, befR_bfS] at this
    rw [← HRK.out]
    exact this)
  generalize decide (seeK (T a) = key) = r1 at *
  generalize bfS seed key (seeK (T a)) = r2 at *
  generalize homS seed C (seeK (T a)) = hx at *
  generalize rankK seed (seeK (T a)) = rx at *
  go_wp2_with fail
  have HG : ∃ V, wz.alloc (.cells #[.bool fv, .slice y yl yc, .slice za zl zc] 78) = V := ⟨_, rfl⟩
  obtain ⟨V, eV⟩ := HG
  rw [eV] at HSTART ⊢
  have HG : ∃ xb, wz.heap.size = xb := ⟨_, rfl⟩
  obtain ⟨xb, exb⟩ := HG
  rw [exb] at HSTART ⊢
  clear eV exb o0 o1 o2 m0 m1 m2
  have HGO := Lib.hid (show t < N → ((((a : Int) + 1) % (C : Int) = ((nx C a : Nat) : Int)) ∧ nx C a = pos C hh (t + 1)) from fun h => ⟨by
      unfold nx; split
      · rw [Int.emod_eq_of_lt (by omega) (by omega)]; omega
      · rw [show (a : Int) + 1 = (C : Int) from by omega, Int.emod_self]; rfl, HNX.out (by have := HN.out; omega)⟩)
  have hu : u ≤ 1048577 := by have := HU.out; omega
  cases fv
  case false =>
    replace HSTOP := Lib.hid (show stops (bfS seed) key (T a) = true from HSTOP.out)
    have HSTART := Lib.hid (LkS.step (Touch.refl Nil V).drew HSTART.out)
    have f0 := fun s : Wld (LkS xb pb (.bool false) (.slice y yl yc) (.int .i64 (hh : Int)) (.int .u64 rk) (.slice ka kl kc) wz) => s.ok.1
    have f1 := fun s : Wld (LkS xb pb (.bool false) (.slice y yl yc) (.int .i64 (hh : Int)) (.int .u64 rk) (.slice ka kl kc) wz) => s.ok.2.1
    have f2 := fun s : Wld (LkS xb pb (.bool false) (.slice y yl yc) (.int .i64 (hh : Int)) (.int .u64 rk) (.slice ka kl kc) wz) => s.ok.2.2.1
    have f3 := fun s : Wld (LkS xb pb (.bool false) (.slice y yl yc) (.int .i64 (hh : Int)) (.int .u64 rk) (.slice ka kl kc) wz) => s.ok.2.2.2.1
    have f4 := fun s : Wld (LkS xb pb (.bool false) (.slice y yl yc) (.int .i64 (hh : Int)) (.int .u64 rk) (.slice ka kl kc) wz) => s.ok.2.2.2.2.1
    have HS1 := Lib.hid (fun s : Wld (LkS xb pb (.bool false) (.slice y yl yc) (.int .i64 (hh : Int)) (.int .u64 rk) (.slice ka kl kc) wz) => HCS.out s.w s.ok.2.2.2.2.2.out)
    have HS2 := Lib.hid (fun s : Wld (LkS xb pb (.bool false) (.slice y yl yc) (.int .i64 (hh : Int)) (.int .u64 rk) (.slice ka kl kc) wz) => HCI.out s.w s.ok.2.2.2.2.2.out)
    have HS3 := Lib.hid (fun s : Wld (LkS xb pb (.bool false) (.slice y yl yc) (.int .i64 (hh : Int)) (.int .u64 rk) (.slice ka kl kc) wz) => HCB.out s.w s.ok.2.2.2.2.2.out)
    have _hne : Nonempty (Wld (LkS xb pb (.bool false) (.slice y yl yc) (.int .i64 (hh : Int)) (.int .u64 rk) (.slice ka kl kc) wz)) := ⟨⟨_, HSTART.out⟩⟩
    refine wp_region_class (S := (LkS xb pb (.bool false) (.slice y yl yc) (.int .i64 (hh : Int)) (.int .u64 rk) (.slice ka kl kc) wz)) HSTART.out (by kernel_rfl) (by kernel_rfl) ?_
    repeat (go_big_quiet_step (first
      | (go_at_call 25; refine calls_class_bool (r := r1) (HS1.out _) ?_; intro w' ht; exact LkS.step ht (Wld.ok _))
      | (go_at_call 66; refine calls_class_val (v := .agg #[.int .i64 (hx : Int), .int .u64 rx, .slice y yl yc]) (HS2.out _) ?_; intro w' ht; exact LkS.step ht (Wld.ok _))
      | (go_at_call 44; refine calls_class_bool (r := r2) (HS3.out _) ?_; intro w' ht; exact LkS.step ht (Wld.ok _))))
    refine wpQuiet_nil ?_
    intro _ hw'
    obtain ⟨sq, hw''⟩ := hw'
    subst hw''
    have HT5 := Lib.hid (HT.out.trans sq.ok.2.2.2.2.2.out)
    have HG : ∃ w3, sq.w = w3 := ⟨_, rfl⟩
    obtain ⟨w3, e3⟩ := HG
    rw [e3] at HT5 ⊢
    clear e3 sq f0 f1 f2 f3 f4 HS1 HS2 HS3 _hne HSTART HCS HCI HCB
    have HR := Lib.hid (HEND.out HSTOP.out)
    go_wp2_with fail
    go_ret
    exact ⟨by rw [← HR.out, ← HU.out]; rfl, HTW.out.trans HT5.out⟩
  case true =>
   cases r1
   case true =>
    replace HSTOP := Lib.hid (show stops (bfS seed) key (T a) = true from HSTOP.out)
    have HSTART := Lib.hid (LkS.step (Touch.refl Nil V).drew HSTART.out)
    have f0 := fun s : Wld (LkS xb pb (.bool true) (.slice y yl yc) (.int .i64 (hh : Int)) (.int .u64 rk) (.slice ka kl kc) wz) => s.ok.1
    have f1 := fun s : Wld (LkS xb pb (.bool true) (.slice y yl yc) (.int .i64 (hh : Int)) (.int .u64 rk) (.slice ka kl kc) wz) => s.ok.2.1
    have f2 := fun s : Wld (LkS xb pb (.bool true) (.slice y yl yc) (.int .i64 (hh : Int)) (.int .u64 rk) (.slice ka kl kc) wz) => s.ok.2.2.1
    have f3 := fun s : Wld (LkS xb pb (.bool true) (.slice y yl yc) (.int .i64 (hh : Int)) (.int .u64 rk) (.slice ka kl kc) wz) => s.ok.2.2.2.1
    have f4 := fun s : Wld (LkS xb pb (.bool true) (.slice y yl yc) (.int .i64 (hh : Int)) (.int .u64 rk) (.slice ka kl kc) wz) => s.ok.2.2.2.2.1
    have HS1 := Lib.hid (fun s : Wld (LkS xb pb (.bool true) (.slice y yl yc) (.int .i64 (hh : Int)) (.int .u64 rk) (.slice ka kl kc) wz) => HCS.out s.w s.ok.2.2.2.2.2.out)
    have HS2 := Lib.hid (fun s : Wld (LkS xb pb (.bool true) (.slice y yl yc) (.int .i64 (hh : Int)) (.int .u64 rk) (.slice ka kl kc) wz) => HCI.out s.w s.ok.2.2.2.2.2.out)
    have HS3 := Lib.hid (fun s : Wld (LkS xb pb (.bool true) (.slice y yl yc) (.int .i64 (hh : Int)) (.int .u64 rk) (.slice ka kl kc) wz) => HCB.out s.w s.ok.2.2.2.2.2.out)
    have _hne : Nonempty (Wld (LkS xb pb (.bool true) (.slice y yl yc) (.int .i64 (hh : Int)) (.int .u64 rk) (.slice ka kl kc) wz)) := ⟨⟨_, HSTART.out⟩⟩
    refine wp_region_class (S := (LkS xb pb (.bool true) (.slice y yl yc) (.int .i64 (hh : Int)) (.int .u64 rk) (.slice ka kl kc) wz)) HSTART.out (by kernel_rfl) (by kernel_rfl) ?_
    repeat (go_big_quiet_step (first
      | (go_at_call 25; refine calls_class_bool (r := true) (HS1.out _) ?_; intro w' ht; exact LkS.step ht (Wld.ok _))
      | (go_at_call 66; refine calls_class_val (v := .agg #[.int .i64 (hx : Int), .int .u64 rx, .slice y yl yc]) (HS2.out _) ?_; intro w' ht; exact LkS.step ht (Wld.ok _))
      | (go_at_call 44; refine calls_class_bool (r := r2) (HS3.out _) ?_; intro w' ht; exact LkS.step ht (Wld.ok _))))
    refine wpQuiet_nil ?_
    intro _ hw'
    obtain ⟨sq, hw''⟩ := hw'
    subst hw''
    have HT5 := Lib.hid (HT.out.trans sq.ok.2.2.2.2.2.out)
    have HG : ∃ w3, sq.w = w3 := ⟨_, rfl⟩
    obtain ⟨w3, e3⟩ := HG
    rw [e3] at HT5 ⊢
    clear e3 sq f0 f1 f2 f3 f4 HS1 HS2 HS3 _hne HSTART HCS HCI HCB
    have HR := Lib.hid (HEND.out HSTOP.out)
    go_wp2_with fail
    go_ret
    exact ⟨by rw [← HR.out, ← HU.out]; rfl, HTW.out.trans HT5.out⟩
   case false =>
    cases r2
    case true =>
     replace HSTOP := Lib.hid (show stops (bfS seed) key (T a) = true from HSTOP.out)
     have HSTART := Lib.hid (LkS.step (Touch.refl Nil V).drew HSTART.out)
     have f0 := fun s : Wld (LkS xb pb (.bool true) (.slice y yl yc) (.int .i64 (hh : Int)) (.int .u64 rk) (.slice ka kl kc) wz) => s.ok.1
     have f1 := fun s : Wld (LkS xb pb (.bool true) (.slice y yl yc) (.int .i64 (hh : Int)) (.int .u64 rk) (.slice ka kl kc) wz) => s.ok.2.1
     have f2 := fun s : Wld (LkS xb pb (.bool true) (.slice y yl yc) (.int .i64 (hh : Int)) (.int .u64 rk) (.slice ka kl kc) wz) => s.ok.2.2.1
     have f3 := fun s : Wld (LkS xb pb (.bool true) (.slice y yl yc) (.int .i64 (hh : Int)) (.int .u64 rk) (.slice ka kl kc) wz) => s.ok.2.2.2.1
     have f4 := fun s : Wld (LkS xb pb (.bool true) (.slice y yl yc) (.int .i64 (hh : Int)) (.int .u64 rk) (.slice ka kl kc) wz) => s.ok.2.2.2.2.1
     have HS1 := Lib.hid (fun s : Wld (LkS xb pb (.bool true) (.slice y yl yc) (.int .i64 (hh : Int)) (.int .u64 rk) (.slice ka kl kc) wz) => HCS.out s.w s.ok.2.2.2.2.2.out)
     have HS2 := Lib.hid (fun s : Wld (LkS xb pb (.bool true) (.slice y yl yc) (.int .i64 (hh : Int)) (.int .u64 rk) (.slice ka kl kc) wz) => HCI.out s.w s.ok.2.2.2.2.2.out)
     have HS3 := Lib.hid (fun s : Wld (LkS xb pb (.bool true) (.slice y yl yc) (.int .i64 (hh : Int)) (.int .u64 rk) (.slice ka kl kc) wz) => HCB.out s.w s.ok.2.2.2.2.2.out)
     have _hne : Nonempty (Wld (LkS xb pb (.bool true) (.slice y yl yc) (.int .i64 (hh : Int)) (.int .u64 rk) (.slice ka kl kc) wz)) := ⟨⟨_, HSTART.out⟩⟩
     refine wp_region_class (S := (LkS xb pb (.bool true) (.slice y yl yc) (.int .i64 (hh : Int)) (.int .u64 rk) (.slice ka kl kc) wz)) HSTART.out (by kernel_rfl) (by kernel_rfl) ?_
     repeat (go_big_quiet_step (first
       | (go_at_call 25; refine calls_class_bool (r := false) (HS1.out _) ?_; intro w' ht; exact LkS.step ht (Wld.ok _))
       | (go_at_call 66; refine calls_class_val (v := .agg #[.int .i64 (hx : Int), .int .u64 rx, .slice y yl yc]) (HS2.out _) ?_; intro w' ht; exact LkS.step ht (Wld.ok _))
       | (go_at_call 44; refine calls_class_bool (r := true) (HS3.out _) ?_; intro w' ht; exact LkS.step ht (Wld.ok _))))
     refine wpQuiet_nil ?_
     intro _ hw'
     obtain ⟨sq, hw''⟩ := hw'
     subst hw''
     have HT5 := Lib.hid (HT.out.trans sq.ok.2.2.2.2.2.out)
     have HG : ∃ w3, sq.w = w3 := ⟨_, rfl⟩
     obtain ⟨w3, e3⟩ := HG
     rw [e3] at HT5 ⊢
     clear e3 sq f0 f1 f2 f3 f4 HS1 HS2 HS3 _hne HSTART HCS HCI HCB
     have HR := Lib.hid (HEND.out HSTOP.out)
     go_wp2_with fail
     go_ret
     exact ⟨by rw [← HR.out, ← HU.out]; rfl, HTW.out.trans HT5.out⟩
    case false =>
     replace HSTOP := Lib.hid (show stops (bfS seed) key (T a) = false from HSTOP.out)
     have HSTART := Lib.hid (LkS.step (Touch.refl Nil V).drew HSTART.out)
     have f0 := fun s : Wld (LkS xb pb (.bool true) (.slice y yl yc) (.int .i64 (hh : Int)) (.int .u64 rk) (.slice ka kl kc) wz) => s.ok.1
     have f1 := fun s : Wld (LkS xb pb (.bool true) (.slice y yl yc) (.int .i64 (hh : Int)) (.int .u64 rk) (.slice ka kl kc) wz) => s.ok.2.1
     have f2 := fun s : Wld (LkS xb pb (.bool true) (.slice y yl yc) (.int .i64 (hh : Int)) (.int .u64 rk) (.slice ka kl kc) wz) => s.ok.2.2.1
     have f3 := fun s : Wld (LkS xb pb (.bool true) (.slice y yl yc) (.int .i64 (hh : Int)) (.int .u64 rk) (.slice ka kl kc) wz) => s.ok.2.2.2.1
     have f4 := fun s : Wld (LkS xb pb (.bool true) (.slice y yl yc) (.int .i64 (hh : Int)) (.int .u64 rk) (.slice ka kl kc) wz) => s.ok.2.2.2.2.1
     have HS1 := Lib.hid (fun s : Wld (LkS xb pb (.bool true) (.slice y yl yc) (.int .i64 (hh : Int)) (.int .u64 rk) (.slice ka kl kc) wz) => HCS.out s.w s.ok.2.2.2.2.2.out)
     have HS2 := Lib.hid (fun s : Wld (LkS xb pb (.bool true) (.slice y yl yc) (.int .i64 (hh : Int)) (.int .u64 rk) (.slice ka kl kc) wz) => HCI.out s.w s.ok.2.2.2.2.2.out)
     have HS3 := Lib.hid (fun s : Wld (LkS xb pb (.bool true) (.slice y yl yc) (.int .i64 (hh : Int)) (.int .u64 rk) (.slice ka kl kc) wz) => HCB.out s.w s.ok.2.2.2.2.2.out)
     have _hne : Nonempty (Wld (LkS xb pb (.bool true) (.slice y yl yc) (.int .i64 (hh : Int)) (.int .u64 rk) (.slice ka kl kc) wz)) := ⟨⟨_, HSTART.out⟩⟩
     refine wp_region_class (S := (LkS xb pb (.bool true) (.slice y yl yc) (.int .i64 (hh : Int)) (.int .u64 rk) (.slice ka kl kc) wz)) HSTART.out (by kernel_rfl) (by kernel_rfl) ?_
     repeat (go_big_quiet_step (first
       | (go_at_call 25; refine calls_class_bool (r := false) (HS1.out _) ?_; intro w' ht; exact LkS.step ht (Wld.ok _))
       | (go_at_call 66; refine calls_class_val (v := .agg #[.int .i64 (hx : Int), .int .u64 rx, .slice y yl yc]) (HS2.out _) ?_; intro w' ht; exact LkS.step ht (Wld.ok _))
       | (go_at_call 44; refine calls_class_bool (r := false) (HS3.out _) ?_; intro w' ht; exact LkS.step ht (Wld.ok _))))
     refine wpQuiet_nil ?_
     intro _ hw'
     obtain ⟨sq, hw''⟩ := hw'
     subst hw''
     have HT5 := Lib.hid (HT.out.trans sq.ok.2.2.2.2.2.out)
     have HG : ∃ w3, sq.w = w3 := ⟨_, rfl⟩
     obtain ⟨w3, e3⟩ := HG
     rw [e3] at HT5 ⊢
     clear e3 sq f0 f1 f2 f3 f4 HS1 HS2 HS3 _hne HSTART HCS HCI HCB
     have HR := Lib.hid (HNS.out HSTOP.out)
     obtain ⟨q1, q2⟩ := HGO.out HR.out
     have HQ2 := Lib.hid q2
     clear q2
     have HMD := Lib.hid (show ∀ W', Calls Try.prog 46 #[.int .i64 ((a : Int) + 1), .int .i64 (C : Int)] W' fun e w' => e = .returned (.int .i64 ((nx C a : Nat) : Int)) ∧ w' = W' from fun W' => by
       have := mod_any ((a : Int) + 1) C (by omega) (by omega) W'
       rw [q1] at this
       exact this)
     clear q1
     go_wp2_with fail
     refine (HMD.out _).mono ?_
     rintro e w4 ⟨rfl, rfl⟩
     go_wp2_with fail
     go_roundw
     case rel => exact ⟨t + 1, u + 1, nx C a, Lib.hid HR.out, Lib.hid (by rw [HU.out]), Lib.hid HQ2.out, rfl, by go_num, HT5.out⟩
     case measure => simp [intOf]; have := HU.out; have := HR.out; omega
end Go.Proofs.Ytabjpejgnfeegaa

/- A table that there is not, and the zero value. -/
namespace Go.Proofs.Ytabjpejgnfeegaa
open Go.ChangeShapes Go.WideShapes Go.ChangeAt Go.RowKit Go.Deep

def Void (w : World) (t : Value) : Prop := ∃ p, t = .pointer p ∧ (p = none ∨ ∃ bt, p = some ⟨bt, 0, none⟩ ∧ w.cell? ⟨bt, 0, none⟩ = some (.pointer none))
theorem Void.keep {S : Nat → Prop} {w w' : World} {t : Value} (h : Void w t) (ht : Touch S w w') (hS : ∀ b, S b → ∀ cs z, w.heap[b]? ≠ some (.cells cs 91 z)) (hT : ∀ b, t = .pointer (some ⟨b, 0, none⟩) → ∃ cs z, w.heap[b]? = some (.cells cs 91 z)) : Void w' t := by
  obtain ⟨p, rfl, rfl | ⟨bt, rfl, hc⟩⟩ := h
  · exact ⟨none, rfl, .inl rfl⟩
  · obtain ⟨cs, z, e⟩ := hT bt rfl
    exact ⟨_, rfl, .inr ⟨bt, rfl, (ht.cell (World.block_lt_of_cell? w _ hc) (fun hs => hS bt hs cs z e) 0).trans hc⟩⟩
theorem Void.keepN {w w' : World} {t : Value} (h : Void w t) (ht : Touch Nil w w') : Void w' t := by
  obtain ⟨p, rfl, rfl | ⟨bt, rfl, hc⟩⟩ := h
  · exact ⟨none, rfl, .inl rfl⟩
  · exact ⟨_, rfl, .inr ⟨bt, rfl, (ht.cell (World.block_lt_of_cell? w _ hc) (fun c => c) 0).trans hc⟩⟩
theorem missing_void {w : World} {p : Option Addr} (h : Void w (.pointer p)) : Calls Try.prog 53 #[.pointer p] w fun e w' => e = .returned (.bool true) ∧ w = w' := by
  obtain ⟨q, e, rfl | ⟨bt, rfl, hc⟩⟩ := h
  · cases e; exact missing_nil w
  · cases e; exact missing_zero bt w hc
section
variable {w : World} {p : Option Addr}
set_option maxHeartbeats 1000000 in
theorem put_void (h : Void w (.pointer p)) (kx vx : Value) : Calls Try.prog 39 #[.pointer p, kx, vx] w fun e w' => e = .returned (.int .i64 1) ∧ w = w' := by
  have HM := Lib.hid (missing_void h)
  clear h
  go_enter Try.func39, Try.ntmps39
  go_wp2_with fail
  refine HM.out.mono ?_
  rintro e w1 ⟨rfl, rfl⟩
  go_wp2_with fail
  go_ret
  exact ⟨rfl, rfl⟩
set_option maxHeartbeats 1000000 in
theorem drop_void (h : Void w (.pointer p)) (kx : Value) : Calls Try.prog 38 #[.pointer p, kx] w fun e w' => e = .returned (.int .i64 1) ∧ w = w' := by
  have HM := Lib.hid (missing_void h)
  clear h
  go_enter Try.func38, Try.ntmps38
  go_wp2_with fail
  refine HM.out.mono ?_
  rintro e w1 ⟨rfl, rfl⟩
  go_wp2_with fail
  go_ret
  exact ⟨rfl, rfl⟩
set_option maxHeartbeats 1000000 in
theorem get_void (h : Void w (.pointer p)) (kx : Value) : Calls Try.prog 40 #[.pointer p, kx] w fun e w' => e = .returned (.tuple #[.slice none 0 0, .int .i64 3]) ∧ w = w' := by
  have HM := Lib.hid (missing_void h)
  clear h
  go_enter Try.func40, Try.ntmps40
  go_wp2_with fail
  refine HM.out.mono ?_
  rintro e w1 ⟨rfl, rfl⟩
  go_wp2_with fail
  go_ret2
  exact ⟨rfl, rfl⟩
set_option maxHeartbeats 1000000 in
theorem len_void (h : Void w (.pointer p)) : Calls Try.prog 42 #[.pointer p] w fun e w' => e = .returned (.int .i64 0) ∧ w = w' := by
  have HM := Lib.hid (missing_void h)
  clear h
  go_enter Try.func42, Try.ntmps42
  go_wp2_with fail
  refine HM.out.mono ?_
  rintro e w1 ⟨rfl, rfl⟩
  go_wp2_with fail
  go_ret
  exact ⟨rfl, rfl⟩
set_option maxHeartbeats 1000000 in
theorem cells_void (h : Void w (.pointer p)) : Calls Try.prog 35 #[.pointer p] w fun e w' => e = .returned (.slice none 0 0) ∧ w = w' := by
  have HM := Lib.hid (missing_void h)
  clear h
  go_enter Try.func35, Try.ntmps35
  go_wp2_with fail
  refine HM.out.mono ?_
  rintro e w1 ⟨rfl, rfl⟩
  go_wp2_with fail
  go_ret
  exact ⟨rfl, rfl⟩
set_option maxHeartbeats 1000000 in
theorem looks_void (h : Void w (.pointer p)) (kx : Value) : Calls Try.prog 41 #[.pointer p, kx] w fun e w' => e = .returned (.int .i64 0) ∧ w = w' := by
  have HM := Lib.hid (missing_void h)
  clear h
  go_enter Try.func41, Try.ntmps41
  go_wp2_with fail
  refine HM.out.mono ?_
  rintro e w1 ⟨rfl, rfl⟩
  go_wp2_with fail
  go_ret
  exact ⟨rfl, rfl⟩
set_option maxHeartbeats 1000000 in
theorem image_void (h : Void w (.pointer p)) : Calls Try.prog 30 #[.pointer p] w fun e w' => e = .returned (.slice none 0 0) ∧ w = w' := by
  have HM := Lib.hid (missing_void h)
  clear h
  go_enter Try.func30, Try.ntmps30
  go_wp2_with fail
  refine HM.out.mono ?_
  rintro e w1 ⟨rfl, rfl⟩
  go_wp2_with fail
  go_ret
  exact ⟨rfl, rfl⟩
end
end Go.Proofs.Ytabjpejgnfeegaa

/- SlotsPlays: the copies with which each call begins, whatever the order in which they are made. -/

namespace Go.Proofs.Ytabjpejgnfeegaa
open Go

section
variable {F : Fence} {n : Nat} {P : Program} {md : Region.Mode} {ops : Array Oper} {Q : Exit → Act → World → Prop}
/-- No operation waits for one that stands behind it. -/
def inOrder (md : Region.Mode) (ops : Array Oper) : Bool := (List.range ops.size).all fun i => ((ops[i]?).map (·.after.all fun e => !Region.binds md e || decide (e.on < i))).getD true
/-- How many operations are left. -/
def leftOf (ops : Array Oper) (listed : Array Bool) : Nat := ((List.range ops.size).filter fun i => !listed.getD i true).length
theorem leftOf_set {listed : Array Bool} {i : Nat} (hi : i < ops.size) (h : listed.getD i true = false) : leftOf ops (listed.setIfInBounds i true) < leftOf ops listed := by
  unfold leftOf
  have hlt : i < listed.size := by
    rcases Nat.lt_or_ge i listed.size with c | c
    · exact c
    · simp [Array.getD, Nat.not_lt.2 c] at h
  have hs : ((List.range ops.size).filter fun j => !(listed.setIfInBounds i true).getD j true).Sublist ((List.range ops.size).filter fun j => !listed.getD j true) := by
    have hp : ∀ j, (!(listed.setIfInBounds i true).getD j true) = true → (!listed.getD j true) = true := fun j hj => by
      by_cases e : j = i
      · subst e; simp [Array.getD, hlt] at hj
      · simp only [Array.getD_eq_getD_getElem?, Array.getElem?_setIfInBounds_ne (Ne.symm e)] at hj ⊢
        exact hj
    have he : ((List.range ops.size).filter fun j => !(listed.setIfInBounds i true).getD j true) = ((List.range ops.size).filter fun j => !listed.getD j true).filter fun j => !(listed.setIfInBounds i true).getD j true := by
      rw [List.filter_filter]
      refine List.filter_congr fun j _ => ?_
      rw [Bool.eq_iff_iff, Bool.and_eq_true]
      exact ⟨fun h => ⟨h, hp j h⟩, fun h => h.1⟩
    rw [he]
    exact List.filter_sublist
  rcases Nat.lt_or_ge (((List.range ops.size).filter fun j => !(listed.setIfInBounds i true).getD j true).length) (((List.range ops.size).filter fun j => !listed.getD j true).length) with c | c
  · exact c
  · have he := hs.eq_of_length_le c
    have hm : i ∈ (List.range ops.size).filter fun j => !listed.getD j true := List.mem_filter.2 ⟨List.mem_range.2 hi, by simp [h]⟩
    rw [← he] at hm
    have := (List.mem_filter.1 hm).2
    simp [Array.getD, hlt] at this
theorem ready_none (hin : inOrder md ops = true) {listed : Array Bool} (h : Region.ready md ops listed = []) : ∀ i, i < ops.size → listed.getD i true = true := by
  intro i
  induction i using Nat.strongRecOn with
  | ind i ih =>
    intro hi
    rcases hb : listed.getD i true with _ | _
    · exfalso
      have hm : i ∈ Region.ready md ops listed := by
        unfold Region.ready
        rw [List.mem_filter]
        refine ⟨List.mem_range.2 hi, ?_⟩
        rw [Array.getElem?_eq_getElem hi]
        simp only [hb, Option.map_some, Option.getD_some, Bool.not_false, Bool.true_and]
        rw [Array.all_eq_true]
        intro j hj
        have h1 := List.all_eq_true.1 hin i (List.mem_range.2 hi)
        rw [Array.getElem?_eq_getElem hi] at h1
        simp only [Option.map_some, Option.getD_some] at h1
        have h2 := Array.all_eq_true.1 h1 j hj
        rw [Bool.or_eq_true] at h2 ⊢
        refine h2.imp (fun h => h) fun h => ?_
        have hlt := of_decide_eq_true h
        have h3 := ih _ hlt (by omega)
        rcases Nat.lt_or_ge (ops[i].after[j].on) listed.size with c | c
        · simpa [Array.getD, c] using h3
        · exfalso
          have : i < listed.size := by
            rcases Nat.lt_or_ge i listed.size with c | c
            · exact c
            · simp [Array.getD, Nat.not_lt.2 c] at hb
          omega
      rw [h] at hm
      cases hm
    · rfl
/-- A region that draws, by what holds at every point. -/
theorem wpAnyIn_inv (hin : inOrder md ops = true) (Inv : Array Bool → Act → World → Prop)
    (hdone : ∀ listed a w, Inv listed a w → (∀ i, i < ops.size → listed.getD i true = true) → Q .normal a w)
    (hstep : ∀ listed a w i o, ops[i]? = some o → Inv listed a w → listed.getD i true = false → (∀ e ∈ o.after, Region.binds md e = true → listed.getD e.on false = true) → ∀ K : Act → World → Prop, (∀ a' w', Inv (listed.setIfInBounds i true) a' w' → K a' w') →
      if Region.wanted o (yielded ops a.tmps) = true then Oper.wpIn F n P o a w K Q else (∀ f, o.about P w a.eval = some f → F.fn f) ∧ K (a.put o.dst undef) w) :
    ∀ fuel listed a w, leftOf ops listed ≤ fuel → Inv listed a w → wpAnyIn F n P md ops Q fuel listed a w := by
  intro fuel
  induction fuel with
  | zero =>
    intro listed a w hf hi
    have hr : Region.ready md ops listed = [] := by
      rw [List.eq_nil_iff_forall_not_mem]
      intro i hm
      unfold Region.ready at hm
      obtain ⟨h1, h2⟩ := List.mem_filter.1 hm
      have h3 := (Bool.and_eq_true _ _).mp h2 |>.1
      have h4 : i ∈ (List.range ops.size).filter fun j => !listed.getD j true := List.mem_filter.2 ⟨h1, h3⟩
      unfold leftOf at hf
      rw [List.length_eq_zero_iff.1 (Nat.le_zero.1 hf)] at h4
      cases h4
    exact ⟨hr, hdone _ _ _ hi (ready_none hin hr)⟩
  | succ fuel ih =>
    intro listed a w hf hi
    refine ⟨fun hr => hdone _ _ _ hi (ready_none hin hr), fun i hm => ?_⟩
    unfold Region.ready at hm
    obtain ⟨h1, h2⟩ := List.mem_filter.1 hm
    have hlt := List.mem_range.1 h1
    obtain ⟨h3, h4⟩ := (Bool.and_eq_true _ _).mp h2
    have hl : listed.getD i true = false := by simpa using h3
    rw [Array.getElem?_eq_getElem hlt] at h4
    simp only [Option.map_some, Option.getD_some] at h4
    refine wpOpIn_step (Array.getElem?_eq_getElem hlt) fun K' hK => ?_
    refine hstep listed a w i _ (Array.getElem?_eq_getElem hlt) hi hl (fun e he hb => ?_) K' fun a' w' hi' => hK _ _ (ih _ _ _ (by have := leftOf_set hlt hl; omega) hi')
    obtain ⟨j, hj, rfl⟩ := Array.mem_iff_getElem.1 he
    have h5 := Array.all_eq_true.1 h4 j hj
    rw [Bool.or_eq_true] at h5
    rcases h5 with h5 | h5
    · rw [hb] at h5; cases h5
    · exact h5
theorem region_inv {id : Nat} {a : Act} {w : World} (hm : P.follows .mixedOrders = true) (hin : inOrder .any ops = true) (Inv : Array Bool → Act → World → Prop) (h0 : Inv (Array.replicate ops.size false) a w.drew)
    (hdone : ∀ listed a w, Inv listed a w → (∀ i, i < ops.size → listed.getD i true = true) → Q .normal a w)
    (hstep : ∀ listed a w i o, ops[i]? = some o → Inv listed a w → listed.getD i true = false → (∀ e ∈ o.after, Region.binds .any e = true → listed.getD e.on false = true) → ∀ K : Act → World → Prop, (∀ a' w', Inv (listed.setIfInBounds i true) a' w' → K a' w') →
      if Region.wanted o (yielded ops a.tmps) = true then Oper.wpIn F n P o a w K Q else (∀ f, o.about P w a.eval = some f → F.fn f) ∧ K (a.put o.dst undef) w) :
    (Code.region id ops true).wpIn F n P Q a w :=
  wpIn_region_any hm (wpAnyIn_inv hin Inv hdone hstep _ _ _ _ (by unfold leftOf; exact Nat.le_trans (List.length_filter_le _ _) (by simp)) h0)
end
end Go.Proofs.Ytabjpejgnfeegaa

namespace Go.Proofs.Ytabjpejgnfeegaa
open Go.ChangeShapes Go.WideShapes Go.ChangeAt Go.RowKit Go.Deep
attribute [local go_sem] Oper.semAt_some
theorem stp {l : Array Bool} {i j : Nat} (h : (l.setIfInBounds i true).getD j false = true) (hne : i ≠ j) : l.getD j false = true := by
  simpa only [Array.getD_eq_getD_getElem?, Array.getElem?_setIfInBounds_ne hne] using h
theorem ngd {l : Array Bool} {i : Nat} (h : l.getD i true = false) (h' : l.getD i false = true) : False := by
  rcases Nat.lt_or_ge i l.size with c | c
  · simp [Array.getD, c] at h h'
    rw [h] at h'
    cases h'
  · simp [Array.getD, Nat.not_lt.2 c] at h
theorem allL {L : Array Bool} {n : Nat} (hs : L.size = n) (h : ∀ i, i < n → L.getD i true = true) (i : Nat) (hi : i < n) : L.getD i false = true := by
  have := h i hi
  have hlt : i < L.size := by omega
  simpa [Array.getD, hlt] using this
theorem not_set {l : Array Bool} {i : Nat} (h : ¬ (l.setIfInBounds i true).getD i false = true) (hl : i < l.size) : False := h (by simp [Array.getD, hl])
theorem mon' {l : Array Bool} {i j : Nat} (h : ¬ (l.setIfInBounds i true).getD j false = true) : ¬ l.getD j false = true := fun hj => h (by
  by_cases e : i = j
  · subst e
    have hlt : i < l.size := by
      rcases Nat.lt_or_ge i l.size with c | c
      · exact c
      · simp [Array.getD, Nat.not_lt.2 c] at hj
    simp [Array.getD, hlt]
  · simpa only [Array.getD_eq_getD_getElem?, Array.getElem?_setIfInBounds_ne e] using hj)
/-- Bytes of the call's own, in blocks of S. -/
def InS (S : Nat → Prop) (N : Nat) (W : World) (v : Value) (l : Key) : Prop := OwnB N W v l ∧ ∀ b, OwnOf v b → S b
theorem InS.keep {S T : Nat → Prop} {N : Nat} {W W' : World} {v : Value} {l : Key} (h : InS S N W v l) (ht : Touch T W W') (hT : ∀ b, S b → ¬ T b) : InS S N W' v l := ⟨h.1.keep ht fun k hk hs => hT k (h.2 k hk) hs, h.2⟩
theorem InS.keepN {S : Nat → Prop} {N : Nat} {W W' : World} {v : Value} {l : Key} (h : InS S N W v l) (ht : Touch Nil W W') : InS S N W' v l := h.keep ht fun _ _ c => c
theorem InS.wide {S S' : Nat → Prop} {N : Nat} {W : World} {v : Value} {l : Key} (h : InS S N W v l) (hS : ∀ b, S b → S' b) : InS S' N W v l := ⟨h.1, fun b hb => hS b (h.2 b hb)⟩
/-- append of bytes to bytes of the call's own, at one step. -/
theorem opIn_append_bytes {F : Fence} {m base : Nat} {w : World} {o : Oper} {a : Act} {K : Act → World → Prop} {Q : Exit → Act → World → Prop} (s x : Operand)
    (ho : o.op = .call { callee := .builtin .append, args := #[s, x], argTypes := #[23, 23] }) (v xv : Value) (l : Key) (hs : a.eval s = v) (hown : OwnB base w v []) (hx : a.eval x = xv) (hbv : BV w xv l) (hl : l.length ≤ 1073741824) (hbase : base ≤ w.heap.size)
    (h : ∀ v' w', OwnB base w' v' l → Touch (OwnOf v) w w' → (∀ b, OwnOf v' b → OwnOf v b ∨ w.heap.size ≤ b) → K (a.put o.dst v') w') :
    Oper.wpIn F m Try.prog o a w K Q := by
  obtain ⟨i0, hi, hz0, hz1, hz2⟩ := info_parts infoByte
  have key : ∃ v' w', (Builtin.append_ #[23, 23] o.type #[v, xv]).run Try.prog w = .ok v' w' ∧ OwnB base w' v' l ∧ Touch (OwnOf v) w w' ∧ (∀ b, OwnOf v' b → OwnOf v b ∨ w.heap.size ≤ b) := by
    obtain ⟨ao, cap, rfl, hnone, hsl⟩ := hbv
    cases ao with
    | none =>
      obtain ⟨rfl, rfl⟩ := hnone rfl
      have hrun := run_append_owned_none (P := Try.prog) (w := w) base 23 o.type 5 i0 1 Try.underlying23 hi v 0 _ hown
      exact ⟨v, w, hrun, hown, Touch.refl _ _, fun b hb => .inl hb⟩
    | some ad =>
      obtain ⟨v', w', hr, hrow, hgrow, _, hlie⟩ := run_append_own_at (P := Try.prog) w base 23 o.type 5 i0 (.int .u8 0) 1 1 Try.underlying23 hi hz0 hz1 hz2 rfl (by decide) v 0 _ hown ad l.length cap ((ub l).map (Value.int .u8)) (by simp) (fun j u hj => by
        by_cases hjm : j < l.length
        · obtain ⟨b, off, e, hc⟩ := hsl j (by simpa using hjm)
          cases e
          rw [add_plain, hc]
          rw [List.getElem?_map, List.getElem?_eq_getElem (by simpa using hjm)] at hj
          simp [List.getD_eq_getElem?_getD, hjm] at hj ⊢
          exact hj
        · simp [hjm] at hj) (fun u hu => by
        obtain ⟨n, _, rfl⟩ := List.mem_map.1 hu
        rfl) (by unfold maxLen; omega) (by omega) hbase
      refine ⟨v', w', hr, ?_, touch_grown hgrow, fun b hb => ?_⟩
      · show w'.ownsRow base 5 1 v' l.length ((ub l).map (Value.int .u8))
        have e : (ub ([] : Key)).map (Value.int .u8) ++ (ub l).map (Value.int .u8) = (ub l).map (Value.int .u8) := by simp [ub]
        rw [e, Nat.zero_add] at hrow
        exact hrow
      · rcases hlie with e | e
        · exact .inl (by unfold OwnOf at *; rw [← e]; exact hb)
        · refine .inr (Nat.le_of_eq ?_)
          unfold OwnOf at hb
          rw [e] at hb
          exact (Option.some.inj hb).symm
  obtain ⟨v', w', hr, h1, h2, h3⟩ := key
  unfold Oper.wpIn
  refine ⟨by simp [Oper.about, ho, resolve, Target.leads, Sem.run_pure], ?_⟩
  rw [Oper.semAt_plain F _ _ (by rw [ho]; intro c hc'; cases hc')]
  simp [execOp, ho, resolve, invoke, builtin, hs, hx, hr, Result.andThen]
  exact h v' w' h1 h2 h3
/-- What holds while the copies are made: the blocks of the one are SA, those of the other SB. -/
structure D1 (N B : Nat) (key val : Key) (kv vv : Value) (L : Array Bool) (W : World) (SA SB : Nat → Prop) (v12 v13 v32 v33 v34 v35 v36 v37 v38 v39 : Value) : Prop where
  f0 : L.getD 0 false = true → ¬ L.getD 3 false = true → InS SA N W v32 []
  f1 : L.getD 1 false = true → v33 = .pointer (some ⟨B, 1, none⟩)
  f2 : L.getD 2 false = true → v34 = kv
  f3 : L.getD 3 false = true → InS SA N W v35 key
  f4 : L.getD 4 false = true → ¬ L.getD 7 false = true → InS SB N W v36 []
  f5 : L.getD 5 false = true → v37 = .pointer (some ⟨B, 2, none⟩)
  f6 : L.getD 6 false = true → v38 = vv
  f7 : L.getD 7 false = true → InS SB N W v39 val
  f8 : L.getD 8 false = true → v12 = v35 ∧ L.getD 3 false = true
  f9 : L.getD 9 false = true → v13 = v39 ∧ L.getD 7 false = true
  t : N ≤ W.heap.size
  sa : ∀ b, SA b → N ≤ b ∧ b < W.heap.size
  sb : ∀ b, SB b → N ≤ b ∧ b < W.heap.size
  d : ∀ b, SA b → ¬ SB b

end Go.Proofs.Ytabjpejgnfeegaa

/- Bytes that were handed out are spoiled. -/
namespace Go.Proofs.Ytabjpejgnfeegaa
open Go.ChangeShapes Go.WideShapes Go.ChangeAt Go.RowKit Go.Deep

/-- Nothing but bytes in blocks from lo on has been written. -/
structure Spl (lo : Nat) (w w' : World) : Prop where
  os : w'.os = w.os
  tape : w'.tape = w.tape
  output : w'.output = w.output
  size : w.heap.size ≤ w'.heap.size
  blk : ∀ b, b < w.heap.size → w'.heap[b]? = w.heap[b]? ∨ (lo ≤ b ∧ ∃ cs cs', w.heap[b]? = some (.cells cs 5 (0, 0)) ∧ w'.heap[b]? = some (.cells cs' 5 (0, 0)) ∧ ∀ (i m : Nat), m < 256 → cs[i]? = some (.int .u8 (m : Int)) → ∃ m' : Nat, m' < 256 ∧ cs'[i]? = some (.int .u8 (m' : Int)))
theorem Spl.refl (lo : Nat) (w : World) : Spl lo w w := ⟨rfl, rfl, rfl, Nat.le_refl _, fun _ _ => .inl rfl⟩
theorem Spl.trans {lo : Nat} {w w' w'' : World} (h : Spl lo w w') (k : Spl lo w' w'') : Spl lo w w'' := by
  refine ⟨k.os.trans h.os, k.tape.trans h.tape, k.output.trans h.output, Nat.le_trans h.size k.size, fun b hb => ?_⟩
  rcases h.blk b hb with e | ⟨hl, cs, cs', e1, e2, e3⟩ <;> rcases k.blk b (Nat.lt_of_lt_of_le hb h.size) with f | ⟨hl', ds, ds', f1, f2, f3⟩
  · exact .inl (f.trans e)
  · exact .inr ⟨hl', ds, ds', e ▸ f1, f2, f3⟩
  · exact .inr ⟨hl, cs, cs', e1, f.trans e2, e3⟩
  · rw [e2] at f1
    injection f1 with f1
    injection f1 with f1 _ _
    subst f1
    refine .inr ⟨hl, cs, ds', e1, f2, fun i m hm h => ?_⟩
    obtain ⟨m', hm', h'⟩ := e3 i m hm h
    exact f3 i m' hm' h'
theorem Spl.touch {lo : Nat} {w w' : World} (h : Spl lo w w') : Touch (From lo) w w' := ⟨h.os, h.tape, h.output, h.size, fun b hb hn => (h.blk b hb).resolve_right fun c => hn c.1⟩
theorem Spl.of_nil {lo : Nat} {w w' : World} (h : Touch Nil w w') : Spl lo w w' := ⟨h.os, h.tape, h.output, h.size, fun b hb => .inl (h.same b hb fun c => c)⟩
theorem Spl.mono {lo lo' : Nat} {w w' : World} (h : Spl lo w w') (hl : lo' ≤ lo) : Spl lo' w w' := ⟨h.os, h.tape, h.output, h.size, fun b hb => (h.blk b hb).imp (fun h => h) fun ⟨h1, h2⟩ => ⟨Nat.le_trans hl h1, h2⟩⟩
/-- Blocks that hold no bytes stay. -/
theorem Spl.other {lo : Nat} {w w' : World} (h : Spl lo w w') {b : Nat} (hb : b < w.heap.size) (hn : ∀ cs, w.heap[b]? ≠ some (.cells cs 5 (0, 0))) : w'.heap[b]? = w.heap[b]? :=
  (h.blk b hb).resolve_right fun ⟨_, cs, _, e, _⟩ => hn cs e
/-- Some bytes that may be written. -/
def S8 (lo : Nat) (w : World) (x : Value) : Prop :=
  ∃ ao n cap, x = .slice ao n cap ∧ n ≤ 1073741824 ∧ (0 < n → ∃ b off cs, ao = some ⟨b, off, none⟩ ∧ lo ≤ b ∧ w.heap[b]? = some (.cells cs 5 (0, 0)) ∧ ∀ i, i < n → ∃ m : Nat, m < 256 ∧ cs[off + i]? = some (.int .u8 (m : Int)))
theorem S8.spl {lo lo' : Nat} {w w' : World} {x : Value} (h : S8 lo w x) (hs : Spl lo' w w') : S8 lo w' x := by
  obtain ⟨ao, n, cap, rfl, hn1, h⟩ := h
  refine ⟨ao, n, cap, rfl, hn1, fun hn => ?_⟩
  obtain ⟨b, off, cs, rfl, hl, hb, hc⟩ := h hn
  rcases hs.blk b (Array.getElem?_eq_some_iff.1 hb).1 with e | ⟨_, ds, ds', e1, e2, e3⟩
  · exact ⟨b, off, cs, rfl, hl, e.trans hb, hc⟩
  · rw [hb] at e1
    injection e1 with e1
    injection e1 with e1 _ _
    subst e1
    exact ⟨b, off, ds', rfl, hl, e2, fun i hi => by obtain ⟨m, hm, h⟩ := hc i hi; exact e3 _ m hm h⟩
theorem S8.form {lo : Nat} {w : World} {x : Value} (h : S8 lo w x) : ∃ ao n cap, x = .slice ao n cap := by obtain ⟨ao, n, cap, e, _⟩ := h; exact ⟨_, _, _, e⟩
theorem S8.mono {lo lo' : Nat} {w : World} {x : Value} (h : S8 lo w x) (hl : lo' ≤ lo) : S8 lo' w x := by
  obtain ⟨ao, n, cap, e, hn1, h⟩ := h
  exact ⟨ao, n, cap, e, hn1, fun hn => by obtain ⟨b, off, cs, e, h1, h2⟩ := h hn; exact ⟨b, off, cs, e, Nat.le_trans hl h1, h2⟩⟩
theorem s8_of {lo : Nat} {w : World} {x : Value} {l : Key} (h : BV w x l) (hm : l.length ≤ 1073741824) (hf : l ≠ [] → ∀ b, OwnOf x b → lo ≤ b ∧ Fr w b) : S8 lo w x := by
  obtain ⟨ao, cap, rfl, h1, h2⟩ := h
  refine ⟨ao, _, cap, rfl, hm, fun hn => ?_⟩
  obtain ⟨b, off, rfl, _⟩ := h2 0 (by simpa using hn)
  obtain ⟨hl, cs, hb⟩ := hf (fun e => by rw [e] at hn; simp at hn) b rfl
  refine ⟨b, off, cs, rfl, hl, hb, fun i hi => ?_⟩
  obtain ⟨b', off', e, hc⟩ := h2 i (by simpa using hi)
  cases e
  rw [ub_getD _ _ hi] at hc
  exact ⟨_, (l.getD i 0).toNat_lt, by simpa [World.cell?, hb] using hc⟩
theorem OwnB.s8 {lo base : Nat} {w : World} {x : Value} {l : Key} (h : OwnB base w x l) (hl : lo ≤ base) (hm : l.length ≤ 1073741824) : S8 lo w x := s8_of h.bv hm fun _ b hb => ⟨Nat.le_trans hl (h.block b hb).1, h.fr hb⟩
theorem FV.s8 {lo : Nat} {w : World} {x : Value} {l : Key} (h : FV w x (.o lo l)) (hm : l.length ≤ 1073741824) : S8 lo w x := s8_of h.1 hm h.2
/-- A byte is written. -/
theorem Spl.set {lo : Nat} {w : World} {b o : Nat} {cs : Array Value} (hl : lo ≤ b) (hb : w.heap[b]? = some (.cells cs 5 (0, 0))) {z : Int} (h0 : 0 ≤ z) (h1 : z < 256) : Spl lo w (w.setCell ⟨b, o, none⟩ (.int .u8 z)) := by
  have hto := (Touch.refl (Just b) w).setCell ⟨b, o, none⟩ (.int .u8 z) (fun _ => rfl)
  refine ⟨hto.os, hto.tape, hto.output, hto.size, fun c hc => ?_⟩
  by_cases e : c = b
  · subst e
    refine .inr ⟨hl, cs, cs.setIfInBounds o (.int .u8 z), hb, by simp [World.setCell, Array.getElem?_modify, hb], fun i m hm h => ?_⟩
    rw [Array.getElem?_setIfInBounds]
    by_cases e : o = i
    · subst e
      have hi : o < cs.size := (Array.getElem?_eq_some_iff.1 h).1
      rw [if_pos rfl, if_pos hi]
      exact ⟨z.toNat, by omega, by rw [Int.toNat_of_nonneg h0]⟩
    · rw [if_neg e]
      exact ⟨m, hm, h⟩
  · exact .inl (hto.same c hc e)
def SpoilP (lo : Nat) (x : Value) (w : World) (e : Ending) (w' : World) : Prop := e = .returned (.tuple #[]) ∧ Spl lo w w' ∧ Touch (OwnOf x) w w'
theorem S8.keep {lo : Nat} {S : Nat → Prop} {w w' : World} {x : Value} (h : S8 lo w x) (ht : Touch S w w') (hS : ∀ b, S b → ∀ cs, w.heap[b]? ≠ some (.cells cs 5 (0, 0))) : S8 lo w' x := by
  obtain ⟨ao, n, cap, rfl, hn1, h⟩ := h
  refine ⟨ao, n, cap, rfl, hn1, fun hn => ?_⟩
  obtain ⟨b, off, cs, rfl, hl, hb, hc⟩ := h hn
  exact ⟨b, off, cs, rfl, hl, (ht.same b (Array.getElem?_eq_some_iff.1 hb).1 fun hs => hS b hs cs hb).trans hb, hc⟩
theorem S8.nil (lo : Nat) (w : World) : S8 lo w (.slice none 0 0) := ⟨none, 0, 0, rfl, by omega, fun h => by omega⟩
set_option maxRecDepth 100000 in
set_option maxHeartbeats 1000000 in
theorem spoilS_any {lo : Nat} {w : World} {ao : Option Addr} {n cap : Nat} (h : S8 lo w (.slice ao n cap)) (mk : Nat) (hmk : mk ≤ 255) :
    Calls Try.prog 32 #[.slice ao n cap, .int .u8 (mk : Int)] w (SpoilP lo (.slice ao n cap) w) := by
  have HS := Lib.hid h
  have hn : n ≤ 1073741824 := by obtain ⟨_, _, _, e, h1, _⟩ := h; cases e; exact h1
  clear h
  go_enter Try.func32, Try.ntmps32
  go_wp2_with fail
  go_loopw [4] (fun i wr => ∃ y : Nat, y ≤ n ∧ i = .int .i64 (y : Int) ∧ Hid (Spl lo w wr ∧ Touch (OwnOf (.slice ao n cap)) w wr)) (fun i _ => n - (intOf i).toNat)
  case atStart => exact ⟨0, Nat.zero_le _, rfl, Lib.hid ⟨Spl.refl _ _, Touch.refl _ _⟩⟩
  obtain ⟨y, hy, rfl, HW⟩ := hrel
  by_cases hlt : y < n
  · obtain ⟨_, _, _, e, _, hs⟩ := HS.out.spl HW.out.1
    cases e
    obtain ⟨b, off, cs, rfl, hl, hb, hc⟩ := hs (by omega)
    obtain ⟨m, hm, hcm⟩ := hc y hlt
    have c0 : wr.cell? ⟨b, off + y, none⟩ = some (.int .u8 (m : Int)) := by simp [World.cell?, hb, hcm]
    have f0 : wr.frozen? ⟨b, off + y, none⟩ = false := by simp [World.frozen?, hb]
    have HSET := Lib.hid (fun (z : Int) (h0 : 0 ≤ z) (h1 : z < 256) => Spl.set (lo := lo) (w := wr) (b := b) (o := off + y) hl hb h0 h1)
    obtain ⟨Y, hxor, _⟩ := xor_u8 (UInt8.ofNat m) mk hmk
    rw [show ((UInt8.ofNat m).toNat : Nat) = m from by simp; omega] at hxor
    have hY := Y.toNat_lt
    generalize Y.toNat = yy at *
    have i1 : (y : Int) < (n : Int) := by omega
    have i2 : (0 : Int) ≤ (y : Int) := by omega
    clear hs hb hc hcm
    go_wp2_with fail
    go_roundw
    case rel => exact ⟨y + 1, by omega, by go_num, Lib.hid ⟨HW.out.1.trans (HSET.out _ (by omega) (by omega)), HW.out.2.setCell _ _ fun _ => rfl⟩⟩
    case measure => simp [intOf]; omega
  · obtain rfl : y = n := by omega
    go_wp2_with fail
    go_end0
    exact ⟨rfl, HW.out.1, HW.out.2⟩
end Go.Proofs.Ytabjpejgnfeegaa

/- SlotsPlays: the table and the reference's list side by side. -/
namespace Go.Proofs.Ytabjpejgnfeegaa
open Go.ChangeShapes Go.WideShapes Go.ChangeAt Go.RowKit Go.Deep

/-- A table (in blocks of R) and a list (in blocks of Z) with the same pairs. -/
structure StR (R Z : Nat → Prop) (B0 : Nat) (w : World) (t : Value) (seed : Int) (x : Value) (n C : Nat) (T : Cells) (L : KVs) : Prop where
  tab : Tab R w t seed n C T
  lz : LZ Z w x L
  rb : ∀ b, R b → B0 ≤ b
  zr : ∀ b, Z b → ¬ R b
  inn : ∀ x, InT C T x ↔ x ∈ L
  dist : Dist L
  okay : Okay L
def St (B0 m : Nat) (w : World) (t : Value) (seed : Int) (x : Value) : Prop := ∃ R Z n C T L, StR R Z B0 w t seed x n C T L ∧ L.length ≤ m
section
variable {R Z R' Z' : Nat → Prop} {B0 : Nat} {w w3 w4 w5 : World} {t t' x y : Value} {seed : Int} {n C n' C' : Nat} {T T' : Cells} {L L' : KVs}
theorem StR.keep {S : Nat → Prop} (h : StR R Z B0 w t seed x n C T L) (ht : Touch S w w3) (hS : ∀ b, S b → ¬ R b ∧ ¬ Z b) : StR R Z B0 w3 t seed x n C T L :=
  ⟨h.tab.keep ht fun b hr hs => (hS b hs).1 hr, h.lz.keep ht fun b hz hs => (hS b hs).2 hz, h.rb, h.zr, h.inn, h.dist, h.okay⟩
theorem StR.keepN (h : StR R Z B0 w t seed x n C T L) (ht : Touch Nil w w3) : StR R Z B0 w3 t seed x n C T L := h.keep ht fun _ c => c.elim
/-- What is new since is not theirs. -/
theorem StR.far (h : StR R Z B0 w t seed x n C T L) {b : Nat} (hb : w.heap.size ≤ b) : ¬ R b ∧ ¬ Z b := ⟨fun hr => by have := h.tab.low b hr; omega, fun hz => by have := h.lz.low b hz; omega⟩
theorem StR.next (h : StR R Z B0 w t seed x n C T L) (hB : B0 ≤ w.heap.size) (h3 : w.heap.size ≤ w3.heap.size) (h34 : w3.heap.size ≤ w4.heap.size) (hz : LZ Z' w4 y L') (hZ : ∀ b, Z' b → Z b ∨ w3.heap.size ≤ b) (hT : Tab R' w5 t' seed n' C' T') (ht : Touch R w4 w5) (hR : ∀ b, R' b → R b ∨ w4.heap.size ≤ b)
    (hin : ∀ x, InT C' T' x ↔ x ∈ L') (hd : Dist L') (ho : Okay L') : StR R' Z' B0 w5 t' seed y n' C' T' L' := by
  have hlow := h.tab.low
  have hzr : ∀ b, Z' b → ¬ R b := fun b hb hr => by
    rcases hZ b hb with c | c
    · exact h.zr b c hr
    · have := hlow b hr; omega
  refine ⟨hT, hz.keep ht hzr, fun b hb => ?_, fun b hb hr => ?_, hin, hd, ho⟩
  · rcases hR b hb with c | c
    · exact h.rb b c
    · omega
  · rcases hR b hr with c | c
    · exact hzr b hb c
    · have := hz.low b hb; omega
theorem StR.len (h : StR R Z B0 w t seed x n C T L) (hl : L.length ≤ 1000) : n = L.length ∧ C = cellsN L.length := by
  obtain ⟨a, b, _⟩ := list_good h.tab.good h.inn h.dist (by omega)
  exact ⟨a, b⟩
end
/-- What the law's call hands back. -/
def DoesP (B0 m : Nat) (t : Value) (seed : Int) (w : World) (e : Ending) (w' : World) : Prop := ∃ ao n cap, e = .returned (.tuple #[.slice ao n cap, .bool true]) ∧ St B0 m w' t seed (.slice ao n cap) ∧ Touch (From B0) w w'
end Go.Proofs.Ytabjpejgnfeegaa
