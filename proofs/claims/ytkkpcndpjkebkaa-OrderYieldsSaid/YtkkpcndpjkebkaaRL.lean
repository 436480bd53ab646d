import Derived.Test.YtkkpcndpjkebkaaCheck
import Derived.Test.YtkkpcndpjkebkaaTreap
/- Lists of structs in memory: their fields are bytes and numbers. -/
namespace Go.Proofs.Ytkkpcndpjkebkaa
open Go.ChangeShapes Go.WideShapes Go.ChangeAt Go.RowKit Go.Deep

/-- What a field holds. -/
inductive Fv where
  | b (l : Key) : Fv
  | u (n : Nat) : Fv
  | i (n : Int) : Fv
  | f (c : Bool) : Fv
  | o (lo : Nat) (l : Key) : Fv
/-- The bytes of a field that holds some. -/
def Fv.key : Fv → Option Key
  | .b l => some l
  | .o _ l => some l
  | .u _ => none
  | .i _ => none
  | .f _ => none
/-- A block of bytes that may be written. -/
def Fr (w : World) (b : Nat) : Prop := ∃ cs, w.heap[b]? = some (.cells cs 5 (0, 0))
theorem Fr.keep {S : Nat → Prop} {w w' : World} {b : Nat} (h : Fr w b) (ht : Touch S w w') (hS : ¬ S b) : Fr w' b := by
  obtain ⟨cs, e⟩ := h
  exact ⟨cs, (ht.same b (Array.getElem?_eq_some_iff.1 e).1 hS).trans e⟩
theorem OwnB.fr {base : Nat} {w : World} {v : Value} {l : Key} (h : OwnB base w v l) {k : Nat} (hk : OwnOf v k) : Fr w k := by
  obtain ⟨hlen, ⟨rfl, hn⟩ | ⟨g, cap, cur, rfl, hb', hg, _⟩⟩ := h
  · cases hk
  · obtain rfl : k = g := by simpa [OwnOf, Value.ownBlock] using hk
    exact ⟨cur, hg⟩
def FV (w : World) (x : Value) : Fv → Prop
  | .b l => BV w x l
  | .u n => x = .int .u64 (n : Int)
  | .i n => x = .int .i64 n
  | .f c => x = .bool c
  | .o lo l => BV w x l ∧ (l ≠ [] → ∀ b, OwnOf x b → lo ≤ b ∧ Fr w b)
theorem FV.bv {w : World} {x : Value} {f : Fv} (h : FV w x f) {l : Key} (e : f.key = some l) : BV w x l := by
  cases f with
  | b m => cases e; exact h
  | o lo m => cases e; exact h.1
  | u n => cases e
  | i n => cases e
  | f c => cases e
theorem FV.keepN {w w' : World} {x : Value} {f : Fv} (h : FV w x f) (ht : Touch Nil w w') : FV w' x f := by
  cases f with
  | b l => exact BV.keepN h ht
  | u n => exact h
  | i n => exact h
  | f c => exact h
  | o lo l => exact ⟨BV.keepN h.1 ht, fun hl b ho => ⟨(h.2 hl b ho).1, (h.2 hl b ho).2.keep ht fun c => c⟩⟩
theorem FV.one {w : World} {x : Value} {f : Fv} (h : FV w x f) : x.oneCell' = true := by
  cases f with
  | b l => obtain ⟨_, _, rfl, _⟩ := h; rfl
  | u n => rw [show x = _ from h]; rfl
  | i n => rw [show x = _ from h]; rfl
  | f c => rw [show x = _ from h]; rfl
  | o lo l => obtain ⟨⟨_, _, rfl, _⟩, _⟩ := h; rfl
/-- The same; apart from rows that lie from base on. -/
def KF (base : Nat) (w : World) (x : Value) (f : Fv) : Prop := FV w x f ∧ ∀ l, f.key = some l → l ≠ [] → ∀ b, OwnOf x b → b < base ∨ ∃ cs z, w.heap[b]? = some (.cells cs 5 z)
theorem BV.keepE {S : Nat → Prop} {w w' : World} {x : Value} {l : Key} (h : BV w x l) (ht : Touch S w w') (hS : l ≠ [] → ∀ b, OwnOf x b → ¬ S b) : BV w' x l := by
  obtain ⟨ao, cap, rfl, h1, h2⟩ := h
  refine ⟨ao, cap, rfl, h1, h2.keep ht fun a e hp => ?_⟩
  subst e
  exact hS (fun e => by rw [e] at hp; simp at hp) a.block rfl
theorem BV.low {w : World} {x : Value} {l : Key} (h : BV w x l) (hl : l ≠ []) : ∀ b, OwnOf x b → b < w.heap.size := by
  obtain ⟨ao, cap, rfl, h1, h2⟩ := h
  intro b hb
  obtain ⟨b', off, e, hc⟩ := h2 0 (by have := List.length_pos_iff.2 hl; simpa using this)
  subst e
  obtain rfl : b = b' := by simpa [OwnOf, Value.ownBlock] using hb
  exact World.block_lt_of_cell? w _ hc
theorem KF.of {base : Nat} {w : World} {x : Value} {f : Fv} (h : FV w x f) (hb : w.heap.size ≤ base) : KF base w x f :=
  ⟨h, fun l e hl b ho => .inl (Nat.lt_of_lt_of_le (BV.low (h.bv e) hl b ho) hb)⟩
theorem KF.ofOwn {base base' : Nat} {w : World} {x : Value} {l : Key} (h : OwnB base' w x l) : KF base w x (.b l) := ⟨h.bv, fun _ _ _ _ ho => .inr (h.elem ho)⟩
theorem KF.ofOwnG {lo base base' : Nat} {w : World} {x : Value} {l : Key} (h : OwnB base' w x l) (hlo : lo ≤ base') : KF base w x (.o lo l) := ⟨⟨h.bv, fun _ b ho => ⟨Nat.le_trans hlo (h.block b ho).1, h.fr ho⟩⟩, fun _ _ _ _ ho => .inr (h.elem ho)⟩
theorem KF.keepN {base : Nat} {w w' : World} {x : Value} {f : Fv} (h : KF base w x f) (ht : Touch Nil w w') : KF base w' x f :=
  ⟨h.1.keepN ht, fun l e hl b ho => (h.2 l e hl b ho).imp (fun h => h) fun ⟨cs, z, hh⟩ => ⟨cs, z, (ht.same b (Array.getElem?_eq_some_iff.1 hh).1 fun c => c).trans hh⟩⟩
theorem KF.base {base base' : Nat} {w : World} {x : Value} {f : Fv} (h : KF base w x f) (hb : base ≤ base') : KF base' w x f := ⟨h.1, fun l e hl b ho => (h.2 l e hl b ho).imp (fun h => by omega) fun h => h⟩
/-- A row grows beside it. -/
theorem KF.row {base T k n : Nat} {w w' : World} {x s : Value} {f : Fv} {xs : List Value} (h : KF base w x f) (hs : w.ownsRow base T k s n xs) (hT : T ≠ 5) (ht : Touch (OwnOf s) w w') : KF base w' x f := by
  have key : ∀ b, OwnOf s b → base ≤ b ∧ ∃ cur, w.heap[b]? = some (.cells cur T (0, 0)) := fun b hb => by
    obtain ⟨_, ⟨rfl, _⟩ | ⟨g, cap, cur, rfl, hb', hg, _⟩⟩ := hs
    · cases hb
    · obtain rfl : b = g := by simpa [OwnOf, Value.ownBlock] using hb
      exact ⟨hb', cur, hg⟩
  have far : ∀ l, f.key = some l → l ≠ [] → ∀ b, OwnOf x b → ¬ OwnOf s b := fun l e hl b ho hs => by
    obtain ⟨h1, cur, h2⟩ := key b hs
    rcases h.2 l e hl b ho with c | ⟨cs, z, c⟩
    · omega
    · rw [h2] at c
      injection c with c
      injection c with _ c
      exact hT c
  refine ⟨?_, fun l e hl b ho => ?_⟩
  · cases f with
    | b l => exact BV.keepE h.1 ht (far l rfl)
    | u n => exact h.1
    | i n => exact h.1
    | f c => exact h.1
    | o lo l => exact ⟨BV.keepE h.1.1 ht (far l rfl), fun hl b ho => ⟨(h.1.2 hl b ho).1, (h.1.2 hl b ho).2.keep ht (far l rfl hl b ho)⟩⟩
  · rcases h.2 l e hl b ho with c | ⟨cs, z, c⟩
    · exact .inl c
    · exact .inr ⟨cs, z, (ht.same b (Array.getElem?_eq_some_iff.1 c).1 (far l e hl b ho)).trans c⟩

section
variable {α : Type} {k T ST by' base : Nat} {fld : α → Nat → Fv} {w w' : World}
/-- A list of structs of k cells. -/
def RL (k : Nat) (fld : α → Nat → Fv) (w : World) (x : Value) (L : List α) : Prop :=
  ∃ ao cap v, x = .slice ao L.length cap ∧ L.length ≤ cap ∧ (ao = none → L.length = 0 ∧ cap = 0) ∧ Items w ao L.length k v ∧ ∀ i a, L[i]? = some a → ∀ c, c < k → FV w (v i c) (fld a c)
/-- The same in new memory, that may grow. -/
def OL (T base k : Nat) (fld : α → Nat → Fv) (w : World) (x : Value) (L : List α) : Prop :=
  ∃ V, w.ownsRow base T k x L.length (flat k V L.length) ∧ ∀ i a, L[i]? = some a → ∀ c, c < k → KF base w (V i c) (fld a c)
theorem RL.keepN {x : Value} {L : List α} (h : RL k fld w x L) (ht : Touch Nil w w') : RL k fld w' x L := by
  obtain ⟨ao, cap, v, e, h1, h2, h3, h4⟩ := h
  exact ⟨ao, cap, v, e, h1, h2, h3.keepN ht, fun i a ha c hc => (h4 i a ha c hc).keepN ht⟩
theorem OL.keepN {x : Value} {L : List α} (h : OL T base k fld w x L) (ht : Touch Nil w w') : OL T base k fld w' x L := by
  obtain ⟨V, h1, h2⟩ := h
  exact ⟨V, own_keepN h1 ht, fun i a ha c hc => (h2 i a ha c hc).keepN ht⟩
theorem RL.nil : RL k fld w (.slice none 0 0) ([] : List α) := ⟨none, 0, fun _ _ => .slice none 0 0, rfl, Nat.le_refl _, fun _ => ⟨rfl, rfl⟩, fun h => absurd h (by simp), fun i a h => by simp at h⟩
theorem OL.nil : OL T base k fld w (.slice none 0 0) ([] : List α) := ⟨fun _ _ => .slice none 0 0, ⟨by simp [flat], .inl ⟨rfl, rfl⟩⟩, fun i a h => by simp at h⟩
theorem OL.rl {x : Value} {L : List α} (h : OL T base k fld w x L) : RL k fld w x L := by
  obtain ⟨V, h1, h2⟩ := h
  have h1' := h1
  obtain ⟨hl, ⟨rfl, hn⟩ | ⟨g, cap, cur, rfl, hb, hg, hc, hm, hs, ht⟩⟩ := h1
  · refine ⟨none, 0, V, by rw [hn], by rw [hn]; exact Nat.le_refl _, fun _ => ⟨hn, rfl⟩, fun h => by omega, fun i a ha c hc => (h2 i a ha c hc).1⟩
  · refine ⟨_, cap, V, rfl, hc, (fun e => by cases e), fun h0 => ?_, fun i a ha c hc => (h2 i a ha c hc).1⟩
    obtain ⟨ao', cap', e, hcell⟩ := own_row h1'
    cases e
    obtain ⟨g', e, _, hg', hcell⟩ := hcell h0
    cases e
    refine ⟨g, 0, rfl, hg', fun i hi c hc => ?_⟩
    have hlt : i * k + c < L.length * k := by
      have : (i + 1) * k ≤ L.length * k := Nat.mul_le_mul_right k hi
      rw [Nat.succ_mul] at this; omega
    rw [show 0 + i * k + c = i * k + c by omega, hcell _ hlt]
    exact flat_get k V _ i c hi hc
theorem OL.base' {x : Value} {L : List α} (h : OL T base k fld w x L) : ∀ b, OwnOf x b → base ≤ b := by obtain ⟨V, h1, _⟩ := h; exact own_base h1
theorem OL.form {x : Value} {L : List α} (h : OL T base k fld w x L) : ∃ ao cap, x = .slice ao L.length cap := by obtain ⟨ao, cap, v, e, _⟩ := h.rl; exact ⟨ao, cap, e⟩
theorem RL.form {x : Value} {L : List α} (h : RL k fld w x L) : ∃ ao cap, x = .slice ao L.length cap := by obtain ⟨ao, cap, v, e, _⟩ := h; exact ⟨ao, cap, e⟩
theorem OL.form3 {x : Value} {L : List α} (h : OL T base k fld w x L) : ∃ ao n cap, x = .slice ao n cap := by obtain ⟨ao, cap, e⟩ := h.form; exact ⟨ao, _, cap, e⟩
theorem RL.form3 {x : Value} {L : List α} (h : RL k fld w x L) : ∃ ao n cap, x = .slice ao n cap := by obtain ⟨ao, cap, e⟩ := h.form; exact ⟨ao, _, cap, e⟩
/-- An element: where its cells lie, and what they hold. -/
theorem RL.cell {x : Value} {L : List α} (h : RL k fld w x L) {i : Nat} {a : α} (ha : L[i]? = some a) : ∃ b off cap, x = .slice (some ⟨b, off, none⟩) L.length cap ∧ b < w.heap.size ∧ ∃ f : Nat → Value, (∀ c, c < k → w.cell? ⟨b, off + i * k + c, none⟩ = some (f c)) ∧ ∀ c, c < k → FV w (f c) (fld a c) := by
  obtain ⟨ao, cap, v, rfl, h1, h2, h3, h4⟩ := h
  have hi : i < L.length := (List.getElem?_eq_some_iff.1 ha).1
  obtain ⟨b, off, rfl, hb, hc⟩ := h3 (by omega)
  exact ⟨b, off, cap, rfl, hb, v i, fun c hcc => hc i hi c hcc, fun c hcc => h4 i a ha c hcc⟩

theorem flat_app (k : Nat) (f g : Nat → Nat → Value) (n : Nat) : ∀ m, flat k f n ++ flat k g m = flat k (fun i => if i < n then f i else g (i - n)) (n + m)
  | 0 => by
    rw [Nat.add_zero]
    simp only [flat, List.append_nil]
    exact flat_congr k n fun i hi c _ => by rw [if_pos hi]
  | m + 1 => by
    rw [← Nat.add_assoc]
    simp only [flat]
    rw [← List.append_assoc, flat_app k f g n m, if_neg (by omega), show n + m - n = m by omega]
theorem flat_mem (k : Nat) (f : Nat → Nat → Value) {p : Value → Prop} : ∀ n, (∀ i, i < n → ∀ c, c < k → p (f i c)) → ∀ u ∈ flat k f n, p u
  | 0, _, u, hu => by simp [flat] at hu
  | n + 1, h, u, hu => by
    simp only [flat, List.mem_append, List.mem_map, List.mem_range] at hu
    rcases hu with hu | ⟨c, hc, rfl⟩
    · exact flat_mem k f n (fun i hi => h i (by omega)) u hu
    · exact h n (by omega) c hc
/-- A row behind another one. -/
theorem OL.app {x : Value} {s : Value} {L M : List α} {V v : Nat → Nat → Value} (hs : w.ownsRow base T k s L.length (flat k V L.length)) (hT : T ≠ 5) (hV : ∀ i a, L[i]? = some a → ∀ c, c < k → KF base w (V i c) (fld a c)) (hv : ∀ i a, M[i]? = some a → ∀ c, c < k → KF base w (v i c) (fld a c))
    (ht : Touch (OwnOf s) w w') (ho : w'.ownsRow base T k x (L.length + M.length) (flat k V L.length ++ flat k v M.length)) : OL T base k fld w' x (L ++ M) := by
  rw [flat_app] at ho
  refine ⟨_, by rw [List.length_append]; exact ho, fun i a ha c hc => ?_⟩
  by_cases h : i < L.length
  · rw [List.getElem?_append_left h] at ha
    simp only [if_pos h]
    exact (hV i a ha c hc).row hs hT ht
  · rw [List.getElem?_append_right (by omega)] at ha
    simp only [if_neg h]
    exact (hv _ a ha c hc).row hs hT ht

/-- append of a list to a list in new memory. -/
theorem wpList_append_rl {ops : Array Oper} {rest : List Oper} {o : Oper} {a : Act} {Q : Exit → Act → World → Prop} (hgd : o.guard = none) (s x : Operand)
    (ho : o.op = .call { callee := .builtin .append, args := #[s, x], argTypes := #[ST, ST] }) (z : Value) (hst : Try.prog.underlying ST = some (.slice T)) (hinfo : (Try.prog.info? T).map (fun i => (i.zero, i.size, i.bytes)) = some (some z, k, by'))
    (hzs : z.cells.size = k) (hk : 0 < k) (hby : by' ≤ 1000) (hT : T ≠ 5) (v xv : Value) {L M : List α} (hs : a.eval s = v) (hown : OL T base k fld w v L) (hx : a.eval x = xv) (w0 : World) (hr0 : RL k fld w0 xv M) (ht0 : Touch Nil w0 w) (hb0 : w0.heap.size ≤ base) (hlen : L.length + M.length ≤ 1048576) (hbase : base ≤ w.heap.size)
    (h : ∀ v' w', Hid (OL T base k fld w' v' (L ++ M)) → Hid (Touch (OwnOf v) w w') → wpList Try.prog ops Q rest (a.put o.dst v') w') : wpList Try.prog ops Q (o :: rest) a w := by
  obtain ⟨i0, hi, hz0, hz1, hz2⟩ := info_parts hinfo
  obtain ⟨V, hrow, hV⟩ := hown
  obtain ⟨ao, cap, f, rfl, hcap, hnone, hit, hf⟩ := hr0
  have hit := hit.keepN ht0
  have hfk : ∀ i a, M[i]? = some a → ∀ c, c < k → KF base w (f i c) (fld a c) := fun i a ha c hc => (KF.of (hf i a ha c hc) hb0).keepN ht0
  cases ao with
  | none =>
    obtain ⟨h0, rfl⟩ := hnone rfl
    have : M = [] := List.eq_nil_of_length_eq_zero h0
    subst this
    refine wpList_append_own_none hgd s x ST ho base T i0 k hst hi v L.length _ hs hrow hx ?_
    exact h v w (show _ from by rw [List.append_nil]; exact ⟨V, hrow, hV⟩) (show _ from Touch.refl _ _)
  | some ad =>
    refine wpList_append_own w hgd s x ST ho base T i0 z k by' hst hi hz0 hz1 hz2 hzs hk v L.length _ hs hrow ad M.length cap (flat k f M.length) hx (flat_len k f _) ?_ ?_ (by unfold maxLen; omega) ?_ hbase ?_
    · intro j u hj
      have hj' : j < M.length * k := by
        have := (List.getElem?_eq_some_iff.1 hj).1
        rw [flat_len] at this; exact this
      have hM : 0 < M.length := by
        rcases Nat.eq_zero_or_pos M.length with e | e
        · rw [e] at hj'; omega
        · exact e
      obtain ⟨b, off, e, hb, hc⟩ := hit hM
      cases e
      have hq : j / k < M.length := by rw [Nat.div_lt_iff_lt_mul hk]; exact hj'
      have hr : j % k < k := Nat.mod_lt _ hk
      have hjk : j / k * k + j % k = j := by rw [Nat.mul_comm]; exact Nat.div_add_mod j k
      have h1 := hc (j / k) hq (j % k) hr
      rw [show off + j / k * k + j % k = off + j by omega] at h1
      rw [add_plain, h1]
      have h2 := flat_get k f M.length (j / k) (j % k) hq hr
      rw [hjk, hj] at h2
      exact h2.symm
    · refine flat_mem k f M.length fun i hi c hc => ?_
      exact (hfk i M[i] (List.getElem?_eq_getElem hi) c hc).1.one
    · have : (L.length + M.length) * by' ≤ 1048576 * 1000 := Nat.mul_le_mul hlen hby
      omega
    · intro v' w' hown' hgrow _
      exact h v' w' (show _ from OL.app hrow hT hV hfk (touch_grown hgrow) hown') (show _ from touch_grown hgrow)

/-- append of one element. -/
theorem wpList_append_el {ops : Array Oper} {rest : List Oper} {o : Oper} {a : Act} {Q : Exit → Act → World → Prop} (hgd : o.guard = none) (s x : Operand)
    (ho : o.op = .call { callee := .builtin .append, args := #[s, x], argTypes := #[ST, ST] }) (z : Value) (hst : Try.prog.underlying ST = some (.slice T)) (hinfo : (Try.prog.info? T).map (fun i => (i.zero, i.size, i.bytes)) = some (some z, k, by'))
    (hzs : z.cells.size = k) (hk : 0 < k) (hby : by' ≤ 1000) (hT : T ≠ 5) (v : Value) {L : List α} (hs : a.eval s = v) (hown : OL T base k fld w v L) (b c : Nat) (hx : a.eval x = .slice (some ⟨b, 0, none⟩) 1 c) (us : List Value) (q : α) (hus : us.length = k) (hb : ∀ j u, us[j]? = some u → w.cell? ⟨b, j, none⟩ = some u ∧ KF base w u (fld q j)) (hn : L.length ≤ 1048576) (hbase : base ≤ w.heap.size)
    (h : ∀ v' w', Hid (OL T base k fld w' v' (L ++ [q])) → Hid (Touch (OwnOf v) w w') → wpList Try.prog ops Q rest (a.put o.dst v') w') : wpList Try.prog ops Q (o :: rest) a w := by
  obtain ⟨V, hrow, hV⟩ := hown
  have hfl : us = flat k (fun _ j => us.getD j undef) 1 := by
    apply List.ext_getElem?
    intro j
    by_cases hj : j < k
    · have := flat_get k (fun _ j => us.getD j undef) 1 0 j (by omega) hj
      rw [Nat.zero_mul, Nat.zero_add] at this
      rw [this, List.getD_eq_getElem?_getD, List.getElem?_eq_getElem (by omega)]; rfl
    · rw [List.getElem?_eq_none (by omega), List.getElem?_eq_none (by rw [flat_len]; omega)]
  refine wpList_append_one hgd s x ST T ho base k by' z hst hinfo hzs hk hby v L.length _ hs hrow b c hx us hus (fun j u hj => (hb j u hj).1) (fun u hu => ?_) hn hbase ?_
  · obtain ⟨j, hj, e⟩ := List.getElem_of_mem hu
    exact (hb j u (by rw [List.getElem?_eq_getElem hj, e])).2.1.one
  · intro v' w' ho' hto
    refine h v' w' (show _ from ?_) hto
    have ho2 := ho'.out
    rw [hfl] at ho2
    refine OL.app (M := [q]) hrow hT hV (fun i a ha j hj => ?_) hto.out ho2
    cases i with
    | succ i => simp at ha
    | zero =>
      simp only [List.getElem?_cons_zero, Option.some.injEq] at ha
      subst ha
      have e : us[j]? = some (us.getD j undef) := by rw [List.getD_eq_getElem?_getD, List.getElem?_eq_getElem (by omega)]; rfl
      exact (hb j _ e).2
/-- The same as one step of a region that draws its order. -/
theorem step_append_el {ops : Array Oper} {o : Oper} {a : Act} {K : Act → World → Prop} {Q : Exit → Act → World → Prop} {E : Prop} (hgd : o.guard = none) (s x : Operand)
    (ho : o.op = .call { callee := .builtin .append, args := #[s, x], argTypes := #[ST, ST] }) (z : Value) (hst : Try.prog.underlying ST = some (.slice T)) (hinfo : (Try.prog.info? T).map (fun i => (i.zero, i.size, i.bytes)) = some (some z, k, by'))
    (hzs : z.cells.size = k) (hk : 0 < k) (hby : by' ≤ 1000) (hT : T ≠ 5) (v : Value) {L : List α} (hs : a.eval s = v) (hown : OL T base k fld w v L) (b c : Nat) (hx : a.eval x = .slice (some ⟨b, 0, none⟩) 1 c) (us : List Value) (q : α) (hus : us.length = k) (hb : ∀ j u, us[j]? = some u → w.cell? ⟨b, j, none⟩ = some u ∧ KF base w u (fld q j)) (hn : L.length ≤ 1048576) (hbase : base ≤ w.heap.size)
    (h : ∀ v' w', Hid (OL T base k fld w' v' (L ++ [q])) → Hid (Touch (OwnOf v) w w') → K (a.put o.dst v') w') : if Region.wanted o (yielded ops a.tmps) = true then Oper.wp Try.prog o a w K Q else E := by
  obtain ⟨V, hrow, hV⟩ := hown
  have hfl : us = flat k (fun _ j => us.getD j undef) 1 := by
    apply List.ext_getElem?
    intro j
    by_cases hj : j < k
    · have := flat_get k (fun _ j => us.getD j undef) 1 0 j (by omega) hj
      rw [Nat.zero_mul, Nat.zero_add] at this
      rw [this, List.getD_eq_getElem?_getD, List.getElem?_eq_getElem (by omega)]; rfl
    · rw [List.getElem?_eq_none (by omega), List.getElem?_eq_none (by rw [flat_len]; omega)]
  refine step_append_one hgd s x ST T ho base k by' z hst hinfo hzs hk hby v L.length _ hs hrow b c hx us hus (fun j u hj => (hb j u hj).1) (fun u hu => ?_) hn hbase ?_
  · obtain ⟨j, hj, e⟩ := List.getElem_of_mem hu
    exact (hb j u (by rw [List.getElem?_eq_getElem hj, e])).2.1.one
  · intro v' w' ho' hto
    refine h v' w' (show _ from ?_) hto
    have ho2 := ho'.out
    rw [hfl] at ho2
    refine OL.app (M := [q]) hrow hT hV (fun i a ha j hj => ?_) hto.out ho2
    cases i with
    | succ i => simp at ha
    | zero =>
      simp only [List.getElem?_cons_zero, Option.some.injEq] at ha
      subst ha
      have e : us[j]? = some (us.getD j undef) := by rw [List.getD_eq_getElem?_getD, List.getElem?_eq_getElem (by omega)]; rfl
      exact (hb j _ e).2

/-- A part of a list. -/
theorem RL.sub {ao : Option Addr} {n cap : Nat} {L : List α} (h : RL k fld w (.slice ao n cap) L) {lo hi mx : Nat} (h1 : lo ≤ hi) (h2 : hi ≤ n) (h3 : hi ≤ mx) (h4 : mx ≤ cap) :
    RL k fld w (.slice (if mx = lo then ao else ao.map (·.add (lo * k))) (hi - lo) (mx - lo)) ((L.take hi).drop lo) := by
  obtain ⟨ao', cap', v, e, h0, hn, hit, hf⟩ := h
  cases e
  have hlen : ((L.take hi).drop lo).length = hi - lo := by simp; omega
  refine ⟨_, _, fun i => v (lo + i), by rw [hlen], by rw [hlen]; omega, fun e => ?_, fun hp => ?_, fun i a ha c hc => ?_⟩
  · have : ao = none := by
      split at e
      · exact e
      · cases ao with
        | none => rfl
        | some a => cases e
    have := hn this
    rw [hlen]; omega
  · rw [hlen] at hp
    obtain ⟨b, off, ea, hb, hc⟩ := hit (by omega)
    subst ea
    rw [if_neg (by omega)]
    refine ⟨b, off + lo * k, by rw [Option.map_some, add_plain], hb, fun i hi' c hcc => ?_⟩
    rw [hlen] at hi'
    have := hc (lo + i) (by omega) c hcc
    rw [Nat.add_mul] at this
    rw [show off + lo * k + i * k + c = off + (lo * k + i * k) + c by omega]
    exact this
  · rw [List.getElem?_drop, List.getElem?_take] at ha
    split at ha
    · exact hf (lo + i) a ha c hc
    · cases ha
theorem size_of {P : Program} {T k : Nat} (h : (P.info? T).map (fun i => i.size) = some k) (w : World) : (sizeOf T).run P w = .ok k w := by
  cases e : P.info? T with
  | none => rw [e] at h; cases h
  | some j =>
    rw [e] at h
    simp only [Option.map_some, Option.some.injEq] at h
    simp [sizeOf, typeInfo, e, h, go_sem]
/-- s[:n]. -/
theorem RL.cut_h {ao : Option Addr} {n cap : Nat} {L : List α} (h : RL k fld w (.slice ao n cap) L) (hst : Try.prog.underlying ST = some (.slice (Try.prog.elem ST))) (hsz : (Try.prog.info? (Try.prog.elem ST)).map (fun i => i.size) = some k) {m : Nat} (hm : m ≤ n) :
    ∃ ao' cap', (∀ W, (Instr.slice ST (.slice ao n cap) none (some (.int .i64 (m : Int))) none).run Try.prog W = .ok (.slice ao' m cap') W) ∧ RL k fld w (.slice ao' m cap') (L.take m) := by
  have hc : n ≤ cap := by obtain ⟨_, _, _, e, h1, _⟩ := h; cases e; exact h1
  refine ⟨_, _, fun W => ?_, by have := h.sub (lo := 0) (hi := m) (mx := cap) (by omega) hm (by omega) (Nat.le_refl _); rw [List.drop_zero, Nat.sub_zero] at this; exact this⟩
  rw [run_slice_h _ _ _ _ _ hst _ _ (by omega) (by omega), size_of hsz]
  simp only [Result.andThen, sliced, Int.toNat_natCast, Nat.sub_zero]
/-- s[n:]. -/
theorem RL.cut_l {ao : Option Addr} {n cap : Nat} {L : List α} (h : RL k fld w (.slice ao n cap) L) (hst : Try.prog.underlying ST = some (.slice (Try.prog.elem ST))) (hsz : (Try.prog.info? (Try.prog.elem ST)).map (fun i => i.size) = some k) {m : Nat} (hm : m ≤ n) :
    ∃ ao' cap', (∀ W, (Instr.slice ST (.slice ao n cap) (some (.int .i64 (m : Int))) none none).run Try.prog W = .ok (.slice ao' (n - m) cap') W) ∧ RL k fld w (.slice ao' (n - m) cap') (L.drop m) := by
  have hc : n ≤ cap := by obtain ⟨_, _, _, e, h1, _⟩ := h; cases e; exact h1
  have hl : n = L.length := by obtain ⟨_, _, _, e, _⟩ := h; cases e; rfl
  refine ⟨_, _, fun W => ?_, by have := h.sub (lo := m) (hi := n) (mx := cap) hm (Nat.le_refl _) hc (Nat.le_refl _); rw [hl, List.take_length] at this; rw [hl]; exact this⟩
  rw [run_slice_l _ _ _ _ _ hst _ _ (by omega) (by omega), size_of hsz]
  simp only [Result.andThen, sliced, Int.toNat_natCast]
/-- s[i:j]. -/
theorem RL.cut_lh {ao : Option Addr} {n cap : Nat} {L : List α} (h : RL k fld w (.slice ao n cap) L) (hst : Try.prog.underlying ST = some (.slice (Try.prog.elem ST))) (hsz : (Try.prog.info? (Try.prog.elem ST)).map (fun i => i.size) = some k) {i j : Nat} (hi : i ≤ j) (hj : j ≤ n) :
    ∃ ao' cap', (∀ W, (Instr.slice ST (.slice ao n cap) (some (.int .i64 (i : Int))) (some (.int .i64 (j : Int))) none).run Try.prog W = .ok (.slice ao' (j - i) cap') W) ∧ RL k fld w (.slice ao' (j - i) cap') ((L.take j).drop i) := by
  have hc : n ≤ cap := by obtain ⟨_, _, _, e, h1, _⟩ := h; cases e; exact h1
  refine ⟨_, _, fun W => ?_, h.sub (lo := i) (hi := j) (mx := cap) hi hj (by omega) (Nat.le_refl _)⟩
  rw [run_slice_lh _ _ _ _ _ hst _ _ _ _ (by omega) (by omega) (by omega), size_of hsz]
  simp only [Result.andThen, sliced, Int.toNat_natCast]
end

/-- Pairs. -/
def pairF (p : Key × Key) : Nat → Fv
  | 0 => .b p.1
  | _ => .b p.2
/-- A list of pairs; the same in new memory. -/
abbrev PL (w : World) (x : Value) (L : Pairs) : Prop := RL 2 pairF w x L
abbrev PO (base : Nat) (w : World) (x : Value) (L : Pairs) : Prop := OL 45 base 2 pairF w x L
theorem infoPair : (Try.prog.info? 45).map (fun i => (i.zero, i.size, i.bytes)) = some (some (.agg #[.slice none 0 0, .slice none 0 0]), 2, 48) := by kernel_rfl
theorem elemPair : Try.prog.elem 26 = 45 := by kernel_rfl
theorem slPair : Try.prog.underlying 26 = some (.slice (Try.prog.elem 26)) := by rw [elemPair]; exact Try.underlying26
theorem szPair : (Try.prog.info? (Try.prog.elem 26)).map (fun i => i.size) = some 2 := by kernel_rfl
end Go.Proofs.Ytkkpcndpjkebkaa
