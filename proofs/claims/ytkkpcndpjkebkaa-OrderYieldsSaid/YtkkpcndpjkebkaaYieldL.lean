import Derived.Maps.OwnIn
import Derived.Test.YtkkpcndpjkebkaaStop
import Derived.Test.YtkkpcndpjkebkaaWhole
/- A list of pairs that a round makes, with where its bytes lie. -/
namespace Go.Proofs.Ytkkpcndpjkebkaa
open Go.ChangeShapes Go.WideShapes Go.ChangeAt Go.RowKit Go.Deep

/-- A list of pairs in new memory, with what stands in it. -/
structure Got (base : Nat) (w : World) (x : Value) (L : Pairs) (V : Nat → Nat → Value) : Prop where
  row : w.ownsRow base 45 2 x L.length (flat 2 V L.length)
  el : ∀ i a, L[i]? = some a → OwnB base w (V i 0) a.1 ∧ OwnB base w (V i 1) a.2
theorem Got.nil {base : Nat} {w : World} : Got base w (.slice none 0 0) [] (fun _ _ => .slice none 0 0) := ⟨⟨by simp [flat], .inl ⟨rfl, rfl⟩⟩, fun i a h => by simp at h⟩
theorem Got.block {base : Nat} {w : World} {x : Value} {L : Pairs} {V : Nat → Nat → Value} (h : Got base w x L V) {b : Nat} (hb : OwnOf x b) : base ≤ b ∧ ∃ cur, w.heap[b]? = some (.cells cur 45 (0, 0)) := by
  obtain ⟨_, ⟨rfl, _⟩ | ⟨g, cap, cur, rfl, hb', hg, _⟩⟩ := h.row
  · cases hb
  · obtain rfl : b = g := by simpa [OwnOf, Value.ownBlock] using hb
    exact ⟨hb', cur, hg⟩
theorem Got.elem {base : Nat} {w : World} {x : Value} {L : Pairs} {V : Nat → Nat → Value} (h : Got base w x L V) {i c b : Nat} (hi : i < L.length) (hc : c < 2) (hb : OwnOf (V i c) b) : base ≤ b ∧ b < w.heap.size ∧ ∃ cs z, w.heap[b]? = some (.cells cs 5 z) := by
  obtain ⟨h0, h1⟩ := h.el i _ (List.getElem?_eq_getElem hi)
  match c, hc, hb with
  | 0, _, hb => exact ⟨(h0.block b hb).1, (h0.block b hb).2, h0.elem hb⟩
  | 1, _, hb => exact ⟨(h1.block b hb).1, (h1.block b hb).2, h1.elem hb⟩
theorem Got.keep {S : Nat → Prop} {base : Nat} {w w' : World} {x : Value} {L : Pairs} {V : Nat → Nat → Value} (h : Got base w x L V) (ht : Touch S w w') (h1 : ∀ b, OwnOf x b → ¬ S b) (h2 : ∀ i c b, i < L.length → c < 2 → OwnOf (V i c) b → ¬ S b) : Got base w' x L V := by
  refine ⟨?_, fun i a ha => ?_⟩
  · obtain ⟨hl, hcase⟩ := h.row
    refine ⟨hl, hcase.imp (fun h => h) fun ⟨g0, cap, cur, r1, r2, r3, r4⟩ => ⟨g0, cap, cur, r1, r2, (ht.same g0 (Array.getElem?_eq_some_iff.1 r3).1 (h1 g0 (by rw [r1]; rfl))).trans r3, r4⟩⟩
  · have hi := (List.getElem?_eq_some_iff.1 ha).1
    obtain ⟨e0, e1⟩ := h.el i a ha
    exact ⟨e0.keep ht fun b hb => h2 i 0 b hi (by omega) hb, e1.keep ht fun b hb => h2 i 1 b hi (by omega) hb⟩
theorem Got.keepN {base : Nat} {w w' : World} {x : Value} {L : Pairs} {V : Nat → Nat → Value} (h : Got base w x L V) (ht : Touch Nil w w') : Got base w' x L V := h.keep ht (fun _ _ c => c) (fun _ _ _ _ _ _ c => c)
theorem Got.pl {base : Nat} {w : World} {x : Value} {L : Pairs} {V : Nat → Nat → Value} (h : Got base w x L V) : PL w x L :=
  OL.rl (T := 45) (base := base) ⟨V, h.row, fun i a ha c hc => by
    obtain ⟨h0, h1⟩ := h.el i a ha
    match c, hc with
    | 0, _ => exact KF.ofOwn h0
    | 1, _ => exact KF.ofOwn h1⟩

set_option maxRecDepth 100000 in
/-- append of one pair, whose bytes are new. -/
theorem opIn_append_got {F : Fence} {m base B : Nat} {w : World} {o : Oper} {a : Act} {K : Act → World → Prop} {Q : Exit → Act → World → Prop} (s x : Operand)
    (ho : o.op = .call { callee := .builtin .append, args := #[s, x], argTypes := #[26, 26] }) (v : Value) {L : Pairs} {V : Nat → Nat → Value} (hs : a.eval s = v) (hg : Got base w v L V) (b c : Nat) (hx : a.eval x = .slice (some ⟨b, 0, none⟩) 1 c) (k0 u0 : Value) (p : Key × Key)
    (c0 : w.cell? ⟨b, 0, none⟩ = some k0) (c1 : w.cell? ⟨b, 1, none⟩ = some u0) (h0 : OwnB B w k0 p.1) (h1 : OwnB B w u0 p.2) (hB : base ≤ B) (hn : L.length ≤ 1048576) (hbase : base ≤ w.heap.size)
    (h : ∀ v' w' V', Hid (Got base w' v' (L ++ [p]) V') → Hid (Touch (OwnOf v) w w') → Hid (∀ b, OwnOf v' b → OwnOf v b ∨ w.heap.size ≤ b) → Hid (∀ i c b, i < L.length + 1 → c < 2 → OwnOf (V' i c) b → (i < L.length ∧ OwnOf (V i c) b) ∨ OwnOf k0 b ∨ OwnOf u0 b) → K (a.put o.dst v') w') :
    Oper.wpIn F m Try.prog o a w K Q := by
  obtain ⟨i0, hi, hz0, hz1, hz2⟩ := info_parts infoPair
  have hone : ∀ {B : Nat} {v : Value} {l : Key}, OwnB B w v l → v.oneCell' = true := fun h => by obtain ⟨_, _, rfl, _⟩ := h.bv; rfl
  obtain ⟨v', w', hr, hrow, hgrow, _, hlie⟩ := run_append_own_at (P := Try.prog) w base 26 o.type 45 i0 (.agg #[.slice none 0 0, .slice none 0 0]) 2 48 Try.underlying26 hi hz0 hz1 hz2 rfl (by omega) v L.length _ hg.row ⟨b, 0, none⟩ 1 c [k0, u0] rfl (fun j u hj => by
    rw [add_plain, Nat.zero_add]
    match j, hj with
    | 0, hj => cases hj; exact c0
    | 1, hj => cases hj; exact c1) (fun u hu => by
    simp only [List.mem_cons, List.not_mem_nil, or_false] at hu
    rcases hu with rfl | rfl
    · exact hone h0
    · exact hone h1) (by unfold maxLen; omega) (by omega) hbase
  have hto : Touch (OwnOf v) w w' := touch_grown hgrow
  have hfl : ([k0, u0] : List Value) = flat 2 (fun _ j => if j = 0 then k0 else u0) 1 := by simp [flat, List.range_succ]
  rw [hfl, flat_app] at hrow
  -- the row's block holds no bytes
  have far : ∀ {B : Nat} {v1 : Value} {l : Key}, OwnB B w v1 l → ∀ b, OwnOf v1 b → ¬ OwnOf v b := fun h b hb hv => by
    obtain ⟨cs, z, e⟩ := h.elem hb
    obtain ⟨_, cur, e'⟩ := hg.block hv
    rw [e] at e'
    injection e' with e'
    injection e' with _ e'
    exact absurd e' (by decide)
  have hgot : Got base w' v' (L ++ [p]) (fun i => if i < L.length then V i else (fun _ j => if j = 0 then k0 else u0) (i - L.length)) := by
    refine ⟨?_, fun i q hq => ?_⟩
    · rw [List.length_append]; exact hrow
    · by_cases hlt : i < L.length
      · rw [List.getElem?_append_left hlt] at hq
        obtain ⟨e0, e1⟩ := hg.el i q hq
        simp only [if_pos hlt]
        exact ⟨e0.keep hto fun b hb => far e0 b hb, e1.keep hto fun b hb => far e1 b hb⟩
      · rw [List.getElem?_append_right (by omega)] at hq
        have hi0 : i - L.length = 0 := by
          have := (List.getElem?_eq_some_iff.1 hq).1
          simp at this
          omega
        rw [hi0] at hq
        simp only [List.getElem?_cons_zero, Option.some.injEq] at hq
        subst hq
        simp only [if_neg hlt]
        exact ⟨(h0.base hB).keep hto fun b hb => far h0 b hb, (h1.base hB).keep hto fun b hb => far h1 b hb⟩
  unfold Oper.wpIn
  refine ⟨by simp [Oper.about, ho, resolve, Target.leads, Sem.run_pure], ?_⟩
  rw [Oper.semAt_plain F _ _ (by rw [ho]; intro c hc'; cases hc')]
  simp [execOp, ho, resolve, invoke, builtin, hs, hx, hr, Result.andThen]
  refine h v' w' _ (show _ from hgot) (show _ from hto) (show _ from fun b hb => ?_) (show _ from fun i c b hi hc hb => ?_)
  · rcases hlie with e | e
    · exact .inl (by unfold OwnOf at *; rw [← e]; exact hb)
    · refine .inr (Nat.le_of_eq ?_)
      unfold OwnOf at hb
      rw [e] at hb
      exact (Option.some.inj hb).symm
  · by_cases hlt : i < L.length
    · simp only [if_pos hlt] at hb
      exact .inl ⟨hlt, hb⟩
    · simp only [if_neg hlt] at hb
      split at hb
      · exact .inr (.inl hb)
      · exact .inr (.inr hb)
/-! ### What lies while a map is ranged over that the rounds change -/
/-- The list of the pairs that have come, and the map as it is. -/
def YI (seed : Int) (mb bb bg base : Nat) (Wst : World) (L : Pairs) (M : Nat → Pairs) (i : Nat) (W : World) : Prop :=
  Touch (fun b => b = bb ∨ b = bg ∨ base ≤ b) Wst W ∧ ∃ x V R ra t, W.heap[bg]? = some (.cells #[x] 26 (0, 0)) ∧ Got (base + 2) W x (L.take i) V ∧ MapAt seed R W mb bb ra t ∧ t.toL = M i ∧ ∀ b, R b → b < W.heap.size ∧ b ≠ bg ∧ b ≠ base + 1 ∧ ¬ OwnOf x b
theorem YI.keep {seed : Int} {mb bb bg base : Nat} {Wst W W' : World} {L : Pairs} {M : Nat → Pairs} {i : Nat} (h : YI seed mb bb bg base Wst L M i W) (hlt : mb < base ∧ bb < base ∧ bg < base) (ht : Touch (Just (base + 1)) W W') : YI seed mb bb bg base Wst L M i W' := by
  obtain ⟨h0, x, V, R, ra, t, h1, h2, h3, h4, h5⟩ := h
  refine ⟨h0.trans (ht.mono fun b _ hs => by have hs : b = base + 1 := hs; omega), x, V, R, ra, t, (ht.same _ (lt_of_heap h1) fun hs => by have hs : bg = base + 1 := hs; omega).trans h1, h2.keep ht (fun b hb hs => by have := (h2.block hb).1; have hs : b = base + 1 := hs; omega) (fun j c b hj hc hb hs => by have := (h2.elem hj hc hb).1; have hs : b = base + 1 := hs; omega), h3.keep ht (fun b hb hs => (h5 b hb).2.2.1 hs) (fun hs => by have hs : mb = base + 1 := hs; omega) (fun hs => by have hs : bb = base + 1 := hs; omega), h4, fun b hb => ⟨Nat.lt_of_lt_of_le (h5 b hb).1 ht.size, (h5 b hb).2⟩⟩
/-- The same behind the append of a round: what the round was handed lies apart. (Blocks from n0 to n1 are the round's own.) -/
def YM (seed : Int) (mb bb bg base n0 n1 : Nat) (Wst : World) (L : Pairs) (m : Pairs) (i : Nat) (W : World) : Prop :=
  Touch (fun b => b = bb ∨ b = bg ∨ base ≤ b) Wst W ∧ ∃ x V R ra t, W.heap[bg]? = some (.cells #[x] 26 (0, 0)) ∧ Got (base + 2) W x (L.take i) V ∧ (∀ b, OwnOf x b → b < n0 ∨ n1 ≤ b) ∧ (∀ j c b, j < (L.take i).length → c < 2 → OwnOf (V j c) b → b < n0 ∨ n1 ≤ b) ∧ MapAt seed R W mb bb ra t ∧ t.toL = m ∧ ∀ b, R b → b < W.heap.size ∧ b ≠ bg ∧ b ≠ base + 1 ∧ ¬ OwnOf x b ∧ (b < n0 ∨ n1 ≤ b)
/-- The map is changed. -/
theorem YM.put {seed : Int} {mb bb bg base n0 n1 : Nat} {Wst W W' : World} {L m m' : Pairs} {i : Nat} (h : YM seed mb bb bg base n0 n1 Wst L m i W) (hlt : mb < base ∧ bb < base ∧ bg < base ∧ bg ≠ bb) (hn : base + 2 ≤ n0 ∧ n0 ≤ n1 ∧ n1 ≤ W.heap.size) {t : Tree}
    (hp : ∀ R ra t0, MapAt seed R W mb bb ra t0 → t0.toL = m → (∃ ra', MapAt seed (Up R W W') W' mb bb ra' t) ∧ t.toL = m') (ht : Touch (Just bb) W W') : YM seed mb bb bg base n0 n1 Wst L m' i W' := by
  obtain ⟨h0, x, V, R, ra, t0, h1, h2, h3, h4, h5, h6, h7⟩ := h
  obtain ⟨⟨ra', hm⟩, hm'⟩ := hp R ra t0 h5 h6
  have hbg : bg < W.heap.size := lt_of_heap h1
  have hxb : ∀ b, OwnOf x b → b < W.heap.size := fun b hb => by obtain ⟨_, cur, e⟩ := h2.block hb; exact lt_of_heap e
  refine ⟨h0.trans (ht.mono fun b _ hs => .inl hs), x, V, Up R W W', ra', t, (ht.same _ hbg fun hs => hlt.2.2.2 hs).trans h1, h2.keep ht (fun b hb hs => by have := (h2.block hb).1; have hs : b = bb := hs; omega) (fun j c b hj hc hb hs => by have := (h2.elem hj hc hb).1; have hs : b = bb := hs; omega), h3, h4, hm, hm', fun b hb => ?_⟩
  have hs := ht.size
  rcases hb with hb | hb
  · have := h7 b hb
    exact ⟨by omega, this.2⟩
  · refine ⟨hb.2, by omega, by omega, fun c => ?_, by omega⟩
    have := hxb b c
    omega
/-- What the round was handed is written over. -/
theorem YM.done {seed : Int} {mb bb bg base n0 n1 : Nat} {Wst W W' : World} {L m : Pairs} {M : Nat → Pairs} {i : Nat} {S : Nat → Prop} (h : YM seed mb bb bg base n0 n1 Wst L m i W) (hm : M i = m) (hlt : mb < base ∧ bb < base ∧ bg < base ∧ bg ≠ bb) (hn : base + 2 ≤ n0) (ht : Touch S W W') (hS : ∀ b, S b → n0 ≤ b ∧ b < n1) : YI seed mb bb bg base Wst L M i W' := by
  obtain ⟨h0, x, V, R, ra, t0, h1, h2, h3, h4, h5, h6, h7⟩ := h
  refine ⟨h0.trans (ht.mono fun b _ hs => by have := hS b hs; omega), x, V, R, ra, t0, (ht.same _ (lt_of_heap h1) fun hs => by have := hS _ hs; omega).trans h1, h2.keep ht (fun b hb hs => by have := hS b hs; have := h3 b hb; omega) (fun j c b hj hc hb hs => by have := hS b hs; have := h4 j c b hj hc hb; omega), h5.keep ht (fun b hb hs => by have := hS b hs; have := (h7 b hb).2.2.2.2; omega) (fun hs => by have := hS _ hs; omega) (fun hs => by have := hS _ hs; omega), by rw [hm]; exact h6, fun b hb => ?_⟩
  have := h7 b hb
  exact ⟨Nat.lt_of_lt_of_le this.1 ht.size, this.2.1, this.2.2.1, this.2.2.2.1⟩

/-! ### The content behind a round -/
theorem srt_ext3 : ∀ {L M : Pairs}, Srt L → Srt M → (∀ x, x ∈ L ↔ x ∈ M) → L = M
  | [], [], _, _, _ => rfl
  | [], m :: M, _, _, h => by have := (h m).2 (List.mem_cons_self ..); cases this
  | l :: L, [], _, _, h => by have := (h l).1 (List.mem_cons_self ..); cases this
  | l :: L, m :: M, h1, h2, h => by
    unfold Srt at h1 h2
    rw [List.pairwise_cons] at h1 h2
    have e : l = m := by
      rcases List.mem_cons.1 ((h l).1 (List.mem_cons_self ..)) with c | c
      · exact c
      · rcases List.mem_cons.1 ((h m).2 (List.mem_cons_self ..)) with d | d
        · exact d.symm
        · have := klt_ko.asym (h1.1 m d)
          rw [h2.1 l c] at this
          cases this
    subst e
    rw [srt_ext3 h1.2 h2.2 fun x => ⟨fun hx => ?_, fun hx => ?_⟩]
    · rcases List.mem_cons.1 ((h x).1 (List.mem_cons_of_mem _ hx)) with c | c
      · subst c
        have := h1.1 x hx
        rw [klt_ko.irrefl] at this
        cases this
      · exact c
    · rcases List.mem_cons.1 ((h x).2 (List.mem_cons_of_mem _ hx)) with c | c
      · subst c
        have := h2.1 x hx
        rw [klt_ko.irrefl] at this
        cases this
      · exact c
/-- What a round does to the content. -/
def yR (key val : Key) (p : Key × Key) (m : Pairs) : Pairs := insL p.1 p.2 (delL p.1 (insL key val m))
/-- The content behind i rounds. -/
def yM (key val : Key) (L : Pairs) : Nat → Pairs
  | 0 => L
  | i + 1 => match L[i]? with
    | some p => yR key val p (yM key val L i)
    | none => yM key val L i
theorem yR_srt {key val : Key} {p : Key × Key} {m : Pairs} (h : Srt m) : Srt (yR key val p m) := insL_srt _ _ (delL_srt _ (insL_srt _ _ h))
theorem yM_srt {key val : Key} {L : Pairs} (h : Srt L) : ∀ i, Srt (yM key val L i)
  | 0 => h
  | i + 1 => by
    simp only [yM]
    split
    · exact yR_srt (yM_srt h i)
    · exact yM_srt h i
theorem insdel_mem {k v : Key} {L : Pairs} {x : Key × Key} : x ∈ insL k v (delL k L) ↔ x = (k, v) ∨ (x ∈ L ∧ x.1 ≠ k) := by
  rw [insL_mem, delL_mem, and_assoc, and_self]
/-- Behind one round or more: the key has its value, or that of the pair that came last, if it has the key. -/
theorem yM_succ {key val : Key} {L : Pairs} (h : Srt L) : ∀ (i : Nat) (p : Key × Key), L[i]? = some p → yM key val L (i + 1) = insL key (if p.1 = key then p.2 else val) L
  | i, p, hp => by
    have hin : p ∈ L := List.mem_of_getElem? hp
    have huniq : ∀ x ∈ L, x.1 = p.1 → x = p := fun x hx e => by
      obtain ⟨j, hj, rfl⟩ := List.mem_iff_getElem.1 hx
      obtain ⟨j', hj', rfl⟩ := List.mem_iff_getElem.1 hin
      rcases Nat.lt_trichotomy j j' with c | c | c
      · have := List.pairwise_iff_getElem.1 h j j' hj hj' c
        rw [e, klt_ko.irrefl] at this
        cases this
      · subst c; rfl
      · have := List.pairwise_iff_getElem.1 h j' j hj' hj c
        rw [e, klt_ko.irrefl] at this
        cases this
    refine srt_ext3 (yM_srt h (i + 1)) (insL_srt _ _ h) fun x => ?_
    have hprev : ∀ x, x.1 ≠ key → (x ∈ yM key val L i ↔ x ∈ L) := by
      intro x hx
      cases i with
      | zero => rfl
      | succ j =>
        have hj : j < L.length := by have := (List.getElem?_eq_some_iff.1 hp).1; omega
        rw [yM_succ h j _ (List.getElem?_eq_getElem hj), insL_mem]
        constructor
        · rintro (rfl | ⟨c, _⟩)
          · exact (hx rfl).elim
          · exact c
        · exact fun c => .inr ⟨c, hx⟩
    simp only [yM, hp, yR]
    rw [insdel_mem, insL_mem, insL_mem]
    by_cases hk : p.1 = key
    · rw [if_pos hk]
      constructor
      · rintro (rfl | ⟨(rfl | ⟨c, d⟩), e⟩)
        · left; rw [← hk]
        · exact (e hk.symm).elim
        · exact .inr ⟨(hprev x d).1 c, d⟩
      · rintro (rfl | ⟨c, d⟩)
        · left; rw [← hk]
        · exact .inr ⟨.inr ⟨(hprev x d).2 c, d⟩, by rw [hk]; exact d⟩
    · rw [if_neg hk]
      constructor
      · rintro (rfl | ⟨(rfl | ⟨c, d⟩), e⟩)
        · exact .inr ⟨hin, hk⟩
        · exact .inl rfl
        · exact .inr ⟨(hprev x d).1 c, d⟩
      · rintro (rfl | ⟨c, d⟩)
        · exact .inr ⟨.inl rfl, fun e => hk e.symm⟩
        · by_cases hx : x.1 = p.1
          · left; exact huniq x c hx
          · exact .inr ⟨.inr ⟨(hprev x d).2 c, d⟩, hx⟩
theorem yM_len {key val : Key} {L : Pairs} (h : Srt L) (i : Nat) : (yM key val L i).length ≤ L.length + 1 := by
  induction i with
  | zero => exact Nat.le_succ _
  | succ i ih =>
    cases hp : L[i]? with
    | none => simp only [yM, hp]; exact ih
    | some p =>
      rw [yM_succ h i p hp]
      exact insL_len _ _ _
end Go.Proofs.Ytkkpcndpjkebkaa
