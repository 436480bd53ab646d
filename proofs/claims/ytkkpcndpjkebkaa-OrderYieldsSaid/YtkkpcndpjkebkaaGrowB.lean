import Derived.Test.YtkkpcndpjkebkaaRefG
import Derived.Test.YtkkpcndpjkebkaaHeights
import Derived.Deep.AppendLies
/- For the definition's nodes: the root's place, a list whose elements are written, a variable beside a list that grows. -/
namespace Go.Proofs.Ytkkpcndpjkebkaa
open Go.ChangeShapes Go.WideShapes Go.ChangeAt Go.RowKit Go.Deep

/-- The pair at the root stands behind those of the left subtree. -/
theorem top_root {seed : Int} {l r : Tree} {k u : Key} {b : Int} (hs : Srt (Tree.node l k u r).toL) (hh : (Tree.node l k u r).Heap (abv seed)) (h : TopAt seed (Tree.node l k u r).toL b) : b = (l.size : Int) := by
  obtain ⟨s1, s2, a1, a2⟩ := srt_node.1 hs
  obtain ⟨h1, h2, _, _⟩ := hh
  have hlen : l.toL.length = l.size := (size_toL l).symm
  have hm : (Tree.node l k u r).toL[l.size]? = some (k, u) := by
    simp only [Tree.toL]
    rw [List.getElem?_append_right (by omega), hlen, Nat.sub_self]; rfl
  rcases h with ⟨e, _⟩ | ⟨i, p, rfl, hp, h3, h4⟩
  · simp [Tree.toL] at e
  · rcases Nat.lt_trichotomy i l.size with c | c | c
    · have hpl : p ∈ l.toL := by
        simp only [Tree.toL] at hp
        rw [List.getElem?_append_left (by omega)] at hp
        exact List.mem_of_getElem? hp
      have e1 := h4 l.size (k, u) c hm
      rcases abv_iff.1 (h1 p hpl) with c2 | ⟨_, c2⟩
      · have e1 : hgt seed k ≤ hgt seed p.1 := e1
        omega
      · rw [klt_ko.asym (a1 p hpl)] at c2; cases c2
    · rw [c]
    · have hpr : p ∈ r.toL := by
        simp only [Tree.toL] at hp
        rw [List.getElem?_append_right (by omega), hlen] at hp
        obtain ⟨j, hj⟩ : ∃ j, i - l.size = j + 1 := ⟨i - l.size - 1, by omega⟩
        rw [hj, List.getElem?_cons_succ] at hp
        exact List.mem_of_getElem? hp
      have e1 : hgt seed k < hgt seed p.1 := h3 l.size (k, u) c hm
      rcases abv_iff.1 (h2 p hpr) with c2 | ⟨c2, _⟩ <;> omega

/-- append of one element, and where the new list lies. -/
theorem wpList_append_elF {α : Type} {ST T base k by' : Nat} {fld : α → Nat → Fv} {w : World} {ops : Array Oper} {rest : List Oper} {o : Oper} {a : Act} {Q : Exit → Act → World → Prop} (hgd : o.guard = none) (s x : Operand)
    (ho : o.op = .call { callee := .builtin .append, args := #[s, x], argTypes := #[ST, ST] }) (z : Value) (hst : Try.prog.underlying ST = some (.slice T)) (hinfo : (Try.prog.info? T).map (fun i => (i.zero, i.size, i.bytes)) = some (some z, k, by'))
    (hzs : z.cells.size = k) (hk : 0 < k) (hby : by' ≤ 1000) (hT : T ≠ 5) (v : Value) {L : List α} (hs : a.eval s = v) (hown : OL T base k fld w v L) (b c : Nat) (hx : a.eval x = .slice (some ⟨b, 0, none⟩) 1 c) (us : List Value) (q : α) (hus : us.length = k) (hb : ∀ j u, us[j]? = some u → w.cell? ⟨b, j, none⟩ = some u ∧ KF base w u (fld q j)) (hn : L.length ≤ 1048576) (hbase : base ≤ w.heap.size)
    (h : ∀ g cap w', Hid (OL T base k fld w' (.slice (some ⟨g, 0, none⟩) (L.length + 1) cap) (L ++ [q])) → Hid (Touch (OwnOf v) w w') → Hid (OwnOf v g ∨ w.heap.size ≤ g) → wpList Try.prog ops Q rest (a.put o.dst (.slice (some ⟨g, 0, none⟩) (L.length + 1) cap)) w') : wpList Try.prog ops Q (o :: rest) a w := by
  obtain ⟨V, hrow, hV⟩ := hown
  have hfl : us = flat k (fun _ j => us.getD j undef) 1 := by
    apply List.ext_getElem?
    intro j
    by_cases hj : j < k
    · have := flat_get k (fun _ j => us.getD j undef) 1 0 j (by omega) hj
      rw [Nat.zero_mul, Nat.zero_add] at this
      rw [this, List.getD_eq_getElem?_getD, List.getElem?_eq_getElem (by omega)]; rfl
    · rw [List.getElem?_eq_none (by omega), List.getElem?_eq_none (by rw [flat_len]; omega)]
  obtain ⟨i0, hi, hz0, hz1, hz2⟩ := info_parts hinfo
  refine wpList_append_lies w hgd s x ST ho base T i0 z k by' hst hi hz0 hz1 hz2 hzs hk v L.length _ hs hrow ⟨b, 0, none⟩ 1 c us hx (by omega) ?_ (fun u hu => ?_) (by omega) (by unfold maxLen; omega) ?_ hbase _ rfl ?_
  · intro j u hj
    rw [add_plain, Nat.zero_add]
    exact (hb j u hj).1
  · obtain ⟨j, hj, e⟩ := List.getElem_of_mem hu
    exact (hb j u (by rw [List.getElem?_eq_getElem hj, e])).2.1.one
  · have : (L.length + 1) * by' ≤ 1048577 * 1000 := Nat.mul_le_mul (by omega) hby
    omega
  · intro g cap w' hown' hgrow hat _
    have hto : Touch (OwnOf v) w w' := touch_grown hgrow
    refine h g cap w' (show _ from ?_) hto (show _ from ?_)
    · rw [hfl] at hown'
      refine OL.app (M := [q]) hrow hT hV (fun i a ha j hj => ?_) hto hown'
      cases i with
      | succ i => simp at ha
      | zero =>
        simp only [List.getElem?_cons_zero, Option.some.injEq] at ha
        subst ha
        have e : us[j]? = some (us.getD j undef) := by rw [List.getD_eq_getElem?_getD, List.getElem?_eq_getElem (by omega)]; rfl
        exact (hb j _ e).2
    · rcases hat with hat | hat
      · exact .inl hat.symm
      · exact .inr (by omega)

/-- An element of six cells is written. -/
theorem OL.set6 {α : Type} {T base g cap : Nat} {fld : α → Nat → Fv} {w : World} {L : List α} (h : OL T base 6 fld w (.slice (some ⟨g, 0, none⟩) L.length cap) L) (hT : T ≠ 5) {i : Nat} (hi : i < L.length) (q : α) (u0 u1 u2 u3 u4 u5 : Value) (hu : ∀ c u, ([u0, u1, u2, u3, u4, u5] : List Value)[c]? = some u → KF base w u (fld q c)) :
    OL T base 6 fld ((((((w.setCell ⟨g, i * 6, none⟩ u0).setCell ⟨g, i * 6 + 1, none⟩ u1).setCell ⟨g, i * 6 + 2, none⟩ u2).setCell ⟨g, i * 6 + 3, none⟩ u3).setCell ⟨g, i * 6 + 4, none⟩ u4).setCell ⟨g, i * 6 + 5, none⟩ u5) (.slice (some ⟨g, 0, none⟩) L.length cap) (L.set i q) := by
  obtain ⟨V, h1, h2⟩ := h
  have s0 := (h1.stored (i * 6) u0).1
  have s1 := (s0.stored (i * 6 + 1) u1).1
  have s2 := (s1.stored (i * 6 + 2) u2).1
  have s3 := (s2.stored (i * 6 + 3) u3).1
  have s4 := (s3.stored (i * 6 + 4) u4).1
  have s5 := (s4.stored (i * 6 + 5) u5).1
  have hs : ∀ o, (⟨g, o, none⟩ : Addr).block < w.heap.size → OwnOf (.slice (some ⟨g, 0, none⟩) L.length cap) (⟨g, o, none⟩ : Addr).block := fun o _ => rfl
  have ht := (((((((Touch.refl (OwnOf (.slice (some ⟨g, 0, none⟩) L.length cap)) w).setCell _ u0 (hs (i * 6))).setCell _ u1 (hs (i * 6 + 1))).setCell _ u2 (hs (i * 6 + 2))).setCell _ u3 (hs (i * 6 + 3))).setCell _ u4 (hs (i * 6 + 4))).setCell _ u5 (hs (i * 6 + 5)))
  have hfl : ((((((flat 6 V L.length).set (i * 6) u0).set (i * 6 + 1) u1).set (i * 6 + 2) u2).set (i * 6 + 3) u3).set (i * 6 + 4) u4).set (i * 6 + 5) u5 = flat 6 (fun j c => if j = i then ([u0, u1, u2, u3, u4, u5] : List Value).getD c undef else V j c) L.length := by
    apply List.ext_getElem?
    intro p
    by_cases hp : p < L.length * 6
    · have e : p = (p / 6) * 6 + p % 6 := by omega
      have hj : p / 6 < L.length := by omega
      have hc : p % 6 < 6 := by omega
      generalize p / 6 = j at *
      generalize p % 6 = c at *
      subst e
      rw [flat_get 6 _ L.length j c hj hc]
      simp only [List.getElem?_set, List.length_set, flat_len]
      by_cases hji : j = i
      · subst hji
        rw [if_pos rfl]
        have : c = 0 ∨ c = 1 ∨ c = 2 ∨ c = 3 ∨ c = 4 ∨ c = 5 := by omega
        rcases this with rfl | rfl | rfl | rfl | rfl | rfl <;> simp <;> omega
      · rw [if_neg hji, if_neg (by omega), if_neg (by omega), if_neg (by omega), if_neg (by omega), if_neg (by omega), if_neg (by omega), flat_get 6 V L.length j c hj hc]
    · rw [List.getElem?_eq_none (by simp only [List.length_set, flat_len]; omega), List.getElem?_eq_none (by rw [flat_len]; omega)]
  rw [hfl] at s5
  refine ⟨_, by rw [List.length_set]; exact s5, fun j a ha c hc => ?_⟩
  rw [List.getElem?_set] at ha
  by_cases hji : j = i
  · subst hji
    rw [if_pos rfl, if_pos hi] at ha
    cases ha
    simp only [if_true]
    have e : ([u0, u1, u2, u3, u4, u5] : List Value)[c]? = some (([u0, u1, u2, u3, u4, u5] : List Value).getD c undef) := by
      rw [List.getD_eq_getElem?_getD, List.getElem?_eq_getElem (by simpa using hc)]; rfl
    exact (hu c _ e).row h1 hT ht
  · rw [if_neg (fun e => hji e.symm)] at ha
    rw [if_neg hji]
    exact (h2 j a ha c hc).row h1 hT ht

/-- A node's variable, its bytes beside it, between two heights of the heap. -/
structure Loc (M1 M2 : Nat) (X : World) (g : Nat) (kx ux : Value) (k u : Key) (d sz : Nat) (lv rv : Int) : Prop where
  blk : X.heap[g]? = some (.cells #[kx, ux, .int .u64 (d : Int), .int .i64 (sz : Int), .int .i64 lv, .int .i64 rv] 109 (0, 0))
  lo : M1 ≤ g
  hi : g < M2
  key : OwnB M1 X kx k
  khi : ∀ b, OwnOf kx b → b < M2
  val : OwnB M1 X ux u
  uhi : ∀ b, OwnOf ux b → b < M2
theorem FirstN.loc {w X : World} {g : Nat} {kx ux : Value} {k u : Key} {d sz : Nat} (h : FirstN w X g kx ux k u d sz) : Loc w.heap.size X.heap.size X g kx ux k u d sz (-1) (-1) :=
  ⟨h.blk, h.new, (Array.getElem?_eq_some_iff.1 h.blk).1, h.key, fun b hb => (h.key.block b hb).2, h.val, fun b hb => (h.val.block b hb).2⟩
theorem Loc.keep {M1 M2 : Nat} {X X' : World} {g : Nat} {kx ux : Value} {k u : Key} {d sz : Nat} {lv rv : Int} {S : Nat → Prop} (h : Loc M1 M2 X g kx ux k u d sz lv rv) (ht : Touch S X X') (hS : ∀ b, M1 ≤ b → b < M2 → ¬ S b) : Loc M1 M2 X' g kx ux k u d sz lv rv :=
  ⟨(ht.same g (Array.getElem?_eq_some_iff.1 h.blk).1 (hS g h.lo h.hi)).trans h.blk, h.lo, h.hi, h.key.keep ht fun b hb => hS b (h.key.block b hb).1 (h.khi b hb), h.khi, h.val.keep ht fun b hb => hS b (h.val.block b hb).1 (h.uhi b hb), h.uhi⟩
theorem Loc.set {M1 M2 : Nat} {X : World} {g : Nat} {kx ux : Value} {k u : Key} {d sz : Nat} {lv rv : Int} (h : Loc M1 M2 X g kx ux k u d sz lv rv) (o : Nat) (z : Value) (d' : Nat) (lv' rv' : Int) (ho : (o = 2 ∧ z = .int .u64 (d' : Int) ∧ lv' = lv ∧ rv' = rv) ∨ (o = 4 ∧ d' = d ∧ z = .int .i64 lv' ∧ rv' = rv) ∨ (o = 5 ∧ d' = d ∧ lv' = lv ∧ z = .int .i64 rv')) : Loc M1 M2 (X.setCell ⟨g, o, none⟩ z) g kx ux k u d' sz lv' rv' := by
  have hs : (⟨g, o, none⟩ : Addr).block < X.heap.size → Just g (⟨g, o, none⟩ : Addr).block := fun _ => rfl
  have ht := (Touch.refl (Just g) X).setCell ⟨g, o, none⟩ z hs
  have far : ∀ {v : Value} {l : Key}, OwnB M1 X v l → ∀ k, OwnOf v k → ¬ Just g k := fun hv k hk hs => by
    have hs : k = g := hs
    subst hs
    obtain ⟨cs, y, he⟩ := hv.elem hk
    rw [h.blk] at he
    injection he with he
    injection he with _ he
    exact absurd he (by decide)
  have hrow : X.rowIs g 109 6 (fun i => #[kx, ux, .int .u64 (d : Int), .int .i64 (sz : Int), .int .i64 lv, .int .i64 rv].getD i undef) := ⟨_, h.blk, rfl, fun i hi => by
    have : i = 0 ∨ i = 1 ∨ i = 2 ∨ i = 3 ∨ i = 4 ∨ i = 5 := by omega
    rcases this with rfl | rfl | rfl | rfl | rfl | rfl <;> rfl⟩
  refine ⟨row_block ((hrow.set o z).congr (g := fun i => #[kx, ux, .int .u64 (d' : Int), .int .i64 (sz : Int), .int .i64 lv', .int .i64 rv'].getD i undef) fun i hi => ?_), h.lo, h.hi, h.key.keep ht (far h.key), h.khi, h.val.keep ht (far h.val), h.uhi⟩
  have : i = 0 ∨ i = 1 ∨ i = 2 ∨ i = 3 ∨ i = 4 ∨ i = 5 := by omega
  rcases ho with ⟨rfl, rfl, rfl, rfl⟩ | ⟨rfl, rfl, rfl, rfl⟩ | ⟨rfl, rfl, rfl, rfl⟩ <;> rcases this with rfl | rfl | rfl | rfl | rfl | rfl <;> rfl
theorem Loc.cells {M1 M2 : Nat} {X : World} {g : Nat} {kx ux : Value} {k u : Key} {d sz : Nat} {lv rv : Int} (h : Loc M1 M2 X g kx ux k u d sz lv rv) :
    (X.cell? ⟨g, 0, none⟩ = some kx ∧ X.cell? ⟨g, 1, none⟩ = some ux ∧ X.cell? ⟨g, 2, none⟩ = some (.int .u64 (d : Int)) ∧ X.cell? ⟨g, 3, none⟩ = some (.int .i64 (sz : Int)) ∧ X.cell? ⟨g, 4, none⟩ = some (.int .i64 lv) ∧ X.cell? ⟨g, 5, none⟩ = some (.int .i64 rv)) ∧ X.frozen? ⟨g, 2, none⟩ = false ∧ X.frozen? ⟨g, 4, none⟩ = false ∧ X.frozen? ⟨g, 5, none⟩ = false := by
  have e := h.blk
  refine ⟨⟨?_, ?_, ?_, ?_, ?_, ?_⟩, ?_, ?_, ?_⟩ <;> simp [World.cell?, World.frozen?, e]
theorem Loc.us {M1 M2 base lo : Nat} {X : World} {g : Nat} {kx ux : Value} {k u : Key} {d sz : Nat} {lv rv : Int} (h : Loc M1 M2 X g kx ux k u d sz lv rv) (hlo : lo ≤ M1) :
    ∀ j v, ([kx, ux, .int .u64 (d : Int), .int .i64 (sz : Int), .int .i64 lv, .int .i64 rv] : List Value)[j]? = some v → KF base X v (nodeG lo ⟨k, u, d, sz, lv, rv⟩ j) := by
  intro j v hj
  match j, hj with
  | 0, hj => cases hj; exact KF.ofOwnG h.key hlo
  | 1, hj => cases hj; exact KF.ofOwnG h.val hlo
  | 2, hj => cases hj; exact ⟨rfl, fun l e => by cases e⟩
  | 3, hj => cases hj; exact ⟨rfl, fun l e => by cases e⟩
  | 4, hj => cases hj; exact ⟨rfl, fun l e => by cases e⟩
  | 5, hj => cases hj; exact ⟨rfl, fun l e => by cases e⟩
theorem Loc.usA {M1 M2 base lo : Nat} {X : World} {g : Nat} {kx ux : Value} {k u : Key} {d sz : Nat} {lv rv : Int} (h : Loc M1 M2 X g kx ux k u d sz lv rv) (hlo : lo ≤ M1) :
    ∀ j v, ([kx, ux, .int .u64 (d : Int), .int .i64 (sz : Int), .int .i64 lv, .int .i64 rv] : List Value)[j]? = some v → (X.alloc (.cells #[kx, ux, .int .u64 (d : Int), .int .i64 (sz : Int), .int .i64 lv, .int .i64 rv] 109)).cell? ⟨X.heap.size, j, none⟩ = some v ∧ KF base (X.alloc (.cells #[kx, ux, .int .u64 (d : Int), .int .i64 (sz : Int), .int .i64 lv, .int .i64 rv] 109)) v (nodeG lo ⟨k, u, d, sz, lv, rv⟩ j) := fun j v hj =>
  ⟨by rw [cell_new]; simpa using hj, (h.us hlo j v hj).keepN ((Touch.refl Nil X).alloc _)⟩
/-- A list that lies wholly below stays while what lies above is written. -/
theorem RL.keepF {α : Type} {k base : Nat} {fld : α → Nat → Fv} {w w' : World} {x : Value} {L : List α} (h : RL k fld w x L) (hb : w.heap.size ≤ base) (ht : Touch (From base) w w') : RL k fld w' x L := by
  obtain ⟨ao, cap, v, rfl, h1, h2, h3, h4⟩ := h
  refine ⟨ao, cap, v, rfl, h1, h2, fun h0 => ?_, fun i a ha c hc => ?_⟩
  · obtain ⟨b, off, e, hlt, hc⟩ := h3 h0
    exact ⟨b, off, e, Nat.lt_of_lt_of_le hlt ht.size, fun i hi c hcc => (ht.cell hlt (fun e => by have e : base ≤ b := e; omega) _).trans (hc i hi c hcc)⟩
  · have hf := h4 i a ha c hc
    cases e : fld a c with
    | b l => rw [e] at hf; exact BV.keepE hf ht fun hne b ho hs => by have := BV.low hf hne b ho; have hs : base ≤ b := hs; omega
    | u n => rw [e] at hf; exact hf
    | i n => rw [e] at hf; exact hf
    | f n => rw [e] at hf; exact hf
    | o lo l => rw [e] at hf; exact ⟨BV.keepE hf.1 ht fun hne b ho hs => by have := BV.low hf.1 hne b ho; have hs : base ≤ b := hs; omega, fun hne b ho => ⟨(hf.2 hne b ho).1, (hf.2 hne b ho).2.keep ht fun hs => by have := BV.low hf.1 hne b ho; have hs : base ≤ b := hs; omega⟩⟩
end Go.Proofs.Ytkkpcndpjkebkaa
