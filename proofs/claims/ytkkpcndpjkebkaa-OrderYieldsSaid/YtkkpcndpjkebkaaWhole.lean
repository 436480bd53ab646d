import Derived.Test.YtkkpcndpjkebkaaRange
import Derived.Test.YtkkpcndpjkebkaaPart
import Derived.Test.YtkkpcndpjkebkaaImgR
import Derived.Test.YtkkpcndpjkebkaaXor
import Derived.Test.YtkkpcndpjkebkaaSameP
import Derived.Test.YtkkpcndpjkebkaaHeights
/- The pairs of a span, as a list. -/
namespace Go.Proofs.Ytkkpcndpjkebkaa
open Go.ChangeShapes Go.WideShapes Go.ChangeAt Go.RowKit Go.Deep
attribute [local go_sem] Oper.semAt_some

/-- Blocks that hold neither a list's rows nor bytes, from a height on. -/
def Far (T base : Nat) (w : World) (b : Nat) : Prop := base ≤ b ∧ ∀ cs z, w.heap[b]? ≠ some (.cells cs T z) ∧ w.heap[b]? ≠ some (.cells cs 5 z)
/-- A pair, its bytes in blocks from lo on. -/
def pairG (lo : Nat) (p : Key × Key) : Nat → Fv
  | 0 => .o lo p.1
  | _ => .o lo p.2
/-- A list of pairs in new memory, with all its bytes. -/
abbrev PG (base : Nat) (w : World) (x : Value) (L : Pairs) : Prop := OL 45 base 2 (pairG base) w x L
theorem pairG_o (lo : Nat) (p : Key × Key) (c : Nat) : ∃ l, pairG lo p c = .o lo l := by
  match c with
  | 0 => exact ⟨_, rfl⟩
  | _ + 1 => exact ⟨_, rfl⟩
theorem PG.keepS {S : Nat → Prop} {base : Nat} {w w' : World} {x : Value} {L : Pairs} (h : PG base w x L) (ht : Touch S w w') (hS : ∀ b, S b → b < base ∨ Far 45 base w b) : PG base w' x L := by
  obtain ⟨V, h1, h2⟩ := h
  refine ⟨V, ?_, fun i a ha c hc => ?_⟩
  · have hb := own_base h1
    obtain ⟨hl, hcase⟩ := h1
    refine ⟨hl, hcase.imp (fun h => h) fun ⟨g0, cap, cur, r1, r2, r3, r4⟩ => ⟨g0, cap, cur, r1, r2, (ht.same g0 (Array.getElem?_eq_some_iff.1 r3).1 fun hs => ?_).trans r3, r4⟩⟩
    rcases hS g0 hs with c | c
    · omega
    · exact (c.2 _ _).1 r3
  · obtain ⟨hf, hk⟩ := h2 i a ha c hc
    obtain ⟨l, e⟩ := pairG_o base a c
    rw [e] at hf hk ⊢
    have far : l ≠ [] → ∀ b, OwnOf (V i c) b → ¬ S b := fun hl b ho hs => by
      have h0 := (hf.2 hl b ho).1
      rcases hS b hs with c | c
      · omega
      · rcases hk l rfl hl b ho with d | ⟨cs, z, d⟩
        · omega
        · exact (c.2 cs z).2 d
    exact ⟨⟨BV.keepE hf.1 ht far, fun hl b ho => ⟨(hf.2 hl b ho).1, (hf.2 hl b ho).2.keep ht (far hl b ho)⟩⟩, fun l' e' hl b ho => (hk l' e' hl b ho).imp (fun h => h) fun ⟨cs, z, d⟩ => ⟨cs, z, (ht.same b (Array.getElem?_eq_some_iff.1 d).1 (far (by cases e'; exact hl) b ho)).trans d⟩⟩
theorem PG.po {base base' : Nat} {w : World} {x : Value} {L : Pairs} (h : PG base w x L) (hb : base' ≤ base) : PO base' w x L := by
  obtain ⟨V, h1, h2⟩ := h
  refine ⟨V, own_lower h1 hb, fun i a ha c hc => ?_⟩
  obtain ⟨hf, hk⟩ := h2 i a ha c hc
  match c, hf, hk with
  | 0, hf, hk => exact ⟨hf.1, fun l e hl b ho => by cases e; exact .inr ((hk _ rfl hl b ho).resolve_left fun h => by have := (hf.2 hl b ho).1; omega)⟩
  | _ + 1, hf, hk => exact ⟨hf.1, fun l e hl b ho => by cases e; exact .inr ((hk _ rfl hl b ho).resolve_left fun h => by have := (hf.2 hl b ho).1; omega)⟩
theorem PG.lower {base base' : Nat} {w : World} {x : Value} {L : Pairs} (h : PG base w x L) (hb : base' ≤ base) : PG base' w x L := by
  obtain ⟨V, h1, h2⟩ := h
  refine ⟨V, own_lower h1 hb, fun i a ha c hc => ?_⟩
  obtain ⟨hf, hk⟩ := h2 i a ha c hc
  match c, hf, hk with
  | 0, hf, hk => exact ⟨⟨hf.1, fun hl b ho => ⟨Nat.le_trans hb (hf.2 hl b ho).1, (hf.2 hl b ho).2⟩⟩, fun l e hl b ho => by cases e; exact .inr ((hk _ rfl hl b ho).resolve_left fun h => by have := (hf.2 hl b ho).1; omega)⟩
  | _ + 1, hf, hk => exact ⟨⟨hf.1, fun hl b ho => ⟨Nat.le_trans hb (hf.2 hl b ho).1, (hf.2 hl b ho).2⟩⟩, fun l e hl b ho => by cases e; exact .inr ((hk _ rfl hl b ho).resolve_left fun h => by have := (hf.2 hl b ho).1; omega)⟩
theorem OL.elem {α : Type} {T base k : Nat} {fld : α → Nat → Fv} {w : World} {x : Value} {L : List α} (h : OL T base k fld w x L) {b : Nat} (ho : OwnOf x b) : base ≤ b ∧ ∃ cur, w.heap[b]? = some (.cells cur T (0, 0)) := by
  obtain ⟨V, ⟨_, ⟨rfl, _⟩ | ⟨g, cap, cur, rfl, hb', hg, _⟩⟩, _⟩ := h
  · cases ho
  · obtain rfl : b = g := by simpa [OwnOf, Value.ownBlock] using ho
    exact ⟨hb', cur, hg⟩
theorem oth_far {T base B : Nat} {w : World} (hB : base ≤ B) : ∀ b, Oth B w b → Far T base w b := fun b ⟨h1, o, h2, h3⟩ => ⟨Nat.le_trans hB h1, fun cs z => ⟨fun h => (by rw [h] at h2; cases h2; cases h3), fun h => (by rw [h] at h2; cases h2; cases h3)⟩⟩

/-- append of one element, in a round. -/
theorem wpListIn_append_el {F : Fence} {m : Nat} {α : Type} {ST T base k by' : Nat} {fld : α → Nat → Fv} {w : World} {ops : Array Oper} {rest : List Oper} {o : Oper} {a : Act} {Q : Exit → Act → World → Prop} (hgd : o.guard = none) (s x : Operand)
    (ho : o.op = .call { callee := .builtin .append, args := #[s, x], argTypes := #[ST, ST] }) (z : Value) (hst : Try.prog.underlying ST = some (.slice T)) (hinfo : (Try.prog.info? T).map (fun i => (i.zero, i.size, i.bytes)) = some (some z, k, by'))
    (hzs : z.cells.size = k) (hk : 0 < k) (hby : by' ≤ 1000) (hT : T ≠ 5) (v : Value) {L : List α} (hs : a.eval s = v) (hown : OL T base k fld w v L) (b c : Nat) (hx : a.eval x = .slice (some ⟨b, 0, none⟩) 1 c) (us : List Value) (q : α) (hus : us.length = k) (hb : ∀ j u, us[j]? = some u → w.cell? ⟨b, j, none⟩ = some u ∧ KF base w u (fld q j)) (hn : L.length ≤ 1048576) (hbase : base ≤ w.heap.size)
    (h : ∀ v' w', Hid (OL T base k fld w' v' (L ++ [q])) → Hid (Touch (OwnOf v) w w') → wpListIn F m Try.prog ops Q rest (a.put o.dst v') w') : wpListIn F m Try.prog ops Q (o :: rest) a w := by
  obtain ⟨V, hrow, hV⟩ := hown
  have hfl : us = flat k (fun _ j => us.getD j undef) 1 := by
    apply List.ext_getElem?
    intro j
    by_cases hj : j < k
    · have := flat_get k (fun _ j => us.getD j undef) 1 0 j (by omega) hj
      rw [Nat.zero_mul, Nat.zero_add] at this
      rw [this, List.getD_eq_getElem?_getD, List.getElem?_eq_getElem (by omega)]; rfl
    · rw [List.getElem?_eq_none (by omega), List.getElem?_eq_none (by rw [flat_len]; omega)]
  obtain ⟨i0, hi, hz0, hz1, hz2⟩ := info_parts hinfo
  refine wpListIn_append_own w hgd s x ST ho base T i0 z k by' hst hi hz0 hz1 hz2 hzs hk v L.length _ hs hrow ⟨b, 0, none⟩ 1 c us hx (by omega) ?_ (fun u hu => ?_) (by unfold maxLen; omega) ?_ hbase ?_
  · intro j u hj
    rw [add_plain, Nat.zero_add]
    exact (hb j u hj).1
  · obtain ⟨j, hj, e⟩ := List.getElem_of_mem hu
    exact (hb j u (by rw [List.getElem?_eq_getElem hj, e])).2.1.one
  · have : (L.length + 1) * by' ≤ 1048577 * 1000 := Nat.mul_le_mul (by omega) hby
    omega
  · intro v' w' hown' hgrow _
    have hto : Touch (OwnOf v) w w' := touch_grown hgrow
    refine h v' w' (show _ from ?_) hto
    rw [hfl] at hown'
    refine OL.app (M := [q]) hrow hT hV (fun i a ha j hj => ?_) hto hown'
    cases i with
    | succ i => simp at ha
    | zero =>
      simp only [List.getElem?_cons_zero, Option.some.injEq] at ha
      subst ha
      have e : us[j]? = some (us.getD j undef) := by rw [List.getD_eq_getElem?_getD, List.getElem?_eq_getElem (by omega)]; rfl
      exact (hb j _ e).2

def SpanPost (L : Pairs) (w : World) (e : Ending) (w' : World) : Prop := ∃ x, e = .returned x ∧ PO w.heap.size w' x L ∧ Touch Nil w w'
/-- The same, all bytes new. -/
def SpanG (L : Pairs) (w : World) (e : Ending) (w' : World) : Prop := ∃ x, e = .returned x ∧ PG w.heap.size w' x L ∧ Touch Nil w w'
/-- What lies while a span is ranged over. -/
def SpI (b0 base : Nat) (L : Pairs) (i : Nat) (W : World) : Prop := ∃ x, W.heap[b0]? = some (.cells #[x] 26 (0, 0)) ∧ PG base W x (L.take i)
theorem SpI.keep {b0 base B i : Nat} {L : Pairs} {W W' : World} (h : SpI b0 base L i W) (hB : base ≤ B) (ht : Touch (Oth B W) W W') : SpI b0 base L i W' := by
  obtain ⟨x, hb, hp⟩ := h
  exact ⟨x, (ht.same b0 (lt_of_heap hb) fun hs => by obtain ⟨_, o, ho, hc⟩ := hs; rw [hb] at ho; cases ho; cases hc).trans hb, hp.keepS ht fun b hs => .inr (oth_far hB b hs)⟩
set_option maxRecDepth 100000 in
set_option maxHeartbeats 4000000 in
theorem spanG_map {seed : Int} {R : Nat → Prop} {w : World} {mb bb : Nat} {ra : Option Addr} {t : Tree} (h : MapAt seed R w mb bb ra t) {la ha : Option Addr} {ll lc hl hc : Nat} {low high : Key} (hlo : BV w (.slice la ll lc) low) (hhi : BV w (.slice ha hl hc) high) (bo : Bool) :
    Calls Try.prog 31 #[.pointer (some ⟨mb, 0, none⟩), .slice la ll lc, .slice ha hl hc, .bool bo] w (SpanG (partT bo low high t).toL w) := by
  have hm1 : MapAt seed (fun b => R b ∧ b < w.heap.size) w mb bb ra t := ⟨h.top, h.body, h.tree.mono fun b hb hr => ⟨hr, hb⟩, fun c => h.rm c.1, fun c => h.rb c.1, h.srt, h.heap, h.size⟩
  have HP := Lib.hid (part_map (hm1.keepN ((Touch.refl Nil w).alloc (.cells #[.slice none 0 0] 26))) (hlo.keepN ((Touch.refl Nil w).alloc _)) (hhi.keepN ((Touch.refl Nil w).alloc _)) bo)
  have HZ := Lib.hid (Nat.le_trans (part_ok (seed := seed) bo low high h.srt h.heap).2.2 h.size)
  clear h hlo hhi hm1
  refine (callsIn_wide (n := 5)).1 ?_
  refine callsIn_of_wp_marks Try.func31 rfl trivial ?_ rfl
  refine wpIn_wide.2 ?_
  simp only [Try.ntmps31, List.size_toArray, List.length_cons, List.length_nil, Nat.reduceAdd, Nat.reduceSub, Array.replicate_succ, Array.replicate_zero, List.push_toArray, List.append_toArray, List.nil_append, List.cons_append]
  go_wp2_with fail
  refine HP.out.mono ?_
  rintro e w2 ⟨mb2, bb2, ra2, R2, rfl, hm2, hR2, ht2⟩
  obtain ⟨tp, etp⟩ : ∃ tp, partT bo low high t = tp := ⟨_, rfl⟩
  rw [etp] at hm2 HZ
  have HTP := Lib.hid etp
  have HT2 := Lib.hid (((Touch.refl Nil w).alloc (.cells #[.slice none 0 0] 26)).trans ht2)
  have HBX := Lib.hid (show w2.heap[w.heap.size]? = some (.cells #[.slice none 0 0] 26 (0, 0)) from (ht2.same _ (by rw [nblk_alloc]; omega) fun c => c).trans (heap_alloc_new _ _))
  have HR2 := Lib.hid hR2
  have HM2 := Lib.hid hm2
  clear hm2 hR2 ht2 etp HP
  go_wp2_with fail
  refine (all_any _ _).mono ?_
  rintro e w' ⟨rfl, rfl⟩
  go_wp2_with fail
  have hsz : w.heap.size + 1 ≤ w2.heap.size := by have h := lt_of_heap HBX.out; omega
  refine range_map (R := R2) (S := fun b => b = w.heap.size ∨ w2.heap.size ≤ b) (n₀ := w2.heap.size) rfl (HM2.out.keepN ((Touch.refl Nil w2).alloc _)) (cell_new w2 #[.pointer (some ⟨mb2, 0, none⟩)] 24 0) ?_ ?_ (by rw [nblk_alloc]; omega) rfl
    (SpI w.heap.size w2.heap.size tp.toL) ?_ ?_ (fun kx ux => { tmps := #[.pointer (some ⟨mb, 0, none⟩), .slice la ll lc, .slice ha hl hc, .bool bo, undef, undef, undef, undef, .slice none 0 0, .pointer (some ⟨w.heap.size, 0, none⟩), kx, ux, .pointer (some ⟨mb, 0, none⟩), .slice la ll lc, .slice ha hl hc, .bool bo, .pointer (some ⟨mb2, 0, none⟩), .func (.func 95) #[] #[.pointer (some ⟨w2.heap.size, 0, none⟩)], kx, ux, undef, undef, undef, undef, undef, undef, undef], defers := [] }) ?_ ?_ ?_
  · intro b hb hs
    have h1 := HR2.out b hb
    rw [nblk_alloc] at h1
    rcases hs with hs | hs <;> omega
  · intro b hb
    rw [nblk_alloc] at hb
    exact .inr (by omega)
  · intro i W W' hi ht
    exact hi.keep (by rw [nblk_alloc]; omega) ht
  · exact ⟨.slice none 0 0, alloc_same HBX.out, by simpa using (OL.nil : PG w2.heap.size _ (.slice none 0 0) [])⟩
  · intro m l kx ux W K hK
    gi_wp2
    exact hK
  · rintro m l i p W kx ux hp ⟨x, hbx, hpg⟩ hsW hkx hux _
    rw [nblk_alloc] at hsW
    obtain ⟨xa, xl, xc, rfl⟩ := hpg.form3
    obtain ⟨ka, kl, kc, rfl⟩ := hkx.form
    obtain ⟨ua, ul, uc, rfl⟩ := hux.form
    have HXX := Lib.hid (show PG w2.heap.size (W.alloc (.cells #[.slice ka kl kc, .slice ua ul uc] 45)) (.slice xa xl xc) (tp.toL.take i) from hpg.keepN ((Touch.refl Nil W).alloc _))
    have HUS := Lib.hid (show ∀ j v, ([.slice ka kl kc, .slice ua ul uc] : List Value)[j]? = some v → (W.alloc (.cells #[.slice ka kl kc, .slice ua ul uc] 45)).cell? ⟨W.heap.size, j, none⟩ = some v ∧ KF w2.heap.size (W.alloc (.cells #[.slice ka kl kc, .slice ua ul uc] 45)) v (pairG w2.heap.size p j) from fun j v hj => by
      refine ⟨by rw [cell_new]; simpa using hj, ?_⟩
      match j, hj with
      | 0, hj => cases hj; exact (KF.ofOwnG hkx (Nat.le_refl _)).keepN ((Touch.refl Nil W).alloc _)
      | 1, hj => cases hj; exact (KF.ofOwnG hux (Nat.le_refl _)).keepN ((Touch.refl Nil W).alloc _))
    have HLN := Lib.hid (show (tp.toL.take i).length ≤ 100000 from by
      have h1 := List.length_take_le i tp.toL
      have h2 := (List.getElem?_eq_some_iff.1 hp).1
      have h3 := HZ.out
      rw [size_toL] at h3
      omega)
    have HTN := Lib.hid (take_next hp)
    have HBW := Lib.hid hbx
    have HPG := Lib.hid hpg
    have c0 := cells1 hbx
    have HSW := Lib.hid (show w2.heap.size ≤ W.heap.size from by omega)
    clear hbx hpg hkx hux hp
    gi_wp2_with (gi_at_builtin; refine wpListIn_append_el rfl (.tmp 20) (.tmp 24) rfl (.agg #[.slice none 0 0, .slice none 0 0]) Try.underlying26 infoPair rfl (by decide) (by decide) (by decide) (.slice xa xl xc) rfl HXX.out W.heap.size 1 rfl [.slice ka kl kc, .slice ua ul uc] p rfl HUS.out (by have := HLN.out; omega) (by have := HSW.out; rw [nblk_alloc]; omega) ?_; intro v5 w5 ho5 ht5; obtain ⟨va5, vl5, vc5, rfl⟩ := ho5.out.form3; have HB5 := Lib.hid (show w5.heap[w.heap.size]? = some (.cells #[.slice xa xl xc] 26 (0, 0)) from (ht5.out.same _ (by have := lt_of_heap HBW.out; rw [nblk_alloc]; omega) (fun hs => by have h := (HXX.out.elem hs).1; omega)).trans (alloc_same HBW.out)); have c5 := cells1 HB5.out; have f5 : w5.frozen? ⟨w.heap.size, 0, none⟩ = false := (by simp [World.frozen?, HB5.out]))
    have hT5 : Touch (fun b => OwnOf (.slice xa xl xc) b) W w5 := ((Touch.refl _ W).alloc _).trans ht5.out
    refine ⟨?_, ⟨_, set_cell1 HB5.out, ?_⟩, ?_⟩
    · refine keeps_of (S := fun b => OwnOf (.slice xa xl xc) b ∨ b = w.heap.size) ((hT5.mono fun b _ hs => .inl hs).setCell ⟨w.heap.size, 0, none⟩ _ fun _ => .inr rfl) ?_
      rintro b (hs | rfl)
      · obtain ⟨_, cur, h⟩ := HPG.out.elem hs
        exact ⟨_, _, _, h⟩
      · exact ⟨_, _, _, HBW.out⟩
    · rw [HTN.out]
      exact PG.keepS (S := Just w.heap.size) ho5.out ((Touch.refl _ w5).setCell ⟨w.heap.size, 0, none⟩ _ fun _ => rfl) fun b hs => .inl (by have hs : b = w.heap.size := hs; omega)
    · exact (hT5.mono fun b _ hs => .inr (HPG.out.elem hs).1).setCell ⟨w.heap.size, 0, none⟩ _ fun _ => .inl rfl
  · rintro D W hD ⟨x, hbx, hpg⟩ hT hK
    rw [nblk_alloc] at hD
    have x0 := cells1 hbx
    obtain ⟨xa, xl, xc, rfl⟩ := hpg.form3
    have HPG := Lib.hid hpg
    have HBW := Lib.hid hbx
    clear hpg hbx
    go_wp2_with fail
    refine ⟨by simp, .inl ⟨_, _, rfl, run_takeDeferred hK, ?_⟩⟩
    have hput := touch_oth (B := w2.heap.size) (o' := .deferred none) hK rfl (by omega)
    refine ⟨_, results_tmp rfl _ _ _, _, rfl, ?_, ?_⟩
    · have h := HPG.out.keepS hput fun b hs => .inr (oth_far (Nat.le_refl _) b hs)
      rw [List.take_of_length_le (by rw [size_toL]; exact Nat.le_refl _)] at h
      rw [HTP.out]
      exact h.lower (by omega)
    · exact touch_put (HT2.out.trans' (((Touch.refl Nil w2).alloc _).mono (fun _ _ c => c.elim) |>.trans hT) fun b hb hs => by rcases hs with hs | hs <;> omega) (by omega)
theorem span_map {seed : Int} {R : Nat → Prop} {w : World} {mb bb : Nat} {ra : Option Addr} {t : Tree} (h : MapAt seed R w mb bb ra t) {la ha : Option Addr} {ll lc hl hc : Nat} {low high : Key} (hlo : BV w (.slice la ll lc) low) (hhi : BV w (.slice ha hl hc) high) (bo : Bool) :
    Calls Try.prog 31 #[.pointer (some ⟨mb, 0, none⟩), .slice la ll lc, .slice ha hl hc, .bool bo] w (SpanPost (partT bo low high t).toL w) :=
  (spanG_map h hlo hhi bo).mono fun _ _ ⟨x, e, h, ht⟩ => ⟨x, e, h.po (Nat.le_refl _), ht⟩
end Go.Proofs.Ytkkpcndpjkebkaa

/- A map that is ranged over yields its pairs. -/
namespace Go.Proofs.Ytkkpcndpjkebkaa
open Go.ChangeShapes Go.WideShapes Go.ChangeAt Go.RowKit Go.Deep
attribute [local go_sem] Oper.semAt_some

/-- What lies while a map is ranged over: the list, how many pairs have come, that all were the list's. -/
structure RaI (w : World) (s : Value) (i : Nat) (W : World) : Prop where
  l : W.heap[w.heap.size]? = some (.cells #[s] 26 (0, 0))
  n : W.heap[w.heap.size + 1]? = some (.cells #[.int .i64 (i : Int)] 3 (0, 0))
  k : W.heap[w.heap.size + 1 + 1]? = some (.cells #[.bool true] 4 (0, 0))
  t : Touch (From w.heap.size) w W
theorem RaI.keep {w W W' : World} {s : Value} {B i : Nat} (h : RaI w s i W) (hB : w.heap.size ≤ B) (ht : Touch (Oth B W) W W') : RaI w s i W' := by
  have far : ∀ {b : Nat} {cs : Array Value} {t : TypeId}, W.heap[b]? = some (.cells cs t (0, 0)) → W'.heap[b]? = some (.cells cs t (0, 0)) := fun hb => (ht.same _ (lt_of_heap hb) fun hs => by obtain ⟨_, o, ho, hc⟩ := hs; rw [hb] at ho; cases ho; cases hc).trans hb
  exact ⟨far h.l, far h.n, far h.k, h.t.trans (ht.mono fun b _ hs => Nat.le_trans hB hs.1)⟩
/-- The same while bytes of the round are written over. -/
theorem RaI.bytes {w W W' : World} {s v : Value} {i n₀ : Nat} {l : List UInt8} (h : RaI w s i W) (ho : OwnB n₀ W v l) (hB : w.heap.size ≤ n₀) (ht : Touch (OwnOf v) W W') : RaI w s i W' := by
  have far : ∀ {b : Nat} {cs : Array Value} {t : TypeId}, t ≠ 5 → W.heap[b]? = some (.cells cs t (0, 0)) → W'.heap[b]? = some (.cells cs t (0, 0)) := fun hn hb => (ht.same _ (lt_of_heap hb) fun hs => by obtain ⟨cs, z, he⟩ := ho.elem hs; rw [hb] at he; injection he with he; injection he with _ he; exact hn he).trans hb
  exact ⟨far (by decide) h.l, far (by decide) h.n, far (by decide) h.k, h.t.trans (ht.mono fun b _ hs => Nat.le_trans hB (ho.block b hs).1)⟩
set_option maxRecDepth 100000 in
set_option maxHeartbeats 4000000 in
theorem ranged_map {seed : Int} {R : Nat → Prop} {w : World} {mb bb : Nat} {ra : Option Addr} {t : Tree} {lx : Value} (h : MapAt seed R w mb bb ra t) (hp : PL w lx t.toL) :
    Calls Try.prog 64 #[.pointer (some ⟨mb, 0, none⟩), lx] w (TrueP w) := by
  have HM := Lib.hid (show MapAt seed (fun b => R b ∧ b < w.heap.size) w mb bb ra t from ⟨h.top, h.body, h.tree.mono fun b hb hr => ⟨hr, hb⟩, fun c => h.rm c.1, fun c => h.rb c.1, h.srt, h.heap, h.size⟩)
  have HP := Lib.hid hp
  obtain ⟨la, ln, lc, rfl⟩ := hp.form3
  have HLN := Lib.hid (show ln = t.size from by rw [hp.len, ← size_toL])
  have HOK := Lib.hid (treeAt_ok h.tree)
  clear h hp
  refine (callsIn_wide (n := 5)).1 ?_
  refine callsIn_of_wp_marks Try.func64 rfl trivial ?_ rfl
  refine wpIn_wide.2 ?_
  simp only [Try.ntmps64, List.size_toArray, List.length_cons, List.length_nil, Nat.reduceAdd, Nat.reduceSub, Array.replicate_succ, Array.replicate_zero, List.push_toArray, List.append_toArray, List.nil_append, List.cons_append]
  go_wp2_with fail
  obtain ⟨w3, ew3⟩ : ∃ w3, ((w.alloc (.cells #[.slice la ln lc] 26)).alloc (.cells #[.int .i64 0] 3)).alloc (.cells #[.bool true] 4) = w3 := ⟨_, rfl⟩
  have HT3 := Lib.hid (show Touch Nil w w3 from by rw [← ew3]; exact (((Touch.refl Nil w).alloc _).alloc _).alloc _)
  have HI3 := Lib.hid (show RaI w (.slice la ln lc) 0 w3 from by
    have h2 := heap_alloc_new (w.alloc (.cells #[.slice la ln lc] 26)) (.cells #[.int .i64 0] 3)
    have h3 := heap_alloc_new ((w.alloc (.cells #[.slice la ln lc] 26)).alloc (.cells #[.int .i64 0] 3)) (.cells #[.bool true] 4)
    rw [nblk_alloc] at h2
    rw [nblk_alloc, nblk_alloc] at h3
    rw [← ew3]
    exact ⟨alloc_same (alloc_same (heap_alloc_new _ _)), alloc_same h2, h3, ((((Touch.refl Nil w).alloc _).alloc _).alloc _).mono fun _ _ c => c.elim⟩)
  have HS3 := Lib.hid (show w3.heap.size = w.heap.size + 3 from by rw [← ew3]; simp)
  rw [ew3]
  clear ew3
  refine (all_any _ _).mono ?_
  rintro e w' ⟨rfl, rfl⟩
  go_wp2_with fail
  refine range_map (R := fun b => R b ∧ b < w.heap.size) (S := fun b => w.heap.size + 1 ≤ b) (n₀ := w3.heap.size) rfl (HM.out.keepN (HT3.out.alloc _)) (cell_new w3 #[.pointer (some ⟨mb, 0, none⟩)] 24 0) ?_ ?_ (by rw [nblk_alloc]; omega) rfl
    (RaI w (.slice la ln lc)) ?_ ?_ (fun kx ux => { tmps := #[.pointer (some ⟨mb, 0, none⟩), .slice la ln lc, undef, .pointer (some ⟨w.heap.size, 0, none⟩), .bool false, .pointer (some ⟨w.heap.size + 1, 0, none⟩), .pointer (some ⟨w.heap.size + 1 + 1, 0, none⟩), kx, ux, undef, undef, .pointer (some ⟨mb, 0, none⟩), .func (.func 95) #[] #[.pointer (some ⟨w3.heap.size, 0, none⟩)], kx, ux, undef, undef, undef, undef, undef, undef, undef, undef, undef, undef, undef, undef, undef, undef, undef, undef, undef, undef, undef, undef, undef, undef, undef, undef, undef, undef, undef, undef, undef, undef, undef, undef, undef, undef, undef, undef, undef, undef, undef, undef, undef, undef, undef, undef, undef, undef, undef, undef, undef, undef, undef, undef, undef, undef, undef, undef, undef, undef, undef, undef, undef, undef], defers := [] }) ?_ ?_ ?_
  · intro b hb hs
    have h1 := hb.2
    have hs : w.heap.size + 1 ≤ b := hs
    omega
  · intro b hb
    rw [nblk_alloc] at hb
    show w.heap.size + 1 ≤ b
    have := HS3.out
    omega
  · intro i W W' hi ht
    exact hi.keep (by have := HS3.out; rw [nblk_alloc]; omega) ht
  · exact ⟨alloc_same HI3.out.l, alloc_same HI3.out.n, alloc_same HI3.out.k, HI3.out.t.alloc _⟩
  · intro m l kx ux W K hK
    gi_wp2
    exact hK
  · rintro m l i p W kx ux hp hi hsW hkx hux hdis
    rw [nblk_alloc] at hsW
    obtain ⟨ka, kl, kc, rfl⟩ := hkx.form
    obtain ⟨ua, ul, uc, rfl⟩ := hux.form
    have hli := (List.getElem?_eq_some_iff.1 hp).1
    have hok := HOK.out p (List.mem_of_getElem? hp)
    obtain ⟨b, off, ka', kc', ua', uc', rfl, hb, d0, d1, hbk, hbu⟩ := PL.el (HP.out.keepF (Nat.le_refl _) hi.t) hp
    have HKX := Lib.hid hkx
    have HDIS := Lib.hid hdis
    have HSW := Lib.hid (show w.heap.size + 4 ≤ W.heap.size ∧ w.heap.size + 3 = w3.heap.size from by have := HS3.out; omega)
    have HUX := Lib.hid hux
    have hkl : kl = p.1.length := by obtain ⟨_, _, e, _⟩ := hkx.bv; cases e; rfl
    have hul : ul = p.2.length := by obtain ⟨_, _, e, _⟩ := hux.bv; cases e; rfl
    rw [← hkl] at d0 hbk
    rw [← hul] at d1 hbu
    have HLL := Lib.hid (show kl ≤ 64 ∧ ul ≤ 1000 from by rw [hkl, hul]; exact hok.2)
    have HS1 := Lib.hid (show ∀ w', Touch Nil W w' → Calls Try.prog 26 #[.slice ka kl kc, .slice ka' kl kc'] w' (BoolN true w') from fun w' ht => by
      have h := same_any (hkx.bv.keepN ht) (hbk.keepN ht) (by have := hok.2.1; omega) (by have := hok.2.1; omega)
      rwa [decide_eq_true rfl] at h)
    have HS2 := Lib.hid (show ∀ w', Touch Nil W w' → Calls Try.prog 26 #[.slice ua ul uc, .slice ua' ul uc'] w' (BoolN true w') from fun w' ht => by
      have h := same_any (hux.bv.keepN ht) (hbu.keepN ht) (by have := hok.2.2; omega) (by have := hok.2.2; omega)
      rwa [decide_eq_true rfl] at h)
    have i1 : (i : Int) < (ln : Int) := by have := HLN.out; rw [size_toL] at this; omega
    have i2 : (0 : Int) ≤ (i : Int) := by omega
    have HI := Lib.hid hi
    have HST := Lib.hid (show ∀ w', Touch Nil W w' → w'.cell? ⟨w.heap.size, 0, none⟩ = some (.slice (some ⟨b, off, none⟩) ln lc) ∧ w'.cell? ⟨w.heap.size + 1, 0, none⟩ = some (.int .i64 (i : Int)) ∧ w'.cell? ⟨w.heap.size + 1 + 1, 0, none⟩ = some (.bool true) ∧ w'.frozen? ⟨w.heap.size + 1 + 1, 0, none⟩ = false ∧ w'.cell? ⟨b, off + i * 2, none⟩ = some (.slice ka' kl kc') ∧ w'.cell? ⟨b, off + i * 2 + 1, none⟩ = some (.slice ua' ul uc') from fun w' ht => by
      have hk : w'.heap[w.heap.size + 1 + 1]? = some (.cells #[.bool true] 4 (0, 0)) := (ht.same _ (lt_of_heap hi.k) fun c => c).trans hi.k
      exact ⟨cell_step (cells1 hi.l) ht, cell_step (cells1 hi.n) ht, cells1 hk, by simp [World.frozen?, hk], cell_step d0 ht, cell_step d1 ht⟩)
    obtain ⟨x0, x1, x2, x3, x4, x5⟩ := HST.out W (Touch.refl _ _)
    have hdd : ∀ q : Nat, (Fence.wide.depth.isSome = true → 1 ≤ q) := fun q h => by cases h
    have HIL := Lib.hid (show i < 1000000 from by have h1 := HM.out.size; rw [size_toL] at h1; omega)
    clear hi hkx hux hbk hbu d0 d1 hb hkl hul hok hli hp hdis hsW
    gi_wp2_with (first
      | ((try refine ⟨trivial, ?_⟩); (try refine ⟨hdd _, ?_⟩); gi_at_call_has 26 (Value.slice ka kl kc); refine (CallsIn.inRound l (callsIn_wide.2 (HS1.out _ (Touch.refl _ _)))).mono ?_; rintro e W1 ⟨rfl, ht1⟩; have hT1 : Touch Nil W W1 := ht1; clear x0 x1 x2 x3 x4 x5; obtain ⟨x0, x1, x2, x3, x4, x5⟩ := HST.out W1 hT1)
      | ((try refine ⟨trivial, ?_⟩); (try refine ⟨hdd _, ?_⟩); gi_at_call_has 26 (Value.slice ua ul uc); refine (CallsIn.inRound l (callsIn_wide.2 (HS2.out _ hT1))).mono ?_; rintro e W2 ⟨rfl, ht2⟩; have hT2 : Touch Nil W W2 := hT1.trans ht2; clear x0 x1 x2 x3 x4 x5; obtain ⟨x0, x1, x2, x3, x4, x5⟩ := HST.out W2 hT2))
    have HT2 := Lib.hid hT2
    have HI2 := Lib.hid (show RaI w (.slice (some ⟨b, off, none⟩) ln lc) i W2 from ⟨(hT2.same _ (lt_of_heap HI.out.l) fun c => c).trans HI.out.l, (hT2.same _ (lt_of_heap HI.out.n) fun c => c).trans HI.out.n, (hT2.same _ (lt_of_heap HI.out.k) fun c => c).trans HI.out.k, HI.out.t.trans (hT2.mono fun _ _ c => c.elim)⟩)
    have hts := (Touch.refl (Just (w.heap.size + 1 + 1)) W2).setCell ⟨w.heap.size + 1 + 1, 0, none⟩ (.bool true) fun _ => rfl
    have hnb : NotBytes (Just (w.heap.size + 1 + 1)) W2 := fun c hs cs z h => by
      have hs : c = w.heap.size + 1 + 1 := hs
      rw [hs, HI2.out.k] at h
      injection h with h
      injection h with _ h
      exact absurd h (by decide)
    have HI3w := Lib.hid (show RaI w (.slice (some ⟨b, off, none⟩) ln lc) i (W2.setCell ⟨w.heap.size + 1 + 1, 0, none⟩ (.bool true)) from ⟨(hts.same _ (lt_of_heap HI2.out.l) fun e => by have e : w.heap.size = w.heap.size + 1 + 1 := e; omega).trans HI2.out.l, (hts.same _ (lt_of_heap HI2.out.n) fun e => by have e : w.heap.size + 1 = w.heap.size + 1 + 1 := e; omega).trans HI2.out.n, set_cell1 HI2.out.k, HI2.out.t.trans (hts.mono fun c _ hs => by have hs : c = w.heap.size + 1 + 1 := hs; show w.heap.size ≤ c; omega)⟩)
    have HKX3 := Lib.hid ((HKX.out.keep hT2 fun _ _ c => c).keepT hts hnb)
    have HUX3 := Lib.hid ((HUX.out.keep hT2 fun _ _ c => c).keepT hts hnb)
    have HKO3 := Lib.hid (show KeepsOthers W (W2.setCell ⟨w.heap.size + 1 + 1, 0, none⟩ (.bool true)) from keeps_of (S := Just (w.heap.size + 1 + 1)) ((hT2.mono fun _ _ c => c.elim).trans hts) fun c hs => by
      have hs : c = w.heap.size + 1 + 1 := hs
      exact ⟨_, _, _, by rw [hs]; exact HI.out.k⟩)
    have HTS3 := Lib.hid (show Touch (fun c => w.heap.size + 1 ≤ c) W (W2.setCell ⟨w.heap.size + 1 + 1, 0, none⟩ (.bool true)) from (hT2.mono fun _ _ c => c.elim).trans (hts.mono fun c _ hs => by have hs : c = w.heap.size + 1 + 1 := hs; omega))
    obtain ⟨W3, eW3⟩ : ∃ W3, W2.setCell ⟨w.heap.size + 1 + 1, 0, none⟩ (.bool true) = W3 := ⟨_, rfl⟩
    rw [eW3] at HI3w HKX3 HUX3 HKO3 HTS3 ⊢
    clear eW3 hts hnb hT2 hT1 x0 x1 x2 x3 x4 x5 HI2 HT2 HS1 HS2 HST
    have hkl6 : kl ≤ 64 := HLL.out.1
    have hul6 : ul ≤ 1000 := HLL.out.2
    gi_loopw [42] (fun s wr => ∃ (z : Nat) (l' : List UInt8), z ≤ kl ∧ s = .int .i64 (z : Int) ∧ Hid (l'.length = kl ∧ OwnB w3.heap.size wr (.slice ka kl kc) l' ∧ Touch (OwnOf (.slice ka kl kc)) W3 wr)) (fun s _ => kl - (intOf s).toNat)
    case atStart => exact ⟨0, p.1, Nat.zero_le _, rfl, Lib.hid ⟨by obtain ⟨_, _, e, _⟩ := HKX3.out.bv; cases e; rfl, HKX3.out, Touch.refl _ _⟩⟩
    obtain ⟨z, l', hz, rfl, HL⟩ := hrel
    by_cases hlt : z < kl
    · obtain ⟨g, rfl⟩ : ∃ g, ka = some ⟨g, 0, none⟩ := by
        obtain ⟨_, ⟨e, _⟩ | ⟨g, _, _, e, _⟩⟩ := HL.out.2.1
        · cases e; omega
        · cases e; exact ⟨g, rfl⟩
      obtain ⟨Y, hxor⟩ := xor_u8 (l'.getD z 0) 90
      have hxor : bits BinOp.xor IntKind.u8 (((l'.getD z 0).toNat : Nat) : Int) 90 = ((Y.toNat : Nat) : Int) := hxor
      obtain ⟨hset, hcell, hfr⟩ := HL.out.2.1.set (i := z) (by rw [HL.out.1]; exact hlt) Y
      have HSET := Lib.hid (And.intro (show (l'.set z Y).length = kl by rw [List.length_set]; exact HL.out.1) (And.intro hset (HL.out.2.2.setCell ⟨g, z, none⟩ (.int .u8 ((Y.toNat : Nat) : Int)) fun _ => rfl)))
      have hX := (l'.getD z 0).toNat_lt
      generalize (l'.getD z 0).toNat = X at *
      have j1 : (z : Int) < (kl : Int) := by omega
      have j2 : (0 : Int) ≤ (z : Int) := by omega
      clear hset
      gi_wp2
      go_roundw
      case rel => exact ⟨z + 1, l'.set z Y, by omega, by go_num, HSET⟩
      case measure => simp [intOf]; omega
    · obtain rfl : z = kl := by omega
      have HIA := Lib.hid (HI3w.out.bytes HKX3.out (by have := HSW.out; omega) HL.out.2.2)
      have HUA := Lib.hid (show OwnB w3.heap.size wr (.slice ua ul uc) p.2 from HUX3.out.keep HL.out.2.2 fun c c1 c2 => HDIS.out c c2 c1)
      have HTA := Lib.hid (show Touch (fun c => w.heap.size + 1 ≤ c) W wr ∧ KeepsOthers W wr from ⟨HTS3.out.trans (HL.out.2.2.mono fun c _ hs => by have h1 := (HKX3.out.block c hs).1; have h2 := HSW.out; omega), HKO3.out.trans (keeps_of HL.out.2.2 fun c hs => by obtain ⟨cs, y, h⟩ := HKX3.out.elem hs; exact ⟨_, _, _, h⟩)⟩)
      obtain ⟨W4, eW4⟩ : ∃ W4, wr = W4 := ⟨_, rfl⟩
      rw [eW4] at HIA HUA HTA ⊢
      clear HL HI3w HKX3 HUX3 HKO3 HTS3 HKX HUX HI hlt hz eW4
      gi_wp2
      gi_loopw [56] (fun s wr => ∃ (y : Nat) (l' : List UInt8), y ≤ ul ∧ s = .int .i64 (y : Int) ∧ Hid (l'.length = ul ∧ OwnB w3.heap.size wr (.slice ua ul uc) l' ∧ Touch (OwnOf (.slice ua ul uc)) W4 wr)) (fun s _ => ul - (intOf s).toNat)
      case atStart => exact ⟨0, p.2, Nat.zero_le _, rfl, Lib.hid ⟨by obtain ⟨_, _, e, _⟩ := HUA.out.bv; cases e; rfl, HUA.out, Touch.refl _ _⟩⟩
      obtain ⟨y, l2, hy, rfl, HL2⟩ := hrel
      by_cases hlt : y < ul
      · obtain ⟨g, rfl⟩ : ∃ g, ua = some ⟨g, 0, none⟩ := by
          obtain ⟨_, ⟨e, _⟩ | ⟨g, _, _, e, _⟩⟩ := HL2.out.2.1
          · cases e; omega
          · cases e; exact ⟨g, rfl⟩
        obtain ⟨Y, hxor⟩ := xor_u8 (l2.getD y 0) 90
        have hxor : bits BinOp.xor IntKind.u8 (((l2.getD y 0).toNat : Nat) : Int) 90 = ((Y.toNat : Nat) : Int) := hxor
        obtain ⟨hset, hcell, hfr⟩ := HL2.out.2.1.set (i := y) (by rw [HL2.out.1]; exact hlt) Y
        have HSET := Lib.hid (And.intro (show (l2.set y Y).length = ul by rw [List.length_set]; exact HL2.out.1) (And.intro hset (HL2.out.2.2.setCell ⟨g, y, none⟩ (.int .u8 ((Y.toNat : Nat) : Int)) fun _ => rfl)))
        have hX := (l2.getD y 0).toNat_lt
        generalize (l2.getD y 0).toNat = X at *
        have j1 : (y : Int) < (ul : Int) := by omega
        have j2 : (0 : Int) ≤ (y : Int) := by omega
        clear hset
        gi_wp2
        go_roundw
        case rel => exact ⟨y + 1, l2.set y Y, by omega, by go_num, HSET⟩
        case measure => simp [intOf]; omega
      · obtain rfl : y = ul := by omega
        have HIB := Lib.hid (HIA.out.bytes HUA.out (by have := HSW.out; omega) HL2.out.2.2)
        have HTB := Lib.hid (show Touch (fun c => w.heap.size + 1 ≤ c) W wr ∧ KeepsOthers W wr from ⟨HTA.out.1.trans (HL2.out.2.2.mono fun c _ hs => by have h1 := (HUA.out.block c hs).1; have h2 := HSW.out; omega), HTA.out.2.trans (keeps_of HL2.out.2.2 fun c hs => by obtain ⟨cs, y, h⟩ := HUA.out.elem hs; exact ⟨_, _, _, h⟩)⟩)
        have n0 := cells1 HIB.out.n
        have n1 : wr.frozen? ⟨w.heap.size + 1, 0, none⟩ = false := by simp [World.frozen?, HIB.out.n]
        have hi9 : i ≤ 1000000 := by have := HIL.out; omega
        gi_wp2
        have hts := (Touch.refl (Just (w.heap.size + 1)) wr).setCell ⟨w.heap.size + 1, 0, none⟩ (.int .i64 ((i : Int) + 1)) fun _ => rfl
        refine ⟨?_, ⟨?_, ?_, ?_, ?_⟩, ?_⟩
        · exact HTB.out.2.trans (keeps_of (S := Just (w.heap.size + 1)) hts fun c hs => by
            have hs : c = w.heap.size + 1 := hs
            exact ⟨_, _, _, by rw [hs]; exact HIB.out.n⟩)
        · exact (hts.same _ (lt_of_heap HIB.out.l) fun e => by have e : w.heap.size = w.heap.size + 1 := e; omega).trans HIB.out.l
        · have h := set_cell1 (z := .int .i64 ((i : Int) + 1)) HIB.out.n
          rw [show (((i + 1 : Nat) : Nat) : Int) = (i : Int) + 1 by omega]
          exact h
        · exact (hts.same _ (lt_of_heap HIB.out.k) fun e => by have e : w.heap.size + 1 + 1 = w.heap.size + 1 := e; omega).trans HIB.out.k
        · exact HIB.out.t.trans (hts.mono fun c _ hs => by have hs : c = w.heap.size + 1 := hs; show w.heap.size ≤ c; omega)
        · exact HTB.out.1.trans (hts.mono fun c _ hs => by have hs : c = w.heap.size + 1 := hs; omega)
  · rintro D W hD hi hT hK
    rw [nblk_alloc] at hD
    have HI := Lib.hid hi
    have x0 := cells1 hi.l
    have x1 := cells1 hi.n
    have x2 := cells1 hi.k
    have hlt : t.size = ln := HLN.out.symm
    rw [hlt] at x1
    have hq : ((ln : Int) == (ln : Int)) = true := by simp
    clear hi
    go_wp2_with fail
    refine ⟨by simp, .inl ⟨_, _, rfl, run_takeDeferred hK, ?_⟩⟩
    exact ⟨_, results_tmp rfl _ _ _, rfl, touch_put (HI.out.t.mono fun b hb hs => by have hs : w.heap.size ≤ b := hs; omega) (by have := HS3.out; omega)⟩
end Go.Proofs.Ytkkpcndpjkebkaa

/- A map that has some pairs is whole. -/
namespace Go.Proofs.Ytkkpcndpjkebkaa
open Go.ChangeShapes Go.WideShapes Go.ChangeAt Go.RowKit Go.Deep

theorem imgB_len {t : Tree} (h : OkL' t) (hz : t.size ≤ 100000) : (imgB t).length ≤ 200000000 := by
  have := imgT_len h
  unfold imgB
  rw [List.length_append, leB_len]
  omega
set_option maxRecDepth 100000 in
set_option maxHeartbeats 4000000 in
theorem whole_map {seed : Int} {R : Nat → Prop} {w : World} {mb bb : Nat} {ra : Option Addr} {t : Tree} {lx : Value} (h : MapAt seed R w mb bb ra t) (hp : PL w lx t.toL) :
    Calls Try.prog 18 #[.pointer (some ⟨mb, 0, none⟩), .int .u64 seed, lx] w (TrueP w) := by
  have hok := treeAt_ok h.tree
  have HH := Lib.hid h
  have HP := Lib.hid hp
  have HRA := Lib.hid (ranged_map h hp)
  have HLE := Lib.hid (fun w' (ht : Touch Nil w w') => len_map (h.keepN ht))
  have HDI := Lib.hid (fun w' (ht : Touch Nil w w') => digest_map (h.keepN ht))
  have HDR := Lib.hid (fun w' (ht : Touch Nil w w') => digestR_any (seed := seed) h.srt h.heap hok (hp.keepN ht) (by have := h.size; omega))
  have HIM := Lib.hid (fun w' (ht : Touch Nil w w') => image_map (h.keepN ht))
  have HIR := Lib.hid (fun w' (ht : Touch Nil w w') => imageR_any (seed := seed) h.srt h.heap hok (hp.keepN ht) h.size)
  have HSP := Lib.hid (fun w' (ht : Touch Nil w w') => span_map (h.keepN ht) (BV.nil w') (BV.nil w') false)
  have HIL := Lib.hid (imgB_len (treeAt_okT h.tree) h.size)
  have HOK := Lib.hid hok
  have HPA := Lib.hid (part_all t h.srt)
  obtain ⟨la, ln, lc, rfl⟩ := hp.form3
  have hln : t.size = ln := by rw [hp.len, ← size_toL]
  simp only [hln] at HLE
  have HSZ := Lib.hid (show ln ≤ 100000 from by rw [← hln]; exact h.size)
  obtain ⟨d, ed⟩ : ∃ d, digT seed t = d := ⟨_, rfl⟩
  simp only [ed] at HDI HDR
  have q1 : ((ln : Int) != (ln : Int)) = false := by simp
  have q2 : ((d : Int) != (d : Int)) = false := by simp
  clear h hp hok hln ed
  go_enter Try.func18, Try.ntmps18
  go_wp2_with fail
  refine HRA.out.mono ?_
  rintro e w1 ⟨rfl, ht1⟩
  have HT1 := Lib.hid (show Touch Nil w w1 from ht1)
  clear ht1
  go_wp2_with fail
  refine (HLE.out _ HT1.out).mono ?_
  rintro e w' ⟨rfl, rfl⟩
  go_wp2_with fail
  refine (HDI.out _ HT1.out).mono ?_
  rintro e w' ⟨rfl, rfl⟩
  go_wp2_with fail
  refine (HDR.out _ HT1.out).mono ?_
  rintro e w2 ⟨rfl, ht2⟩
  have HT2 := Lib.hid (HT1.out.trans ht2)
  clear ht2
  go_wp2_with fail
  refine (HIM.out _ HT2.out).mono ?_
  rintro e w3 ⟨x3, rfl, ho3, ht3⟩
  obtain ⟨xa3, xl3, xc3, rfl⟩ := ho3.form
  have HO3 := Lib.hid ho3.bv
  have HT3 := Lib.hid (HT2.out.trans ht3)
  clear ho3 ht3
  go_wp2_with fail
  refine (HIR.out _ HT3.out).mono ?_
  rintro e w4 ⟨x4, rfl, ho4, ht4⟩
  obtain ⟨xa4, xl4, xc4, rfl⟩ := ho4.form
  have HT4 := Lib.hid (HT3.out.trans ht4)
  have HSM := Lib.hid (same_any (HO3.out.keepN ht4) ho4.bv (by have := HIL.out; omega) (by have := HIL.out; omega))
  rw [decide_eq_true rfl] at HSM
  clear ho4 ht4
  go_wp2_with fail
  refine HSM.out.mono ?_
  rintro e w5 ⟨rfl, ht5⟩
  have HT5 := Lib.hid (HT4.out.trans ht5)
  clear ht5
  go_wp2_with fail
  refine (HSP.out _ HT5.out).mono ?_
  rintro e w6 ⟨x6, rfl, ho6, ht6⟩
  have HT6 := Lib.hid (HT5.out.trans ht6)
  rw [HPA.out] at ho6
  obtain ⟨xa6, xl6, xc6, rfl⟩ := ho6.form3
  have HSQ := Lib.hid (samePairs_any ho6.rl (HP.out.keepN HT6.out) (fun p hp => by have := HOK.out p hp; unfold okK at this; omega) (by have := HH.out.size; rw [size_toL] at this; omega))
  clear ho6 ht6
  go_wp2_with fail
  refine HSQ.out.mono ?_
  rintro e w7 ⟨rfl, ht7⟩
  have HT7 := Lib.hid (HT6.out.trans ht7)
  clear ht7
  go_wp2_with fail
  go_ret
  exact ⟨rfl, HT7.out⟩
end Go.Proofs.Ytkkpcndpjkebkaa
