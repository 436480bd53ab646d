import Derived.Test.YtbckakpgfmcljaaRange
import Derived.Test.YtbckakpgfmcljaaPart
import Derived.Test.YtbckakpgfmcljaaImgR
/- The pairs of a span, as a list. -/
namespace Go.Proofs.Ytbckakpgfmcljaa
open Go.ChangeShapes Go.WideShapes Go.ChangeAt Go.RowKit Go.Deep
attribute [local go_sem] Oper.semAt_some

/-- Blocks that hold neither a list's rows nor bytes, from a height on. -/
def Far (T base : Nat) (w : World) (b : Nat) : Prop := base ≤ b ∧ ∀ cs z, w.heap[b]? ≠ some (.cells cs T z) ∧ w.heap[b]? ≠ some (.cells cs 5 z)
/-- A pair, its bytes in blocks from lo on. -/
def pairG (lo : Nat) (p : Key × Key) : Nat → Fv
  | 0 => .o lo p.1
  | _ => .o lo p.2
/-- A list of pairs in new memory, with all its bytes. -/
abbrev PG (base : Nat) (w : World) (x : Value) (L : Pairs) : Prop := OL 45 base 2 (pairG base) w x L
theorem pairG_o (lo : Nat) (p : Key × Key) (c : Nat) : ∃ l, pairG lo p c = .o lo l := by
  match c with
  | 0 => exact ⟨_, rfl⟩
  | _ + 1 => exact ⟨_, rfl⟩
theorem PG.keepS {S : Nat → Prop} {base : Nat} {w w' : World} {x : Value} {L : Pairs} (h : PG base w x L) (ht : Touch S w w') (hS : ∀ b, S b → b < base ∨ Far 45 base w b) : PG base w' x L := by
  obtain ⟨V, h1, h2⟩ := h
  refine ⟨V, ?_, fun i a ha c hc => ?_⟩
  · have hb := own_base h1
    obtain ⟨hl, hcase⟩ := h1
    refine ⟨hl, hcase.imp (fun h => h) fun ⟨g0, cap, cur, r1, r2, r3, r4⟩ => ⟨g0, cap, cur, r1, r2, (ht.same g0 (Array.getElem?_eq_some_iff.1 r3).1 fun hs => ?_).trans r3, r4⟩⟩
    rcases hS g0 hs with c | c
    · omega
    · exact (c.2 _ _).1 r3
  · obtain ⟨hf, hk⟩ := h2 i a ha c hc
    obtain ⟨l, e⟩ := pairG_o base a c
    rw [e] at hf hk ⊢
    have far : l ≠ [] → ∀ b, OwnOf (V i c) b → ¬ S b := fun hl b ho hs => by
      have h0 := hf.2 hl b ho
      rcases hS b hs with c | c
      · omega
      · rcases hk l rfl hl b ho with d | ⟨cs, z, d⟩
        · omega
        · exact (c.2 cs z).2 d
    exact ⟨⟨BV.keepE hf.1 ht far, hf.2⟩, fun l' e' hl b ho => (hk l' e' hl b ho).imp (fun h => h) fun ⟨cs, z, d⟩ => ⟨cs, z, (ht.same b (Array.getElem?_eq_some_iff.1 d).1 (far (by cases e'; exact hl) b ho)).trans d⟩⟩
theorem PG.po {base base' : Nat} {w : World} {x : Value} {L : Pairs} (h : PG base w x L) (hb : base' ≤ base) : PO base' w x L := by
  obtain ⟨V, h1, h2⟩ := h
  refine ⟨V, own_lower h1 hb, fun i a ha c hc => ?_⟩
  obtain ⟨hf, hk⟩ := h2 i a ha c hc
  match c, hf, hk with
  | 0, hf, hk => exact ⟨hf.1, fun l e hl b ho => by cases e; exact .inr ((hk _ rfl hl b ho).resolve_left fun h => by have := hf.2 hl b ho; omega)⟩
  | _ + 1, hf, hk => exact ⟨hf.1, fun l e hl b ho => by cases e; exact .inr ((hk _ rfl hl b ho).resolve_left fun h => by have := hf.2 hl b ho; omega)⟩
theorem OL.elem {α : Type} {T base k : Nat} {fld : α → Nat → Fv} {w : World} {x : Value} {L : List α} (h : OL T base k fld w x L) {b : Nat} (ho : OwnOf x b) : base ≤ b ∧ ∃ cur, w.heap[b]? = some (.cells cur T (0, 0)) := by
  obtain ⟨V, ⟨_, ⟨rfl, _⟩ | ⟨g, cap, cur, rfl, hb', hg, _⟩⟩, _⟩ := h
  · cases ho
  · obtain rfl : b = g := by simpa [OwnOf, Value.ownBlock] using ho
    exact ⟨hb', cur, hg⟩
theorem oth_far {T base B : Nat} {w : World} (hB : base ≤ B) : ∀ b, Oth B w b → Far T base w b := fun b ⟨h1, o, h2, h3⟩ => ⟨Nat.le_trans hB h1, fun cs z => ⟨fun h => (by rw [h] at h2; cases h2; cases h3), fun h => (by rw [h] at h2; cases h2; cases h3)⟩⟩

/-- append of one element, in a round. -/
theorem wpListIn_append_el {F : Fence} {m : Nat} {α : Type} {ST T base k by' : Nat} {fld : α → Nat → Fv} {w : World} {ops : Array Oper} {rest : List Oper} {o : Oper} {a : Act} {Q : Exit → Act → World → Prop} (hgd : o.guard = none) (s x : Operand)
    (ho : o.op = .call { callee := .builtin .append, args := #[s, x], argTypes := #[ST, ST] }) (z : Value) (hst : Try.prog.underlying ST = some (.slice T)) (hinfo : (Try.prog.info? T).map (fun i => (i.zero, i.size, i.bytes)) = some (some z, k, by'))
    (hzs : z.cells.size = k) (hk : 0 < k) (hby : by' ≤ 1000) (hT : T ≠ 5) (v : Value) {L : List α} (hs : a.eval s = v) (hown : OL T base k fld w v L) (b c : Nat) (hx : a.eval x = .slice (some ⟨b, 0, none⟩) 1 c) (us : List Value) (q : α) (hus : us.length = k) (hb : ∀ j u, us[j]? = some u → w.cell? ⟨b, j, none⟩ = some u ∧ KF base w u (fld q j)) (hn : L.length ≤ 1048576) (hbase : base ≤ w.heap.size)
    (h : ∀ v' w', Hid (OL T base k fld w' v' (L ++ [q])) → Hid (Touch (OwnOf v) w w') → wpListIn F m Try.prog ops Q rest (a.put o.dst v') w') : wpListIn F m Try.prog ops Q (o :: rest) a w := by
  obtain ⟨V, hrow, hV⟩ := hown
  have hfl : us = flat k (fun _ j => us.getD j undef) 1 := by
    apply List.ext_getElem?
    intro j
    by_cases hj : j < k
    · have := flat_get k (fun _ j => us.getD j undef) 1 0 j (by omega) hj
      rw [Nat.zero_mul, Nat.zero_add] at this
      rw [this, List.getD_eq_getElem?_getD, List.getElem?_eq_getElem (by omega)]; rfl
    · rw [List.getElem?_eq_none (by omega), List.getElem?_eq_none (by rw [flat_len]; omega)]
  obtain ⟨i0, hi, hz0, hz1, hz2⟩ := info_parts hinfo
  refine wpListIn_append_own w hgd s x ST ho base T i0 z k by' hst hi hz0 hz1 hz2 hzs hk v L.length _ hs hrow ⟨b, 0, none⟩ 1 c us hx (by omega) ?_ (fun u hu => ?_) (by unfold maxLen; omega) ?_ hbase ?_
  · intro j u hj
    rw [add_plain, Nat.zero_add]
    exact (hb j u hj).1
  · obtain ⟨j, hj, e⟩ := List.getElem_of_mem hu
    exact (hb j u (by rw [List.getElem?_eq_getElem hj, e])).2.1.one
  · have : (L.length + 1) * by' ≤ 1048577 * 1000 := Nat.mul_le_mul (by omega) hby
    omega
  · intro v' w' hown' hgrow _
    have hto : Touch (OwnOf v) w w' := touch_grown hgrow
    refine h v' w' (show _ from ?_) hto
    rw [hfl] at hown'
    refine OL.app (M := [q]) hrow hT hV (fun i a ha j hj => ?_) hto hown'
    cases i with
    | succ i => simp at ha
    | zero =>
      simp only [List.getElem?_cons_zero, Option.some.injEq] at ha
      subst ha
      have e : us[j]? = some (us.getD j undef) := by rw [List.getD_eq_getElem?_getD, List.getElem?_eq_getElem (by omega)]; rfl
      exact (hb j _ e).2

def SpanPost (L : Pairs) (w : World) (e : Ending) (w' : World) : Prop := ∃ x, e = .returned x ∧ PO w.heap.size w' x L ∧ Touch Nil w w'
/-- What lies while a span is ranged over. -/
def SpI (b0 base : Nat) (L : Pairs) (i : Nat) (W : World) : Prop := ∃ x, W.heap[b0]? = some (.cells #[x] 26 (0, 0)) ∧ PG base W x (L.take i)
theorem SpI.keep {b0 base B i : Nat} {L : Pairs} {W W' : World} (h : SpI b0 base L i W) (hB : base ≤ B) (ht : Touch (Oth B W) W W') : SpI b0 base L i W' := by
  obtain ⟨x, hb, hp⟩ := h
  exact ⟨x, (ht.same b0 (lt_of_heap hb) fun hs => by obtain ⟨_, o, ho, hc⟩ := hs; rw [hb] at ho; cases ho; cases hc).trans hb, hp.keepS ht fun b hs => .inr (oth_far hB b hs)⟩
set_option maxRecDepth 100000 in
set_option maxHeartbeats 4000000 in
theorem span_map {seed : Int} {R : Nat → Prop} {w : World} {mb bb : Nat} {ra : Option Addr} {t : Tree} (h : MapAt seed R w mb bb ra t) {la ha : Option Addr} {ll lc hl hc : Nat} {low high : Key} (hlo : BV w (.slice la ll lc) low) (hhi : BV w (.slice ha hl hc) high) (bo : Bool) :
    Calls Try.prog 31 #[.pointer (some ⟨mb, 0, none⟩), .slice la ll lc, .slice ha hl hc, .bool bo] w (SpanPost (partT bo low high t).toL w) := by
  have hm1 : MapAt seed (fun b => R b ∧ b < w.heap.size) w mb bb ra t := ⟨h.top, h.body, h.tree.mono fun b hb hr => ⟨hr, hb⟩, fun c => h.rm c.1, fun c => h.rb c.1, h.srt, h.heap, h.size⟩
  have HP := Lib.hid (part_map (hm1.keepN ((Touch.refl Nil w).alloc (.cells #[.slice none 0 0] 26))) (hlo.keepN ((Touch.refl Nil w).alloc _)) (hhi.keepN ((Touch.refl Nil w).alloc _)) bo)
  have HZ := Lib.hid (Nat.le_trans (part_ok (seed := seed) bo low high h.srt h.heap).2.2 h.size)
  clear h hlo hhi hm1
  refine (callsIn_wide (n := 5)).1 ?_
  refine callsIn_of_wp_marks Try.func31 rfl trivial ?_ rfl
  refine wpIn_wide.2 ?_
  simp only [Try.ntmps31, List.size_toArray, List.length_cons, List.length_nil, Nat.reduceAdd, Nat.reduceSub, Array.replicate_succ, Array.replicate_zero, List.push_toArray, List.append_toArray, List.nil_append, List.cons_append]
  go_wp2_with fail
  refine HP.out.mono ?_
  rintro e w2 ⟨mb2, bb2, ra2, R2, rfl, hm2, hR2, ht2⟩
  obtain ⟨tp, etp⟩ : ∃ tp, partT bo low high t = tp := ⟨_, rfl⟩
  rw [etp] at hm2 HZ
  have HTP := Lib.hid etp
  have HT2 := Lib.hid (((Touch.refl Nil w).alloc (.cells #[.slice none 0 0] 26)).trans ht2)
  have HBX := Lib.hid (show w2.heap[w.heap.size]? = some (.cells #[.slice none 0 0] 26 (0, 0)) from (ht2.same _ (by rw [nblk_alloc]; omega) fun c => c).trans (heap_alloc_new _ _))
  have HR2 := Lib.hid hR2
  have HM2 := Lib.hid hm2
  clear hm2 hR2 ht2 etp HP
  go_wp2_with fail
  refine (all_any _ _).mono ?_
  rintro e w' ⟨rfl, rfl⟩
  go_wp2_with fail
  have hsz : w.heap.size + 1 ≤ w2.heap.size := by have h := lt_of_heap HBX.out; omega
  refine range_map (R := R2) (S := fun b => b = w.heap.size ∨ w2.heap.size ≤ b) (n₀ := w2.heap.size) rfl (HM2.out.keepN ((Touch.refl Nil w2).alloc _)) (cell_new w2 #[.pointer (some ⟨mb2, 0, none⟩)] 24 0) ?_ ?_ (by rw [nblk_alloc]; omega) rfl
    (SpI w.heap.size w2.heap.size tp.toL) ?_ ?_ (fun kx ux => { tmps := #[.pointer (some ⟨mb, 0, none⟩), .slice la ll lc, .slice ha hl hc, .bool bo, undef, undef, undef, undef, .slice none 0 0, .pointer (some ⟨w.heap.size, 0, none⟩), kx, ux, .pointer (some ⟨mb, 0, none⟩), .slice la ll lc, .slice ha hl hc, .bool bo, .pointer (some ⟨mb2, 0, none⟩), .func (.func 95) #[] #[.pointer (some ⟨w2.heap.size, 0, none⟩)], kx, ux, undef, undef, undef, undef, undef, undef, undef], defers := [] }) ?_ ?_ ?_
  · intro b hb hs
    have h1 := HR2.out b hb
    rw [nblk_alloc] at h1
    rcases hs with hs | hs <;> omega
  · intro b hb
    rw [nblk_alloc] at hb
    exact .inr (by omega)
  · intro i W W' hi ht
    exact hi.keep (by rw [nblk_alloc]; omega) ht
  · exact ⟨.slice none 0 0, alloc_same HBX.out, by simpa using (OL.nil : PG w2.heap.size _ (.slice none 0 0) [])⟩
  · intro m l kx ux W K hK
    gi_wp2
    exact hK
  · rintro m l i p W kx ux hp ⟨x, hbx, hpg⟩ hsW hkx hux _
    rw [nblk_alloc] at hsW
    obtain ⟨xa, xl, xc, rfl⟩ := hpg.form3
    obtain ⟨ka, kl, kc, rfl⟩ := hkx.form
    obtain ⟨ua, ul, uc, rfl⟩ := hux.form
    have HXX := Lib.hid (show PG w2.heap.size (W.alloc (.cells #[.slice ka kl kc, .slice ua ul uc] 45)) (.slice xa xl xc) (tp.toL.take i) from hpg.keepN ((Touch.refl Nil W).alloc _))
    have HUS := Lib.hid (show ∀ j v, ([.slice ka kl kc, .slice ua ul uc] : List Value)[j]? = some v → (W.alloc (.cells #[.slice ka kl kc, .slice ua ul uc] 45)).cell? ⟨W.heap.size, j, none⟩ = some v ∧ KF w2.heap.size (W.alloc (.cells #[.slice ka kl kc, .slice ua ul uc] 45)) v (pairG w2.heap.size p j) from fun j v hj => by
      refine ⟨by rw [cell_new]; simpa using hj, ?_⟩
      match j, hj with
      | 0, hj => cases hj; exact (KF.ofOwnG hkx (Nat.le_refl _)).keepN ((Touch.refl Nil W).alloc _)
      | 1, hj => cases hj; exact (KF.ofOwnG hux (Nat.le_refl _)).keepN ((Touch.refl Nil W).alloc _))
    have HLN := Lib.hid (show (tp.toL.take i).length ≤ 100000 from by
      have h1 := List.length_take_le i tp.toL
      have h2 := (List.getElem?_eq_some_iff.1 hp).1
      have h3 := HZ.out
      rw [size_toL] at h3
      omega)
    have HTN := Lib.hid (take_next hp)
    have HBW := Lib.hid hbx
    have HPG := Lib.hid hpg
    have c0 := cells1 hbx
    have HSW := Lib.hid (show w2.heap.size ≤ W.heap.size from by omega)
    clear hbx hpg hkx hux hp
    gi_wp2_with (gi_at_builtin; refine wpListIn_append_el rfl (.tmp 20) (.tmp 24) rfl (.agg #[.slice none 0 0, .slice none 0 0]) Try.underlying26 infoPair rfl (by decide) (by decide) (by decide) (.slice xa xl xc) rfl HXX.out W.heap.size 1 rfl [.slice ka kl kc, .slice ua ul uc] p rfl HUS.out (by have := HLN.out; omega) (by have := HSW.out; rw [nblk_alloc]; omega) ?_; intro v5 w5 ho5 ht5; obtain ⟨va5, vl5, vc5, rfl⟩ := ho5.out.form3; have HB5 := Lib.hid (show w5.heap[w.heap.size]? = some (.cells #[.slice xa xl xc] 26 (0, 0)) from (ht5.out.same _ (by have := lt_of_heap HBW.out; rw [nblk_alloc]; omega) (fun hs => by have h := (HXX.out.elem hs).1; omega)).trans (alloc_same HBW.out)); have c5 := cells1 HB5.out; have f5 : w5.frozen? ⟨w.heap.size, 0, none⟩ = false := (by simp [World.frozen?, HB5.out]))
    have hT5 : Touch (fun b => OwnOf (.slice xa xl xc) b) W w5 := ((Touch.refl _ W).alloc _).trans ht5.out
    refine ⟨?_, ⟨_, set_cell1 HB5.out, ?_⟩, ?_⟩
    · refine keeps_of (S := fun b => OwnOf (.slice xa xl xc) b ∨ b = w.heap.size) ((hT5.mono fun b _ hs => .inl hs).setCell ⟨w.heap.size, 0, none⟩ _ fun _ => .inr rfl) ?_
      rintro b (hs | rfl)
      · obtain ⟨_, cur, h⟩ := HPG.out.elem hs
        exact ⟨_, _, _, h⟩
      · exact ⟨_, _, _, HBW.out⟩
    · rw [HTN.out]
      exact PG.keepS (S := Just w.heap.size) ho5.out ((Touch.refl _ w5).setCell ⟨w.heap.size, 0, none⟩ _ fun _ => rfl) fun b hs => .inl (by have hs : b = w.heap.size := hs; omega)
    · exact (hT5.mono fun b _ hs => .inr (HPG.out.elem hs).1).setCell ⟨w.heap.size, 0, none⟩ _ fun _ => .inl rfl
  · rintro D W hD ⟨x, hbx, hpg⟩ hT hK
    rw [nblk_alloc] at hD
    have x0 := cells1 hbx
    obtain ⟨xa, xl, xc, rfl⟩ := hpg.form3
    have HPG := Lib.hid hpg
    have HBW := Lib.hid hbx
    clear hpg hbx
    go_wp2_with fail
    refine ⟨by simp, .inl ⟨_, _, rfl, run_takeDeferred hK, ?_⟩⟩
    have hput := touch_oth (B := w2.heap.size) (o' := .deferred none) hK rfl (by omega)
    refine ⟨_, results_tmp rfl _ _ _, _, rfl, ?_, ?_⟩
    · have h := HPG.out.keepS hput fun b hs => .inr (oth_far (Nat.le_refl _) b hs)
      rw [List.take_of_length_le (by rw [size_toL]; exact Nat.le_refl _)] at h
      rw [HTP.out]
      exact h.po (by omega)
    · exact touch_put (HT2.out.trans' (((Touch.refl Nil w2).alloc _).mono (fun _ _ c => c.elim) |>.trans hT) fun b hb hs => by rcases hs with hs | hs <;> omega) (by omega)
end Go.Proofs.Ytbckakpgfmcljaa
