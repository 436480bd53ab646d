import Derived.Test.YtkkpcndpjkebkaaNodesG
/- The proof of a key, as a map makes it. -/
namespace Go.Proofs.Ytkkpcndpjkebkaa
open Go.ChangeShapes Go.WideShapes Go.ChangeAt Go.RowKit Go.Deep

/-- A step of a proof. -/
structure SideC where
  k : Key
  u : Key
  l : Nat
  r : Nat
def sideF (s : SideC) : Nat → Fv
  | 0 => .b s.k
  | 1 => .b s.u
  | 2 => .u s.l
  | _ => .u s.r
abbrev SO (base : Nat) (w : World) (x : Value) (L : List SideC) : Prop := OL 76 base 4 sideF w x L
def sideG (lo : Nat) (s : SideC) : Nat → Fv
  | 0 => .o lo s.k
  | 1 => .o lo s.u
  | 2 => .u s.l
  | _ => .u s.r
/-- Steps in new memory, with all their bytes. -/
abbrev SG (base : Nat) (w : World) (x : Value) (L : List SideC) : Prop := OL 76 base 4 (sideG base) w x L
theorem SG.so {base : Nat} {w : World} {x : Value} {L : List SideC} (h : SG base w x L) : SO base w x L := by
  obtain ⟨V, h1, h2⟩ := h
  refine ⟨V, h1, fun i a ha c hc => ?_⟩
  have h3 := h2 i a ha c hc
  match c, h3 with
  | 0, h3 => exact ⟨h3.1.1, fun l e => h3.2 l e⟩
  | 1, h3 => exact ⟨h3.1.1, fun l e => h3.2 l e⟩
  | 2, h3 => exact h3
  | _ + 3, h3 => exact h3
abbrev SL (w : World) (x : Value) (L : List SideC) : Prop := RL 4 sideF w x L
theorem infoSide : (Try.prog.info? 76).map (fun i => (i.zero, i.size, i.bytes)) = some (some (.agg #[.slice none 0 0, .slice none 0 0, .int .u64 0, .int .u64 0]), 4, 64) := by kernel_rfl
/-- The steps on the way to a key. -/
def pathT (seed : Int) (key : Key) : Tree → List SideC
  | .nil => []
  | .node l k u r => ⟨k, u, digT seed l, digT seed r⟩ :: (if key = k then [] else if klt key k = true then pathT seed key l else pathT seed key r)
theorem pathT_len (seed : Int) (key : Key) : ∀ t : Tree, (pathT seed key t).length ≤ t.size
  | .nil => Nat.le_refl _
  | .node l k u r => by
    simp only [pathT, List.length_cons, Tree.size]
    have h1 := pathT_len seed key l
    have h2 := pathT_len seed key r
    split
    · simp only [List.length_nil]; omega
    · split <;> omega
theorem KF.num {base n : Nat} {w : World} : KF base w (.int .u64 (n : Int)) (.u n) := ⟨rfl, fun _ e => by cases e⟩
theorem side_us {base b1 b2 : Nat} {w : World} {kx ux : Value} {k u : Key} (dl dr : Nat) (hk : OwnB b1 w kx k) (hu : OwnB b2 w ux u) (j : Nat) (v : Value) (hj : ([kx, ux, .int .u64 (dl : Int), .int .u64 (dr : Int)] : List Value)[j]? = some v) :
    (w.alloc (.cells #[kx, ux, .int .u64 (dl : Int), .int .u64 (dr : Int)] 76)).cell? ⟨w.heap.size, j, none⟩ = some v ∧ KF base (w.alloc (.cells #[kx, ux, .int .u64 (dl : Int), .int .u64 (dr : Int)] 76)) v (sideF ⟨k, u, dl, dr⟩ j) := by
  have ht := (Touch.refl Nil w).alloc (.cells #[kx, ux, .int .u64 (dl : Int), .int .u64 (dr : Int)] 76)
  refine ⟨by rw [cell_new]; simpa using hj, ?_⟩
  match j, hj with
  | 0, hj => cases hj; exact (KF.ofOwn hk).keepN ht
  | 1, hj => cases hj; exact (KF.ofOwn hu).keepN ht
  | 2, hj => cases hj; exact KF.num
  | 3, hj => cases hj; exact KF.num
theorem side_usG {base b1 b2 lo : Nat} {w : World} {kx ux : Value} {k u : Key} (dl dr : Nat) (hk : OwnB b1 w kx k) (hu : OwnB b2 w ux u) (h1 : lo ≤ b1) (h2 : lo ≤ b2) (j : Nat) (v : Value) (hj : ([kx, ux, .int .u64 (dl : Int), .int .u64 (dr : Int)] : List Value)[j]? = some v) :
    (w.alloc (.cells #[kx, ux, .int .u64 (dl : Int), .int .u64 (dr : Int)] 76)).cell? ⟨w.heap.size, j, none⟩ = some v ∧ KF base (w.alloc (.cells #[kx, ux, .int .u64 (dl : Int), .int .u64 (dr : Int)] 76)) v (sideG lo ⟨k, u, dl, dr⟩ j) := by
  have ht := (Touch.refl Nil w).alloc (.cells #[kx, ux, .int .u64 (dl : Int), .int .u64 (dr : Int)] 76)
  refine ⟨by rw [cell_new]; simpa using hj, ?_⟩
  match j, hj with
  | 0, hj => cases hj; exact (KF.ofOwnG hk h1).keepN ht
  | 1, hj => cases hj; exact (KF.ofOwnG hu h2).keepN ht
  | 2, hj => cases hj; exact KF.num
  | 3, hj => cases hj; exact KF.num
theorem cell_stepF {base : Nat} {w w' : World} {b o : Nat} {x : Value} (h : w.cell? ⟨b, o, none⟩ = some x) (hb : b < base) (ht : Touch (From base) w w') : w'.cell? ⟨b, o, none⟩ = some x := (ht.cell (World.block_lt_of_cell? w _ h) (fun c => by have c : base ≤ b := c; omega) o).trans h

/-- What Prove returns, all bytes new. -/
def ProveG (seed : Int) (key : Key) (t : Tree) (w : World) (e : Ending) (w' : World) : Prop := ∃ x, e = .returned x ∧ SG w.heap.size w' x (pathT seed key t) ∧ Touch Nil w w'
def ProvePost (seed : Int) (key : Key) (t : Tree) (w : World) (e : Ending) (w' : World) : Prop := ∃ x, e = .returned x ∧ SO w.heap.size w' x (pathT seed key t) ∧ Touch Nil w w'
set_option maxRecDepth 100000 in
set_option maxHeartbeats 4000000 in
theorem proveG_map {seed : Int} {R : Nat → Prop} {w : World} {mb bb : Nat} {ra : Option Addr} {t : Tree} (h : MapAt seed R w mb bb ra t) {qx : Value} {key : Key} (hq : BV w qx key) :
    Calls Try.prog 36 #[.pointer (some ⟨mb, 0, none⟩), qx] w (ProveG seed key t w) := by
  have HM := Lib.hid (root_map h)
  have HT0 := Lib.hid (show TreeAt seed (fun b => R b ∧ b < w.heap.size) w t (.pointer ra) from h.tree.mono fun b hb hr => ⟨hr, hb⟩)
  have HSZ := Lib.hid h.size
  have HQ := Lib.hid hq
  obtain ⟨qa, qc, rfl, _, _⟩ := hq
  have HE : ∃ ql, key.length = ql := ⟨_, rfl⟩
  obtain ⟨ql, eql⟩ := HE
  rw [eql] at HQ ⊢
  obtain ⟨base, hbase⟩ : ∃ base, base = w.heap.size := ⟨_, rfl⟩
  rw [← hbase] at HT0
  have HB := Lib.hid hbase
  clear h eql hbase
  go_enter Try.func36, Try.ntmps36
  go_wp2_with fail
  refine HM.out.mono ?_
  rintro e w' ⟨rfl, rfl⟩
  go_wp2_with fail
  go_loopg [5, 6] t.size (fun j x n wr => ∃ (xa : Option Addr) (xl xc : Nat) (a : Option Addr) (s : Tree) (L1 : List SideC), x = .slice xa xl xc ∧ n = .pointer a ∧ Hid (TreeAt seed (fun b => R b ∧ b < base) wr s (.pointer a) ∧ SG base wr (.slice xa xl xc) L1 ∧ L1 ++ pathT seed key s = pathT seed key t ∧ s.size ≤ j ∧ L1.length + s.size ≤ t.size) ∧ Touch (From base) w wr)
  case atStart => exact ⟨none, 0, 0, ra, t, [], rfl, rfl, Lib.hid ⟨HT0.out, OL.nil, rfl, Nat.le_refl _, by simp⟩, Touch.refl _ _⟩
  obtain ⟨xa, xl, xc, a, s, L1, rfl, rfl, HR, hto⟩ := hrel
  have HT := Lib.hid hto
  clear hto
  cases s with
  | nil =>
    obtain rfl : a = none := by have h : Value.pointer a = .pointer none := HR.out.1; injection h
    go_wp2_with fail
    go_ret
    exact ⟨_, rfl, by have h := HR.out.2.2.1; simp only [pathT, List.append_nil] at h; rw [← h, ← HB.out]; exact HR.out.2.1, HT.out.mono fun b hb hs => by have hs : base ≤ b := hs; have := HB.out; omega⟩
  | node l k u r =>
    obtain ⟨b, ib, la, rb, hbb, hn⟩ := HR.out.1.node
    injection hbb with hbb
    subst hbb
    obtain ⟨_, hso, heq, hsj, hln⟩ := HR.out
    have HN := Lib.hid hn
    have HX := Lib.hid hso
    have HEQ := Lib.hid (show L1 ++ (⟨k, u, digT seed l, digT seed r⟩ :: (if key = k then [] else if klt key k = true then pathT seed key l else pathT seed key r)) = pathT seed key t from heq)
    have HSJ := Lib.hid (And.intro hsj hln)
    have HKP := Lib.hid (fun w' (ht : Touch (From base) wr w') => hn.keep ht fun c hc hs => by have hs : base ≤ c := hs; have := hc.2; omega)
    obtain ⟨_, kv, uv, e1, hib, hih, hmk, hmu, hok⟩ := hn.item
    cases e1
    obtain ⟨x0, x1, x2, x3, x4⟩ := node_cells hn.blk
    obtain ⟨y0, y1, _⟩ := item_cells hih
    have hkp : ∀ w', Touch (From base) wr w' → BV w' kv k ∧ BV w' uv u := fun w' ht => ⟨(hmk.keep ht fun c hc hs => by have hs : base ≤ c := hs; have := hc.2; omega).bv, (hmu.keep ht fun c hc hs => by have hs : base ≤ c := hs; have := hc.2; omega).bv⟩
    have HKK := Lib.hid hkp
    obtain ⟨ka, kl, kc, rfl⟩ := hmk.1.form
    obtain ⟨ua, ul, uc, rfl⟩ := hmu.1.form
    have hbB : b < base := hn.own.2
    have hibB : ib < base := hib.2
    have HST := Lib.hid (fun w' (ht : Touch (From base) wr w') => show w'.cell? ⟨b, 0, none⟩ = some (.pointer (some ⟨ib, 0, none⟩)) ∧ w'.cell? ⟨b, 3, none⟩ = some (.pointer la) ∧ w'.cell? ⟨b, 4, none⟩ = some (.pointer rb) ∧ w'.cell? ⟨ib, 0, none⟩ = some (.slice ka kl kc) ∧ w'.cell? ⟨ib, 1, none⟩ = some (.slice ua ul uc) ∧ Hid (Touch (From base) wr w') from ⟨cell_stepF x0 hbB ht, cell_stepF x3 hbB ht, cell_stepF x4 hbB ht, cell_stepF y0 hibB ht, cell_stepF y1 hibB ht, Lib.hid ht⟩)
    have HCK := Lib.hid (fun w' (ht : Touch (From base) wr w') => bytesClone_any _ k w' (hkp w' ht).1 (by have := hok.2.1; omega))
    have HCU := Lib.hid (fun w' (ht : Touch (From base) wr w') => bytesClone_any _ u w' (hkp w' ht).2 (by have := hok.2.2; omega))
    have HDL := Lib.hid (fun w' (ht : Touch (From base) wr w') => digestOf_any (HKP.out w' ht).left)
    have HDR := Lib.hid (fun w' (ht : Touch (From base) wr w') => digestOf_any (HKP.out w' ht).right)
    have HQK := Lib.hid (show ∀ w', Touch (From base) wr w' → BV w' (.slice qa ql qc) key from fun w' ht => HQ.out.keepE (HT.out.trans ht) fun hne b hb hs => by have h1 := HQ.out.low hne b hb; have hs : base ≤ b := hs; have := HB.out; omega)
    have HBW := Lib.hid (show base ≤ wr.heap.size from by have h1 := HT.out.size; have h2 := HB.out; omega)
    clear hn hso heq hsj hln hib hih hmk hmu hok hkp HR x1 x2
    generalize digT seed l = dl at *
    generalize digT seed r = dr at *
    go_wp2_with fail
    go_region_held3 (fun w' => w'.cell? ⟨b, 0, none⟩ = some (.pointer (some ⟨ib, 0, none⟩)) ∧ w'.cell? ⟨b, 3, none⟩ = some (.pointer la) ∧ w'.cell? ⟨b, 4, none⟩ = some (.pointer rb) ∧ w'.cell? ⟨ib, 0, none⟩ = some (.slice ka kl kc) ∧ w'.cell? ⟨ib, 1, none⟩ = some (.slice ua ul uc) ∧ Hid (Touch (From base) wr w'))
      (first | (with_reducible exact HST.out _ (Touch.refl (From base) wr).drew) | (with_reducible exact HST.out _ hT5) | (with_reducible exact HST.out _ (hT4.alloc _)) | (with_reducible exact HST.out _ hT4) | (with_reducible exact HST.out _ hT3))
      (first
        | (go_at_call_of 69 (Value.slice ka kl kc); refine (HCK.out _ (Hid.out (And.right (And.right (And.right (And.right (And.right (by assumption)))))))).mono ?_; rintro e w3 ⟨v3, rfl, h3, ht3⟩; obtain ⟨va3, vl3, vc3, rfl⟩ := h3.form; have hT3 : Touch (From base) wr w3 := (Touch.refl (From base) wr).drew.trans ht3.of_nil; have H3 := Lib.hid h3; have HX3 := Lib.hid (HX.out.keepN ((Touch.refl Nil wr).drew.trans ht3)); clear h3 ht3)
        | (go_at_call_of 69 (Value.slice ua ul uc); refine (HCU.out _ hT3).mono ?_; rintro e w4 ⟨v4, rfl, h4, ht4⟩; obtain ⟨va4, vl4, vc4, rfl⟩ := h4.form; have hT4 : Touch (From base) wr w4 := hT3.trans ht4.of_nil; have H4 := Lib.hid h4; have HK4 := Lib.hid (H3.out.keep ht4 (fun _ _ c => c)); have HX4 := Lib.hid ((HX3.out.keepN ht4).keepN ((Touch.refl Nil w4).alloc (.cells #[.slice va3 vl3 vc3, .slice va4 vl4 vc4, .int .u64 (dl : Int), .int .u64 (dr : Int)] 76))); clear h4 ht4)
        | (go_at_call_of 79 (Value.pointer la); refine (HDL.out _ hT4).mono ?_; rintro e w9 ⟨rfl, hw9⟩; have hw9 := hw9.symm; subst hw9)
        | (go_at_call_of 79 (Value.pointer rb); refine (HDR.out _ hT4).mono ?_; rintro e w9 ⟨rfl, hw9⟩; have hw9 := hw9.symm; subst hw9)
        | (refine step_append_el rfl (.tmp 14) (.tmp 42) rfl (.agg #[.slice none 0 0, .slice none 0 0, .int .u64 0, .int .u64 0]) Try.underlying66 infoSide rfl (by decide) (by decide) (by decide) (.slice xa xl xc) rfl HX4.out w4.heap.size 1 rfl [.slice va3 vl3 vc3, .slice va4 vl4 vc4, .int .u64 (dl : Int), .int .u64 (dr : Int)] ⟨k, u, dl, dr⟩ rfl (side_usG dl dr HK4.out H4.out (Nat.le_trans HBW.out (Nat.le_refl _)) (Nat.le_trans HBW.out hT3.size)) (by have := HSJ.out.2; have := HSZ.out; omega) (Nat.le_trans HBW.out (hT4.alloc _).size) ?_; intro v5 w5 ho5 ht5; have hT5 : Touch (From base) wr w5 := (hT4.alloc _).trans (ht5.out.mono fun b _ hs => HX4.out.base' b hs); obtain ⟨va5, vl5, vc5, rfl⟩ := ho5.out.form3; have HO5 := ho5; clear ho5 ht5))
    obtain ⟨q0, _, _, q1, _⟩ := HST.out w5 hT5
    have HTT := Lib.hid (HT.out.trans hT5)
    have HEQV := Lib.hid (equalV_any (HQK.out w5 hT5) (HKK.out w5 hT5).1)
    have HTW := Lib.hid (towardN_any (HKP.out w5 hT5) (HQK.out w5 hT5))
    have HN5 := Lib.hid (HKP.out w5 hT5)
    rename_i hHeldX
    clear hHeldX hT5 hT4 hT3 x0 x3 x4 y0 y1 HST HCK HCU HDL HDR HKP HKK
    by_cases hkq : key = k
    · rw [decide_eq_true hkq] at HEQV
      have HKQ := Lib.hid hkq
      clear hkq
      go_wp2_with fail
      refine HEQV.out.mono ?_
      rintro e w' ⟨rfl, rfl⟩
      go_wp2_with fail
      go_ret
      exact ⟨_, rfl, by have h := HEQ.out; rw [if_pos HKQ.out] at h; rw [← h, ← HB.out]; exact HO5.out, HTT.out.mono fun b hb hs => by have hs : base ≤ b := hs; have := HB.out; omega⟩
    · rw [decide_eq_false hkq] at HEQV
      have HEQ2 := Lib.hid (show L1 ++ [(⟨k, u, dl, dr⟩ : SideC)] ++ (if klt key k = true then pathT seed key l else pathT seed key r) = pathT seed key t from by have h := HEQ.out; rw [if_neg hkq] at h; rw [← h]; simp)
      clear hkq
      have HE : ∃ c, (if klt key k = true then la else rb) = c := ⟨_, rfl⟩
      obtain ⟨c, ec⟩ := HE
      rw [ec] at HTW
      have HC := Lib.hid ec
      clear ec
      go_wp2_with fail
      refine HEQV.out.mono ?_
      rintro e w' ⟨rfl, rfl⟩
      go_wp2_with fail
      refine HTW.out.mono ?_
      rintro e w' ⟨rfl, rfl⟩
      go_wp2_with fail
      by_cases hlt : klt key k = true
      · have hc := HC.out
        rw [if_pos hlt] at hc
        subst hc
        go_roundg l.size
        case measure => have := HSJ.out.1; simp only [Tree.size] at this; omega
        case rel => exact ⟨va5, vl5, vc5, la, l, _, rfl, rfl, Lib.hid ⟨HN5.out.left, HO5.out, by have h := HEQ2.out; rw [if_pos hlt] at h; exact h, Nat.le_refl _, by have := HSJ.out.2; simp only [Tree.size, List.length_append, List.length_singleton] at this ⊢; omega⟩, HTT.out⟩
      · have hc := HC.out
        rw [if_neg hlt] at hc
        subst hc
        go_roundg r.size
        case measure => have := HSJ.out.1; simp only [Tree.size] at this; omega
        case rel => exact ⟨va5, vl5, vc5, rb, r, _, rfl, rfl, Lib.hid ⟨HN5.out.right, HO5.out, by have h := HEQ2.out; rw [if_neg hlt] at h; exact h, Nat.le_refl _, by have := HSJ.out.2; simp only [Tree.size, List.length_append, List.length_singleton] at this ⊢; omega⟩, HTT.out⟩
theorem prove_map {seed : Int} {R : Nat → Prop} {w : World} {mb bb : Nat} {ra : Option Addr} {t : Tree} (h : MapAt seed R w mb bb ra t) {qx : Value} {key : Key} (hq : BV w qx key) :
    Calls Try.prog 36 #[.pointer (some ⟨mb, 0, none⟩), qx] w (ProvePost seed key t w) :=
  (proveG_map h hq).mono fun _ _ ⟨x, e, h, ht⟩ => ⟨x, e, h.so, ht⟩
end Go.Proofs.Ytkkpcndpjkebkaa
