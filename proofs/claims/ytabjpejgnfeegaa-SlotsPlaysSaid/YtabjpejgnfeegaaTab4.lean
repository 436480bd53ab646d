import Derived.Test.YtabjpejgnfeegaaTab3
import Derived.Deep.RegionHeld3
/- Cells. -/
namespace Go.Proofs.Ytabjpejgnfeegaa
open Go.ChangeShapes Go.WideShapes Go.ChangeAt Go.RowKit Go.Deep

/-- A cell as it is shown: copies of the bytes. -/
def Shown (base : Nat) (w : World) (f y z : Value) : Option (Key × Key) → Prop
  | none => f = .bool false ∧ y = .slice none 0 0 ∧ z = .slice none 0 0
  | some (k, v) => f = .bool true ∧ OwnB base w y k ∧ OwnB base w z v
def CellsPost (C : Nat) (T : Cells) (w : World) (e : Ending) (w' : World) : Prop :=
  ∃ b f, e = .returned (.slice (some ⟨b, 0, none⟩) C C) ∧ w.heap.size ≤ b ∧ w'.rowIs b 78 (C * 3) f ∧ (∀ c, c < C → Shown w.heap.size w' (f (c * 3)) (f (c * 3 + 1)) (f (c * 3 + 2)) (T c)) ∧ Touch Nil w w'

theorem OwnB.base {b1 b2 : Nat} {w : World} {v : Value} {l : List UInt8} (h : OwnB b1 w v l) (hb : b2 ≤ b1) : OwnB b2 w v l :=
  ⟨h.1, h.2.imp (fun h => h) fun ⟨g, cap, cur, r1, r2, r3⟩ => ⟨g, cap, cur, r1, Nat.le_trans hb r2, r3⟩⟩
theorem OwnB.elem {b : Nat} {w : World} {v : Value} {l : List UInt8} (h : OwnB b w v l) {k : Nat} (hk : OwnOf v k) : ∃ cs z, w.heap[k]? = some (.cells cs 5 z) := by
  obtain ⟨hlen, ⟨rfl, hn⟩ | ⟨g, cap, cur, rfl, hb', hg, _⟩⟩ := h
  · cases hk
  · obtain rfl : k = g := by simpa [OwnOf, Value.ownBlock] using hk
    exact ⟨cur, _, hg⟩
/-- New bytes stay where no block of bytes is touched. -/
theorem OwnB.keepT {S : Nat → Prop} {b : Nat} {w w' : World} {v : Value} {l : List UInt8} (h : OwnB b w v l) (ht : Touch S w w') (hS : NotBytes S w) : OwnB b w' v l :=
  h.keep ht fun k hk hs => by obtain ⟨cs, z, e⟩ := h.elem hk; exact hS k hs cs z e
theorem Shown.keep {S : Nat → Prop} {b : Nat} {w w' : World} {f y z : Value} {o : Option (Key × Key)} (h : Shown b w f y z o) (ht : Touch S w w') (hS : NotBytes S w) : Shown b w' f y z o := by
  cases o with
  | none => exact h
  | some p => exact ⟨h.1, h.2.1.keepT ht hS, h.2.2.keepT ht hS⟩
theorem OwnB.one {b : Nat} {w : World} {v : Value} {l : List UInt8} (h : OwnB b w v l) : v.oneCell' = true := by
  obtain ⟨_, ⟨rfl, _⟩ | ⟨g, cap, cur, rfl, _⟩⟩ := h <;> rfl
theorem OwnB.form {b : Nat} {w : World} {v : Value} {l : List UInt8} (h : OwnB b w v l) : ∃ ao n cap, v = .slice ao n cap := by
  obtain ⟨_, ⟨rfl, _⟩ | ⟨g, cap, cur, rfl, _⟩⟩ := h <;> exact ⟨_, _, _, rfl⟩
theorem notBytes_row {w : World} {b t n : Nat} {f : Nat → Value} (h : w.rowIs b t n f) (ht : t ≠ 5) : NotBytes (Just b) w := by
  rintro k rfl cs z e
  rw [row_block h] at e
  injection e with e
  injection e with _ e
  exact ht e

/-- A box of two values; the three cells of a row that are written; and that only block o is touched since. -/
abbrev BoxS (o pb n p : Nat) (q : World → Nat → Value) (k v : Value) (w0 w' : World) : Prop :=
  w'.cell? ⟨pb, 0, none⟩ = some k ∧ w'.cell? ⟨pb, 1, none⟩ = some v ∧ w'.cell? ⟨o, p, none⟩ = some (q w' p) ∧ w'.cell? ⟨o, p + 1, none⟩ = some (q w' (p + 1)) ∧ w'.cell? ⟨o, p + 2, none⟩ = some (q w' (p + 2)) ∧
    w'.frozen? ⟨o, p, none⟩ = false ∧ w'.frozen? ⟨o, p + 1, none⟩ = false ∧ w'.frozen? ⟨o, p + 2, none⟩ = false ∧ Hid (Touch (Just o) w0 w' ∧ ∃ g, w'.rowIs o 78 n g)
def QOk (o : Nat) (q : World → Nat → Value) : Prop := ∀ w i, (w.cell? ⟨o, i, none⟩).isSome = true → w.cell? ⟨o, i, none⟩ = some (q w i)
theorem q_ex (o : Nat) : ∃ q, QOk o q := ⟨fun w i => (w.cell? ⟨o, i, none⟩).getD undef, fun w i h => by
  cases hc : w.cell? ⟨o, i, none⟩ with
  | none => rw [hc] at h; cases h
  | some v => simp [hc]⟩
section
variable {o pb n p : Nat} {q : World → Nat → Value} {k v : Value} {w0 w w' : World}
theorem BoxS.of (hq : QOk o q) (hp : p + 2 < n) (h0 : w.cell? ⟨pb, 0, none⟩ = some k) (h1 : w.cell? ⟨pb, 1, none⟩ = some v) (ht : Touch (Just o) w0 w) (hr : ∃ g, w.rowIs o 78 n g) : BoxS o pb n p q k v w0 w := by
  have hr' := hr
  obtain ⟨g, hg⟩ := hr
  refine ⟨h0, h1, hq _ _ ?_, hq _ _ ?_, hq _ _ ?_, hg.frozen _, hg.frozen _, hg.frozen _, Lib.hid ⟨ht, hr'⟩⟩ <;> (rw [hg.cell (by omega)]; rfl)
theorem BoxS.start (hq : QOk o q) (hp : p + 2 < n) (h0 : w0.cell? ⟨pb, 0, none⟩ = some k) (h1 : w0.cell? ⟨pb, 1, none⟩ = some v) {g : Nat → Value} (hr : w0.rowIs o 78 n g) : BoxS o pb n p q k v w0 w0.drew := BoxS.of hq hp h0 h1 (Touch.refl _ _).drew ⟨g, hr⟩
theorem BoxS.step (hq : QOk o q) (hp : p + 2 < n) (hs : Touch Nil w w') (h : BoxS o pb n p q k v w0 w) : BoxS o pb n p q k v w0 w' := by
  have hl := World.block_lt_of_cell? w _ h.1
  obtain ⟨h0, h1, _, _, _, _, _, _, ht⟩ := h
  obtain ⟨g, hg⟩ := ht.out.2
  exact BoxS.of hq hp ((hs.cell hl (fun c => c) 0).trans h0) ((hs.cell hl (fun c => c) 1).trans h1) (ht.out.1.trans hs.of_nil) ⟨g, hs.row hg fun c => c⟩
theorem BoxS.set (hq : QOk o q) (hp : p + 2 < n) (hne : pb ≠ o) (h : BoxS o pb n p q k v w0 w) (i : Nat) (u : Value) : BoxS o pb n p q k v w0 (w.setCell ⟨o, i, none⟩ u) := by
  obtain ⟨h0, h1, _, _, _, _, _, _, ht⟩ := h
  obtain ⟨g, hg⟩ := ht.out.2
  exact BoxS.of hq hp ((World.cell?_setCell_far _ _ _ _ (Ne.symm hne)).trans h0) ((World.cell?_setCell_far _ _ _ _ (Ne.symm hne)).trans h1) (ht.out.1.setCell _ _ fun _ => rfl) ⟨_, hg.set i u⟩
end

def set3 (f : Nat → Value) (x : Nat) (u y z : Value) : Nat → Value := fun j => if j = x * 3 + 2 then z else if j = x * 3 + 1 then y else if j = x * 3 then u else f j
theorem set3_at (f : Nat → Value) (x : Nat) (u y z : Value) : set3 f x u y z (x * 3) = u ∧ set3 f x u y z (x * 3 + 1) = y ∧ set3 f x u y z (x * 3 + 2) = z := by
  unfold set3
  refine ⟨?_, ?_, ?_⟩ <;> simp
theorem set3_far (f : Nat → Value) (x : Nat) (u y z : Value) {c : Nat} (h : c ≠ x) : set3 f x u y z (c * 3) = f (c * 3) ∧ set3 f x u y z (c * 3 + 1) = f (c * 3 + 1) ∧ set3 f x u y z (c * 3 + 2) = f (c * 3 + 2) := by
  unfold set3
  refine ⟨?_, ?_, ?_⟩ <;> rw [if_neg (by omega), if_neg (by omega), if_neg (by omega)]

set_option maxRecDepth 100000 in
set_option maxHeartbeats 4000000 in
theorem cells_any {R : Nat → Prop} {w : World} {t : Value} {seed : Int} {n C : Nat} {T : Cells} (h : Tab R w t seed n C T) : Calls Try.prog 35 #[t] w (CellsPost C T w) := by
  obtain ⟨⟨bt, bb, bc, vv, rfl, h1, h2, h3⟩, hg, hl⟩ := h
  obtain ⟨g1, g2, g3⟩ := hg.free
  have ct : w.cell? ⟨bt, 0, none⟩ = some (.pointer (some ⟨bb, 0, none⟩)) := by simp [World.cell?, h1]
  have HM := Lib.hid (missing_any bt bb w ct)
  have c2 := h3.cellsC
  have HB := Lib.hid h3
  have hbt : bt < w.heap.size := hl bt h2
  have hbb := h3.lb
  have hmk := fun w => run_make_cells C (by omega) w
  have HROW := Lib.hid (row_made w #[.bool false, .slice none 0 0, .slice none 0 0] (C * 3) 78)
  have HCT := Lib.hid ct
  have HLOW := Lib.hid hl
  clear h1 h2 h3 hg hl g3
  have HE : ∃ m, madeCells #[.bool false, .slice none 0 0, .slice none 0 0] (C * 3) = m := ⟨_, rfl⟩
  obtain ⟨mc, emc⟩ := HE
  rw [emc] at HROW
  simp only [emc] at hmk
  clear emc
  go_enter Try.func35, Try.ntmps35
  go_wp2_with fail
  refine HM.out.mono ?_
  rintro e w' ⟨rfl, rfl⟩
  clear HM
  have e1 : (w.alloc (.cells mc 78)).cell? ⟨bt, 0, none⟩ = some (.pointer (some ⟨bb, 0, none⟩)) := by rw [World.cell?_alloc_lt _ _ _ hbt]; exact ct
  have e2 : (w.alloc (.cells mc 78)).cell? ⟨bb, 2, none⟩ = some (.slice (some ⟨bc, 0, none⟩) C C) := by rw [World.cell?_alloc_lt _ _ _ hbb]; exact c2
  go_wp2_with fail
  clear e1 e2 ct c2
  have HT0 := Lib.hid ((Touch.refl Nil w).alloc (.cells mc 78))
  go_loopw [25] (fun i wr => ∃ (x : Nat) (f : Nat → Value), x ≤ C ∧ i = .int .i64 x ∧ wr.rowIs w.heap.size 78 (C * 3) f ∧ (∀ c, c < C → (c < x → Shown w.heap.size wr (f (c * 3)) (f (c * 3 + 1)) (f (c * 3 + 2)) (T c)) ∧ (x ≤ c → f (c * 3) = .bool false ∧ f (c * 3 + 1) = .slice none 0 0 ∧ f (c * 3 + 2) = .slice none 0 0)) ∧ Touch Nil w wr) (fun i _ => C - (intOf i).toNat)
  case atStart =>
    refine ⟨0, _, Nat.zero_le _, rfl, HROW.out, fun c hc => ⟨fun h => by omega, fun _ => ?_⟩, HT0.out⟩
    have q0 : c * 3 % 3 = 0 := by omega
    have q1 : (c * 3 + 1) % 3 = 1 := by omega
    have q2 : (c * 3 + 2) % 3 = 2 := by omega
    simp [q0, q1, q2]
  obtain ⟨x, f, hx, rfl, hrow, hsh, hto⟩ := hrel
  have HR := Lib.hid hrow
  have HS := Lib.hid hsh
  have HT := Lib.hid hto
  clear hrow hsh hto
  by_cases hlt : x < C
  · have HBr := Lib.hid (HB.out.keepN HT.out)
    obtain ⟨ao, l, cap, bo, m, cap', e0, e1, hfree, hl64, hm1000⟩ := HBr.out.slice hlt
    have k0 := HBr.out.keyC hlt
    have k1 := HBr.out.valC hlt
    rw [e0] at k0
    rw [e1] at k1
    have HE0 := Lib.hid e0
    have HE1 := Lib.hid e1
    have HFR := Lib.hid hfree
    clear e0 e1 hfree
    have i1 : (x : Int) < (C : Int) := by omega
    have i2 : (0 : Int) ≤ (x : Int) := by omega
    go_wp2_with fail
    refine (isFree_any ao l cap (.slice bo m cap') _ (by omega)).mono ?_
    rintro e w2 ⟨rfl, hT2⟩
    have HT2 := Lib.hid ((HT.out.alloc (.cells #[.slice ao l cap, .slice bo m cap'] 72)).trans hT2)
    have HTR := Lib.hid (((Touch.refl Nil wr).alloc (.cells #[.slice ao l cap, .slice bo m cap'] 72)).trans hT2)
    have b0 : w2.cell? ⟨wr.heap.size, 0, none⟩ = some (.slice ao l cap) := by rw [hT2.cell (by simp) (fun c => c)]; simp only [World.cell?]; rw [heap_alloc_new]; rfl
    have b1 : w2.cell? ⟨wr.heap.size, 1, none⟩ = some (.slice bo m cap') := by rw [hT2.cell (by simp) (fun c => c)]; simp only [World.cell?]; rw [heap_alloc_new]; rfl
    have lb : wr.heap.size < w2.heap.size := World.block_lt_of_cell? w2 _ b0
    have HB2 := Lib.hid (HB.out.keepN HT2.out)
    clear k0 k1 hT2
    cases hTa : T x with
    | none =>
      have hl0 : decide (l = 0) = true := by rw [HFR.out, hTa]; rfl
      have HTa := Lib.hid hTa
      clear hTa b0 b1 lb
      go_wp2_with fail
      go_roundw
      case rel =>
        refine ⟨x + 1, f, by omega, by go_num, HTR.out.row HR.out (fun c => c), fun c hc => ⟨fun hcx => ?_, fun hcx => (HS.out c hc).2 (by omega)⟩, HT2.out⟩
        by_cases e : c = x
        · subst e; rw [HTa.out]; exact (HS.out c hc).2 (Nat.le_refl _)
        · exact ((HS.out c hc).1 (by omega)).keep HTR.out (notBytes_nil _)
      case measure => simp [intOf]; omega
    | some p =>
      obtain ⟨k', v'⟩ := p
      have hl0 : decide (l = 0) = false := by rw [HFR.out, hTa]; rfl
      obtain ⟨q1, q2, _, hk64, hv1000⟩ := HB2.out.pair hlt hTa
      have HQ1 := Lib.hid (show BV w2 (.slice ao l cap) k' from by rw [← HE0.out]; exact q1.1)
      have HQ2 := Lib.hid (show BV w2 (.slice bo m cap') v' from by rw [← HE1.out]; exact q2.1)
      have HTa := Lib.hid hTa
      have HO1 := Lib.hid (show ∀ b, OwnOf (.slice ao l cap) b → R b from by rw [← HE0.out]; exact fun b hb => (q1.2 b hb).1)
      have HO2 := Lib.hid (show ∀ b, OwnOf (.slice bo m cap') b → R b from by rw [← HE1.out]; exact fun b hb => (q2.2 b hb).1)
      clear q1 q2 hTa
      have HR2 := Lib.hid (HTR.out.row HR.out (fun c => c))
      go_wp2_with fail
      have hne : wr.heap.size ≠ w.heap.size := by have := HR.out.lt; omega
      have HN1 := Lib.hid (show ∀ b, OwnOf (.slice ao l cap) b → ¬ Just w.heap.size b from fun b hb hj => by
        have := HLOW.out b (HO1.out b hb); cases hj; omega)
      have HN2 := Lib.hid (show ∀ b, OwnOf (.slice bo m cap') b → ¬ Just w.heap.size b from fun b hb hj => by
        have := HLOW.out b (HO2.out b hb); cases hj; omega)
      have HQX := q_ex w.heap.size
      obtain ⟨q, hq⟩ := HQX
      have HQ := Lib.hid hq
      have HP := Lib.hid (show x * 3 + 2 < C * 3 by omega)
      clear hq
      go_region_held3 (fun w' => w'.cell? ⟨wr.heap.size, 0, none⟩ = some (.slice ao l cap) ∧ w'.cell? ⟨wr.heap.size, 1, none⟩ = some (.slice bo m cap') ∧ w'.cell? ⟨w.heap.size, x * 3, none⟩ = some (q w' (x * 3)) ∧ w'.cell? ⟨w.heap.size, x * 3 + 1, none⟩ = some (q w' (x * 3 + 1)) ∧ w'.cell? ⟨w.heap.size, x * 3 + 2, none⟩ = some (q w' (x * 3 + 2)) ∧
            w'.frozen? ⟨w.heap.size, x * 3, none⟩ = false ∧ w'.frozen? ⟨w.heap.size, x * 3 + 1, none⟩ = false ∧ w'.frozen? ⟨w.heap.size, x * 3 + 2, none⟩ = false ∧ Hid (Touch (Just w.heap.size) w2 w' ∧ ∃ g, w'.rowIs w.heap.size 78 (C * 3) g))
        (first | exact BoxS.start HQ.out HP.out b0 b1 HR2.out | exact BoxS.step HQ.out HP.out (by assumption) (by assumption) | exact BoxS.set HQ.out HP.out hne (BoxS.set HQ.out HP.out hne (BoxS.set HQ.out HP.out hne (by assumption) _ _) _ _) _ _)
        (first
          | (go_at_call_of 64 (Value.slice ao l cap); refine (bytesClone_any _ k' _ ?_ (by omega)).mono ?_; (exact HQ1.out.keep (And.left (Hid.out (And.right (And.right (And.right (And.right (And.right (And.right (And.right (And.right (by assumption))))))))))) HN1.out); rintro e w3 ⟨y, rfl, hy, hty⟩; obtain ⟨ya, yl, yc, rfl⟩ := hy.form)
          | (go_at_call_of 64 (Value.slice bo m cap'); refine (bytesClone_any _ v' _ ?_ (by omega)).mono ?_; (exact HQ2.out.keep (And.left (Hid.out (And.right (And.right (And.right (And.right (And.right (And.right (And.right (And.right (by assumption))))))))))) HN2.out); rintro e w4 ⟨z, rfl, hz, htz⟩; obtain ⟨za, zl, zc, rfl⟩ := hz.form))
      have HTY := Lib.hid (((Touch.refl Nil w2).drew.trans hty).trans htz)
      have HR4 := Lib.hid (HTY.out.row HR2.out (fun c => c))
      have HR5 := Lib.hid (((HR4.out.set (x * 3) (.bool true)).set (x * 3 + 1) (.slice ya yl yc)).set (x * 3 + 2) (.slice za zl zc))
      have HT5 := Lib.hid ((((Touch.refl (Just w.heap.size) w4).setCell ⟨w.heap.size, x * 3, none⟩ (.bool true) fun _ => rfl).setCell ⟨w.heap.size, x * 3 + 1, none⟩ (.slice ya yl yc) fun _ => rfl).setCell ⟨w.heap.size, x * 3 + 2, none⟩ (.slice za zl zc) fun _ => rfl)
      have HNB := Lib.hid (notBytes_row HR4.out (by decide))
      have HY := Lib.hid (((hy.base (b2 := w.heap.size) HT2.out.size).keepT htz (notBytes_nil _)).keepT HT5.out HNB.out)
      have HZ := Lib.hid ((hz.base (b2 := w.heap.size) (Nat.le_trans HT2.out.size hty.size)).keepT HT5.out HNB.out)
      clear hy hz hty htz
      go_wp2_with fail
      go_roundw
      case rel =>
        refine ⟨x + 1, set3 f x (.bool true) (.slice ya yl yc) (.slice za zl zc), by omega, by go_num, HR5.out, fun c hc => ⟨fun hcx => ?_, fun hcx => ?_⟩, (HT2.out.trans HTY.out).trans' HT5.out fun b hb hs => by cases hs; omega⟩
        · by_cases e : c = x
          · subst e
            obtain ⟨r1, r2, r3⟩ := set3_at f c (.bool true) (.slice ya yl yc) (.slice za zl zc)
            rw [HTa.out, r1, r2, r3]
            exact ⟨rfl, HY.out, HZ.out⟩
          · obtain ⟨r1, r2, r3⟩ := set3_far f x (.bool true) (.slice ya yl yc) (.slice za zl zc) e
            rw [r1, r2, r3]
            exact (((HS.out c hc).1 (by omega)).keep (HTR.out.trans HTY.out) (notBytes_nil _)).keep HT5.out HNB.out
        · obtain ⟨r1, r2, r3⟩ := set3_far f x (.bool true) (.slice ya yl yc) (.slice za zl zc) (c := c) (by omega)
          rw [r1, r2, r3]
          exact (HS.out c hc).2 (by omega)
      case measure => simp [intOf]; omega
  · obtain rfl : x = C := by omega
    go_wp2_with fail
    go_ret
    exact ⟨w.heap.size, f, rfl, Nat.le_refl _, HR.out, fun c hc => (HS.out c hc).1 hc, HT.out⟩
end Go.Proofs.Ytabjpejgnfeegaa
