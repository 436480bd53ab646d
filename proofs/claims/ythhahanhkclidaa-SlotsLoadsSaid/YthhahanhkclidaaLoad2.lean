import Derived.Test.YthhahanhkclidaaLoad1
import Derived.Test.YthhahanhkclidaaGrow4
/- Reading a cell of an image. -/
namespace Go.Proofs.Ythhahanhkclidaa
open Go.ChangeShapes Go.WideShapes Go.ChangeAt Go.RowKit Go.Deep

def NewCell (base : Nat) (w : World) (y z : Value) : Option (Key × Key) → Prop
  | none => y = .slice none 0 0 ∧ z = .slice none 0 0
  | some (k, v) => OwnB base w y k ∧ OwnB base w z v
def CellPost (l : List UInt8) (w : World) (e : Ending) (w' : World) : Prop :=
  (∃ o y z x rest, okP o ∧ l = cellB o ++ rest ∧ e = .returned (.tuple #[.agg #[y, z], x, .bool true]) ∧ NewCell w.heap.size w' y z o ∧ BC w' x rest ∧ Touch Nil w w') ∨
  (e = .returned (.tuple #[.agg #[.slice none 0 0, .slice none 0 0], .slice none 0 0, .bool false]) ∧ Touch Nil w w' ∧ ∀ o more, okP o → l ≠ cellB o ++ more)

theorem cell_of {l : List UInt8} {o : Option (Key × Key)} {more : List UInt8} (hok : okP o) (e : l = cellB o ++ more) :
    ((l.getD 0 0).toNat = 0 ∧ 1 ≤ l.length) ∨ ((l.getD 0 0).toNat = 1 ∧ 4 ≤ l.length ∧ 1 ≤ (l.getD 1 0).toNat ∧ (l.getD 1 0).toNat ≤ 64 ∧ (l.getD 2 0).toNat + (l.getD 3 0).toNat * 256 ≤ 1000 ∧ (l.getD 1 0).toNat + ((l.getD 2 0).toNat + (l.getD 3 0).toNat * 256) + 4 ≤ l.length) := by
  subst e
  cases o with
  | none => left; simp [cellB]
  | some p =>
    obtain ⟨k, v⟩ := p
    obtain ⟨a, b, c⟩ := hok
    right
    have e1 := lo_nat k.length
    have e2 := lo_nat v.length
    have e3 := lo_nat (v.length / 256)
    simp only [cellB, List.cons_append, List.nil_append, List.append_assoc, List.getD_cons_zero, List.getD_cons_succ, List.length_cons, List.length_append]
    rw [e1, e2, e3]
    refine ⟨rfl, by omega, by omega, by omega, by omega, by omega⟩
theorem cell_none {l : List UInt8} (h : 1 ≤ l.length) (h0 : (l.getD 0 0).toNat = 0) : l = cellB none ++ l.drop 1 := by
  match l, h with
  | a :: r, _ =>
    simp only [List.getD_cons_zero] at h0
    have : a = 0 := UInt8.toNat_inj.1 h0
    simp [cellB, this]
theorem cell_some {l : List UInt8} (h : 4 ≤ l.length) (h0 : (l.getD 0 0).toNat = 1) (hk : (l.getD 1 0).toNat + ((l.getD 2 0).toNat + (l.getD 3 0).toNat * 256) + 4 ≤ l.length) :
    l = cellB (some ((l.drop 4).take (l.getD 1 0).toNat, ((l.drop 4).take ((l.getD 1 0).toNat + ((l.getD 2 0).toNat + (l.getD 3 0).toNat * 256))).drop (l.getD 1 0).toNat)) ++ (l.drop 4).drop ((l.getD 1 0).toNat + ((l.getD 2 0).toNat + (l.getD 3 0).toNat * 256)) := by
  match l, h with
  | a :: b :: c :: d :: r, _ =>
    have h1 := b.toNat_lt
    have h2 := c.toNat_lt
    have h3 := d.toNat_lt
    simp only [List.getD_cons_zero, List.getD_cons_succ, List.length_cons, List.drop_succ_cons, List.drop_zero] at h0 hk ⊢
    have ha : a = 1 := UInt8.toNat_inj.1 h0
    have e : ∀ (n : Nat) (x : UInt8), n % 256 = x.toNat → lo n = x := fun n x h => UInt8.toNat_inj.1 (by rw [lo_nat]; exact h)
    have l1 : (r.take b.toNat).length = b.toNat := by simp; omega
    have l2 : ((r.take (b.toNat + (c.toNat + d.toNat * 256))).drop b.toNat).length = c.toNat + d.toNat * 256 := by simp; omega
    simp only [cellB, l1, l2]
    rw [e _ b (by omega), e _ c (by omega), e _ d (by omega), ha]
    simp only [List.cons_append, List.nil_append, List.append_assoc, List.cons.injEq, true_and]
    have e4 : r.take b.toNat = (r.take (b.toNat + (c.toNat + d.toNat * 256))).take b.toNat := by rw [List.take_take]; congr 1; omega
    rw [← List.append_assoc, e4, List.take_append_drop, List.take_append_drop]

theorem two_row (w : World) (x y : Value) (t : Nat) : (w.alloc (.cells #[x, y] t)).rowIs w.heap.size t 2 (fun i => #[x, y][i]!) :=
  ⟨_, blk_alloc_new _ _, rfl, fun i hi => by match i, hi with | 0, _ => rfl | 1, _ => rfl⟩

theorem BV.keepR {r : Nat} {w w' : World} {x : Value} {l : List UInt8} (h : BV w x l) (ht : Touch (Just r) w w') (hr : w.heap.size ≤ r) : BV w' x l :=
  h.keep0 ht fun h0 b hb hj => by
    obtain ⟨ao, cap, rfl, _, hs⟩ := h
    obtain ⟨b', off, e, hc⟩ := hs 0 (by simpa using h0)
    subst e
    have := World.block_lt_of_cell? w _ hc
    obtain rfl : b = b' := by simpa [OwnOf, Value.ownBlock] using hb
    have hj : b = r := hj
    simp only [] at this
    omega

/-- A box of two cells that is written. -/
abbrev PairS (o : Nat) (q : World → Nat → Value) (w0 w' : World) : Prop :=
  w'.cell? ⟨o, 0, none⟩ = some (q w' 0) ∧ w'.cell? ⟨o, 1, none⟩ = some (q w' 1) ∧ w'.frozen? ⟨o, 0, none⟩ = false ∧ w'.frozen? ⟨o, 1, none⟩ = false ∧ Hid (Touch (Just o) w0 w' ∧ ∃ g, w'.rowIs o 72 2 g)
section
variable {o : Nat} {q : World → Nat → Value} {w0 w w' : World}
theorem PairS.of (hq : QOk o q) (ht : Touch (Just o) w0 w) (hr : ∃ g, w.rowIs o 72 2 g) : PairS o q w0 w := by
  have hr' := hr
  obtain ⟨g, hg⟩ := hr
  refine ⟨hq _ _ ?_, hq _ _ ?_, hg.frozen _, hg.frozen _, Lib.hid ⟨ht, hr'⟩⟩ <;> (rw [hg.cell (by omega)]; rfl)
theorem PairS.drew (hq : QOk o q) (h : PairS o q w0 w) : PairS o q w0 w.drew := PairS.of hq h.2.2.2.2.out.1.drew h.2.2.2.2.out.2
theorem PairS.step (hq : QOk o q) (hs : Touch Nil w w') (h : PairS o q w0 w) : PairS o q w0 w' := by
  obtain ⟨ht, g, hg⟩ := h.2.2.2.2.out
  exact PairS.of hq (ht.trans hs.of_nil) ⟨g, hs.row hg fun c => c⟩
theorem PairS.set (hq : QOk o q) (h : PairS o q w0 w) (i : Nat) (u : Value) : PairS o q w0 (w.setCell ⟨o, i, none⟩ u) := by
  obtain ⟨ht, g, hg⟩ := h.2.2.2.2.out
  exact PairS.of hq (ht.setCell _ _ fun _ => rfl) ⟨_, hg.set i u⟩
end

/-- The same where it is known what the two cells hold. -/
abbrev PairV (o : Nat) (y z : Value) (w0 w' : World) : Prop :=
  w'.cell? ⟨o, 0, none⟩ = some y ∧ w'.cell? ⟨o, 1, none⟩ = some z ∧ w'.frozen? ⟨o, 0, none⟩ = false ∧ w'.frozen? ⟨o, 1, none⟩ = false ∧ Hid (Touch (Just o) w0 w' ∧ ∃ g, w'.rowIs o 72 2 g)
theorem PairV.drew {o : Nat} {y z : Value} {w0 w : World} (h : PairV o y z w0 w) : PairV o y z w0 w.drew := ⟨h.1, h.2.1, h.2.2.1, h.2.2.2.1, Lib.hid ⟨h.2.2.2.2.out.1.drew, h.2.2.2.2.out.2⟩⟩
theorem PairV.set {o : Nat} {y z : Value} {w0 w : World} (h : PairV o y z w0 w) : PairV o y z w0 ((w.setCell ⟨o, 0, none⟩ y).setCell ⟨o, 1, none⟩ z) := by
  obtain ⟨ht, g, hg⟩ := h.2.2.2.2.out
  have hr := (hg.set 0 y).set 1 z
  refine ⟨?_, ?_, hr.frozen _, hr.frozen _, Lib.hid ⟨(ht.setCell ⟨o, 0, none⟩ y fun _ => rfl).setCell ⟨o, 1, none⟩ z fun _ => rfl, _, hr⟩⟩
  · have := hr.cell (i := 0) (by omega); simpa using this
  · have := hr.cell (i := 1) (by omega); simpa using this

set_option maxRecDepth 100000 in
set_option maxHeartbeats 4000000 in
theorem readCell_any (x : Value) (l : List UInt8) (w : World) (h : BC w x l) (hl : l.length ≤ 1073741824) :
    Calls Try.prog 57 #[x] w (CellPost l w) := by
  have hbc := h
  obtain ⟨ao, n, cap, rfl, hn, hcap, hnone, hs⟩ := h
  by_cases h0 : n = 0
  · have d1 : ((n : Int) == 0) = true := by simp; omega
    have HR := Lib.hid (show ∀ o more, okP o → l ≠ cellB o ++ more from fun o more hok e => by rcases cell_of hok e with h | h <;> omega)
    clear hbc hn hs hnone h0
    go_enter Try.func57, Try.ntmps57
    go_wp2_with fail
    refine bodyPost_ret (v := .tuple #[.agg #[.slice none 0 0, .slice none 0 0], .slice none 0 0, .bool false]) (by simp [results, Try.results57, go_sem]) rfl ?_
    exact .inr ⟨rfl, (Touch.refl Nil w).alloc _, HR.out⟩
  · have d1 : ((n : Int) == 0) = false := by simp; omega
    have hta := (Touch.refl Nil w).alloc (.cells #[.slice none 0 0, .slice none 0 0] 72)
    have hs' := hs.keepN hta
    have HTA := Lib.hid hta
    obtain ⟨b, off, rfl, k0⟩ := hs' 0 (by simp; omega)
    rw [ub_getD _ _ (by omega), Nat.add_zero] at k0
    have v0 := (l.getD 0 0).toNat_lt
    by_cases h1 : 1 < (l.getD 0 0).toNat
    · have HR := Lib.hid (show ∀ o more, okP o → l ≠ cellB o ++ more from fun o more hok e => by rcases cell_of hok e with h | h <;> omega)
      generalize (l.getD 0 0).toNat = x0 at *
      have d2 : decide ((1 : Int) < (x0 : Int)) = true := by simp; omega
      have d2' : decide (1 < x0) = true := by simpa using h1
      clear hbc hn hs hnone hl hs' hta
      go_enter Try.func57, Try.ntmps57
      go_wp2_with fail
      refine bodyPost_ret (v := .tuple #[.agg #[.slice none 0 0, .slice none 0 0], .slice none 0 0, .bool false]) (by simp [results, Try.results57, go_sem]) rfl ?_
      exact .inr ⟨rfl, HTA.out, HR.out⟩
    have d2 : decide ((1 : Int) < (((l.getD 0 0).toNat : Nat) : Int)) = false := by rw [decide_eq_false_iff_not]; omega
    have d2' : decide (1 < (l.getD 0 0).toNat) = false := by simpa using h1
    by_cases hz : (l.getD 0 0).toNat = 0
    · have HR := Lib.hid (cell_none (l := l) (by omega) hz)
      obtain ⟨a1, n1, c1, hcut, hbc1, hn1⟩ := cut_l hbc (k := 1) (by omega)
      replace hcut : ∀ W, (Instr.slice 23 (.slice (some ⟨b, off, none⟩) n cap) (some (.int .i64 1)) none none).run Try.prog W = .ok (.slice a1 n1 c1) W := hcut
      have HBC1 := Lib.hid hbc1
      rw [hz] at k0
      clear hbc hbc1 hn hs hnone hl h1 v0 d2 d2' hz hs' hta
      go_enter Try.func57, Try.ntmps57
      go_wp2_with (go_region)
      refine bodyPost_ret (v := .tuple #[.agg #[.slice none 0 0, .slice none 0 0], .slice a1 n1 c1, .bool true]) (by simp [results, Try.results57, go_sem]) rfl ?_
      exact .inl ⟨none, _, _, _, l.drop 1, trivial, HR.out, rfl, ⟨rfl, rfl⟩, HBC1.out.keepN HTA.out.drew, HTA.out.drew⟩
    have hone : (l.getD 0 0).toNat = 1 := by omega
    rw [hone] at k0
    clear d2 d2' v0
    by_cases h4 : n < 4
    · have HR := Lib.hid (show ∀ o more, okP o → l ≠ cellB o ++ more from fun o more hok e => by rcases cell_of hok e with h | h <;> omega)
      have d3 : decide ((n : Int) < 4) = true := by simp; omega
      have d3' : decide (n < 4) = true := by simpa using h4
      clear hbc hn hs hnone hl h1 hz hs' hta hone
      go_enter Try.func57, Try.ntmps57
      go_wp2_with (go_region)
      refine bodyPost_ret (v := .tuple #[.agg #[.slice none 0 0, .slice none 0 0], .slice none 0 0, .bool false]) (by simp [results, Try.results57, go_sem]) rfl ?_
      exact .inr ⟨rfl, HTA.out, HR.out⟩
    have d3 : decide ((n : Int) < 4) = false := by simp; omega
    have d3' : decide (n < 4) = false := by simpa using h4
    obtain ⟨_, _, e1, k1⟩ := hs' 1 (by simp; omega)
    cases e1
    obtain ⟨_, _, e1, k2⟩ := hs' 2 (by simp; omega)
    cases e1
    obtain ⟨_, _, e1, k3⟩ := hs' 3 (by simp; omega)
    cases e1
    rw [ub_getD _ _ (by omega)] at k1 k2 k3
    have v1 := (l.getD 1 0).toNat_lt
    have v2 := (l.getD 2 0).toNat_lt
    have v3 := (l.getD 3 0).toNat_lt
    have HCO := Lib.hid (fun o more hok e => cell_of (l := l) (o := o) (more := more) hok e)
    have HCS := Lib.hid (cell_some (l := l) (by omega) hone)
    have hll : n = l.length := hn
    obtain ⟨a1, n1, c1, hcut, hbc1, hn1⟩ := cut_l hbc (k := 4) (by omega)
    replace hcut : ∀ W, (Instr.slice 23 (.slice (some ⟨b, off, none⟩) n cap) (some (.int .i64 4)) none none).run Try.prog W = .ok (.slice a1 n1 c1) W := hcut
    generalize (l.getD 0 0).toNat = x0 at *
    generalize (l.getD 1 0).toNat = x1 at *
    generalize (l.getD 2 0).toNat = x2 at *
    generalize (l.getD 3 0).toNat = x3 at *
    have hor := or2 x2 x3 (by omega) (by omega)
    have HV : ∃ V, x2 + x3 * 256 = V := ⟨_, rfl⟩
    obtain ⟨V, eV⟩ := HV
    rw [eV] at hor HCO HCS
    have hV : V ≤ 65535 := by omega
    have hx1 : x1 ≤ 255 := by omega
    have hx2 : x2 ≤ 255 := by omega
    have hx3 : x3 ≤ 255 := by omega
    have HAL := Lib.hid (fun w => allowed_any x1 V w (by omega) (by omega))
    clear hs hs' hnone hn hta eV v1 v2 v3 hz h1
    by_cases hal : 1 ≤ x1 ∧ x1 ≤ 64 ∧ V ≤ 1000
    · rw [decide_eq_true hal] at HAL
      have hsum : ((x1 + V : Nat) : Int) = (x1 : Int) + (V : Int) := rfl
      by_cases hfit : n1 < x1 + V
      · have HR := Lib.hid (show ∀ o more, okP o → l ≠ cellB o ++ more from fun o more hok e => by rcases HCO.out o more hok e with h | h <;> omega)
        have d4 : decide ((n1 : Int) < (x1 : Int) + (V : Int)) = true := by rw [decide_eq_true_iff]; omega
        clear hal hbc hbc1 hn1 hll hl HCO HCS hsum
        go_enter Try.func57, Try.ntmps57
        go_wp2_with (go_quiet (fail))
        refine (HAL.out _).mono ?_
        rintro e w' ⟨rfl, rfl⟩
        go_wp2_with fail
        refine bodyPost_ret (v := .tuple #[.agg #[.slice none 0 0, .slice none 0 0], .slice none 0 0, .bool false]) (by simp [results, Try.results57, go_sem]) rfl ?_
        exact .inr ⟨rfl, ((HTA.out.drewN _).setCell _ _ fun h => by simp at h).setCell _ _ fun h => by simp at h, HR.out⟩
      · have d4 : decide ((n1 : Int) < (x1 : Int) + (V : Int)) = false := by rw [decide_eq_false_iff_not]; omega
        have HCC := Lib.hid (HCS.out (by omega))
        have hln : n1 = (l.drop 4).length := by simp; omega
        obtain ⟨a2, n2, c2, hcutA, hbA, hnA⟩ := cut_h hbc1 (k := x1) (by omega)
        obtain ⟨a3, n3, c3, hcutB, hbB, hnB⟩ := cut_lh hbc1 (i := x1) (j := x1 + V) (by omega) (by omega)
        obtain ⟨a4, n4, c4, hcutC, hbC, hnC⟩ := cut_l hbc1 (k := x1 + V) (by omega)
        rw [hsum] at hcutB hcutC
        have HBA := Lib.hid hbA.bv
        have HBB := Lib.hid hbB.bv
        have HBC := Lib.hid hbC
        have HLA := Lib.hid (show ((l.drop 4).take x1).length = x1 by simp; omega)
        have HLB := Lib.hid (show (((l.drop 4).take (x1 + V)).drop x1).length = V by simp; omega)
        have HOK := Lib.hid hal
        generalize (l.drop 4).take x1 = kk at *
        generalize ((l.drop 4).take (x1 + V)).drop x1 = vv at *
        generalize (l.drop 4).drop (x1 + V) = more at *
        have HTY := Lib.hid (two_row w (.slice none 0 0) (.slice none 0 0) 72)
        clear hal hbc hbc1 hn1 hll HCO HCS hsum hbA hbB hbC hnA hnB hnC hln hl
        go_enter Try.func57, Try.ntmps57
        go_wp2_with (go_quiet (fail))
        refine (HAL.out _).mono ?_
        rintro e w' ⟨rfl, rfl⟩
        go_wp2_with fail
        have HQX := q_ex w.heap.size
        obtain ⟨q, hq⟩ := HQX
        have HQ := Lib.hid hq
        have HS0 := Lib.hid (PairS.of (w0 := w) (w := ((w.alloc (.cells #[.slice none 0 0, .slice none 0 0] 72)).drewN nq)) hq (HTA.out.drewN nq).of_nil ⟨_, HTY.out⟩)
        have hw1 : IntKind.i64.wrap ((x1 : Int) + (V : Int)) = (x1 : Int) + (V : Int) := by rw [IntKind.wrap_i64]; omega
        clear hq
        go_region_held3 (fun w' => w'.cell? ⟨w.heap.size, 0, none⟩ = some (q w' 0) ∧ w'.cell? ⟨w.heap.size, 1, none⟩ = some (q w' 1) ∧ w'.frozen? ⟨w.heap.size, 0, none⟩ = false ∧ w'.frozen? ⟨w.heap.size, 1, none⟩ = false ∧ Hid (Touch (Just w.heap.size) w w' ∧ ∃ g, w'.rowIs w.heap.size 72 2 g))
          (first | exact PairS.drew HQ.out HS0.out | exact PairS.step HQ.out (by assumption) (by assumption) | exact PairS.set HQ.out (PairS.set HQ.out (by assumption) _ _) _ _)
          (first
            | (go_at_call_of 64 (Value.slice a2 n2 c2); refine (bytesClone_any _ kk _ ?_ (by rw [HLA.out]; omega)).mono ?_; (exact HBA.out.keepR (And.left (Hid.out (And.right (And.right (And.right (And.right (by assumption))))))) (Nat.le_refl _)); rintro e w3 ⟨y, rfl, hy, hty⟩; obtain ⟨ya, yl, yc, rfl⟩ := hy.form)
            | (go_at_call_of 64 (Value.slice a3 n3 c3); refine (bytesClone_any _ vv _ ?_ (by rw [HLB.out]; omega)).mono ?_; (exact HBB.out.keepR (And.left (Hid.out (And.right (And.right (And.right (And.right (by assumption))))))) (Nat.le_refl _)); rintro e w4 ⟨z, rfl, hz, htz⟩; obtain ⟨za, zl, zc, rfl⟩ := hz.form))
        have HR4 := Lib.hid (((HTA.out.drewN nq).drew.trans hty).trans htz)
        have hr4 := (hty.trans htz).row (w := ((w.alloc (.cells #[.slice none 0 0, .slice none 0 0] 72)).drewN nq).drew) HTY.out (fun c => c)
        have HR5 := Lib.hid ((hr4.set 0 (.slice ya yl yc)).set 1 (.slice za zl zc))
        have hts := ((Touch.refl (Just w.heap.size) w4).setCell ⟨w.heap.size, 0, none⟩ (.slice ya yl yc) fun _ => rfl).setCell ⟨w.heap.size, 1, none⟩ (.slice za zl zc) fun _ => rfl
        have hnb := notBytes_row hr4 (by decide)
        have HT5 := Lib.hid (show Touch Nil w _ from HR4.out.trans' hts fun b hb hs => by have hs : b = w.heap.size := hs; omega)
        have HY := Lib.hid (((hy.base (b2 := w.heap.size) (HTA.out.drewN nq).drew.size).keepT htz (notBytes_nil _)).keepT hts hnb)
        have HZ := Lib.hid ((hz.base (b2 := w.heap.size) ((HTA.out.drewN nq).drew.trans hty).size).keepT hts hnb)
        clear hy hz hty htz hr4 hts hnb HS0 HQ
        generalize (w4.setCell ⟨w.heap.size, 0, none⟩ (.slice ya yl yc)).setCell ⟨w.heap.size, 1, none⟩ (.slice za zl zc) = w5 at *
        have e0 : w5.cell? ⟨w.heap.size, 0, none⟩ = some (.slice ya yl yc) := by have := HR5.out.cell (i := 0) (by omega); simpa using this
        have e1 : w5.cell? ⟨w.heap.size, 1, none⟩ = some (.slice za zl zc) := by have := HR5.out.cell (i := 1) (by omega); simpa using this
        have f0 := HR5.out.frozen 0
        have f1 := HR5.out.frozen 1
        have HS5 := Lib.hid (show PairV w.heap.size (.slice ya yl yc) (.slice za zl zc) w5 w5 from ⟨e0, e1, f0, f1, Lib.hid ⟨Touch.refl _ _, _, HR5.out⟩⟩)
        clear e0 e1 f0 f1
        go_wp2_with fail
        go_region_held3 (fun w' => w'.cell? ⟨w.heap.size, 0, none⟩ = some (.slice ya yl yc) ∧ w'.cell? ⟨w.heap.size, 1, none⟩ = some (.slice za zl zc) ∧ w'.frozen? ⟨w.heap.size, 0, none⟩ = false ∧ w'.frozen? ⟨w.heap.size, 1, none⟩ = false ∧ Hid (Touch (Just w.heap.size) w5 w' ∧ ∃ g, w'.rowIs w.heap.size 72 2 g))
          (first | exact PairV.drew HS5.out | exact PairV.set (by assumption))
          (fail)
        have hs6 := (PairV.set HS5.out).drew
        generalize ((w5.setCell ⟨w.heap.size, 0, none⟩ (.slice ya yl yc)).setCell ⟨w.heap.size, 1, none⟩ (.slice za zl zc)).drew = w6 at *
        obtain ⟨e0, e1, f0, f1, ht6⟩ := hs6
        have HT6 := Lib.hid (show Touch (Just w.heap.size) w5 w6 from ht6.out.1)
        have HNB := Lib.hid (notBytes_row HR5.out (by decide))
        clear ht6
        go_wp2_with fail
        refine bodyPost_ret (v := .tuple #[.agg #[.slice ya yl yc, .slice za zl zc], .slice a4 n4 c4, .bool true]) (by simp [results, Try.results57, go_sem, e0, e1]) rfl ?_
        have ht6 : Touch Nil w w6 := HT5.out.trans' HT6.out fun b hb hs => by have hs : b = w.heap.size := hs; omega
        exact .inl ⟨some (kk, vv), .slice ya yl yc, .slice za zl zc, .slice a4 n4 c4, more, by show 1 ≤ kk.length ∧ kk.length ≤ 64 ∧ vv.length ≤ 1000; rw [HLA.out, HLB.out]; exact HOK.out, HCC.out, rfl, ⟨HY.out.keepT HT6.out HNB.out, HZ.out.keepT HT6.out HNB.out⟩, HBC.out.keepN ht6, ht6⟩
    · rw [decide_eq_false hal] at HAL
      have HR := Lib.hid (show ∀ o more, okP o → l ≠ cellB o ++ more from fun o more hok e => by rcases HCO.out o more hok e with h | h <;> omega)
      clear hal hbc hbc1 hn1 hll hl HCO HCS
      go_enter Try.func57, Try.ntmps57
      go_wp2_with (go_quiet (fail))
      refine (HAL.out _).mono ?_
      rintro e w' ⟨rfl, rfl⟩
      go_wp2_with fail
      refine bodyPost_ret (v := .tuple #[.agg #[.slice none 0 0, .slice none 0 0], .slice none 0 0, .bool false]) (by simp [results, Try.results57, go_sem]) rfl ?_
      exact .inr ⟨rfl, ((HTA.out.drewN _).setCell _ _ fun h => by simp at h).setCell _ _ fun h => by simp at h, HR.out⟩
end Go.Proofs.Ythhahanhkclidaa
