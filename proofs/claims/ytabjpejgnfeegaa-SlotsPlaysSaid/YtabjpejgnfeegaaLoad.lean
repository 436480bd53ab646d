import Derived.Test.YtabjpejgnfeegaaCut
import Derived.Test.YtabjpejgnfeegaaGrow4
import Derived.Test.YtabjpejgnfeegaaScript
/- Reading an image: the number of pairs, a cell. -/
namespace Go.Proofs.Ytabjpejgnfeegaa
open Go.ChangeShapes Go.WideShapes Go.ChangeAt Go.RowKit Go.Deep

def CountPost (l : List UInt8) (w : World) (e : Ending) (w' : World) : Prop :=
  (∃ n rest x, l = headB n ++ rest ∧ n ≤ 100000 ∧ cellsN n ≤ rest.length ∧ e = .returned (.tuple #[.int .i64 (n : Int), x, .bool true]) ∧ BC w' x rest ∧ Touch Nil w w') ∨
  (e = .returned (.tuple #[.int .i64 0, .slice none 0 0, .bool false]) ∧ Touch Nil w w' ∧ ∀ n rest, n ≤ 100000 → cellsN n ≤ rest.length → l ≠ headB n ++ rest)

theorem or_comm' (k : IntKind) (a b : Int) : bits BinOp.or k a b = bits BinOp.or k b a := by simp only [bits, BitVec.or_comm]
theorem wraps_u32 (n : Int) (h₀ : 0 ≤ n) (h₁ : n < 2 ^ 32) : IntKind.u32.wrap n = n := by rw [IntKind.wrap_u32]; omega
theorem wraps_i62 (n : Int) (h₀ : 0 ≤ n) (h₁ : n < 2 ^ 62) : IntKind.i64.wrap n = n := by rw [IntKind.wrap_i64]; omega
/-- A number of four bytes; of two. -/
theorem or4 (a b c d : Nat) (ha : a < 256) (hb : b < 256) (hc : c < 256) (hd : d < 256) :
    bits BinOp.or .u32 (bits BinOp.or .u32 (bits BinOp.or .u32 (a : Int) ((b : Int) * 256)) ((c : Int) * 65536)) ((d : Int) * 16777216) = ((a + b * 256 + c * 65536 + d * 16777216 : Nat) : Int) := by
  have j1 : bits BinOp.or .u32 (a : Int) ((b : Int) * 256) = (b : Int) * 256 + a := by
    rw [or_comm', bits_join .u32 32 (by decide) wraps_u32 8 ((b : Int) * 256) (a : Int) (by omega) (by omega) (by omega) (by omega) (by omega) (by omega)]
  have j2 : bits BinOp.or .u32 ((b : Int) * 256 + a) ((c : Int) * 65536) = (c : Int) * 65536 + ((b : Int) * 256 + a) := by
    rw [or_comm', bits_join .u32 32 (by decide) wraps_u32 16 ((c : Int) * 65536) ((b : Int) * 256 + a) (by omega) (by omega) (by omega) (by omega) (by omega) (by omega)]
  have j3 : bits BinOp.or .u32 ((c : Int) * 65536 + ((b : Int) * 256 + a)) ((d : Int) * 16777216) = (d : Int) * 16777216 + ((c : Int) * 65536 + ((b : Int) * 256 + a)) := by
    rw [or_comm', bits_join .u32 32 (by decide) wraps_u32 24 ((d : Int) * 16777216) ((c : Int) * 65536 + ((b : Int) * 256 + a)) (by omega) (by omega) (by omega) (by omega) (by omega) (by omega)]
  rw [j1, j2, j3]
  omega
theorem or2 (a b : Nat) (ha : a < 256) (hb : b < 256) : bits BinOp.or .i64 (a : Int) ((b : Int) * 256) = ((a + b * 256 : Nat) : Int) := by
  rw [or_comm', bits_join .i64 62 (by decide) wraps_i62 8 ((b : Int) * 256) (a : Int) (by omega) (by omega) (by omega) (by omega) (by omega) (by omega)]
  omega
/-- The head of an image, from its first four bytes. -/
theorem head_of {l : List UInt8} (h : 4 ≤ l.length) : l = headB ((l.getD 0 0).toNat + (l.getD 1 0).toNat * 256 + (l.getD 2 0).toNat * 65536 + (l.getD 3 0).toNat * 16777216) ++ l.drop 4 := by
  match l, h with
  | a :: b :: c :: d :: r, _ =>
    have h1 := a.toNat_lt
    have h2 := b.toNat_lt
    have h3 := c.toNat_lt
    have h4 := d.toNat_lt
    simp only [List.getD_cons_zero, List.getD_cons_succ, List.drop_succ_cons, List.drop_zero, headB, List.cons_append, List.nil_append]
    have e : ∀ (n : Nat) (x : UInt8), n % 256 = x.toNat → lo n = x := fun n x h => UInt8.toNat_inj.1 (by rw [lo_nat]; exact h)
    rw [e _ a (by omega), e _ b (by omega), e _ c (by omega), e _ d (by omega)]

set_option maxRecDepth 100000 in
set_option maxHeartbeats 2000000 in
theorem readCount_any (x : Value) (l : List UInt8) (w : World) (h : BC w x l) (hl : l.length ≤ 1073741824) :
    Calls Try.prog 55 #[x] w (CountPost l w) := by
  have hbc := h
  obtain ⟨ao, n, cap, rfl, hn, hcap, hnone, hs⟩ := h
  by_cases h4 : n < 4
  · have d1 : decide ((n : Int) < 4) = true := by simp; omega
    have d1' : decide (n < 4) = true := by simpa using h4
    have HR := Lib.hid (show ∀ n rest, n ≤ 100000 → cellsN n ≤ rest.length → l ≠ headB n ++ rest from fun m rest _ _ e => by
      have := congrArg List.length e
      simp [headB] at this; omega)
    clear hbc hn hs hnone
    go_enter Try.func55, Try.ntmps55
    go_wp2_with fail
    ((try simp only [Exit.inBlock, Exit.then]); refine bodyPost_ret (results_tmp3 rfl _ _ _) rfl ?_)
    exact .inr ⟨rfl, Touch.refl _ _, HR.out⟩
  · have d1 : decide ((n : Int) < 4) = false := by simp; omega
    have d1' : decide (n < 4) = false := by simpa using h4
    obtain ⟨a1, n1, c1, hcut, hbc1, hn1⟩ := cut_l hbc (k := 4) (by omega)
    have hl1 : n1 = (l.drop 4).length := by simp; omega
    replace hcut : ∀ W, (Instr.slice 23 (.slice ao n cap) (some (.int .i64 4)) none none).run Try.prog W = .ok (.slice a1 n1 c1) W := hcut
    have HBC1 := Lib.hid hbc1
    have HL1 := Lib.hid hl1
    have HHD := Lib.hid (head_of (l := l) (by omega))
    obtain ⟨b, off, rfl, k0⟩ := hs 0 (by simp; omega)
    obtain ⟨_, _, e1, k1⟩ := hs 1 (by simp; omega)
    cases e1
    obtain ⟨_, _, e1, k2⟩ := hs 2 (by simp; omega)
    cases e1
    obtain ⟨_, _, e1, k3⟩ := hs 3 (by simp; omega)
    cases e1
    rw [ub_getD _ _ (by omega)] at k0 k1 k2 k3
    rw [Nat.add_zero] at k0
    have v0 := (l.getD 0 0).toNat_lt
    have v1 := (l.getD 1 0).toNat_lt
    have v2 := (l.getD 2 0).toNat_lt
    have v3 := (l.getD 3 0).toNat_lt
    generalize (l.getD 0 0).toNat = x0 at *
    generalize (l.getD 1 0).toNat = x1 at *
    generalize (l.getD 2 0).toNat = x2 at *
    generalize (l.getD 3 0).toNat = x3 at *
    have hor := or4 x0 x1 x2 x3 (by omega) (by omega) (by omega) (by omega)
    have hN : x0 + x1 * 256 + x2 * 65536 + x3 * 16777216 < 4294967296 := by omega
    generalize x0 + x1 * 256 + x2 * 65536 + x3 * 16777216 = N at *
    have HRF := Lib.hid (show ∀ m rest, m ≤ 100000 → l = headB m ++ rest → m = N ∧ rest = l.drop 4 from fun m rest hm e => by
      have e' := HHD.out.symm.trans e
      obtain ⟨e1, e2⟩ := headB_inj (by omega) (by omega) e'
      exact ⟨e1.symm, e2.symm⟩)
    clear hs hnone hbc hbc1 hn hn1 hl1 hl
    by_cases hbig : 100000 < N
    · have g1 : decide ((100000 : Int) < (N : Int)) = true := by simp; omega
      have g1' : decide (100000 < N) = true := by simpa using hbig
      go_enter Try.func55, Try.ntmps55
      go_wp2_with (go_quiet (fail))
      ((try simp only [Exit.inBlock, Exit.then]); refine bodyPost_ret (results_tmp3 rfl _ _ _) rfl ?_)
      exact .inr ⟨rfl, (Touch.refl _ _).drewN _, fun m rest hm _ e => by have := (HRF.out m rest hm e).1; omega⟩
    · have g1 : decide ((100000 : Int) < (N : Int)) = false := by simp; omega
      have g1' : decide (100000 < N) = false := by simpa using hbig
      have HCF := Lib.hid (fun w => cellsFor_any N w (by omega))
      have hcs := cellsN_spec N (by omega)
      obtain ⟨_, hcs, _, _⟩ := hcs
      have HE : ∃ C, cellsN N = C := ⟨_, rfl⟩
      obtain ⟨C, eC⟩ := HE
      have HC := Lib.hid eC
      rw [eC] at hcs
      simp only [eC] at HCF
      clear eC
      by_cases hlt : n1 < C
      · have g2 : decide ((n1 : Int) < (C : Int)) = true := by simp; omega
        have g2' : decide (n1 < C) = true := by simpa using hlt
        go_enter Try.func55, Try.ntmps55
        go_wp2_with (go_quiet (fail))
        refine (HCF.out _).mono ?_
        rintro e w' ⟨rfl, rfl⟩
        go_wp2_with fail
        ((try simp only [Exit.inBlock, Exit.then]); refine bodyPost_ret (results_tmp3 rfl _ _ _) rfl ?_)
        exact .inr ⟨rfl, (Touch.refl _ _).drewN _, fun m rest hm hr e => by
          obtain ⟨e1, e2⟩ := HRF.out m rest hm e
          rw [e1, e2, HC.out, ← HL1.out] at hr; omega⟩
      · have g2 : decide ((n1 : Int) < (C : Int)) = false := by simp; omega
        have g2' : decide (n1 < C) = false := by simpa using hlt
        go_enter Try.func55, Try.ntmps55
        go_wp2_with (go_quiet (fail))
        refine (HCF.out _).mono ?_
        rintro e w' ⟨rfl, rfl⟩
        go_wp2_with fail
        ((try simp only [Exit.inBlock, Exit.then]); refine bodyPost_ret (results_tmp3 rfl _ _ _) rfl ?_)
        exact .inl ⟨N, l.drop 4, _, HHD.out, by omega, by rw [HC.out, ← HL1.out]; omega, rfl, HBC1.out.keepN ((Touch.refl _ _).drewN _), (Touch.refl _ _).drewN _⟩
end Go.Proofs.Ytabjpejgnfeegaa

/- Reading a cell of an image. -/
namespace Go.Proofs.Ytabjpejgnfeegaa
open Go.ChangeShapes Go.WideShapes Go.ChangeAt Go.RowKit Go.Deep

def NewCell (base : Nat) (w : World) (y z : Value) : Option (Key × Key) → Prop
  | none => y = .slice none 0 0 ∧ z = .slice none 0 0
  | some (k, v) => OwnB base w y k ∧ OwnB base w z v
def CellPost (l : List UInt8) (w : World) (e : Ending) (w' : World) : Prop :=
  (∃ o y z x rest, okP o ∧ l = cellB o ++ rest ∧ e = .returned (.tuple #[.agg #[y, z], x, .bool true]) ∧ NewCell w.heap.size w' y z o ∧ BC w' x rest ∧ Touch Nil w w') ∨
  (e = .returned (.tuple #[.agg #[.slice none 0 0, .slice none 0 0], .slice none 0 0, .bool false]) ∧ Touch Nil w w' ∧ ∀ o more, okP o → l ≠ cellB o ++ more)

theorem cell_of {l : List UInt8} {o : Option (Key × Key)} {more : List UInt8} (hok : okP o) (e : l = cellB o ++ more) :
    ((l.getD 0 0).toNat = 0 ∧ 1 ≤ l.length) ∨ ((l.getD 0 0).toNat = 1 ∧ 4 ≤ l.length ∧ 1 ≤ (l.getD 1 0).toNat ∧ (l.getD 1 0).toNat ≤ 64 ∧ (l.getD 2 0).toNat + (l.getD 3 0).toNat * 256 ≤ 1000 ∧ (l.getD 1 0).toNat + ((l.getD 2 0).toNat + (l.getD 3 0).toNat * 256) + 4 ≤ l.length) := by
  subst e
  cases o with
  | none => left; simp [cellB]
  | some p =>
    obtain ⟨k, v⟩ := p
    obtain ⟨a, b, c⟩ := hok
    right
    have e1 := lo_nat k.length
    have e2 := lo_nat v.length
    have e3 := lo_nat (v.length / 256)
    simp only [cellB, List.cons_append, List.nil_append, List.append_assoc, List.getD_cons_zero, List.getD_cons_succ, List.length_cons, List.length_append]
    rw [e1, e2, e3]
    refine ⟨rfl, by omega, by omega, by omega, by omega, by omega⟩
theorem cell_none {l : List UInt8} (h : 1 ≤ l.length) (h0 : (l.getD 0 0).toNat = 0) : l = cellB none ++ l.drop 1 := by
  match l, h with
  | a :: r, _ =>
    simp only [List.getD_cons_zero] at h0
    have : a = 0 := UInt8.toNat_inj.1 h0
    simp [cellB, this]
theorem cell_some {l : List UInt8} (h : 4 ≤ l.length) (h0 : (l.getD 0 0).toNat = 1) (hk : (l.getD 1 0).toNat + ((l.getD 2 0).toNat + (l.getD 3 0).toNat * 256) + 4 ≤ l.length) :
    l = cellB (some ((l.drop 4).take (l.getD 1 0).toNat, ((l.drop 4).take ((l.getD 1 0).toNat + ((l.getD 2 0).toNat + (l.getD 3 0).toNat * 256))).drop (l.getD 1 0).toNat)) ++ (l.drop 4).drop ((l.getD 1 0).toNat + ((l.getD 2 0).toNat + (l.getD 3 0).toNat * 256)) := by
  match l, h with
  | a :: b :: c :: d :: r, _ =>
    have h1 := b.toNat_lt
    have h2 := c.toNat_lt
    have h3 := d.toNat_lt
    simp only [List.getD_cons_zero, List.getD_cons_succ, List.length_cons, List.drop_succ_cons, List.drop_zero] at h0 hk ⊢
    have ha : a = 1 := UInt8.toNat_inj.1 h0
    have e : ∀ (n : Nat) (x : UInt8), n % 256 = x.toNat → lo n = x := fun n x h => UInt8.toNat_inj.1 (by rw [lo_nat]; exact h)
    have l1 : (r.take b.toNat).length = b.toNat := by simp; omega
    have l2 : ((r.take (b.toNat + (c.toNat + d.toNat * 256))).drop b.toNat).length = c.toNat + d.toNat * 256 := by simp; omega
    simp only [cellB, l1, l2]
    rw [e _ b (by omega), e _ c (by omega), e _ d (by omega), ha]
    simp only [List.cons_append, List.nil_append, List.append_assoc, List.cons.injEq, true_and]
    have e4 : r.take b.toNat = (r.take (b.toNat + (c.toNat + d.toNat * 256))).take b.toNat := by rw [List.take_take]; congr 1; omega
    rw [← List.append_assoc, e4, List.take_append_drop, List.take_append_drop]

theorem two_row (w : World) (x y : Value) (t : Nat) : (w.alloc (.cells #[x, y] t)).rowIs w.heap.size t 2 (fun i => #[x, y][i]!) :=
  ⟨_, blk_alloc_new _ _, rfl, fun i hi => by match i, hi with | 0, _ => rfl | 1, _ => rfl⟩

theorem BV.keepR {r : Nat} {w w' : World} {x : Value} {l : List UInt8} (h : BV w x l) (ht : Touch (Just r) w w') (hr : w.heap.size ≤ r) : BV w' x l :=
  h.keep0 ht fun h0 b hb hj => by
    obtain ⟨ao, cap, rfl, _, hs⟩ := h
    obtain ⟨b', off, e, hc⟩ := hs 0 (by simpa using h0)
    subst e
    have := World.block_lt_of_cell? w _ hc
    obtain rfl : b = b' := by simpa [OwnOf, Value.ownBlock] using hb
    have hj : b = r := hj
    simp only [] at this
    omega

/-- A box of two cells that is written. -/
abbrev PairS (o : Nat) (q : World → Nat → Value) (w0 w' : World) : Prop :=
  w'.cell? ⟨o, 0, none⟩ = some (q w' 0) ∧ w'.cell? ⟨o, 1, none⟩ = some (q w' 1) ∧ w'.frozen? ⟨o, 0, none⟩ = false ∧ w'.frozen? ⟨o, 1, none⟩ = false ∧ Hid (Touch (Just o) w0 w' ∧ ∃ g, w'.rowIs o 72 2 g)
section
variable {o : Nat} {q : World → Nat → Value} {w0 w w' : World}
theorem PairS.of (hq : QOk o q) (ht : Touch (Just o) w0 w) (hr : ∃ g, w.rowIs o 72 2 g) : PairS o q w0 w := by
  have hr' := hr
  obtain ⟨g, hg⟩ := hr
  refine ⟨hq _ _ ?_, hq _ _ ?_, hg.frozen _, hg.frozen _, Lib.hid ⟨ht, hr'⟩⟩ <;> (rw [hg.cell (by omega)]; rfl)
theorem PairS.drew (hq : QOk o q) (h : PairS o q w0 w) : PairS o q w0 w.drew := PairS.of hq h.2.2.2.2.out.1.drew h.2.2.2.2.out.2
theorem PairS.step (hq : QOk o q) (hs : Touch Nil w w') (h : PairS o q w0 w) : PairS o q w0 w' := by
  obtain ⟨ht, g, hg⟩ := h.2.2.2.2.out
  exact PairS.of hq (ht.trans hs.of_nil) ⟨g, hs.row hg fun c => c⟩
theorem PairS.set (hq : QOk o q) (h : PairS o q w0 w) (i : Nat) (u : Value) : PairS o q w0 (w.setCell ⟨o, i, none⟩ u) := by
  obtain ⟨ht, g, hg⟩ := h.2.2.2.2.out
  exact PairS.of hq (ht.setCell _ _ fun _ => rfl) ⟨_, hg.set i u⟩
end

/-- The same where it is known what the two cells hold. -/
abbrev PairV (o : Nat) (y z : Value) (w0 w' : World) : Prop :=
  w'.cell? ⟨o, 0, none⟩ = some y ∧ w'.cell? ⟨o, 1, none⟩ = some z ∧ w'.frozen? ⟨o, 0, none⟩ = false ∧ w'.frozen? ⟨o, 1, none⟩ = false ∧ Hid (Touch (Just o) w0 w' ∧ ∃ g, w'.rowIs o 72 2 g)
theorem PairV.drew {o : Nat} {y z : Value} {w0 w : World} (h : PairV o y z w0 w) : PairV o y z w0 w.drew := ⟨h.1, h.2.1, h.2.2.1, h.2.2.2.1, Lib.hid ⟨h.2.2.2.2.out.1.drew, h.2.2.2.2.out.2⟩⟩
theorem PairV.set {o : Nat} {y z : Value} {w0 w : World} (h : PairV o y z w0 w) : PairV o y z w0 ((w.setCell ⟨o, 0, none⟩ y).setCell ⟨o, 1, none⟩ z) := by
  obtain ⟨ht, g, hg⟩ := h.2.2.2.2.out
  have hr := (hg.set 0 y).set 1 z
  refine ⟨?_, ?_, hr.frozen _, hr.frozen _, Lib.hid ⟨(ht.setCell ⟨o, 0, none⟩ y fun _ => rfl).setCell ⟨o, 1, none⟩ z fun _ => rfl, _, hr⟩⟩
  · have := hr.cell (i := 0) (by omega); simpa using this
  · have := hr.cell (i := 1) (by omega); simpa using this

set_option maxRecDepth 100000 in
set_option maxHeartbeats 4000000 in
theorem readCell_any (x : Value) (l : List UInt8) (w : World) (h : BC w x l) (hl : l.length ≤ 1073741824) :
    Calls Try.prog 57 #[x] w (CellPost l w) := by
  have hbc := h
  obtain ⟨ao, n, cap, rfl, hn, hcap, hnone, hs⟩ := h
  by_cases h0 : n = 0
  · have d1 : ((n : Int) == 0) = true := by simp; omega
    have HR := Lib.hid (show ∀ o more, okP o → l ≠ cellB o ++ more from fun o more hok e => by rcases cell_of hok e with h | h <;> omega)
    clear hbc hn hs hnone h0
    go_enter Try.func57, Try.ntmps57
    go_wp2_with fail
    refine bodyPost_ret (v := .tuple #[.agg #[.slice none 0 0, .slice none 0 0], .slice none 0 0, .bool false]) (by simp [results, Try.results57, go_sem]) rfl ?_
    exact .inr ⟨rfl, (Touch.refl Nil w).alloc _, HR.out⟩
  · have d1 : ((n : Int) == 0) = false := by simp; omega
    have hta := (Touch.refl Nil w).alloc (.cells #[.slice none 0 0, .slice none 0 0] 72)
    have hs' := hs.keepN hta
    have HTA := Lib.hid hta
    obtain ⟨b, off, rfl, k0⟩ := hs' 0 (by simp; omega)
    rw [ub_getD _ _ (by omega), Nat.add_zero] at k0
    have v0 := (l.getD 0 0).toNat_lt
    by_cases h1 : 1 < (l.getD 0 0).toNat
    · have HR := Lib.hid (show ∀ o more, okP o → l ≠ cellB o ++ more from fun o more hok e => by rcases cell_of hok e with h | h <;> omega)
      generalize (l.getD 0 0).toNat = x0 at *
      have d2 : decide ((1 : Int) < (x0 : Int)) = true := by simp; omega
      have d2' : decide (1 < x0) = true := by simpa using h1
      clear hbc hn hs hnone hl hs' hta
      go_enter Try.func57, Try.ntmps57
      go_wp2_with fail
      refine bodyPost_ret (v := .tuple #[.agg #[.slice none 0 0, .slice none 0 0], .slice none 0 0, .bool false]) (by simp [results, Try.results57, go_sem]) rfl ?_
      exact .inr ⟨rfl, HTA.out, HR.out⟩
    have d2 : decide ((1 : Int) < (((l.getD 0 0).toNat : Nat) : Int)) = false := by rw [decide_eq_false_iff_not]; omega
    have d2' : decide (1 < (l.getD 0 0).toNat) = false := by simpa using h1
    by_cases hz : (l.getD 0 0).toNat = 0
    · have HR := Lib.hid (cell_none (l := l) (by omega) hz)
      obtain ⟨a1, n1, c1, hcut, hbc1, hn1⟩ := cut_l hbc (k := 1) (by omega)
      replace hcut : ∀ W, (Instr.slice 23 (.slice (some ⟨b, off, none⟩) n cap) (some (.int .i64 1)) none none).run Try.prog W = .ok (.slice a1 n1 c1) W := hcut
      have HBC1 := Lib.hid hbc1
      rw [hz] at k0
      clear hbc hbc1 hn hs hnone hl h1 v0 d2 d2' hz hs' hta
      go_enter Try.func57, Try.ntmps57
      go_wp2_with (go_region)
      refine bodyPost_ret (v := .tuple #[.agg #[.slice none 0 0, .slice none 0 0], .slice a1 n1 c1, .bool true]) (by simp [results, Try.results57, go_sem]) rfl ?_
      exact .inl ⟨none, _, _, _, l.drop 1, trivial, HR.out, rfl, ⟨rfl, rfl⟩, HBC1.out.keepN HTA.out.drew, HTA.out.drew⟩
    have hone : (l.getD 0 0).toNat = 1 := by omega
    rw [hone] at k0
    clear d2 d2' v0
    by_cases h4 : n < 4
    · have HR := Lib.hid (show ∀ o more, okP o → l ≠ cellB o ++ more from fun o more hok e => by rcases cell_of hok e with h | h <;> omega)
      have d3 : decide ((n : Int) < 4) = true := by simp; omega
      have d3' : decide (n < 4) = true := by simpa using h4
      clear hbc hn hs hnone hl h1 hz hs' hta hone
      go_enter Try.func57, Try.ntmps57
      go_wp2_with (go_region)
      refine bodyPost_ret (v := .tuple #[.agg #[.slice none 0 0, .slice none 0 0], .slice none 0 0, .bool false]) (by simp [results, Try.results57, go_sem]) rfl ?_
      exact .inr ⟨rfl, HTA.out, HR.out⟩
    have d3 : decide ((n : Int) < 4) = false := by simp; omega
    have d3' : decide (n < 4) = false := by simpa using h4
    obtain ⟨_, _, e1, k1⟩ := hs' 1 (by simp; omega)
    cases e1
    obtain ⟨_, _, e1, k2⟩ := hs' 2 (by simp; omega)
    cases e1
    obtain ⟨_, _, e1, k3⟩ := hs' 3 (by simp; omega)
    cases e1
    rw [ub_getD _ _ (by omega)] at k1 k2 k3
    have v1 := (l.getD 1 0).toNat_lt
    have v2 := (l.getD 2 0).toNat_lt
    have v3 := (l.getD 3 0).toNat_lt
    have HCO := Lib.hid (fun o more hok e => cell_of (l := l) (o := o) (more := more) hok e)
    have HCS := Lib.hid (cell_some (l := l) (by omega) hone)
    have hll : n = l.length := hn
    obtain ⟨a1, n1, c1, hcut, hbc1, hn1⟩ := cut_l hbc (k := 4) (by omega)
    replace hcut : ∀ W, (Instr.slice 23 (.slice (some ⟨b, off, none⟩) n cap) (some (.int .i64 4)) none none).run Try.prog W = .ok (.slice a1 n1 c1) W := hcut
    generalize (l.getD 0 0).toNat = x0 at *
    generalize (l.getD 1 0).toNat = x1 at *
    generalize (l.getD 2 0).toNat = x2 at *
    generalize (l.getD 3 0).toNat = x3 at *
    have hor := or2 x2 x3 (by omega) (by omega)
    have HV : ∃ V, x2 + x3 * 256 = V := ⟨_, rfl⟩
    obtain ⟨V, eV⟩ := HV
    rw [eV] at hor HCO HCS
    have hV : V ≤ 65535 := by omega
    have hx1 : x1 ≤ 255 := by omega
    have hx2 : x2 ≤ 255 := by omega
    have hx3 : x3 ≤ 255 := by omega
    have HAL := Lib.hid (fun w => allowed_any x1 V w (by omega) (by omega))
    clear hs hs' hnone hn hta eV v1 v2 v3 hz h1
    by_cases hal : 1 ≤ x1 ∧ x1 ≤ 64 ∧ V ≤ 1000
    · rw [decide_eq_true hal] at HAL
      have hsum : ((x1 + V : Nat) : Int) = (x1 : Int) + (V : Int) := rfl
      by_cases hfit : n1 < x1 + V
      · have HR := Lib.hid (show ∀ o more, okP o → l ≠ cellB o ++ more from fun o more hok e => by rcases HCO.out o more hok e with h | h <;> omega)
        have d4 : decide ((n1 : Int) < (x1 : Int) + (V : Int)) = true := by rw [decide_eq_true_iff]; omega
        clear hal hbc hbc1 hn1 hll hl HCO HCS hsum
        go_enter Try.func57, Try.ntmps57
        go_wp2_with (go_quiet (fail))
        refine (HAL.out _).mono ?_
        rintro e w' ⟨rfl, rfl⟩
        go_wp2_with fail
        refine bodyPost_ret (v := .tuple #[.agg #[.slice none 0 0, .slice none 0 0], .slice none 0 0, .bool false]) (by simp [results, Try.results57, go_sem]) rfl ?_
        exact .inr ⟨rfl, ((HTA.out.drewN _).setCell _ _ fun h => by simp at h).setCell _ _ fun h => by simp at h, HR.out⟩
      · have d4 : decide ((n1 : Int) < (x1 : Int) + (V : Int)) = false := by rw [decide_eq_false_iff_not]; omega
        have HCC := Lib.hid (HCS.out (by omega))
        have hln : n1 = (l.drop 4).length := by simp; omega
        obtain ⟨a2, n2, c2, hcutA, hbA, hnA⟩ := cut_h hbc1 (k := x1) (by omega)
        obtain ⟨a3, n3, c3, hcutB, hbB, hnB⟩ := cut_lh hbc1 (i := x1) (j := x1 + V) (by omega) (by omega)
        obtain ⟨a4, n4, c4, hcutC, hbC, hnC⟩ := cut_l hbc1 (k := x1 + V) (by omega)
        rw [hsum] at hcutB hcutC
        have HBA := Lib.hid hbA.bv
        have HBB := Lib.hid hbB.bv
        have HBC := Lib.hid hbC
        have HLA := Lib.hid (show ((l.drop 4).take x1).length = x1 by simp; omega)
        have HLB := Lib.hid (show (((l.drop 4).take (x1 + V)).drop x1).length = V by simp; omega)
        have HOK := Lib.hid hal
        generalize (l.drop 4).take x1 = kk at *
        generalize ((l.drop 4).take (x1 + V)).drop x1 = vv at *
        generalize (l.drop 4).drop (x1 + V) = more at *
        have HTY := Lib.hid (two_row w (.slice none 0 0) (.slice none 0 0) 72)
        clear hal hbc hbc1 hn1 hll HCO HCS hsum hbA hbB hbC hnA hnB hnC hln hl
        go_enter Try.func57, Try.ntmps57
        go_wp2_with (go_quiet (fail))
        refine (HAL.out _).mono ?_
        rintro e w' ⟨rfl, rfl⟩
        go_wp2_with fail
        have HQX := q_ex w.heap.size
        obtain ⟨q, hq⟩ := HQX
        have HQ := Lib.hid hq
        have HS0 := Lib.hid (PairS.of (w0 := w) (w := ((w.alloc (.cells #[.slice none 0 0, .slice none 0 0] 72)).drewN nq)) hq (HTA.out.drewN nq).of_nil ⟨_, HTY.out⟩)
        have hw1 : IntKind.i64.wrap ((x1 : Int) + (V : Int)) = (x1 : Int) + (V : Int) := by rw [IntKind.wrap_i64]; omega
        clear hq
        go_region_held3 (fun w' => w'.cell? ⟨w.heap.size, 0, none⟩ = some (q w' 0) ∧ w'.cell? ⟨w.heap.size, 1, none⟩ = some (q w' 1) ∧ w'.frozen? ⟨w.heap.size, 0, none⟩ = false ∧ w'.frozen? ⟨w.heap.size, 1, none⟩ = false ∧ Hid (Touch (Just w.heap.size) w w' ∧ ∃ g, w'.rowIs w.heap.size 72 2 g))
          (first | exact PairS.drew HQ.out HS0.out | exact PairS.step HQ.out (by assumption) (by assumption) | exact PairS.set HQ.out (PairS.set HQ.out (by assumption) _ _) _ _)
          (first
            | (go_at_call_of 64 (Value.slice a2 n2 c2); refine (bytesClone_any _ kk _ ?_ (by rw [HLA.out]; omega)).mono ?_; (exact HBA.out.keepR (And.left (Hid.out (And.right (And.right (And.right (And.right (by assumption))))))) (Nat.le_refl _)); rintro e w3 ⟨y, rfl, hy, hty⟩; obtain ⟨ya, yl, yc, rfl⟩ := hy.form)
            | (go_at_call_of 64 (Value.slice a3 n3 c3); refine (bytesClone_any _ vv _ ?_ (by rw [HLB.out]; omega)).mono ?_; (exact HBB.out.keepR (And.left (Hid.out (And.right (And.right (And.right (And.right (by assumption))))))) (Nat.le_refl _)); rintro e w4 ⟨z, rfl, hz, htz⟩; obtain ⟨za, zl, zc, rfl⟩ := hz.form))
        have HR4 := Lib.hid (((HTA.out.drewN nq).drew.trans hty).trans htz)
        have hr4 := (hty.trans htz).row (w := ((w.alloc (.cells #[.slice none 0 0, .slice none 0 0] 72)).drewN nq).drew) HTY.out (fun c => c)
        have HR5 := Lib.hid ((hr4.set 0 (.slice ya yl yc)).set 1 (.slice za zl zc))
        have hts := ((Touch.refl (Just w.heap.size) w4).setCell ⟨w.heap.size, 0, none⟩ (.slice ya yl yc) fun _ => rfl).setCell ⟨w.heap.size, 1, none⟩ (.slice za zl zc) fun _ => rfl
        have hnb := notBytes_row hr4 (by decide)
        have HT5 := Lib.hid (show Touch Nil w _ from HR4.out.trans' hts fun b hb hs => by have hs : b = w.heap.size := hs; omega)
        have HY := Lib.hid (((hy.base (b2 := w.heap.size) (HTA.out.drewN nq).drew.size).keepT htz (notBytes_nil _)).keepT hts hnb)
        have HZ := Lib.hid ((hz.base (b2 := w.heap.size) ((HTA.out.drewN nq).drew.trans hty).size).keepT hts hnb)
        clear hy hz hty htz hr4 hts hnb HS0 HQ
        generalize (w4.setCell ⟨w.heap.size, 0, none⟩ (.slice ya yl yc)).setCell ⟨w.heap.size, 1, none⟩ (.slice za zl zc) = w5 at *
        have e0 : w5.cell? ⟨w.heap.size, 0, none⟩ = some (.slice ya yl yc) := by have := HR5.out.cell (i := 0) (by omega); simpa using this
        have e1 : w5.cell? ⟨w.heap.size, 1, none⟩ = some (.slice za zl zc) := by have := HR5.out.cell (i := 1) (by omega); simpa using this
        have f0 := HR5.out.frozen 0
        have f1 := HR5.out.frozen 1
        have HS5 := Lib.hid (show PairV w.heap.size (.slice ya yl yc) (.slice za zl zc) w5 w5 from ⟨e0, e1, f0, f1, Lib.hid ⟨Touch.refl _ _, _, HR5.out⟩⟩)
        clear e0 e1 f0 f1
        go_wp2_with fail
        go_region_held3 (fun w' => w'.cell? ⟨w.heap.size, 0, none⟩ = some (.slice ya yl yc) ∧ w'.cell? ⟨w.heap.size, 1, none⟩ = some (.slice za zl zc) ∧ w'.frozen? ⟨w.heap.size, 0, none⟩ = false ∧ w'.frozen? ⟨w.heap.size, 1, none⟩ = false ∧ Hid (Touch (Just w.heap.size) w5 w' ∧ ∃ g, w'.rowIs w.heap.size 72 2 g))
          (first | exact PairV.drew HS5.out | exact PairV.set (by assumption))
          (fail)
        have hs6 := (PairV.set HS5.out).drew
        generalize ((w5.setCell ⟨w.heap.size, 0, none⟩ (.slice ya yl yc)).setCell ⟨w.heap.size, 1, none⟩ (.slice za zl zc)).drew = w6 at *
        obtain ⟨e0, e1, f0, f1, ht6⟩ := hs6
        have HT6 := Lib.hid (show Touch (Just w.heap.size) w5 w6 from ht6.out.1)
        have HNB := Lib.hid (notBytes_row HR5.out (by decide))
        clear ht6
        go_wp2_with fail
        refine bodyPost_ret (v := .tuple #[.agg #[.slice ya yl yc, .slice za zl zc], .slice a4 n4 c4, .bool true]) (by simp [results, Try.results57, go_sem, e0, e1]) rfl ?_
        have ht6 : Touch Nil w w6 := HT5.out.trans' HT6.out fun b hb hs => by have hs : b = w.heap.size := hs; omega
        exact .inl ⟨some (kk, vv), .slice ya yl yc, .slice za zl zc, .slice a4 n4 c4, more, by show 1 ≤ kk.length ∧ kk.length ≤ 64 ∧ vv.length ≤ 1000; rw [HLA.out, HLB.out]; exact HOK.out, HCC.out, rfl, ⟨HY.out.keepT HT6.out HNB.out, HZ.out.keepT HT6.out HNB.out⟩, HBC.out.keepN ht6, ht6⟩
    · rw [decide_eq_false hal] at HAL
      have HR := Lib.hid (show ∀ o more, okP o → l ≠ cellB o ++ more from fun o more hok e => by rcases HCO.out o more hok e with h | h <;> omega)
      clear hal hbc hbc1 hn1 hll hl HCO HCS
      go_enter Try.func57, Try.ntmps57
      go_wp2_with (go_quiet (fail))
      refine (HAL.out _).mono ?_
      rintro e w' ⟨rfl, rfl⟩
      go_wp2_with fail
      refine bodyPost_ret (v := .tuple #[.agg #[.slice none 0 0, .slice none 0 0], .slice none 0 0, .bool false]) (by simp [results, Try.results57, go_sem]) rfl ?_
      exact .inr ⟨rfl, ((HTA.out.drewN _).setCell _ _ fun h => by simp at h).setCell _ _ fun h => by simp at h, HR.out⟩
end Go.Proofs.Ytabjpejgnfeegaa

/- Whether the cells that were read are a table's; Load. -/
namespace Go.Proofs.Ytabjpejgnfeegaa
open Go.ChangeShapes Go.WideShapes Go.ChangeAt Go.RowKit Go.Deep

abbrev CntS (bb n : Nat) (w w' : World) : Prop := w'.cell? ⟨bb, 1, none⟩ = some (.int .i64 (n : Int)) ∧ Hid (Touch Nil w w')
theorem CntS.step {R : Nat → Prop} {w w1 w2 : World} {bb bc : Nat} {seed : Int} {n C : Nat} {vv : Nat → Nat → Value} {T : Cells} (hB : Bod R w bb bc seed n C vv T) (h : CntS bb n w w1) (hs : Touch Nil w1 w2) : CntS bb n w w2 :=
  ⟨(hB.keepN (h.2.out.trans hs)).countC, Lib.hid (h.2.out.trans hs)⟩

set_option maxRecDepth 100000 in
set_option maxHeartbeats 4000000 in
theorem sound_any {R : Nat → Prop} {w : World} {bb bc : Nat} {seed : Int} {n C : Nat} {vv : Nat → Nat → Value} {T : Cells} (h : Bod R w bb bc seed n C vv T) (hC : C = cellsN n) (hn : n ≤ 100000) (r : Bool) (hr : r = true ↔ soundB seed n C T) :
    Calls Try.prog 58 #[.pointer (some ⟨bb, 0, none⟩)] w (BoolN r w) := by
  obtain ⟨s1, s2, s3, _⟩ := cellsN_spec n (by omega)
  rw [← hC] at s1 s2 s3
  have HB := Lib.hid h
  have c1 := h.countC
  have HR := Lib.hid hr
  have HLL := Lib.hid (fullL_le T C)
  have HFREE := Lib.hid (fun (e : (fullL T C).length = n) => free_of e hC hn)
  have HE : ∃ L, (fullL T C).length = L := ⟨_, rfl⟩
  obtain ⟨L, eL⟩ := HE
  have hL : L ≤ C := by rw [← eL]; exact HLL.out
  have HPA := Lib.hid (fun w' (ht : Touch Nil w w') => by have := pairs_any (h.keepN ht) (show C ≤ 1048576 by omega); unfold PairsPost at this; rw [eL] at this; exact this)
  have HL := Lib.hid eL
  have HC := Lib.hid hC
  clear h hr eL hC HLL
  by_cases hcnt : L = n
  · have d1 : ((L : Int) != (n : Int)) = false := by simp; omega
    have HF := Lib.hid (HFREE.out (by rw [HL.out, hcnt]))
    have HCNT := Lib.hid hcnt
    clear hcnt HFREE
    go_enter Try.func58, Try.ntmps58
    go_wp2_with fail
    go_region_held3 (fun w' => w'.cell? ⟨bb, 1, none⟩ = some (.int .i64 (n : Int)) ∧ Hid (Touch Nil w w'))
      (first | exact ⟨c1, Lib.hid (Touch.refl Nil w).drew⟩ | exact CntS.step HB.out (by assumption) (by assumption))
      (first | (go_at_call 78; refine (HPA.out _ (Hid.out (And.right (by assumption)))).mono ?_; rintro e w3 ⟨v, rfl, hv, htv⟩; obtain ⟨va, vcap, rfl, _⟩ := own_row hv))
    have HT3 := Lib.hid ((Touch.refl Nil w).drew.trans htv)
    have c2 := (HB.out.keepN HT3.out).cellsC
    clear c1 hv htv
    go_wp2_with fail
    clear c2
    go_loopw [21] (fun i wr => ∃ x : Nat, x ≤ C ∧ i = .int .i64 (x : Int) ∧ Hid (∀ c, c < x → ∀ k v, T c = some (k, v) → seekAt (bfS seed) (homS seed C) C T k = c) ∧ Touch Nil w wr) (fun i _ => C - (intOf i).toNat)
    case atStart => exact ⟨0, Nat.zero_le _, rfl, Lib.hid fun c hc => by omega, HT3.out⟩
    obtain ⟨x, hx, rfl, HX, hto⟩ := hrel
    have HT := Lib.hid hto
    clear hto
    by_cases hlt : x < C
    · have HBr := Lib.hid (HB.out.keepN HT.out)
      obtain ⟨ao, l, cap, bo, m, cap', e0, e1, hfree, hl64, hm1000⟩ := HBr.out.slice hlt
      have k0 := HBr.out.keyC hlt
      have k1 := HBr.out.valC hlt
      rw [e0] at k0
      rw [e1] at k1
      have HE0 := Lib.hid e0
      have HFR := Lib.hid hfree
      clear e0 e1 hfree
      have i1 : (x : Int) < (C : Int) := by omega
      have i2 : (0 : Int) ≤ (x : Int) := by omega
      go_wp2_with fail
      refine (isFree_any ao l cap (.slice bo m cap') _ (by omega)).mono ?_
      rintro e w2 ⟨rfl, hT2⟩
      have HT2 := Lib.hid ((HT.out.alloc (.cells #[.slice ao l cap, .slice bo m cap'] 72)).trans hT2)
      have hbx : w2.heap[wr.heap.size]? = some (.cells #[.slice ao l cap, .slice bo m cap'] 72 (0, 0)) := (hT2.same _ (by simp) (fun c => c)).trans (heap_alloc_new _ _)
      have d0 : w2.cell? ⟨wr.heap.size, 0, none⟩ = some (.slice ao l cap) := by simp [World.cell?, hbx]
      have HTR := Lib.hid (((Touch.refl Nil wr).alloc (.cells #[.slice ao l cap, .slice bo m cap'] 72)).trans hT2)
      clear k0 k1 hT2 hbx
      cases hTa : T x with
      | none =>
        have hl0 : decide (l = 0) = true := by rw [HFR.out, hTa]; rfl
        have HTa := Lib.hid hTa
        clear hTa
        go_wp2_with fail
        go_roundw
        case rel => exact ⟨x + 1, by omega, by go_num, Lib.hid fun c hc k v e => by
          by_cases ec : c = x
          · rw [ec, HTa.out] at e; cases e
          · exact HX.out c (by omega) k v e, HT2.out⟩
        case measure => simp [intOf]; omega
      | some p =>
        obtain ⟨k', v'⟩ := p
        have hl0 : decide (l = 0) = false := by rw [HFR.out, hTa]; rfl
        obtain ⟨q1, _, _, hk64, _⟩ := HBr.out.pair hlt hTa
        rw [HE0.out] at q1
        have HSK := Lib.hid (fun w' (ht : Touch Nil wr w') => seek_any R bb bc seed n C vv T k' (.slice ao l cap) w' (HBr.out.keepN ht) (q1.1.keepN ht) (by omega) (by omega) (by omega) HF.out)
        have HTa := Lib.hid hTa
        clear hTa q1
        have HE : ∃ A, seekAt (bfS seed) (homS seed C) C T k' = A := ⟨_, rfl⟩
        obtain ⟨A, eA⟩ := HE
        have HA := Lib.hid eA
        simp only [eA] at HSK
        clear eA
        go_wp2_with fail
        refine (HSK.out _ HTR.out).mono ?_
        rintro e w4 ⟨rfl, hT4⟩
        have HT4 := Lib.hid (HT2.out.trans hT4)
        clear hT4
        by_cases hA : A = x
        · have d2 : ((A : Int) != (x : Int)) = false := by simp; omega
          go_wp2_with fail
          go_roundw
          case rel => exact ⟨x + 1, by omega, by go_num, Lib.hid fun c hc k v e => by
            by_cases ec : c = x
            · rw [ec, HTa.out] at e
              cases e
              rw [HA.out, hA, ec]
            · exact HX.out c (by omega) k v e, HT4.out⟩
          case measure => simp [intOf]; omega
        · have d2 : ((A : Int) != (x : Int)) = true := by simp; omega
          have HRF := Lib.hid (show r = false by cases r with | false => rfl | true => exact absurd (by rw [← HA.out]; exact (HR.out.1 rfl).2 x hlt k' v' HTa.out) hA)
          go_wp2_with fail
          go_ret
          exact ⟨by rw [HRF.out]; rfl, HT4.out⟩
    · obtain rfl : x = C := by omega
      have HRT := Lib.hid (show r = true from HR.out.2 ⟨by rw [HL.out, HCNT.out], HX.out⟩)
      go_wp2_with fail
      go_ret
      exact ⟨by rw [HRT.out]; rfl, HT.out⟩
  · have d1 : ((L : Int) != (n : Int)) = true := by simp; omega
    have HRF := Lib.hid (show r = false by cases r with | false => rfl | true => exact absurd (by rw [← HL.out]; exact (HR.out.1 rfl).1) hcnt)
    go_enter Try.func58, Try.ntmps58
    go_wp2_with fail
    go_region_held3 (fun w' => w'.cell? ⟨bb, 1, none⟩ = some (.int .i64 (n : Int)) ∧ Hid (Touch Nil w w'))
      (first | exact ⟨c1, Lib.hid (Touch.refl Nil w).drew⟩ | exact CntS.step HB.out (by assumption) (by assumption))
      (first | (go_at_call 78; refine (HPA.out _ (Hid.out (And.right (by assumption)))).mono ?_; rintro e w3 ⟨v, rfl, hv, htv⟩; obtain ⟨va, vcap, rfl, _⟩ := own_row hv))
    have HT3 := Lib.hid ((Touch.refl Nil w).drew.trans htv)
    clear hv htv
    go_wp2_with fail
    go_ret
    exact ⟨by rw [HRF.out]; rfl, HT3.out⟩
end Go.Proofs.Ytabjpejgnfeegaa

/- Load. -/
namespace Go.Proofs.Ytabjpejgnfeegaa
open Go.ChangeShapes Go.WideShapes Go.ChangeAt Go.RowKit Go.Deep

/-- What is known while a cell that was read is stored. -/
abbrev LdS (bb bc C x : Nat) (q : World → Nat → Value) (w0 w' : World) : Prop :=
  w'.cell? ⟨bb, 2, none⟩ = some (.slice (some ⟨bc, 0, none⟩) C C) ∧ w'.cell? ⟨bc, x * 2, none⟩ = some (q w' (x * 2)) ∧ w'.cell? ⟨bc, x * 2 + 1, none⟩ = some (q w' (x * 2 + 1)) ∧ w'.frozen? ⟨bc, x * 2, none⟩ = false ∧ w'.frozen? ⟨bc, x * 2 + 1, none⟩ = false ∧ Hid (Touch (Just bc) w0 w' ∧ ∃ g, w'.rowIs bc 72 (2 * C) g)
section
variable {bb bc C x : Nat} {q : World → Nat → Value} {w0 w w' : World}
theorem LdS.of (hq : QOk bc q) (hx : x < C) (h0 : w.cell? ⟨bb, 2, none⟩ = some (.slice (some ⟨bc, 0, none⟩) C C)) (ht : Touch (Just bc) w0 w) (hr : ∃ g, w.rowIs bc 72 (2 * C) g) : LdS bb bc C x q w0 w := by
  have hr' := hr
  obtain ⟨g, hg⟩ := hr
  exact ⟨h0, hq _ _ (by rw [hg.cell (by omega)]; rfl), hq _ _ (by rw [hg.cell (by omega)]; rfl), hg.frozen _, hg.frozen _, Lib.hid ⟨ht, hr'⟩⟩
theorem LdS.step (hq : QOk bc q) (hx : x < C) (hs : Touch Nil w w') (h : LdS bb bc C x q w0 w) : LdS bb bc C x q w0 w' := by
  obtain ⟨h0, _, _, _, _, ht⟩ := h
  obtain ⟨g, hg⟩ := ht.out.2
  exact LdS.of hq hx ((hs.cell (World.block_lt_of_cell? w _ h0) (fun c => c) 2).trans h0) (ht.out.1.trans hs.of_nil) ⟨g, hs.row hg fun c => c⟩
theorem LdS.set (hq : QOk bc q) (hx : x < C) (hne : bb ≠ bc) (h : LdS bb bc C x q w0 w) (i : Nat) (u : Value) : LdS bb bc C x q w0 (w.setCell ⟨bc, i, none⟩ u) := by
  obtain ⟨h0, _, _, _, _, ht⟩ := h
  obtain ⟨g, hg⟩ := ht.out.2
  exact LdS.of hq hx ((World.cell?_setCell_far _ _ _ _ (Ne.symm hne)).trans h0) (ht.out.1.setCell _ _ fun _ => rfl) ⟨_, hg.set i u⟩
theorem LdS.drew (hq : QOk bc q) (hx : x < C) (h : LdS bb bc C x q w0 w) : LdS bb bc C x q w0 w.drew := LdS.step hq hx (Touch.refl Nil w).drew h
end

/-- Bytes stay where the row of cells is written. -/
theorem BC.keepRow {R : Nat → Prop} {w w' : World} {bb bc : Nat} {seed : Int} {n C : Nat} {vv : Nat → Nat → Value} {T : Cells} {x : Value} {l : List UInt8} (h : BC w x l) (hB : Bod R w bb bc seed n C vv T) (ht : Touch (Just bc) w w') : BC w' x l := by
  have hbv := h.bv
  have hk := hbv.keep0 ht fun h0 => hB.notRow hbv h0
  obtain ⟨ao, m, cap, rfl, h1, h2, h3, h4⟩ := h
  obtain ⟨ao', cap', e, h5, h6⟩ := hk
  cases e
  exact ⟨_, _, _, rfl, rfl, h2, h3, h6⟩

/-- What reading a cell answers, in one form. -/
def CellTold (l : List UInt8) (base : Nat) (w' : World) (y z x : Value) (ok : Bool) : Prop :=
  (ok = true ∧ ∃ o rest, okP o ∧ l = cellB o ++ rest ∧ NewCell base w' y z o ∧ BC w' x rest) ∨ (ok = false ∧ ∀ o more, okP o → l ≠ cellB o ++ more)
theorem BC.form {w : World} {x : Value} {l : List UInt8} (h : BC w x l) : ∃ a n c, x = .slice a n c := by obtain ⟨a, n, c, e, _⟩ := h; exact ⟨a, n, c, e⟩
theorem NewCell.form {base : Nat} {w : World} {y z : Value} {o : Option (Key × Key)} (h : NewCell base w y z o) : (∃ a n c, y = .slice a n c) ∧ ∃ a n c, z = .slice a n c := by
  cases o with
  | none => exact ⟨⟨_, _, _, h.1⟩, ⟨_, _, _, h.2⟩⟩
  | some p => exact ⟨h.1.form, h.2.form⟩
theorem CellPost.one {l : List UInt8} {w w' : World} {e : Ending} (h : CellPost l w e w') : ∃ ya yl yc za zl zc xa xl xc ok, e = .returned (.tuple #[.agg #[.slice ya yl yc, .slice za zl zc], .slice xa xl xc, .bool ok]) ∧ Touch Nil w w' ∧ CellTold l w.heap.size w' (.slice ya yl yc) (.slice za zl zc) (.slice xa xl xc) ok := by
  rcases h with ⟨o, y, z, x, rest, h1, h2, rfl, h4, h5, h6⟩ | ⟨rfl, h2, h3⟩
  · obtain ⟨⟨_, _, _, rfl⟩, ⟨_, _, _, rfl⟩⟩ := h4.form
    obtain ⟨_, _, _, rfl⟩ := h5.form
    exact ⟨_, _, _, _, _, _, _, _, _, _, rfl, h6, .inl ⟨rfl, o, rest, h1, h2, h4, h5⟩⟩
  · exact ⟨_, _, _, _, _, _, _, _, _, _, rfl, h2, .inr ⟨rfl, h3⟩⟩

theorem frees_congr {T T' : Cells} : ∀ C, (∀ c, c < C → T c = T' c) → frees C T = frees C T'
  | 0, _ => rfl
  | C + 1, h => by simp only [frees]; rw [frees_congr C fun c hc => h c (by omega), h C (by omega)]
theorem good_congr {seed : Int} {n C : Nat} {T T' : Cells} (h : Good seed n C T') (e : ∀ c, c < C → T c = T' c) : Good seed n C T := by
  have hh := homS_lt (C := C) (by have := h.free; omega) seed
  refine ⟨fun c hc k v hT t ht => ?_, h.2.1, by rw [frees_congr C e]; exact h.2.2.1, h.2.2.2⟩
  have hl := sto_lt (hh k) hc
  obtain ⟨k', v', e1, e2⟩ := h.1 c hc k v (by rw [← e c hc]; exact hT) t ht
  exact ⟨k', v', by rw [e _ (pos_lt (hh k) (by omega))]; exact e1, e2⟩

def LoadPost (seed : Int) (l : List UInt8) (w : World) (e : Ending) (w' : World) : Prop :=
  (∃ n T t, IsImg seed l n T ∧ e = .returned (.tuple #[t, .int .i64 0]) ∧ Tab (fun b => w.heap.size ≤ b ∧ b < w'.heap.size) w' t seed n (cellsN n) T ∧ Touch Nil w w') ∨
  (e = .returned (.tuple #[.pointer none, .int .i64 2]) ∧ Touch Nil w w' ∧ ∀ n T, ¬ IsImg seed l n T)

set_option maxRecDepth 100000 in
set_option maxHeartbeats 4000000 in
theorem load_any (seed : Int) (x : Value) (l : List UInt8) (w : World) (h : BC w x l) (hl : l.length ≤ 1073741824) :
    Calls Try.prog 31 #[.int .u64 seed, x] w (LoadPost seed l w) := by
  have HRC := Lib.hid (readCount_any x l w h hl)
  obtain ⟨xa, xn, xc, rfl⟩ := h.form
  clear h
  go_enter Try.func31, Try.ntmps31
  go_wp2_with fail
  refine HRC.out.mono ?_
  rintro e w1 (⟨n, rest, xr, h1, h2, h3, rfl, h5, h6⟩ | ⟨rfl, h2, h3⟩)
  · have HL := Lib.hid h1
    have HBC0 := Lib.hid h5
    have HT1 := Lib.hid h6
    obtain ⟨ra, rn, rc, rfl⟩ := h5.form
    have HCF := Lib.hid (fun w => cellsFor_any n w (by omega))
    have hcs := cellsN_spec n (by omega)
    have HE : ∃ C, cellsN n = C := ⟨_, rfl⟩
    obtain ⟨C, eC⟩ := HE
    have HC := Lib.hid eC
    rw [eC] at h3 hcs
    simp only [eC] at HCF
    obtain ⟨hC8, hC3, hC4, _⟩ := hcs
    have hmk := fun w => run_make_pairs C (by omega) w
    have HROW := Lib.hid (fun w => row_made w #[.slice none 0 0, .slice none 0 0] (C * 2) 72)
    have HE : ∃ mc, madeCells #[.slice none 0 0, .slice none 0 0] (C * 2) = mc := ⟨_, rfl⟩
    obtain ⟨mc, emc⟩ := HE
    rw [emc] at HROW
    simp only [emc] at hmk
    clear h1 h5 h6 eC emc HRC
    go_wp2_with fail
    refine (HCF.out _).mono ?_
    rintro e w2 ⟨rfl, rfl⟩
    go_wp2_with fail
    have HB0 := Lib.hid (show Bod (From w.heap.size) ((w1.alloc (.cells mc 72)).alloc (.cells #[.int .u64 seed, .int .i64 (n : Int), .slice (some ⟨w1.heap.size, 0, none⟩) C C] 93)) (w1.heap.size + 1) w1.heap.size seed n C (fun _ _ => .slice none 0 0) (fun _ => none) from by
      have hsz := HT1.out.size
      refine ⟨?_, ?_, fun c _ => ⟨rfl, rfl⟩, by show w.heap.size ≤ _; omega, hsz⟩
      · have := heap_alloc_new (w1.alloc (.cells mc 72)) (.cells #[.int .u64 seed, .int .i64 (n : Int), .slice (some ⟨w1.heap.size, 0, none⟩) C C] 93)
        rw [nblk_alloc] at this
        exact this
      · have hr := ((Touch.refl Nil (w1.alloc (.cells mc 72))).alloc (.cells #[.int .u64 seed, .int .i64 (n : Int), .slice (some ⟨w1.heap.size, 0, none⟩) C C] 93)).row (HROW.out w1) (fun c => c)
        rw [Nat.mul_comm]
        exact hr.congr fun i _ => by
          have : i % 2 = 0 ∨ i % 2 = 1 := by omega
          rcases this with h | h <;> simp [h])
    have htw := ((Touch.refl Nil w1).alloc (.cells mc 72)).alloc (.cells #[.int .u64 seed, .int .i64 (n : Int), .slice (some ⟨w1.heap.size, 0, none⟩) C C] 93)
    have HBC1 := Lib.hid (HBC0.out.keepN htw)
    have HTW := Lib.hid (HT1.out.trans htw)
    have HE : ∃ bc, w1.heap.size = bc := ⟨_, rfl⟩
    obtain ⟨bc, ebc⟩ := HE
    have HSZ := Lib.hid (show w.heap.size ≤ bc by rw [← ebc]; exact HT1.out.size)
    clear htw
    generalize ((w1.alloc (.cells mc 72)).alloc (.cells #[.int .u64 seed, .int .i64 (n : Int), .slice (some ⟨w1.heap.size, 0, none⟩) C C] 93)) = W0 at *
    rw [ebc] at HB0 ⊢
    clear ebc hmk HROW HCF HBC0
    go_loopw [7, 31] (fun r i wr => ∃ (x : Nat) (vv : Nat → Nat → Value) (T : Cells) (rest' : List UInt8), x ≤ C ∧ i = .int .i64 (x : Int) ∧ BC wr r rest' ∧ Hid (rest = bodyB T x ++ rest' ∧ (∀ c, x ≤ c → T c = none) ∧ ∀ c, c < x → okP (T c)) ∧ Bod (From w.heap.size) wr (bc + 1) bc seed n C vv T ∧ Touch Nil w wr) (fun _ i _ => C - (intOf i).toNat)
    case atStart => exact ⟨0, _, _, rest, Nat.zero_le _, rfl, HBC1.out, Lib.hid ⟨by simp [bodyB], fun _ _ => rfl, fun c hc => by omega⟩, HB0.out, HTW.out⟩
    obtain ⟨x, vv, T, rest', hx, rfl, hbc, HX, hbod, hto⟩ := hrel
    have HB := Lib.hid hbod
    have HT := Lib.hid hto
    have HBC := Lib.hid hbc
    obtain ⟨qa, qn, qc, rfl⟩ := hbc.form
    clear hbod hto hbc
    by_cases hlt : x < C
    · have i1 : (x : Int) < (C : Int) := by omega
      have i2 : (0 : Int) ≤ (x : Int) := by omega
      have HQX := q_ex bc
      obtain ⟨q, hq⟩ := HQX
      have HQ := Lib.hid hq
      have HXL := Lib.hid hlt
      have HS0 := Lib.hid (LdS.of hq hlt HB.out.cellsC (Touch.refl (Just bc) wr) ⟨_, HB.out.row⟩)
      clear hq
      have HLE := Lib.hid (show rest'.length ≤ 1073741824 by
        have e1 := congrArg List.length HL.out
        have e2 := congrArg List.length HX.out.1
        simp only [List.length_append] at e1 e2
        omega)
      have HRD := Lib.hid (fun w' (ht : Touch (Just bc) wr w') => readCell_any (.slice qa qn qc) rest' w' (HBC.out.keepRow HB.out ht) HLE.out)
      go_wp2_with fail
      go_region_held3 (fun w' => w'.cell? ⟨bc + 1, 2, none⟩ = some (.slice (some ⟨bc, 0, none⟩) C C) ∧ w'.cell? ⟨bc, x * 2, none⟩ = some (q w' (x * 2)) ∧ w'.cell? ⟨bc, x * 2 + 1, none⟩ = some (q w' (x * 2 + 1)) ∧ w'.frozen? ⟨bc, x * 2, none⟩ = false ∧ w'.frozen? ⟨bc, x * 2 + 1, none⟩ = false ∧ Hid (Touch (Just bc) wr w' ∧ ∃ g, w'.rowIs bc 72 (2 * C) g))
        (first | exact LdS.drew HQ.out HXL.out HS0.out | exact LdS.step HQ.out HXL.out (by assumption) (by assumption) | exact LdS.set HQ.out HXL.out (Nat.succ_ne_self bc) (LdS.set HQ.out HXL.out (Nat.succ_ne_self bc) (by assumption) _ _) _ _)
        (first | (go_at_call 57; refine (HRD.out _ (And.left (Hid.out (And.right (And.right (And.right (And.right (And.right (by assumption)))))))) ).mono ?_; rintro e w3 hcp; obtain ⟨ya, yl, yc, za, zl, zc, xa', xl', xc', ok, rfl, ht3, htold⟩ := hcp.one))
      have HT3 := Lib.hid ((Touch.refl Nil wr).drew.trans ht3)
      have hb3 := HB.out.keepN HT3.out
      have hts := ((Touch.refl (Just bc) w3).setCell ⟨bc, x * 2, none⟩ (.slice ya yl yc) fun _ => rfl).setCell ⟨bc, x * 2 + 1, none⟩ (.slice za zl zc) fun _ => rfl
      have HT5 := Lib.hid (show Touch Nil w _ from (HT.out.trans HT3.out).trans' hts fun b hb hs => by have hs : b = bc := hs; have := HSZ.out; omega)
      clear ht3 HS0 HRD
      cases ok
      case true =>
        obtain ⟨_, o, rest2, hok, hrest, hnew, hbc⟩ := htold.resolve_right fun h => by cases h.1
        have hco : CellOk (From w.heap.size) w3 (.slice ya yl yc) (.slice za zl zc) o := by
          cases o with
          | none => exact hnew
          | some p =>
            have hlow : ∀ b, wr.drew.heap.size ≤ b → From w.heap.size b := fun b hb => by
              have h1 := HT.out.drew.size
              show w.heap.size ≤ b
              omega
            exact ⟨hnew.1.ob hlow, hnew.2.ob hlow, hok⟩
        have HB5 := Lib.hid (hb3.put (a := x) o (Nat.succ_ne_self bc) hco)
        have HBC5 := Lib.hid (hbc.keepRow hb3 hts)
        have HOK := Lib.hid hok
        have HRE := Lib.hid hrest
        clear htold hok hrest hnew hbc hco hb3 hts
        go_wp2_with fail
        go_roundw
        case rel =>
          refine ⟨x + 1, _, _, rest2, by omega, by go_num, HBC5.out, Lib.hid ⟨?_, fun c hc => ?_, fun c hc => ?_⟩, HB5.out, HT5.out⟩
          · have e : bodyB (fun c => if c = x then o else T c) x = bodyB T x := bodyB_congr x fun c hc => by show (if c = x then o else T c) = T c; rw [if_neg (by omega)]
            simp only [bodyB, if_true]
            rw [e, List.append_assoc, ← HRE.out]
            exact HX.out.1
          · show (if c = x then o else T c) = none
            rw [if_neg (by omega)]
            exact HX.out.2.1 c (by omega)
          · show okP (if c = x then o else T c)
            by_cases e : c = x
            · rw [if_pos e]; exact HOK.out
            · rw [if_neg e]; exact HX.out.2.2 c (by omega)
        case measure => simp [intOf]; omega
      case false =>
        have htf := (htold.resolve_left fun h => by cases h.1).2
        have HF := Lib.hid htf
        clear htold htf hb3 hts
        go_wp2_with fail
        go_ret2
        refine .inr ⟨rfl, HT5.out, fun n' T' hi => ?_⟩
        obtain ⟨g, o', e⟩ := hi
        rw [HL.out] at e
        unfold imageB at e
        obtain ⟨e1, e2⟩ := headB_inj (by omega) (by have := g.2.2.2; omega) e
        subst e1
        rw [HC.out] at e2 o'
        obtain ⟨more, hm⟩ := bodyB_split T' x C HXL.out
        rw [hm, HX.out.1] at e2
        obtain ⟨_, e3⟩ := bodyB_inj x HX.out.2.2 (fun c hc => o' c (by omega)) e2
        exact HF.out (T' x) more (o' x HXL.out) e3
    · obtain rfl : x = C := by omega
      have HNO := Lib.hid (show ∀ n' T', IsImg seed l n' T' → n' = n ∧ rest' = [] ∧ ∀ c, c < x → T c = T' c from fun n' T' hi => by
        obtain ⟨g, o', e⟩ := hi
        rw [HL.out] at e
        unfold imageB at e
        obtain ⟨e1, e2⟩ := headB_inj (by omega) (by have := g.2.2.2; omega) e
        subst e1
        rw [HC.out] at e2 o'
        rw [HX.out.1] at e2
        obtain ⟨e3, e4⟩ := bodyB_inj (r' := []) x HX.out.2.2 o' (by simpa using e2)
        exact ⟨rfl, e4, e3⟩)
      have hqn : qn = rest'.length := by obtain ⟨_, _, _, e, h1, _⟩ := HBC.out; cases e; exact h1
      by_cases hq0 : 0 < qn
      · have d1 : decide ((0 : Int) < (qn : Int)) = true := by simp; omega
        have d1' : decide (0 < qn) = true := by simpa using hq0
        have HN := Lib.hid hqn
        clear hqn
        go_wp2_with fail
        go_ret2
        refine .inr ⟨rfl, HT.out, fun n' T' hi => ?_⟩
        have := (HNO.out n' T' hi).2.1
        have h2 := HN.out
        rw [this] at h2
        simp at h2
        omega
      · have d1 : decide ((0 : Int) < (qn : Int)) = false := by simp; omega
        have d1' : decide (0 < qn) = false := by simpa using hq0
        have HRN := Lib.hid (show rest' = [] from List.eq_nil_of_length_eq_zero (by omega))
        have HN := Lib.hid hqn
        clear hqn
        by_cases hsd : soundB seed n x T
        · have HSD := Lib.hid ((sound_good HC.out.symm h2).1 hsd)
          have HS := Lib.hid (sound_any HB.out HC.out.symm h2 true ⟨fun _ => hsd, fun _ => rfl⟩)
          clear hsd
          go_wp2_with fail
          refine HS.out.mono ?_
          rintro e w4 ⟨rfl, ht4⟩
          have HT4 := Lib.hid ht4
          clear ht4 HS
          go_wp2_with fail
          go_ret2
          have ht5 := (Touch.refl Nil w4).alloc (.cells #[.pointer (some ⟨bc + 1, 0, none⟩)] 91)
          have hb5 := (HB.out.keepN HT4.out).keepN ht5
          have hsz : w.heap.size ≤ w4.heap.size := (HT.out.trans HT4.out).size
          refine .inl ⟨n, T, _, ⟨by rw [HC.out]; exact HSD.out, by rw [HC.out]; exact HX.out.2.2, ?_⟩, rfl, ⟨⟨w4.heap.size, bc + 1, bc, vv, rfl, heap_alloc_new _ _, ⟨hsz, by rw [nblk_alloc]; omega⟩, ?_⟩, by rw [HC.out]; exact HSD.out, fun b hb => hb.2⟩, (HT.out.trans HT4.out).trans ht5⟩
          · rw [HL.out, HX.out.1, HRN.out, HC.out]
            unfold imageB
            rw [List.append_nil]
          · rw [HC.out]
            exact hb5.widen (fun b hb hlt => ⟨hb, hlt⟩) ⟨hb5.rb, hb5.lb⟩ ⟨hb5.rc, hb5.lc⟩
        · have HS := Lib.hid (sound_any HB.out HC.out.symm h2 false ⟨fun h => (by cases h), fun h => absurd h hsd⟩)
          have HSD := Lib.hid (fun h => hsd ((sound_good (T := T) HC.out.symm h2).2 h))
          clear hsd
          go_wp2_with fail
          refine HS.out.mono ?_
          rintro e w4 ⟨rfl, ht4⟩
          have HT4 := Lib.hid ht4
          clear ht4 HS
          go_wp2_with fail
          go_ret2
          refine .inr ⟨rfl, HT.out.trans HT4.out, fun n' T' hi => ?_⟩
          obtain ⟨e1, _, e3⟩ := HNO.out n' T' hi
          subst e1
          have hg := hi.1
          rw [HC.out] at hg
          exact HSD.out (good_congr hg e3)
  · have HT := Lib.hid h2
    have HR := Lib.hid h3
    clear h2 h3 HRC
    go_wp2_with fail
    go_ret2
    refine .inr ⟨rfl, HT.out, fun n T hi => ?_⟩
    obtain ⟨g, o, e⟩ := hi
    exact HR.out n (bodyB T (cellsN n)) g.2.2.2 (bodyB_ge T _) e
end Go.Proofs.Ytabjpejgnfeegaa
