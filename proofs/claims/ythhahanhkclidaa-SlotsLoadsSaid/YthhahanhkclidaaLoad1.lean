import Derived.Test.YthhahanhkclidaaCut
/- Reading an image: the number of pairs, a cell. -/
namespace Go.Proofs.Ythhahanhkclidaa
open Go.ChangeShapes Go.WideShapes Go.ChangeAt Go.RowKit Go.Deep

def CountPost (l : List UInt8) (w : World) (e : Ending) (w' : World) : Prop :=
  (∃ n rest x, l = headB n ++ rest ∧ n ≤ 100000 ∧ cellsN n ≤ rest.length ∧ e = .returned (.tuple #[.int .i64 (n : Int), x, .bool true]) ∧ BC w' x rest ∧ Touch Nil w w') ∨
  (e = .returned (.tuple #[.int .i64 0, .slice none 0 0, .bool false]) ∧ Touch Nil w w' ∧ ∀ n rest, n ≤ 100000 → cellsN n ≤ rest.length → l ≠ headB n ++ rest)

theorem or_comm' (k : IntKind) (a b : Int) : bits BinOp.or k a b = bits BinOp.or k b a := by simp only [bits, BitVec.or_comm]
theorem wraps_u32 (n : Int) (h₀ : 0 ≤ n) (h₁ : n < 2 ^ 32) : IntKind.u32.wrap n = n := by rw [IntKind.wrap_u32]; omega
theorem wraps_i62 (n : Int) (h₀ : 0 ≤ n) (h₁ : n < 2 ^ 62) : IntKind.i64.wrap n = n := by rw [IntKind.wrap_i64]; omega
/-- A number of four bytes; of two. -/
theorem or4 (a b c d : Nat) (ha : a < 256) (hb : b < 256) (hc : c < 256) (hd : d < 256) :
    bits BinOp.or .u32 (bits BinOp.or .u32 (bits BinOp.or .u32 (a : Int) ((b : Int) * 256)) ((c : Int) * 65536)) ((d : Int) * 16777216) = ((a + b * 256 + c * 65536 + d * 16777216 : Nat) : Int) := by
  have j1 : bits BinOp.or .u32 (a : Int) ((b : Int) * 256) = (b : Int) * 256 + a := by
    rw [or_comm', bits_join .u32 32 (by decide) wraps_u32 8 ((b : Int) * 256) (a : Int) (by omega) (by omega) (by omega) (by omega) (by omega) (by omega)]
  have j2 : bits BinOp.or .u32 ((b : Int) * 256 + a) ((c : Int) * 65536) = (c : Int) * 65536 + ((b : Int) * 256 + a) := by
    rw [or_comm', bits_join .u32 32 (by decide) wraps_u32 16 ((c : Int) * 65536) ((b : Int) * 256 + a) (by omega) (by omega) (by omega) (by omega) (by omega) (by omega)]
  have j3 : bits BinOp.or .u32 ((c : Int) * 65536 + ((b : Int) * 256 + a)) ((d : Int) * 16777216) = (d : Int) * 16777216 + ((c : Int) * 65536 + ((b : Int) * 256 + a)) := by
    rw [or_comm', bits_join .u32 32 (by decide) wraps_u32 24 ((d : Int) * 16777216) ((c : Int) * 65536 + ((b : Int) * 256 + a)) (by omega) (by omega) (by omega) (by omega) (by omega) (by omega)]
  rw [j1, j2, j3]
  omega
theorem or2 (a b : Nat) (ha : a < 256) (hb : b < 256) : bits BinOp.or .i64 (a : Int) ((b : Int) * 256) = ((a + b * 256 : Nat) : Int) := by
  rw [or_comm', bits_join .i64 62 (by decide) wraps_i62 8 ((b : Int) * 256) (a : Int) (by omega) (by omega) (by omega) (by omega) (by omega) (by omega)]
  omega
/-- The head of an image, from its first four bytes. -/
theorem head_of {l : List UInt8} (h : 4 ≤ l.length) : l = headB ((l.getD 0 0).toNat + (l.getD 1 0).toNat * 256 + (l.getD 2 0).toNat * 65536 + (l.getD 3 0).toNat * 16777216) ++ l.drop 4 := by
  match l, h with
  | a :: b :: c :: d :: r, _ =>
    have h1 := a.toNat_lt
    have h2 := b.toNat_lt
    have h3 := c.toNat_lt
    have h4 := d.toNat_lt
    simp only [List.getD_cons_zero, List.getD_cons_succ, List.drop_succ_cons, List.drop_zero, headB, List.cons_append, List.nil_append]
    have e : ∀ (n : Nat) (x : UInt8), n % 256 = x.toNat → lo n = x := fun n x h => UInt8.toNat_inj.1 (by rw [lo_nat]; exact h)
    rw [e _ a (by omega), e _ b (by omega), e _ c (by omega), e _ d (by omega)]

set_option maxRecDepth 100000 in
set_option maxHeartbeats 2000000 in
theorem readCount_any (x : Value) (l : List UInt8) (w : World) (h : BC w x l) (hl : l.length ≤ 1073741824) :
    Calls Try.prog 55 #[x] w (CountPost l w) := by
  have hbc := h
  obtain ⟨ao, n, cap, rfl, hn, hcap, hnone, hs⟩ := h
  by_cases h4 : n < 4
  · have d1 : decide ((n : Int) < 4) = true := by simp; omega
    have d1' : decide (n < 4) = true := by simpa using h4
    have HR := Lib.hid (show ∀ n rest, n ≤ 100000 → cellsN n ≤ rest.length → l ≠ headB n ++ rest from fun m rest _ _ e => by
      have := congrArg List.length e
      simp [headB] at this; omega)
    clear hbc hn hs hnone
    go_enter Try.func55, Try.ntmps55
    go_wp2_with fail
    ((try simp only [Exit.inBlock, Exit.then]); refine bodyPost_ret (results_tmp3 rfl _ _ _) rfl ?_)
    exact .inr ⟨rfl, Touch.refl _ _, HR.out⟩
  · have d1 : decide ((n : Int) < 4) = false := by simp; omega
    have d1' : decide (n < 4) = false := by simpa using h4
    obtain ⟨a1, n1, c1, hcut, hbc1, hn1⟩ := cut_l hbc (k := 4) (by omega)
    have hl1 : n1 = (l.drop 4).length := by simp; omega
    replace hcut : ∀ W, (Instr.slice 23 (.slice ao n cap) (some (.int .i64 4)) none none).run Try.prog W = .ok (.slice a1 n1 c1) W := hcut
    have HBC1 := Lib.hid hbc1
    have HL1 := Lib.hid hl1
    have HHD := Lib.hid (head_of (l := l) (by omega))
    obtain ⟨b, off, rfl, k0⟩ := hs 0 (by simp; omega)
    obtain ⟨_, _, e1, k1⟩ := hs 1 (by simp; omega)
    cases e1
    obtain ⟨_, _, e1, k2⟩ := hs 2 (by simp; omega)
    cases e1
    obtain ⟨_, _, e1, k3⟩ := hs 3 (by simp; omega)
    cases e1
    rw [ub_getD _ _ (by omega)] at k0 k1 k2 k3
    rw [Nat.add_zero] at k0
    have v0 := (l.getD 0 0).toNat_lt
    have v1 := (l.getD 1 0).toNat_lt
    have v2 := (l.getD 2 0).toNat_lt
    have v3 := (l.getD 3 0).toNat_lt
    generalize (l.getD 0 0).toNat = x0 at *
    generalize (l.getD 1 0).toNat = x1 at *
    generalize (l.getD 2 0).toNat = x2 at *
    generalize (l.getD 3 0).toNat = x3 at *
    have hor := or4 x0 x1 x2 x3 (by omega) (by omega) (by omega) (by omega)
    have hN : x0 + x1 * 256 + x2 * 65536 + x3 * 16777216 < 4294967296 := by omega
    generalize x0 + x1 * 256 + x2 * 65536 + x3 * 16777216 = N at *
    have HRF := Lib.hid (show ∀ m rest, m ≤ 100000 → l = headB m ++ rest → m = N ∧ rest = l.drop 4 from fun m rest hm e => by
      have e' := HHD.out.symm.trans e
      obtain ⟨e1, e2⟩ := headB_inj (by omega) (by omega) e'
      exact ⟨e1.symm, e2.symm⟩)
    clear hs hnone hbc hbc1 hn hn1 hl1 hl
    by_cases hbig : 100000 < N
    · have g1 : decide ((100000 : Int) < (N : Int)) = true := by simp; omega
      have g1' : decide (100000 < N) = true := by simpa using hbig
      go_enter Try.func55, Try.ntmps55
      go_wp2_with (go_quiet (fail))
      ((try simp only [Exit.inBlock, Exit.then]); refine bodyPost_ret (results_tmp3 rfl _ _ _) rfl ?_)
      exact .inr ⟨rfl, (Touch.refl _ _).drewN _, fun m rest hm _ e => by have := (HRF.out m rest hm e).1; omega⟩
    · have g1 : decide ((100000 : Int) < (N : Int)) = false := by simp; omega
      have g1' : decide (100000 < N) = false := by simpa using hbig
      have HCF := Lib.hid (fun w => cellsFor_any N w (by omega))
      have hcs := cellsN_spec N (by omega)
      obtain ⟨_, hcs, _, _⟩ := hcs
      have HE : ∃ C, cellsN N = C := ⟨_, rfl⟩
      obtain ⟨C, eC⟩ := HE
      have HC := Lib.hid eC
      rw [eC] at hcs
      simp only [eC] at HCF
      clear eC
      by_cases hlt : n1 < C
      · have g2 : decide ((n1 : Int) < (C : Int)) = true := by simp; omega
        have g2' : decide (n1 < C) = true := by simpa using hlt
        go_enter Try.func55, Try.ntmps55
        go_wp2_with (go_quiet (fail))
        refine (HCF.out _).mono ?_
        rintro e w' ⟨rfl, rfl⟩
        go_wp2_with fail
        ((try simp only [Exit.inBlock, Exit.then]); refine bodyPost_ret (results_tmp3 rfl _ _ _) rfl ?_)
        exact .inr ⟨rfl, (Touch.refl _ _).drewN _, fun m rest hm hr e => by
          obtain ⟨e1, e2⟩ := HRF.out m rest hm e
          rw [e1, e2, HC.out, ← HL1.out] at hr; omega⟩
      · have g2 : decide ((n1 : Int) < (C : Int)) = false := by simp; omega
        have g2' : decide (n1 < C) = false := by simpa using hlt
        go_enter Try.func55, Try.ntmps55
        go_wp2_with (go_quiet (fail))
        refine (HCF.out _).mono ?_
        rintro e w' ⟨rfl, rfl⟩
        go_wp2_with fail
        ((try simp only [Exit.inBlock, Exit.then]); refine bodyPost_ret (results_tmp3 rfl _ _ _) rfl ?_)
        exact .inl ⟨N, l.drop 4, _, HHD.out, by omega, by rw [HC.out, ← HL1.out]; omega, rfl, HBC1.out.keepN ((Touch.refl _ _).drewN _), (Touch.refl _ _).drewN _⟩
end Go.Proofs.Ythhahanhkclidaa
