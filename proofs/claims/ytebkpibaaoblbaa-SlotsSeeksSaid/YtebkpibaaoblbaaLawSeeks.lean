/-
  SlotsSeeks: for every seed, script and key the law returns true: a key is found where it is looked for.
  No condition beside the statement's own.
-/
import Derived.Test.YtebkpibaaoblbaaLawRuns
namespace Go.Proofs.Ytebkpibaaoblbaa
open Go.ChangeShapes Go.WideShapes Go.ChangeAt Go.RowKit Go.Deep

theorem and_pow : ∀ j, j < 16 → bits BinOp.and IntKind.i64 ((2 ^ (j + 3) : Nat) : Int) (((2 ^ (j + 3) : Nat) : Int) - 1) = 0 := by decide +kernel
theorem and_cells {n C : Nat} (h : C = cellsN n) (hC : C ≤ 300000) : bits BinOp.and IntKind.i64 (C : Int) ((C : Int) - 1) = 0 := by
  obtain ⟨j, e⟩ := cellsN_pow n
  rw [← h] at e
  have hj : j < 16 := by
    apply Classical.byContradiction
    intro hn
    have : 2 ^ (15 + 4) ≤ 2 ^ (j + 3) := Nat.pow_le_pow_right (by omega) (by omega)
    rw [← e] at this
    simp at this; omega
  rw [e]; exact and_pow j hj
/-- How many of the first c cells are full; how many have the key. -/
def cntF (T : Cells) : Nat → Nat
  | 0 => 0
  | c + 1 => cntF T c + if (T c).isSome then 1 else 0
theorem cntF_frees (T : Cells) : ∀ C, cntF T C + frees C T = C
  | 0 => rfl
  | C + 1 => by
    have := cntF_frees T C
    simp only [cntF, frees]
    cases T C <;> simp <;> omega
theorem cntF_le (T : Cells) : ∀ c, cntF T c ≤ c
  | 0 => Nat.le_refl _
  | c + 1 => by have := cntF_le T c; simp only [cntF]; split <;> omega
def cntK (T : Cells) (k : Key) : Nat → Nat
  | 0 => 0
  | c + 1 => cntK T k c + if hasKey (T c) k then 1 else 0
theorem cntK_le (T : Cells) (k : Key) : ∀ c, cntK T k c ≤ c
  | 0 => Nat.le_refl _
  | c + 1 => by have := cntK_le T k c; simp only [cntK]; split <;> omega
theorem cntK_zero {T : Cells} {k : Key} : ∀ c, (∀ d, d < c → hasKey (T d) k = false) → cntK T k c = 0
  | 0, _ => rfl
  | c + 1, h => by simp only [cntK, cntK_zero c fun d hd => h d (by omega), h c (by omega)]; rfl
theorem cntK_one {T : Cells} {k : Key} {a : Nat} (ha : hasKey (T a) k = true) : ∀ c, a < c → (∀ d, d < c → d ≠ a → hasKey (T d) k = false) → cntK T k c = 1
  | 0, h, _ => by omega
  | c + 1, h, hd => by
    simp only [cntK]
    by_cases e : a = c
    · subst e
      rw [cntK_zero a fun d h' => hd d (by omega) (by omega), ha]; rfl
    · rw [cntK_one ha c (by omega) fun d h' => hd d (by omega), hd c (by omega) (fun h => e h.symm)]; rfl
theorem hasKey_some {x : Option (Key × Key)} {k : Key} (h : hasKey x k = true) : ∃ v, x = some (k, v) := by
  cases x with
  | none => cases h
  | some p =>
    obtain ⟨a, b⟩ := p
    simp [hasKey] at h
    exact ⟨b, by rw [h]⟩
theorem cntK_tab {seed : Int} {n C : Nat} {T : Cells} (hg : Good seed n C T) (k : Key) : cntK T k C = if hasKey (T (seekAt (bfS seed) (homS seed C) C T k)) k = true then 1 else 0 := by
  obtain ⟨g1, g2, g3⟩ := hg.free
  have hh := homS_lt (C := C) (by omega) seed
  by_cases h : hasKey (T (seekAt (bfS seed) (homS seed C) C T k)) k = true
  · rw [if_pos h]
    refine cntK_one h C (seek_lt g3 (hh k)) fun d hd hne => ?_
    cases e : hasKey (T d) k
    · rfl
    · obtain ⟨v, ev⟩ := hasKey_some e
      exact absurd (seek_there (koS seed) hg.1 (hh k) hd ev).1.symm hne
  · rw [if_neg h]
    refine cntK_zero C fun d hd => ?_
    cases e : hasKey (T d) k
    · rfl
    · obtain ⟨v, ev⟩ := hasKey_some e
      rw [(seek_there (koS seed) hg.1 (hh k) hd ev).1] at h
      exact absurd e h

theorem pos_mod {C h u : Nat} (hh : h < C) (hu : u < C) : ((h : Int) + (u : Int)) % (C : Int) = ((pos C h u : Nat) : Int) := by
  unfold pos
  split
  · rw [Int.emod_eq_of_lt (by omega) (by omega)]; omega
  · rw [show (h : Int) + (u : Int) = ((h + u - C : Nat) : Int) + (C : Int) by omega, Int.add_emod_right, Int.emod_eq_of_lt (by omega) (by omega)]

set_option maxRecDepth 100000 in
set_option maxHeartbeats 4000000 in
theorem lawSeeks_any (seed : Int) (n cap : Nat) (ao : Option Addr) (v : Nat → Nat → Value) (kd : Nat → Int) (key val : Nat → Key) (qk : Key) (qo : Option Addr) (qcap : Nat) (w : World) (hm : n ≤ 9223372036854775807) (hscr : Scr w ao n v kd key val) (hq : BV w (.slice qo qk.length qcap) qk) (hqm : qk.length ≤ 9223372036854775807) :
    Calls Try.prog 11 #[.int .u64 seed, .slice ao n cap, .slice qo qk.length qcap] w fun e w' => e = .returned (.bool true) ∧ Below w.heap.size w w' := by
  have HS := Lib.hid hscr
  have HQ := Lib.hid hq
  have HFEW := Lib.hid (few_any cap hscr hm)
  have HE : ∃ ql, qk.length = ql := ⟨_, rfl⟩
  obtain ⟨ql, eql⟩ := HE
  have HQL := Lib.hid eql
  rw [eql] at HQ hqm ⊢
  clear hscr hq eql
  cases hfew : fewB n key val
  case false =>
    rw [hfew] at HFEW
    clear hfew
    go_enter Try.func11, Try.ntmps11
    go_wp2_with fail
    refine HFEW.out.mono ?_
    rintro e w' ⟨rfl, rfl⟩
    go_wp2_with fail
    refine (awake_any _).mono ?_
    rintro e w' ⟨rfl, ht⟩
    go_wp2_with fail
    go_ret
    exact ⟨rfl, ht.below_nil⟩
  rw [hfew] at HFEW
  have hfw := of_decide_eq_true hfew
  obtain ⟨hn120, hlens⟩ := hfw
  have HL := Lib.hid hlens
  clear hfew hlens hm
  by_cases hq12 : 1200 < ql
  · have dq : decide ((1200 : Int) < (ql : Int)) = true := by rw [decide_eq_true_iff]; omega
    have dq' : decide (1200 < ql) = true := by simpa using hq12
    go_enter Try.func11, Try.ntmps11
    go_wp2_with fail
    refine HFEW.out.mono ?_
    rintro e w' ⟨rfl, rfl⟩
    go_wp2_with fail
    refine (awake_any _).mono ?_
    rintro e w' ⟨rfl, ht⟩
    go_wp2_with fail
    go_ret
    exact ⟨rfl, ht.below_nil⟩
  have dq : decide ((1200 : Int) < (ql : Int)) = false := by rw [decide_eq_false_iff_not]; omega
  have dq' : decide (1200 < ql) = false := by simpa using hq12
  go_enter Try.func11, Try.ntmps11
  go_wp2_with fail
  refine HFEW.out.mono ?_
  rintro e w' ⟨rfl, rfl⟩
  clear HFEW
  go_wp2_with fail
  refine (new_tbl seed w).mono ?_
  rintro e w1 ⟨bt, rfl, hT, ht⟩
  have HT1 := Lib.hid hT
  have HW1 := Lib.hid ht
  clear hT ht
  go_wp2_with fail
  go_loopw [8] (fun i wr => ∃ (x : Nat) (S : Key × Key → Prop), x ≤ n ∧ i = .int .i64 (x : Int) ∧ Tbl w.heap.size wr (.pointer (some ⟨bt, 0, none⟩)) seed x S ∧ Touch Nil w wr) (fun i _ => n - (intOf i).toNat)
  case atStart => exact ⟨0, _, Nat.zero_le _, rfl, HT1.out, HW1.out⟩
  obtain ⟨x, S, hx, rfl, htb, hto⟩ := hrel
  have HTB := Lib.hid htb
  have HTO := Lib.hid hto
  clear htb hto
  by_cases hlt : x < n
  · have HSR := Lib.hid (HS.out.keepN HTO.out)
    obtain ⟨b, off, rfl, hb, hcell⟩ := HSR.out.cells (by omega)
    have c0 := hcell x hlt 0 (by omega)
    have c1 := hcell x hlt 1 (by omega)
    have c2 := hcell x hlt 2 (by omega)
    rw [HSR.out.kind x hlt, Nat.add_zero] at c0
    obtain ⟨hk, lk⟩ := HSR.out.keys x hlt
    obtain ⟨hv, lv⟩ := HSR.out.vals x hlt
    have hl := HL.out x hlt
    have HK := Lib.hid hk
    have HV := Lib.hid hv
    obtain ⟨a1, k1, e1, _, _⟩ := hk
    obtain ⟨a2, k2, e2, _, _⟩ := hv
    rw [e1] at c1 HK
    rw [e2] at c2 HV
    have i1 : (x : Int) < (n : Int) := by omega
    have i2 : (0 : Int) ≤ (x : Int) := by omega
    have HSZ := Lib.hid HTO.out.size
    have hkl : (key x).length ≤ 1048576 := by omega
    have hvl : (val x).length ≤ 1048576 := by omega
    clear hcell e1 e2 lk lv hl
    by_cases hkd : kd x = 1
    · have hb1 : ((kd x : Int) == 1) = true := by simp [hkd]
      clear hkd
      have HDR := Lib.hid (fun w' (h : Touch Nil wr w') => drop_tbl (HTB.out.keepN h) (Nat.le_trans HSZ.out h.size) (key x) _ (HK.out.keepN h) hkl)
      generalize (key x).length = kl at *
      generalize kd x = kx at *
      go_wp2_with fail
      refine (HDR.out wr (Touch.refl _ _)).mono ?_
      rintro e w2 ⟨rfl, ht2, hto2⟩
      have HT2 := Lib.hid ht2
      have HTO2 := Lib.hid (from_nil HTO.out hto2 (Nat.le_refl _))
      clear ht2 hto2 HDR
      go_wp2_with fail
      go_roundw
      case rel =>
        obtain ⟨R, n', C, T, q1, q2, q3, q4⟩ := HT2.out
        exact ⟨x + 1, _, by omega, by go_num, ⟨R, n', C, T, q1, q2, by omega, q4⟩, HTO2.out⟩
      case measure => simp [intOf]; omega
    · have hb1 : ((kd x : Int) == 1) = false := by simp [hkd]
      clear hkd
      have HPT := Lib.hid (fun w' (h : Touch Nil wr w') => put_tbl (HTB.out.keepN h) (by omega) (Nat.le_trans HSZ.out h.size) (key x) (val x) _ _ (HK.out.keepN h) (HV.out.keepN h) hkl hvl)
      generalize (key x).length = kl at *
      generalize (val x).length = vl at *
      generalize kd x = kx at *
      go_wp2_with fail
      go_still_tail 11, mixed
      change wpList _ _ _ _ _ wr.drew
      have HW2 := Lib.hid (Touch.refl Nil wr).drew
      clear c0 c1 c2
      generalize wr.drew = w2 at *
      go_wp2_with fail
      refine (HPT.out w2 HW2.out).mono ?_
      rintro e w3 ⟨rfl, ht2, hto2⟩
      have HT2 := Lib.hid ht2
      have HTO2 := Lib.hid (from_nil (HTO.out.trans HW2.out) hto2 (Nat.le_refl _))
      clear ht2 hto2 HPT
      go_wp2_with fail
      go_roundw
      case rel => exact ⟨x + 1, _, by omega, by go_num, HT2.out, HTO2.out⟩
      case measure => simp [intOf]; omega
  · obtain rfl : x = n := by omega
    obtain ⟨R, n', C, T, htab, hlow, hnm, _⟩ := HTB.out
    obtain ⟨g1, g2, g3⟩ := htab.good.free
    have HTAB := Lib.hid htab
    have hgood := htab.good
    have hand := and_cells hgood.2.1 g2
    have hcs := cellsN_spec n' (by omega)
    rw [← hgood.2.1] at hcs
    obtain ⟨_, _, hc34, hc8⟩ := hcs
    have hhs := homS_lt (C := C) (by omega) seed qk
    have hsp := seek_spec (bf := bfS seed) (k := qk) g3 hhs
    have HCF := Lib.hid (show cntF T C = n' from by have := cntF_frees T C; have := hgood.2.2.1; omega)
    have HCK := Lib.hid (cntK_tab hgood qk)
    rw [valAt_has] at HCK
    have HBVQ := Lib.hid (show ∀ w', Touch Nil w w' → BV w' (.slice qo ql qcap) qk from fun w' h => HQ.out.keepN h)
    have HLK := Lib.hid (show ∀ w', Touch Nil wr w' → Calls Try.prog 41 #[.pointer (some ⟨bt, 0, none⟩), .slice qo ql qcap] w' (LooksPost (seekN (bfS seed) (homS seed C) C T qk + 1) w') from fun w' h => looks_any (HTAB.out.keepN h) qk _ (HBVQ.out w' (HTO.out.trans h)) (by rw [HQL.out]; omega))
    have HGT := Lib.hid (show ∀ w', Touch Nil wr w' → Calls Try.prog 40 #[.pointer (some ⟨bt, 0, none⟩), .slice qo ql qcap] w' (GetPost (valAt (T (seekAt (bfS seed) (homS seed C) C T qk)) qk) w') from fun w' h => get_any (HTAB.out.keepN h) qk _ (HBVQ.out w' (HTO.out.trans h)) (by rw [HQL.out]; omega))
    have HSA := Lib.hid (show seekAt (bfS seed) (homS seed C) C T qk = pos C (homS seed C qk) (seekN (bfS seed) (homS seed C) C T qk) from rfl)
    rw [HSA.out] at hsp HCK HGT
    have HE : ∃ N, seekN (bfS seed) (homS seed C) C T qk = N := ⟨_, rfl⟩
    obtain ⟨N, eN⟩ := HE
    rw [eN] at hsp HCK HGT HLK
    have HE : ∃ h, homS seed C qk = h := ⟨_, rfl⟩
    obtain ⟨h, eh⟩ := HE
    rw [eh] at hsp HCK HGT hhs
    obtain ⟨hN, hst, hus⟩ := hsp
    have HST := Lib.hid hst
    have HUS := Lib.hid hus
    have HEH := Lib.hid eh
    clear htab hlow hgood HSA eN eh hst hus g3
    go_wp2_with fail
    refine (cells_any HTAB.out).mono ?_
    rintro e w2 ⟨bk, f, rfl, hbk, hrow, hsh, hT2⟩
    have HROW := Lib.hid hrow
    have HSH := Lib.hid hsh
    have HW2 := Lib.hid hT2
    clear hrow hsh hT2
    go_wp2_with fail
    refine (HLK.out w2 HW2.out).mono ?_
    rintro e w3 ⟨rfl, hT3⟩
    have HW3 := Lib.hid (HW2.out.trans hT3)
    have HT3 := Lib.hid hT3
    clear hT3 HLK
    have f1 : decide ((C : Int) < 8) = false := by rw [decide_eq_false_iff_not]; omega
    have f1' : decide (C < 8) = false := by rw [decide_eq_false_iff_not]; omega
    have hN1 : ((N + 1 : Nat) : Int) = (N : Int) + 1 := rfl
    rw [hN1]
    go_wp2_with fail
    go_loopw [11, 12, 13] (fun s1 s2 s3 wi => ∃ c : Nat, c ≤ C ∧ s3 = .int .i64 (c : Int) ∧ s1 = .int .i64 ((cntF T c : Nat) : Int) ∧ s2 = .int .i64 ((cntK T qk c : Nat) : Int) ∧ Touch Nil w3 wi) (fun _ _ s3 _ => C - (intOf s3).toNat)
    case atStart => exact ⟨0, Nat.zero_le _, rfl, rfl, rfl, Touch.refl _ _⟩
    obtain ⟨c, hc, rfl, rfl, rfl, hto⟩ := hrel
    obtain ⟨wi, rfl⟩ : ∃ wi : World, wi = wr := ⟨_, rfl⟩
    have HTC := Lib.hid hto
    clear hto
    by_cases hltc : c < C
    · have hrw := (HT3.out.trans HTC.out).row HROW.out (fun c => c)
      have y0 := hrw.cell (i := c * 3) (by omega)
      have y1 := hrw.cell (i := c * 3 + 1) (by omega)
      have hs := (HSH.out c hltc).keepN (HT3.out.trans HTC.out)
      have i1 : (c : Int) < (C : Int) := by omega
      have i2 : (0 : Int) ≤ (c : Int) := by omega
      have HF1 := Lib.hid (show cntF T (c + 1) = cntF T c + if (T c).isSome then 1 else 0 from rfl)
      have HK1 := Lib.hid (show cntK T qk (c + 1) = cntK T qk c + if hasKey (T c) qk then 1 else 0 from rfl)
      have hf1 := cntF_le T c
      have hk1 := cntK_le T qk c
      have HE : ∃ m1, cntF T c = m1 := ⟨_, rfl⟩
      obtain ⟨m1, em1⟩ := HE
      have HE : ∃ m2, cntK T qk c = m2 := ⟨_, rfl⟩
      obtain ⟨m2, em2⟩ := HE
      rw [em1] at HF1 hf1 ⊢
      rw [em2] at HK1 hk1 ⊢
      clear hrw em1 em2
      cases hTc : T c with
      | none =>
        rw [hTc] at hs HF1 HK1
        rw [hs.none] at y0
        replace HF1 := Lib.hid (show cntF T (c + 1) = m1 from HF1.out)
        replace HK1 := Lib.hid (show cntK T qk (c + 1) = m2 from HK1.out)
        clear hs y1 hTc
        go_wp2_with fail
        go_roundw
        case rel => exact ⟨c + 1, by omega, by go_num, by rw [HF1.out], by rw [HK1.out], HTC.out⟩
        case measure => simp [intOf]; omega
      | some p =>
        obtain ⟨k, u⟩ := p
        rw [hTc] at hs HF1 HK1
        replace HF1 := Lib.hid (show cntF T (c + 1) = m1 + 1 from HF1.out)
        obtain ⟨h0, ⟨ka, kcap, e1, hsk⟩, _⟩ := hs.full
        rw [h0] at y0
        rw [e1] at y1
        have hkl1 : k.length ≤ 1048576 := by
          obtain ⟨⟨_, _, _, vv, _, _, _, hB⟩, _, _⟩ := HTAB.out
          have := (hB.pair hltc hTc).2.2.2.1
          omega
        have HSM := Lib.hid (show Calls Try.prog 25 #[.slice ka k.length kcap, .slice qo ql qcap] wi (fun e w' => e = .returned (.bool (decide (k = qk))) ∧ Touch Nil wi w') from by
          obtain ⟨ao', cap', e, _, hsq⟩ := HBVQ.out wi (HTO.out.trans (HW3.out.trans HTC.out))
          injection e with e1 e2 e3
          subst e1
          rw [← HQL.out]
          exact same_any k qk ka qo kcap qcap wi (by omega) (by rw [HQL.out]; omega) hsk hsq)
        have HE : ∃ kl, k.length = kl := ⟨_, rfl⟩
        obtain ⟨kl, ekl⟩ := HE
        rw [ekl] at y1 HSM
        clear hs h0 e1 hsk hTc ekl
        by_cases hkq : k = qk
        · rw [decide_eq_true hkq] at HSM
          replace HK1 := Lib.hid (show cntK T qk (c + 1) = m2 + 1 from by rw [HK1.out]; simp [hasKey, hkq])
          clear hkq
          go_wp2_with fail
          refine HSM.out.mono ?_
          rintro e w4 ⟨rfl, hT4⟩
          have HT4 := Lib.hid hT4
          clear hT4
          go_wp2_with fail
          go_roundw
          case rel => exact ⟨c + 1, by omega, by go_num, by rw [HF1.out]; rfl, by rw [HK1.out]; rfl, HTC.out.trans HT4.out⟩
          case measure => simp [intOf]; omega
        · rw [decide_eq_false hkq] at HSM
          replace HK1 := Lib.hid (show cntK T qk (c + 1) = m2 from by rw [HK1.out]; simp [hasKey, hkq])
          clear hkq
          go_wp2_with fail
          refine HSM.out.mono ?_
          rintro e w4 ⟨rfl, hT4⟩
          have HT4 := Lib.hid hT4
          clear hT4
          go_wp2_with fail
          go_roundw
          case rel => exact ⟨c + 1, by omega, by go_num, by rw [HF1.out]; rfl, by rw [HK1.out], HTC.out.trans HT4.out⟩
          case measure => simp [intOf]; omega
    · obtain rfl : c = C := by omega
      rw [HCF.out]
      have HE : ∃ m2, cntK T qk c = m2 := ⟨_, rfl⟩
      obtain ⟨m2, em2⟩ := HE
      rw [em2] at HCK ⊢
      have hm2 : m2 ≤ 1 := by rw [HCK.out]; split <;> omega
      have hnn : ((n' : Int) != (n' : Int)) = false := by simp
      have d1 : decide (3 * (c : Int) < 4 * (n' : Int)) = false := by rw [decide_eq_false_iff_not]; omega
      have d4 : decide ((1 : Int) < (m2 : Int)) = false := by rw [decide_eq_false_iff_not]; omega
      have d4' : decide (1 < m2) = false := by rw [decide_eq_false_iff_not]; omega
      have HLEN := Lib.hid (len_any (HTAB.out.keepN (HW3.out.trans HTC.out)))
      have hbd := coin_bd seed 1 (ub qk)
      have hca := homS_cast (C := c) (by omega) seed qk
      rw [HEH.out] at hca
      have HCO := Lib.hid (show ∀ w', Touch Nil w w' → Calls Try.prog 13 #[.int .u64 seed, .int .i64 1, .slice qo ql qcap] w' fun e w'' => e = .returned (.int .u64 (coin seed 1 (ub qk))) ∧ w' = w'' from fun w' hw => by
        obtain ⟨ao', cap', e, _, hsq⟩ := HBVQ.out w' hw
        injection e with e1 e2 e3
        subst e1
        have := coinP_any seed 1 (ub qk) qo qcap w' (by simp; rw [HQL.out]; omega) hsq
        rw [ub_length, HQL.out] at this; exact this)
      have HE : ∃ cz, coin seed 1 (ub qk) = cz := ⟨_, rfl⟩
      obtain ⟨cz, ecz⟩ := HE
      rw [ecz] at hbd hca HCO
      obtain ⟨hb1, hb2⟩ := hbd
      have hz0 : ((c : Int) == 0) = false := by simp; omega
      have HH8 := Lib.hid (show (8 < c ∧ ¬ 4 * n' ≤ 3 * (c / 2)) ∨ ¬ 8 < c by by_cases h8 : 8 < c; exact .inl ⟨h8, by have := hc8 h8; omega⟩; exact .inr h8)
      clear em2 ecz
      rcases HH8.out with ⟨h8, h8'⟩ | h8
      all_goals
        first
          | (have d2 : decide ((8 : Int) < (c : Int)) = true := by rw [decide_eq_true_iff]; omega)
          | (have d2 : decide ((8 : Int) < (c : Int)) = false := by rw [decide_eq_false_iff_not]; omega)
        first
          | (have d2' : decide (8 < c) = true := by rw [decide_eq_true_iff]; omega)
          | (have d2' : decide (8 < c) = false := by rw [decide_eq_false_iff_not]; omega)
        try (have d3 : decide (4 * (n' : Int) ≤ 3 * ((c : Int) / 2)) = false := by rw [decide_eq_false_iff_not]; omega)
        go_wp2_with fail
        refine HLEN.out.mono ?_
        rintro e w4 ⟨rfl, rfl⟩
        go_wp2_with fail
        refine (HCO.out _ (HTO.out.trans (HW3.out.trans HTC.out))).mono ?_
        rintro e w4 ⟨rfl, rfl⟩
        go_wp2_with fail
        rw [hca]
        clear hca hb1 hb2
        go_loopw [15] (fun s wz => ∃ u : Nat, u ≤ N ∧ s = .int .i64 ((u : Int) + 1) ∧ Touch Nil wi wz) (fun s _ => N + 2 - (intOf s).toNat)
        case atStart => exact ⟨0, Nat.zero_le _, rfl, Touch.refl _ _⟩
        obtain ⟨u, hu, rfl, hto⟩ := hrel
        obtain ⟨wz, rfl⟩ : ∃ wz : World, wz = wr := ⟨_, rfl⟩
        have HTZ := Lib.hid hto
        clear hto
        by_cases hlu : u < N
        · have hpl := pos_lt hhs (show u < c by omega)
          have hpm := pos_mod hhs (show u < c by omega)
          have hpm2 : ((h : Int) + ((u : Int) + 1) - 1) % (c : Int) = ((pos c h u : Nat) : Int) := by rw [← hpm]; congr 1; omega
          have hrw := (HT3.out.trans (HTC.out.trans HTZ.out)).row HROW.out (fun c => c)
          have z0 := hrw.cell (i := pos c h u * 3) (by omega)
          have z1 := hrw.cell (i := pos c h u * 3 + 1) (by omega)
          have z2 := hrw.cell (i := pos c h u * 3 + 2) (by omega)
          have hs := (HSH.out _ hpl).keepN (HT3.out.trans (HTC.out.trans HTZ.out))
          have hstp := HUS.out u hlu
          cases hTk : T (pos c h u) with
          | none => rw [hTk] at hstp; cases hstp
          | some p =>
            obtain ⟨k', v'⟩ := p
            rw [hTk] at hs hstp
            simp only [stops, Bool.or_eq_false_iff, decide_eq_false_iff_not] at hstp
            obtain ⟨h0, ⟨xa, xcap, h1, hsx⟩, ⟨xo, xcap', h2⟩⟩ := hs.full
            rw [h0] at z0
            rw [h1] at z1
            rw [h2] at z2
            have hk2 : k'.length ≤ 1048576 := by
              obtain ⟨⟨_, _, _, vv, _, _, _, hB⟩, _, _⟩ := HTAB.out
              have := (hB.pair hpl hTk).2.2.2.1
              omega
            have HSM := Lib.hid (show ∀ w', Touch Nil wz w' → Calls Try.prog 25 #[.slice xa k'.length xcap, .slice qo ql qcap] w' (fun e w'' => e = .returned (.bool false) ∧ Touch Nil w' w'') from fun w' hw => by
              obtain ⟨ao', cap', e, _, hsq⟩ := HBVQ.out w' (HTO.out.trans (HW3.out.trans (HTC.out.trans (HTZ.out.trans hw))))
              injection e with e1 e2 e3
              subst e1
              have := same_any k' qk xa qo xcap qcap w' (by omega) (by rw [HQL.out]; omega) (hsx.keepN hw) hsq
              rw [decide_eq_false hstp.1, HQL.out] at this
              exact this)
            have HE : ∃ a, pos c h u = a := ⟨_, rfl⟩
            obtain ⟨a, ea⟩ := HE
            rw [ea] at z0 z1 z2 hpl hpm hpm2
            have HE : ∃ k2l, k'.length = k2l := ⟨_, rfl⟩
            obtain ⟨k2l, ek2⟩ := HE
            rw [ek2] at z1 HSM
            have i1 : (a : Int) < (c : Int) := by omega
            have i2 : (0 : Int) ≤ (a : Int) := by omega
            have HTV := Lib.hid ((Touch.refl Nil wz).alloc (.cells #[.bool true, .slice xa k2l xcap, .slice xo v'.length xcap'] 78))
            clear hrw hs h0 h1 h2 hsx hTk hstp ea ek2
            go_wp2_with fail
            refine (HSM.out _ HTV.out).mono ?_
            rintro e w5 ⟨rfl, hT5⟩
            have HT5 := Lib.hid (HTV.out.trans hT5)
            clear hT5
            go_wp2_with fail
            go_roundw
            case rel => first | exact ⟨u + 1, by omega, by go_num, HTZ.out.trans HT5.out⟩ | ((repeat apply Exists.intro); exact ⟨⟨u + 1, by omega, by go_num, HTZ.out.trans HT5.out⟩, rfl⟩)
            case measure => simp [intOf]; omega
        · obtain rfl : u = N := by omega
          have j1 : ¬ ((u : Int) + 1) < ((u : Int) + 1) := by omega
          have hpl := pos_lt hhs hN
          have hpm := pos_mod hhs hN
          have hpm2 : ((h : Int) + ((u : Int) + 1) - 1) % (c : Int) = ((pos c h u : Nat) : Int) := by rw [← hpm]; congr 1; omega
          have hrw := (HT3.out.trans (HTC.out.trans HTZ.out)).row HROW.out (fun c => c)
          have z0 := hrw.cell (i := pos c h u * 3) (by omega)
          have z1 := hrw.cell (i := pos c h u * 3 + 1) (by omega)
          have z2 := hrw.cell (i := pos c h u * 3 + 2) (by omega)
          have hs := (HSH.out _ hpl).keepN (HT3.out.trans (HTC.out.trans HTZ.out))
          have HTWZ := Lib.hid (HW3.out.trans (HTC.out.trans HTZ.out))
          cases hTk : T (pos c h u) with
          | none =>
            rw [hTk] at hs HGT HCK
            have q1 : m2 = 0 := HCK.out
            have hm0 : ((m2 : Int) == 1) = false := by rw [q1]; rfl
            rw [hs.none] at z0
            rw [hs.2.1] at z1
            rw [hs.2.2] at z2
            have HE : ∃ a, pos c h u = a := ⟨_, rfl⟩
            obtain ⟨a, ea⟩ := HE
            rw [ea] at z0 z1 z2 hpl hpm hpm2
            have i1 : (a : Int) < (c : Int) := by omega
            have i2 : (0 : Int) ≤ (a : Int) := by omega
            have HTV := Lib.hid ((Touch.refl Nil wz).alloc (.cells #[.bool false, .slice none 0 0, .slice none 0 0] 78))
            have HBX := Lib.hid (show (wz.alloc (.cells #[.bool false, .slice none 0 0, .slice none 0 0] 78)).heap[wz.heap.size]? = some (.cells #[.bool false, .slice none 0 0, .slice none 0 0] 78 (0, 0)) from heap_alloc_new _ _)
            clear hrw hs hTk ea q1
            go_wp2_with fail
            refine (HGT.out _ (HTWZ.out.trans HTV.out)).mono ?_
            rintro e w5 ⟨hgn, _, hT5⟩
            have he := hgn rfl
            subst he
            have HT5 := Lib.hid (HTV.out.trans hT5)
            have b0 : w5.cell? ⟨wz.heap.size, 0, none⟩ = some (.bool false) := by
              rw [hT5.cell (by simp) (fun c => c)]; simp only [World.cell?]; rw [HBX.out]; rfl
            clear hT5 hgn
            go_wp2_with fail
            refine (awake_any _).mono ?_
            rintro e w6 ⟨rfl, ht⟩
            go_wp2_with fail
            go_ret
            exact ⟨rfl, ((HTO.out.trans (HTWZ.out.trans HT5.out)).trans ht).below_nil⟩
          | some p =>
            obtain ⟨k', v'⟩ := p
            rw [hTk] at hs HGT HCK
            obtain ⟨h0, ⟨xa, xcap, h1, hsx⟩, ⟨xo, xcap', h2⟩⟩ := hs.full
            rw [h0] at z0
            rw [h1] at z1
            rw [h2] at z2
            have hk2 : k'.length ≤ 1048576 := by
              obtain ⟨⟨_, _, _, vv, _, _, _, hB⟩, _, _⟩ := HTAB.out
              have := (hB.pair hpl hTk).2.2.2.1
              omega
            have HSM := Lib.hid (show ∀ w', Touch Nil wz w' → Calls Try.prog 25 #[.slice xa k'.length xcap, .slice qo ql qcap] w' (fun e w'' => e = .returned (.bool (decide (k' = qk))) ∧ Touch Nil w' w'') from fun w' hw => by
              obtain ⟨ao', cap', e, _, hsq⟩ := HBVQ.out w' (HTO.out.trans (HTWZ.out.trans hw))
              injection e with e1 e2 e3
              subst e1
              have := same_any k' qk xa qo xcap qcap w' (by omega) (by rw [HQL.out]; omega) (hsx.keepN hw) hsq
              rw [HQL.out] at this
              exact this)
            have HE : ∃ a, pos c h u = a := ⟨_, rfl⟩
            obtain ⟨a, ea⟩ := HE
            rw [ea] at z0 z1 z2 hpl hpm hpm2
            have HE : ∃ k2l, k'.length = k2l := ⟨_, rfl⟩
            obtain ⟨k2l, ek2⟩ := HE
            rw [ek2] at z1 HSM
            have HE : ∃ v2l, v'.length = v2l := ⟨_, rfl⟩
            obtain ⟨v2l, ev2⟩ := HE
            rw [ev2] at z2
            have i1 : (a : Int) < (c : Int) := by omega
            have i2 : (0 : Int) ≤ (a : Int) := by omega
            have HTV := Lib.hid ((Touch.refl Nil wz).alloc (.cells #[.bool true, .slice xa k2l xcap, .slice xo v2l xcap'] 78))
            have HBX := Lib.hid (show (wz.alloc (.cells #[.bool true, .slice xa k2l xcap, .slice xo v2l xcap'] 78)).heap[wz.heap.size]? = some (.cells #[.bool true, .slice xa k2l xcap, .slice xo v2l xcap'] 78 (0, 0)) from heap_alloc_new _ _)
            clear hrw hs h0 h1 h2 hsx hTk ea ek2 ev2
            by_cases hkq : k' = qk
            · rw [decide_eq_true hkq] at HSM
              have hva : valAt (some (k', v')) qk = some v' := by simp [valAt, hkq]
              rw [hva] at HGT HCK
              have q1 : m2 = 1 := HCK.out
              have hm0 : ((m2 : Int) == 1) = true := by rw [q1]; rfl
              clear hkq hva q1
              go_wp2_with fail
              refine (HGT.out _ (HTWZ.out.trans HTV.out)).mono ?_
              rintro e w5 ⟨_, hgs, hT5⟩
              obtain ⟨xv, rfl, hox⟩ := hgs _ rfl
              obtain ⟨xva, xvl, xvc, rfl⟩ := hox.form
              have HT5 := Lib.hid (HTV.out.trans hT5)
              have b0 : w5.cell? ⟨wz.heap.size, 0, none⟩ = some (.bool true) := by
                rw [hT5.cell (by simp) (fun c => c)]; simp only [World.cell?]; rw [HBX.out]; rfl
              have b1 : w5.cell? ⟨wz.heap.size, 1, none⟩ = some (.slice xa k2l xcap) := by
                rw [hT5.cell (by simp) (fun c => c)]; simp only [World.cell?]; rw [HBX.out]; rfl
              clear hT5 hgs hox
              go_wp2_with fail
              refine (HSM.out _ HT5.out).mono ?_
              rintro e w6 ⟨rfl, hT6⟩
              have HT6 := Lib.hid (HT5.out.trans hT6)
              clear hT6
              go_wp2_with fail
              refine (awake_any _).mono ?_
              rintro e w7 ⟨rfl, ht⟩
              go_wp2_with fail
              go_ret
              exact ⟨rfl, ((HTO.out.trans (HTWZ.out.trans HT6.out)).trans ht).below_nil⟩
            · rw [decide_eq_false hkq] at HSM
              have hva : valAt (some (k', v')) qk = none := by simp [valAt, hkq]
              rw [hva] at HGT HCK
              have q1 : m2 = 0 := HCK.out
              have hm0 : ((m2 : Int) == 1) = false := by rw [q1]; rfl
              clear hkq hva q1
              go_wp2_with fail
              refine (HGT.out _ (HTWZ.out.trans HTV.out)).mono ?_
              rintro e w5 ⟨hgn, _, hT5⟩
              have he := hgn rfl
              subst he
              have HT5 := Lib.hid (HTV.out.trans hT5)
              have b0 : w5.cell? ⟨wz.heap.size, 0, none⟩ = some (.bool true) := by
                rw [hT5.cell (by simp) (fun c => c)]; simp only [World.cell?]; rw [HBX.out]; rfl
              have b1 : w5.cell? ⟨wz.heap.size, 1, none⟩ = some (.slice xa k2l xcap) := by
                rw [hT5.cell (by simp) (fun c => c)]; simp only [World.cell?]; rw [HBX.out]; rfl
              clear hT5 hgn
              go_wp2_with fail
              refine (HSM.out _ HT5.out).mono ?_
              rintro e w6 ⟨rfl, hT6⟩
              have HT6 := Lib.hid (HT5.out.trans hT6)
              clear hT6
              go_wp2_with fail
              refine (awake_any _).mono ?_
              rintro e w7 ⟨rfl, ht⟩
              go_wp2_with fail
              go_ret
              exact ⟨rfl, ((HTO.out.trans (HTWZ.out.trans HT6.out)).trans ht).below_nil⟩
set_option maxRecDepth 100000 in
theorem slotsSeeks_lifted (os : Os) (started : os.Started) (H : Type) (enc : TypeId × Value → H) :
    ReturnsInHanded {} Try.checked os 11 .any (Rows.slotsSeeksSpec.pre6 enc Try.prog Try.f11 Rows.slotsSeeksRow.domain false) (Rows.slotsSeeksSpec.post enc Try.prog Try.f11 false true false false) := by
  refine returnsInHanded_of_change (C := Try.checked) own started (by kernel_rfl) Try.func11
    (ChangeSpec.witness6 (enc := enc) (C := Try.checked) false ⟨#[], #[.int .u64 0, .slice none 0 0, .slice none 0 0], []⟩ 8 (by kernel_rfl) (by kernel_rfl) (by kernel_rfl) (by kernel_rfl)) ?_
  intro W base args ds gs before hval0 hW _ _
  have hval : ∀ (j : Nat) t v, Try.f11.params[j]? = some t → args[j]? = some v → Value.okWide Try.prog W .any base t v := hval0
  have hW' := hW
  obtain ⟨p, q, hA0, hV, rfl, hfz, hnd⟩ := hW
  have hA : DataW.TrodAll enc Try.prog W 0 (fun _ => true) true Try.f11.params.toList args.toList ds p := hA0
  rw [Try.params11] at hA hval
  obtain ⟨v0, vs0, d0, ds0, p0, q0, hargs, rfl, rfl, h0, r0⟩ := trodAll_cons hA
  obtain ⟨v1, vs1, d1, ds1, p1, q1, rfl, rfl, rfl, h1, r1⟩ := trodAll_cons r0
  obtain ⟨v2, vs2, d2, ds2, p2, q2, rfl, rfl, rfl, h2, r2⟩ := trodAll_cons r1
  obtain ⟨rfl, rfl, rfl⟩ := trodAll_nil r2
  obtain rfl : args = #[v0, v1, v2] := by cases args; simp_all
  obtain ⟨rfl, rfl⟩ := trodVars_none hV
  obtain ⟨seed, rfl, rfl, rfl, w0⟩ := open_int Try.underlying22 (hval 0 22 v0 rfl rfl) h0
  obtain ⟨sA, sL, sC, rfl⟩ := okWide_slice Try.underlying42 (hval 1 42 v1 rfl rfl)
  have k1 := h1
  have lt1 : ∀ x ∈ p1, x.block < W.heap.size := by obtain ⟨m, hm⟩ := k1; exact DataW.trod_lt m _ _ _ hm
  obtain ⟨fuel1, hf1⟩ := h1
  obtain ⟨sM, sV, sKd, sK, sU, sH⟩ := open_scr hf1
  obtain ⟨kA, kL, kC, rfl⟩ := okWide_slice Try.underlying23 (hval 2 23 v2 rfl rfl)
  have k2 := h2
  have lt2 : ∀ x ∈ p2, x.block < W.heap.size := by obtain ⟨m, hm⟩ := k2; exact DataW.trod_lt m _ _ _ hm
  obtain ⟨fuel2, hf2⟩ := h2
  obtain ⟨kK, kH, kM⟩ := open_bv Try.underlying23 Try.underlying5 (by kernel_rfl) hf2
  obtain rfl : kL = kK.length := by obtain ⟨_, _, e, _⟩ := kH; injection e
  clear hA0 hval0
  unfold maxLen at sM
  unfold maxLen at kM
  refine (lawSeeks_any seed sL sC sA sV sKd sK sU kK kA kC W (by omega) sH kH (by omega)).mono fun e W' ⟨he, bel⟩ => ?_
  subst he
  exact ⟨_, rfl, _, _, _, [], _, [], hW', trodAll_mk1 (shut_bool Try.underlying4 _), (trodAll_cons_mk (shut_int Try.underlying22 w0) (trodAll_cons_mk (Below.trod laidOut (by kernel_rfl) (of_decide_eq_true (by kernel_rfl)) k1 bel lt1) (trodAll_cons_mk (Below.trod laidOut (by kernel_rfl) (of_decide_eq_true (by kernel_rfl)) k2 bel lt2) trodAll_mk0))), rfl, bel.frame _, fun h => by cases h⟩

theorem slotsSeeks_holds : Rows.SlotsSeeksSaid :=
  OpenClaim.holds_of_wide 11 Try.f11 rfl rfl rfl rfl rfl rfl rfl ⟨rfl, rfl, rfl, rfl, rfl⟩ rfl rfl rfl rfl rfl (by kernel_rfl) Try.func11 (by kernel_rfl)
    (of_decide_eq_true (by kernel_rfl)) (by unfold Func.isWrapper; first | (rw [if_pos (by decide +kernel)]; kernel_rfl) | (rw [if_neg (by decide +kernel)]; exact ⟨rfl, rfl⟩))
    (fun os started H enc _ => slotsSeeks_lifted os started H enc)
end Go.Proofs.Ytebkpibaaoblbaa
