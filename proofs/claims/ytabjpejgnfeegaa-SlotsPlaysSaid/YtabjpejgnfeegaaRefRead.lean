import Derived.Test.YtabjpejgnfeegaaRefTab
import Derived.Test.YtabjpejgnfeegaaLoad
import Derived.Test.YtabjpejgnfeegaaBackMath
/- The reference's reading of an image. -/
namespace Go.Proofs.Ytabjpejgnfeegaa
open Go.ChangeShapes Go.WideShapes Go.ChangeAt Go.RowKit Go.Deep

def updC (T : Cells) (x : Nat) (o : Option (Key × Key)) : Cells := fun c => if c = x then o else T c
theorem rd_next {T : Cells} {x A A' N : Nat} {l : List UInt8} (o : Option (Key × Key)) (h : l = headB N ++ (bodyB T x ++ l.drop A)) (hd : l.drop A = cellB o ++ l.drop A') (hok : ∀ c, c < x → okP (T c)) (ho : okP o) :
    l = headB N ++ (bodyB (updC T x o) (x + 1) ++ l.drop A') ∧ (∀ c, c < x + 1 → okP (updC T x o c)) ∧ cellsL (updC T x o) (x + 1) = cellsL T x ++ o.toList := by
  have hx : updC T x o x = o := by simp [updC]
  have hc : ∀ c, c < x → updC T x o c = T c := fun c hc => by simp only [updC]; rw [if_neg (by omega)]
  refine ⟨?_, fun c hlt => ?_, ?_⟩
  · simp only [bodyB, hx]
    rw [bodyB_congr x hc, List.append_assoc, ← hd]
    exact h
  · by_cases e : c = x
    · rw [e, hx]; exact ho
    · rw [hc c (by omega)]; exact hok c (by omega)
  · simp only [cellsL, hx]
    rw [cellsL_congr x hc]
theorem dis_next {T : Cells} {x : Nat} {o : Option (Key × Key)} (h : Dis T x) (ho : ∀ k v, o = some (k, v) → ∀ c, c < x → ∀ v', T c ≠ some (k, v')) : Dis (updC T x o) (x + 1) := by
  have hx : updC T x o x = o := by simp [updC]
  have hc : ∀ c, c < x → updC T x o c = T c := fun c hc => by simp only [updC]; rw [if_neg (by omega)]
  intro c d hlt hdl k v v' e1 e2
  by_cases ec : c = x
  · by_cases ed : d = x
    · omega
    · rw [ec, hx] at e1
      rw [hc d (by omega)] at e2
      exact absurd e2 (ho k v e1 d (by omega) v')
  · by_cases ed : d = x
    · rw [ed, hx] at e2
      rw [hc c (by omega)] at e1
      exact absurd e1 (ho k v' e2 c (by omega) v)
    · rw [hc c (by omega)] at e1
      rw [hc d (by omega)] at e2
      exact h c d (by omega) (by omega) k v v' e1 e2
theorem infoPair' : (Try.prog.info? 72).map (fun i => (i.zero, i.size, i.bytes)) = some (some (.agg #[.slice none 0 0, .slice none 0 0]), 2, 48) := by kernel_rfl
def addV (V : Nat → Nat → Value) (m : Nat) (y z : Value) : Nat → Nat → Value := fun i c => if i = m then (if c = 0 then y else z) else V i c
theorem addV_at (V : Nat → Nat → Value) (m : Nat) (y z : Value) : addV V m y z m 0 = y ∧ addV V m y z m 1 = z := by simp [addV]
theorem addV_far (V : Nat → Nat → Value) {m i : Nat} (y z : Value) (h : i ≠ m) (c : Nat) : addV V m y z i c = V i c := by simp [addV, h]
theorem atL_last (P : List (Key × Key)) (q : Key × Key) : atL (P ++ [q]) P.length = q := by rw [atL_app, if_neg (Nat.lt_irrefl _), if_pos rfl]
theorem atL_left {P : List (Key × Key)} (q : Key × Key) {i : Nat} (h : i < P.length) : atL (P ++ [q]) i = atL P i := by rw [atL_app, if_pos h]
theorem addV_flat (V : Nat → Nat → Value) (m : Nat) (y z : Value) : flat 2 (addV V m y z) (m + 1) = flat 2 V m ++ [y, z] := by
  simp only [flat]
  rw [flat_congr 2 (g := V) m fun i hi c _ => by simp only [addV]; rw [if_neg (by omega)]]
  simp [addV, List.range_succ]

def ReadPost (seed : Int) (l : List UInt8) (w : World) (e : Ending) (w' : World) : Prop :=
  (e = .returned (.tuple #[.slice none 0 0, .bool false]) ∧ Touch Nil w w' ∧ ∀ n T, ¬ IsImg seed l n T) ∨
  (∃ n T ao cap v p, IsImg seed l n T ∧ e = .returned (.tuple #[.slice ao n cap, .bool true]) ∧ Rl w' ao n v p ∧ (∀ q, InT (cellsN n) T q ↔ ∃ i, i < n ∧ q = p i) ∧ Touch Nil w w')

set_option maxRecDepth 100000 in
set_option maxHeartbeats 4000000 in
theorem read_any (seed : Int) (x : Value) (l : List UInt8) (w : World) (h : BC w x l) (hl : l.length ≤ 20000) :
    Calls Try.prog 43 #[.int .u64 seed, x] w (ReadPost seed l w) := by
  have HBC := Lib.hid h
  have hbc := h
  obtain ⟨ao, L, cap, rfl, hn, hcap, hnone, hs⟩ := h
  have HN := Lib.hid hn
  by_cases h4 : L < 4
  · have d1 : decide ((L : Int) < 4) = true := by rw [decide_eq_true_iff]; omega
    have d1' : decide (L < 4) = true := by rw [decide_eq_true_iff]; omega
    have HR := Lib.hid (show ∀ n T, ¬ IsImg seed l n T from fun n T hi => by
      have e := hi.2.2
      have := congrArg List.length e
      simp [imageB, headB] at this; omega)
    clear hbc hs hnone hn
    go_enter Try.func43, Try.ntmps43
    go_wp2_with fail
    go_ret2
    exact .inl ⟨rfl, Touch.refl _ _, HR.out⟩
  have d1 : decide ((L : Int) < 4) = false := by rw [decide_eq_false_iff_not]; omega
  have d1' : decide (L < 4) = false := by rw [decide_eq_false_iff_not]; omega
  obtain ⟨a1, n1, c1, hcut, hbc1, hn1⟩ := cut_h hbc (k := 4) (by omega)
  subst hn1
  replace hcut : ∀ W, (Instr.slice 23 (.slice ao L cap) none (some (.int .i64 4)) none).run Try.prog W = .ok (.slice a1 4 c1) W := hcut
  have HNUM := Lib.hid (fun w' (ht : Touch Nil w w') => number_any (l.take 4) (.slice a1 4 c1) w' (hbc1.bv.keepN ht) (by simp; omega))
  have HHEAD := Lib.hid (head_of (l := l) (by omega))
  have hN0 := valB_bd (l.take 4) (by simp; omega)
  have HV4 := Lib.hid (valB_four (l := l) (by omega))
  have HE : ∃ N, valB (l.take 4) = N := ⟨_, rfl⟩
  obtain ⟨N, eN⟩ := HE
  rw [eN] at hN0 HV4
  simp only [eN] at HNUM
  rw [← HV4.out] at HHEAD
  clear HV4 eN hbc1
  by_cases hN : N ≤ 100000
  case neg =>
    have d2 : decide ((100000 : Int) < (N : Int)) = true := by rw [decide_eq_true_iff]; omega
    have d2' : decide (100000 < N) = true := by rw [decide_eq_true_iff]; omega
    have HR := Lib.hid (show ∀ n T, ¬ IsImg seed l n T from fun n T hi => by
      obtain ⟨g, o, e⟩ := hi
      have := g.2.2.2
      rw [HHEAD.out] at e
      unfold imageB at e
      have := (headB_inj (by omega) (by omega) e).1
      omega)
    clear hbc hs hnone hn
    go_enter Try.func43, Try.ntmps43
    go_wp2_with fail
    refine (HNUM.out _ (by first | exact Touch.refl _ _ | exact (Touch.refl _ _).drew)).mono ?_
    rintro e w' ⟨rfl, rfl⟩
    go_wp2_with fail
    go_ret2
    exact .inl ⟨rfl, Touch.refl _ _, HR.out⟩
  have d2 : decide ((100000 : Int) < (N : Int)) = false := by rw [decide_eq_false_iff_not]; omega
  have d2' : decide (100000 < N) = false := by rw [decide_eq_false_iff_not]; omega
  have HNN := Lib.hid hN
  have HCR := Lib.hid (fun w => cellsR_any N w (by omega))
  have hcs := cellsN_spec N (by omega)
  have HE : ∃ C, cellsN N = C := ⟨_, rfl⟩
  obtain ⟨C, eC⟩ := HE
  have HC := Lib.hid eC
  rw [eC] at hcs
  simp only [eC] at HCR
  obtain ⟨hC8, hC3, hC4, _⟩ := hcs
  have HO0 := Lib.hid (own_empty w 72 2)
  have HT0 := Lib.hid ((Touch.refl Nil w).alloc (.cells #[] 72))
  have HLN := Lib.hid hl
  clear hbc hs hnone hn eC
  go_enter Try.func43, Try.ntmps43
  go_wp2_with fail
  refine (HNUM.out _ (by first | exact Touch.refl _ _ | exact (Touch.refl _ _).drew)).mono ?_
  rintro e w' ⟨rfl, rfl⟩
  go_wp2_with fail
  refine (HNUM.out _ (by first | exact Touch.refl _ _ | exact (Touch.refl _ _).drew)).mono ?_
  rintro e w' ⟨rfl, rfl⟩
  go_wp2_with fail
  go_loopw [7, 8, 9] (fun q at' i wr => ∃ (x A m : Nat) (T : Cells) (V : Nat → Nat → Value), x ≤ C ∧ i = .int .i64 (x : Int) ∧ at' = .int .i64 (A : Int) ∧ A ≤ L ∧ wr.ownsRow w.heap.size 72 2 q m (flat 2 V m) ∧ Hid (m = (cellsL T x).length ∧ l = headB N ++ (bodyB T x ++ l.drop A) ∧ (∀ c, c < x → okP (T c)) ∧ Dis T x ∧ (∀ i, i < m → BV w (V i 0) (atL (cellsL T x) i).1 ∧ BV w (V i 1) (atL (cellsL T x) i).2) ∧ ∀ i c, (V i c).oneCell' = true) ∧ Touch Nil w wr) (fun _ _ i _ => C - (intOf i).toNat)
  case atStart => exact ⟨0, 4, 0, fun _ => none, fun _ _ => .slice none 0 0, Nat.zero_le _, rfl, rfl, by omega, HO0.out, Lib.hid ⟨rfl, by simpa [bodyB] using HHEAD.out, fun c hc => by omega, fun c d hc => by omega, fun i hi => by omega, fun _ _ => rfl⟩, HT0.out⟩
  obtain ⟨x, A, m, T, V, hx, rfl, rfl, hA, hown, HX, hto⟩ := hrel
  obtain ⟨pa, pc, rfl, _⟩ := own_row hown
  have HO := Lib.hid hown
  have HT := Lib.hid hto
  have HM := Lib.hid (show m ≤ x by have := cellsL_len (T := T) x; have := HX.out.1; omega)
  clear hown hto HO0 HT0
  obtain ⟨hi1, hi2, hi3, hi4⟩ : True ∧ True ∧ True ∧ True := ⟨trivial, trivial, trivial, trivial⟩
  clear hi1 hi2 hi3 hi4
  by_cases hlt : x < C
  · have i1 : (x : Int) < (C : Int) := by omega
    have dx : decide ((x : Int) < (C : Int)) = true := by rw [decide_eq_true_iff]; omega
    have HSAME := Lib.hid (fun n' T' (hi : IsImg seed l n' T') => rd_same (x := x) HX.out.2.1 (show N < 4294967296 by omega) HX.out.2.2.1 (by rw [HC.out]; omega) hi)
    have HBAD := Lib.hid (show ∀ n' T', IsImg seed l n' T' → okP (T' x) ∧ ∃ more, l.drop A = cellB (T' x) ++ more from fun n' T' hi => (HSAME.out n' T' hi).2.2.1 (by rw [HC.out]; omega))
    have HDL := Lib.hid (show (l.drop A).length + A = L by have := HN.out; simp; omega)
    by_cases hAL : A < L
    case neg =>
      have d3 : decide ((L : Int) ≤ (A : Int)) = true := by rw [decide_eq_true_iff]; omega
      have HR := Lib.hid (show ∀ n T, ¬ IsImg seed l n T from fun n' T' hi => by
        obtain ⟨o, more, e⟩ := HBAD.out n' T' hi
        have := HDL.out
        rcases cell_of o e with h | h <;> omega)
      go_wp2_with fail
      refine (HCR.out _).mono ?_
      rintro e w' ⟨rfl, rfl⟩
      go_wp2_with fail
      go_ret2
      exact .inl ⟨rfl, HT.out, HR.out⟩
    have d3 : decide ((L : Int) ≤ (A : Int)) = false := by rw [decide_eq_false_iff_not]; omega
    have hsr := (HBC.out.keepN HT.out).bv
    obtain ⟨ao', _, e, _, hsl⟩ := hsr
    injection e with ea eb ec
    subst ea
    clear eb ec
    obtain ⟨b, off, rfl, k0⟩ := hsl A (by rw [ub_length, ← HN.out]; exact hAL)
    rw [ub_getD _ _ (by rw [← HN.out]; exact hAL)] at k0
    have HCO := Lib.hid (show ∀ n' T', IsImg seed l n' T' → ((l.getD A 0).toNat = 0 ∧ 1 ≤ L - A) ∨ ((l.getD A 0).toNat = 1 ∧ 4 ≤ L - A ∧ 1 ≤ (l.getD (A + 1) 0).toNat ∧ (l.getD (A + 1) 0).toNat ≤ 64 ∧ (l.getD (A + 2) 0).toNat + (l.getD (A + 3) 0).toNat * 256 ≤ 1000 ∧ (l.getD (A + 1) 0).toNat + ((l.getD (A + 2) 0).toNat + (l.getD (A + 3) 0).toNat * 256) + 4 ≤ L - A) from fun n' T' hi => by
      obtain ⟨o, more, e⟩ := HBAD.out n' T' hi
      have := HDL.out
      have hd : (l.drop A).length = L - A := by omega
      have h := cell_of o e
      rw [getD_drop, getD_drop, getD_drop, getD_drop, hd] at h
      exact h)
    have HC0 := Lib.hid (show (l.getD A 0).toNat = 0 → l.drop A = cellB none ++ l.drop (A + 1) from fun h => by
      have := HDL.out
      have := cell_none (l := l.drop A) (by omega) (by rw [getD_drop]; exact h)
      rw [List.drop_drop] at this
      exact this)
    have i2 : (A : Int) < (L : Int) := by omega
    have i3 : (0 : Int) ≤ (A : Int) := by omega
    have hl2 : L ≤ 20000 := by have := HN.out; have := HLN.out; omega
    obtain ⟨A1, hA1⟩ : ∃ A1 : Nat, A1 = A + 1 := ⟨_, rfl⟩
    have e1 : (A : Int) + 1 = (A1 : Int) := by omega
    have e2 : (A1 : Int) - 1 = (A : Int) := by omega
    have HA1 := Lib.hid hA1
    have hy := (l.getD A 0).toNat_lt
    by_cases hy1 : 1 < (l.getD A 0).toNat
    · have HR := Lib.hid (show ∀ n T, ¬ IsImg seed l n T from fun n' T' hi => by
        rcases HCO.out n' T' hi with h | h <;> omega)
      generalize (l.getD A 0).toNat = y0 at *
      have d4 : decide ((1 : Int) < (y0 : Int)) = true := by rw [decide_eq_true_iff]; omega
      clear hsl hA1
      go_wp2_with fail
      refine (HCR.out _).mono ?_
      rintro e w' ⟨rfl, rfl⟩
      go_wp2_with fail
      go_ret2
      exact .inl ⟨rfl, HT.out, HR.out⟩
    by_cases hy0 : (l.getD A 0).toNat = 0
    · have HCN := Lib.hid (HC0.out hy0)
      rw [hy0] at k0
      have d4 : decide ((1 : Int) < (0 : Int)) = false := by decide
      clear hsl hA1 hy hy1 hy0
      go_wp2_with fail
      refine (HCR.out _).mono ?_
      rintro e w' ⟨rfl, rfl⟩
      go_wp2_with fail
      go_roundw
      case rel =>
        obtain ⟨x1, x2, x3, x4, x5, x6⟩ := HX.out
        have hcn := HCN.out
        rw [← HA1.out] at hcn
        obtain ⟨r1, r2, r3⟩ := rd_next none x2 hcn x3 trivial
        simp only [Option.toList_none, List.append_nil] at r3
        exact ⟨x + 1, A1, m, updC T x none, V, by omega, by go_num, rfl, by have := HA1.out; omega, HO.out, Lib.hid ⟨by rw [r3]; exact x1, r1, r2, dis_next x4 (fun k v e => by cases e), by rw [r3]; exact x5, x6⟩, HT.out⟩
      case measure => simp [intOf]; omega
    have hone : (l.getD A 0).toNat = 1 := by omega
    have HONE := Lib.hid hone
    rw [hone] at k0
    have d4 : decide ((1 : Int) < (1 : Int)) = false := by decide
    obtain ⟨A2, hA2⟩ : ∃ A2 : Nat, A2 = A + 2 := ⟨_, rfl⟩
    obtain ⟨A4, hA4⟩ : ∃ A4 : Nat, A4 = A + 4 := ⟨_, rfl⟩
    have e3 : (A1 : Int) + 3 = (A4 : Int) := by omega
    have e4 : (A1 : Int) + 1 = (A2 : Int) := by omega
    have HA2 := Lib.hid hA2
    have HA4 := Lib.hid hA4
    clear hy hy1 hy0 HC0
    by_cases h3 : L < A4
    · have HR := Lib.hid (show ∀ n T, ¬ IsImg seed l n T from fun n' T' hi => by
        have := HONE.out
        rcases HCO.out n' T' hi with h | h <;> omega)
      have d5 : decide ((L : Int) < (A4 : Int)) = true := by rw [decide_eq_true_iff]; omega
      clear hsl hA1 hA2 hA4 hone
      go_wp2_with fail
      refine (HCR.out _).mono ?_
      rintro e w' ⟨rfl, rfl⟩
      go_wp2_with fail
      go_ret2
      exact .inl ⟨rfl, HT.out, HR.out⟩
    have d5 : decide ((L : Int) < (A4 : Int)) = false := by rw [decide_eq_false_iff_not]; omega
    obtain ⟨b', off', ee, k1⟩ := hsl A1 (by rw [ub_length, ← HN.out]; omega)
    cases ee
    rw [ub_getD _ _ (by rw [← HN.out]; omega), show (l.getD A1 0).toNat = (l.getD (A + 1) 0).toNat by rw [hA1]] at k1
    obtain ⟨a2, n2, c2, hcut2, hbc2, hn2⟩ := cut_lh HBC.out (i := A2) (j := A4) (by omega) (by omega)
    obtain rfl : n2 = 2 := by omega
    have HNUM2 := Lib.hid (fun w' (ht : Touch Nil w w') => number_any _ _ w' (hbc2.bv.keepN ht) (by simp; omega))
    have hv2 := valB_two (l := l) (a := A2) (by rw [← HN.out]; omega)
    rw [show A2 + 2 = A4 by omega] at hv2
    have HE : ∃ V2, valB ((l.take A4).drop A2) = V2 := ⟨_, rfl⟩
    obtain ⟨V2, eV2⟩ := HE
    simp only [eV2] at HNUM2
    rw [eV2] at hv2
    have hb1 := (l.getD (A + 1) 0).toNat_lt
    have hb2 := (l.getD A2 0).toNat_lt
    have hb3 := (l.getD (A2 + 1) 0).toNat_lt
    have HCO2 := Lib.hid (show ∀ n' T', IsImg seed l n' T' → 1 ≤ (l.getD (A + 1) 0).toNat ∧ (l.getD (A + 1) 0).toNat ≤ 64 ∧ V2 ≤ 1000 ∧ (l.getD (A + 1) 0).toNat + V2 + 4 ≤ L - A from fun n' T' hi => by
      have := HONE.out
      rw [hv2, show A2 + 1 = A + 3 by omega, hA2]
      rcases HCO.out n' T' hi with h | h <;> omega)
    have HCS := Lib.hid (show ∀ A6, A6 = A4 + (l.getD (A + 1) 0).toNat + V2 → A6 ≤ L → l.drop A = cellB (some ((l.take (A4 + (l.getD (A + 1) 0).toNat)).drop A4, (l.take A6).drop (A4 + (l.getD (A + 1) 0).toNat))) ++ l.drop A6 from fun A6 e6 h6 => by
      have hd := HDL.out
      have := cell_some (l := l.drop A) (by omega) (by rw [getD_drop]; exact HONE.out) (by
        rw [getD_drop, getD_drop, getD_drop]
        rw [hv2, show A2 + 1 = A + 3 by omega, hA2] at e6
        omega)
      rw [getD_drop, getD_drop, getD_drop, List.drop_drop, ← hA4, ← hA2, show A + 3 = A2 + 1 by omega, ← hv2] at this
      rw [this]
      generalize (l.getD (A + 1) 0).toNat = k at *
      have p1 : (l.drop A4).take k = (l.take (A4 + k)).drop A4 := by rw [List.drop_take, show A4 + k - A4 = k by omega]
      have p2 : ((l.drop A4).take (k + V2)).drop k = (l.take A6).drop (A4 + k) := by
        rw [List.drop_take, List.drop_drop, List.drop_take, show k + V2 - k = V2 by omega, show A6 - (A4 + k) = V2 by omega]
      have p3 : (l.drop A4).drop (k + V2) = l.drop A6 := by rw [List.drop_drop, show A4 + (k + V2) = A6 by omega]
      rw [p1, p2, p3])
    generalize (l.getD (A + 1) 0).toNat = y1 at *
    have hV2 : V2 ≤ 65535 := by omega
    have hy1 : y1 ≤ 255 := by omega
    obtain ⟨A5, hA5⟩ : ∃ A5 : Nat, A5 = A4 + y1 := ⟨_, rfl⟩
    obtain ⟨A6, hA6⟩ : ∃ A6 : Nat, A6 = A5 + V2 := ⟨_, rfl⟩
    have e5 : (A4 : Int) + (y1 : Int) = (A5 : Int) := by omega
    have e6 : (A5 : Int) + (V2 : Int) = (A6 : Int) := by omega
    have HCS2 := Lib.hid (HCS.out A6 (by omega))
    rw [← hA5] at HCS2
    have HA5 := Lib.hid hA5
    have HA6 := Lib.hid hA6
    clear hv2 hb1 hb2 hb3 hbc2 HCO HCS eV2 hone hn2
    by_cases h6 : L < A6
    · have HR := Lib.hid (show ∀ n T, ¬ IsImg seed l n T from fun n' T' hi => by
        have := HCO2.out n' T' hi
        omega)
      have d6 : decide ((L : Int) < (A6 : Int)) = true := by rw [decide_eq_true_iff]; omega
      clear hsl hA1 hA2 hA4 hA5 hA6
      go_wp2_with fail
      refine (HCR.out _).mono ?_
      rintro e w' ⟨rfl, rfl⟩
      go_wp2_with fail
      refine (HNUM2.out _ (by first | exact HT.out | exact HT.out.drew)).mono ?_
      rintro e w' ⟨rfl, rfl⟩
      go_wp2_with fail
      go_ret2
      exact .inl ⟨rfl, by first | exact HT.out | exact HT.out.drew, HR.out⟩
    have d6 : decide ((L : Int) < (A6 : Int)) = false := by rw [decide_eq_false_iff_not]; omega
    obtain ⟨a3, n3, c3, hcut3, hbc3, hn3⟩ := cut_lh HBC.out (i := A4) (j := A5) (by omega) (by omega)
    obtain rfl : y1 = n3 := by omega
    obtain ⟨a4, n4, c4, hcut4, hbc4, hn4⟩ := cut_lh HBC.out (i := A5) (j := A6) (by omega) (by omega)
    obtain rfl : V2 = n4 := by omega
    have HB3 := Lib.hid hbc3.bv
    have HB4 := Lib.hid hbc4.bv
    have HL3 := Lib.hid (show ((l.take A5).drop A4).length = y1 by have := HN.out; simp; omega)
    have HL4 := Lib.hid (show ((l.take A6).drop A5).length = V2 by have := HN.out; simp; omega)
    have HCC := Lib.hid (HCS2.out (by omega))
    generalize (l.take A5).drop A4 = kk at *
    generalize (l.take A6).drop A5 = vv at *
    have HAL := Lib.hid (fun w => allowedR_any y1 V2 c3 c4 a3 a4 w (by omega) (by omega))
    clear hbc3 hbc4 hn3 hn4 HCS2
    by_cases hal : 1 ≤ y1 ∧ y1 ≤ 64 ∧ V2 ≤ 1000
    case neg =>
      simp only [decide_eq_false hal] at HAL
      have HR := Lib.hid (show ∀ n T, ¬ IsImg seed l n T from fun n' T' hi => by
        have := HCO2.out n' T' hi
        omega)
      clear hsl hA1 hA2 hA4 hA5 hA6 hal
      go_wp2_with fail
      refine (HCR.out _).mono ?_
      rintro e w' ⟨rfl, rfl⟩
      go_wp2_with fail
      refine (HNUM2.out _ (by first | exact HT.out | exact HT.out.drew)).mono ?_
      rintro e w' ⟨rfl, rfl⟩
      go_wp2_with fail
      refine (HAL.out _).mono ?_
      rintro e w' ⟨rfl, rfl⟩
      go_wp2_with fail
      go_ret2
      exact .inl ⟨rfl, by first | exact HT.out | exact HT.out.drew, HR.out⟩
    simp only [decide_eq_true hal] at HAL
    have HOK := Lib.hid (show okP (some (kk, vv)) from by obtain ⟨q1, q2, q3⟩ := hal; exact ⟨by rw [HL3.out]; exact q1, by rw [HL3.out]; exact q2, by rw [HL4.out]; exact q3⟩)
    have HRL := Lib.hid (show Rl wr pa m V (atL (cellsL T x)) from by
      refine ⟨fun h0 => ?_, fun i hi => (HX.out.2.2.2.2.1 i hi).1.keepN HT.out, fun i hi => (HX.out.2.2.2.2.1 i hi).2.keepN HT.out, HX.out.2.2.2.2.2⟩
      obtain ⟨ao', cap', e, hc⟩ := own_row HO.out
      cases e
      obtain ⟨g, rfl, _, hg, hcell⟩ := hc h0
      refine ⟨g, 0, rfl, hg, fun i hi c hc => ?_⟩
      rw [show 0 + i * 2 + c = i * 2 + c by omega, hcell _ (by omega)]
      exact flat_get 2 _ m i c hi hc)
    have HLL := Lib.hid (show ∀ i, i < m → (atL (cellsL T x) i).1.length ≤ 1048576 from fun i hi => by
      obtain ⟨c, hc, e⟩ := (cellsL_mem x).1 (atL_mem (P := cellsL T x) (i := i) (by rw [← HX.out.1]; exact hi))
      have := HX.out.2.2.1 c hc
      rw [e] at this
      exact Nat.le_trans this.2.1 (by decide))
    have HAT := Lib.hid (fun w' (ht : Touch Nil wr w') => at_any pc (HRL.out.keepN ht) (by have := HM.out; omega) HLL.out kk _ ((HB3.out.keepN HT.out).keepN ht) (by rw [HL3.out]; omega))
    have HE : ∃ r, atF (atL (cellsL T x)) kk m = r := ⟨_, rfl⟩
    obtain ⟨r, er⟩ := HE
    simp only [er] at HAT
    clear hal hsl hA1 hA2 hA4 hA5 hA6
    cases r with
    | some i =>
      have HR := Lib.hid (show ∀ n T, ¬ IsImg seed l n T from fun n' T' hi => by
        obtain ⟨f1, f2, _⟩ := atF_some er
        obtain ⟨h1, h2, h3, _⟩ := HSAME.out n' T' hi
        obtain ⟨o, more, e⟩ := HBAD.out n' T' hi
        rw [HCC.out] at e
        have hT := (cellB_inj HOK.out o e).1
        obtain ⟨c, hc, ec⟩ := (cellsL_mem x).1 (atL_mem (P := cellsL T x) (i := i) (by rw [← HX.out.1]; exact f1))
        have := runs_dis hi.1 c x (by rw [h1, HC.out]; omega) (by rw [h1, HC.out]; exact hlt) kk (atL (cellsL T x) i).2 vv (by rw [← h2 c hc, ec, ← f2]) hT.symm
        omega)
      have d7 : decide ((0 : Int) ≤ (i : Int)) = true := by rw [decide_eq_true_iff]; omega
      rw [show cellV (some i) = (i : Int) from rfl] at HAT
      clear er
      go_wp2_with fail
      refine (HCR.out _).mono ?_
      rintro e w' ⟨rfl, rfl⟩
      go_wp2_with fail
      refine (HNUM2.out _ (by first | exact HT.out | exact HT.out.drew)).mono ?_
      rintro e w' ⟨rfl, rfl⟩
      go_wp2_with fail
      refine (HAL.out _).mono ?_
      rintro e w' ⟨rfl, rfl⟩
      go_wp2_with fail
      refine (HAT.out _ (by first | exact Touch.refl _ _ | exact (Touch.refl _ _).drew)).mono ?_
      rintro e w2 ⟨rfl, ht2⟩
      go_wp2_with fail
      go_ret2
      exact .inl ⟨rfl, HT.out.trans ht2, HR.out⟩
    | none =>
      have HNO := Lib.hid (atF_none er)
      rw [show cellV (none : Option Nat) = -1 from rfl] at HAT
      have d7 : decide ((0 : Int) ≤ (-1 : Int)) = false := by decide
      clear er
      go_wp2_with fail
      refine (HCR.out _).mono ?_
      rintro e w' ⟨rfl, rfl⟩
      go_wp2_with fail
      refine (HNUM2.out _ (by first | exact HT.out | exact HT.out.drew)).mono ?_
      rintro e w' ⟨rfl, rfl⟩
      go_wp2_with fail
      refine (HAL.out _).mono ?_
      rintro e w' ⟨rfl, rfl⟩
      go_wp2_with fail
      refine (HAT.out _ (by first | exact Touch.refl _ _ | exact (Touch.refl _ _).drew)).mono ?_
      rintro e w2 ⟨rfl, ht2⟩
      have HT2 := Lib.hid (HT.out.trans ht2)
      have HO2 := Lib.hid (own_keepN HO.out ht2)
      clear ht2
      have HBS := Lib.hid (show w.heap.size ≤ (w2.alloc (.cells #[.slice a3 y1 c3, .slice a4 V2 c4] 72)).heap.size from by have := HT2.out.size; rw [nblk_alloc]; omega)
      have HOA := Lib.hid (show (w2.alloc (.cells #[.slice a3 y1 c3, .slice a4 V2 c4] 72)).ownsRow w.heap.size 72 2 (.slice pa m pc) m (flat 2 V m) from own_keepN HO2.out ((Touch.refl Nil w2).alloc _))
      have HCB := Lib.hid (show ∀ q u, ([.slice a3 y1 c3, .slice a4 V2 c4] : List Value)[q]? = some u → (w2.alloc (.cells #[.slice a3 y1 c3, .slice a4 V2 c4] 72)).cell? ⟨w2.heap.size, q, none⟩ = some u from fun q u hq => by rw [cell_new]; simpa using hq)
      have HON := Lib.hid (show ∀ u ∈ ([.slice a3 y1 c3, .slice a4 V2 c4] : List Value), u.oneCell' = true from fun u hu => by
        simp at hu
        rcases hu with rfl | rfl <;> rfl)
      have HJ := Lib.hid (show m ≤ 1048576 by have := HM.out; omega)
      go_wp2_with (refine wpList_append_one rfl (.tmp 103) (.tmp 116) 46 72 rfl w.heap.size 2 48 _ Try.underlying46 infoPair' rfl (Nat.succ_pos _) (by decide) (.slice pa m pc) m _ rfl HOA.out w2.heap.size 1 rfl [.slice a3 y1 c3, .slice a4 V2 c4] rfl HCB.out HON.out HJ.out HBS.out ?_)
      intro v5 w5 ho5 hT5
      obtain ⟨pa5, pc5, rfl, _⟩ := own_row ho5.out
      have HO5 := Lib.hid (show w5.ownsRow w.heap.size 72 2 (.slice pa5 (m + 1) pc5) (m + 1) (flat 2 (addV V m (.slice a3 y1 c3) (.slice a4 V2 c4)) (m + 1)) from by rw [addV_flat]; exact ho5.out)
      have HT5 := Lib.hid (show Touch Nil w w5 from (HT2.out.alloc _).trans' hT5.out fun b hb hs => by have := own_base HOA.out b hs; omega)
      clear ho5 hT5 HOA HCB HON HBS HJ HO2 HT2 HAT HAL HNUM2
      go_wp2_with fail
      go_roundw
      case rel =>
        obtain ⟨x1, x2, x3, x4, x5, x6⟩ := HX.out
        obtain ⟨r1, r2, r3⟩ := rd_next (some (kk, vv)) x2 HCC.out x3 HOK.out
        simp only [Option.toList_some] at r3
        refine ⟨x + 1, A6, m + 1, updC T x (some (kk, vv)), _, by omega, by go_num, rfl, by omega, HO5.out, Lib.hid ⟨by rw [r3, List.length_append, ← x1]; rfl, r1, r2, dis_next x4 (fun k v e c hc v' e' => ?_), fun i hi => ?_, fun i c => ?_⟩, HT5.out⟩
        · cases e
          obtain ⟨i, hi, ei⟩ := atL_ex ((cellsL_mem x).2 ⟨c, hc, e'⟩)
          exact HNO.out i (by rw [x1]; exact hi) (by rw [← ei])
        · rw [r3]
          by_cases e : i = m
          · rw [e, (addV_at V m _ _).1, (addV_at V m _ _).2, show atL (cellsL T x ++ [(kk, vv)]) m = (kk, vv) from by rw [x1]; exact atL_last _ _]
            exact ⟨HB3.out, HB4.out⟩
          · rw [addV_far V _ _ e, addV_far V _ _ e, atL_left _ (by rw [← x1]; omega)]
            exact x5 i (by omega)
        · unfold addV
          (repeat' split) <;> first | rfl | exact x6 _ _
      case measure => simp [intOf]; omega
  · obtain rfl : x = C := by omega
    have dx : decide ((x : Int) < (x : Int)) = false := by simp
    have HSAME := Lib.hid (fun n' T' (hi : IsImg seed l n' T') => rd_same (x := x) HX.out.2.1 (show N < 4294967296 by omega) HX.out.2.2.1 (by rw [HC.out]; omega) hi)
    have HLL := Lib.hid (show ∀ i, i < m → okP (some (atL (cellsL T x) i)) from fun i hi => by
      obtain ⟨c, hc, e⟩ := (cellsL_mem x).1 (atL_mem (P := cellsL T x) (i := i) (by rw [← HX.out.1]; exact hi))
      have := HX.out.2.2.1 c hc
      rw [e] at this
      exact this)
    by_cases hmN : m = N
    case neg =>
      have d3 : ((m : Int) != (N : Int)) = true := by simp; omega
      have HR := Lib.hid (show ∀ n T, ¬ IsImg seed l n T from fun n' T' hi => by
        obtain ⟨h1, h2, _⟩ := HSAME.out n' T' hi
        subst h1
        have h3 := hi.1.2.2.1
        rw [HC.out] at h3
        have h4 := cellsL_len (T := T) x
        have h5 := HX.out.1
        rw [frees_congr x h2] at h4
        omega)
      go_wp2_with fail
      refine (HCR.out _).mono ?_
      rintro e w' ⟨rfl, rfl⟩
      go_wp2_with fail
      go_ret2
      exact .inl ⟨rfl, HT.out, HR.out⟩
    obtain rfl : m = N := hmN
    have d3 : ((m : Int) != (m : Int)) = false := by simp
    have HRL := Lib.hid (show Rl wr pa m V (atL (cellsL T x)) from by
      refine ⟨fun h0 => ?_, fun i hi => (HX.out.2.2.2.2.1 i hi).1.keepN HT.out, fun i hi => (HX.out.2.2.2.2.1 i hi).2.keepN HT.out, HX.out.2.2.2.2.2⟩
      obtain ⟨ao', cap', e, hc⟩ := own_row HO.out
      cases e
      obtain ⟨g, rfl, _, hg, hcell⟩ := hc h0
      refine ⟨g, 0, rfl, hg, fun i hi c hc => ?_⟩
      rw [show 0 + i * 2 + c = i * 2 + c by omega, hcell _ (by omega)]
      exact flat_get 2 _ m i c hi hc)
    have HD := Lib.hid (show ∀ i j, i < m → j < m → i ≠ j → (atL (cellsL T x) i).1 ≠ (atL (cellsL T x) j).1 from fun i j hi hj hne => atL_ne (cellsL_dis x HX.out.2.2.2.1) (by rw [← HX.out.1]; exact hi) (by rw [← HX.out.1]; exact hj) hne)
    have HIN := Lib.hid (show ∀ q, InT x T q ↔ ∃ i, i < m ∧ q = atL (cellsL T x) i from fun q => by
      rw [← cellsL_mem]
      constructor
      · intro h
        obtain ⟨i, hi, e⟩ := atL_ex h
        exact ⟨i, by rw [HX.out.1]; exact hi, e⟩
      · rintro ⟨i, hi, e⟩
        rw [e]
        exact atL_mem (by rw [← HX.out.1]; exact hi))
    have HIM := Lib.hid (imageR_any seed pc HRL.out HNN.out (fun i hi => HLL.out i hi))
    go_wp2_with fail
    refine (HCR.out _).mono ?_
    rintro e w' ⟨rfl, rfl⟩
    go_wp2_with fail
    refine HIM.out.mono ?_
    rintro e w2 ⟨u, ord, rfl, hord, hown, ht2⟩
    have HORD := Lib.hid hord
    have HT2 := Lib.hid (HT.out.trans ht2)
    have HRL2 := Lib.hid (HRL.out.keepN ht2)
    obtain ⟨ua, uc, rfl, _, hsu⟩ := hown.bv
    rw [HC.out] at hsu ⊢
    obtain ⟨ao', _, e, _, hsl⟩ := (HBC.out.keepN HT2.out).bv
    injection e with ea eb ec
    subst ea
    clear eb ec
    have HREF := Lib.hid (show ∀ c, c < x → ∀ k v, refT seed x m ord (atL (cellsL T x)) c = some (k, v) → okP (some (k, v)) from fun c hc k v e => by
      rw [refT_eq] at e
      cases ei : refP seed x m ord (atL (cellsL T x)) c with
      | none => rw [ei] at e; cases e
      | some i =>
        rw [ei] at e
        have := HLL.out i (refP_lt (by omega) (by omega) HORD.out hc ei)
        simp only [Option.map_some, Option.some.injEq] at e
        rw [← e]
        exact this)
    have hbl := bodyB_len (T := refT seed x m ord (atL (cellsL T x))) (C := x) (fun c hc k v e => by have := HREF.out c hc k v e; exact ⟨this.2.1, this.2.2⟩) x (Nat.le_refl _)
    have HSM := Lib.hid (same_any (imageB m x (refT seed x m ord (atL (cellsL T x)))) l ua ao uc cap w2 (by simp [imageB, headB]; omega) (by have := HLN.out; omega) hsu hsl)
    rw [← HN.out] at HSM
    have HIMG := Lib.hid (show IsImg seed (imageB m x (refT seed x m ord (atL (cellsL T x)))) m (refT seed x m ord (atL (cellsL T x))) from by
      have := (refT_good (seed := seed) HNN.out HD.out HORD.out).1
      rw [HC.out] at this
      refine ⟨by rw [HC.out]; exact this, fun c hc => ?_, by rw [HC.out]⟩
      rw [HC.out] at hc
      cases e : refT seed x m ord (atL (cellsL T x)) c with
      | none => trivial
      | some q => obtain ⟨k, v⟩ := q; exact HREF.out c hc k v e)
    have HRIN := Lib.hid (show ∀ q, InT (cellsN m) (refT seed x m ord (atL (cellsL T x))) q ↔ ∃ i, i < m ∧ q = atL (cellsL T x) i from by
      have := (refT_good (seed := seed) HNN.out HD.out HORD.out).2
      rw [HC.out] at this ⊢
      exact this)
    by_cases heq : imageB m x (refT seed x m ord (atL (cellsL T x))) = l
    · rw [decide_eq_true heq] at HSM
      have HEQ := Lib.hid heq
      clear heq hsu hsl hown ht2 hord hbl
      generalize (imageB m x (refT seed x m ord (atL (cellsL T x)))).length = il at *
      go_wp2_with fail
      refine HSM.out.mono ?_
      rintro e w3 ⟨rfl, ht3⟩
      go_wp2_with fail
      go_ret2
      exact .inr ⟨m, _, pa, pc, V, atL (cellsL T x), by have := HIMG.out; rw [HEQ.out] at this; exact this, rfl, HRL2.out.keepN ht3, HRIN.out, HT2.out.trans ht3⟩
    · rw [decide_eq_false heq] at HSM
      have HR := Lib.hid (show ∀ n T, ¬ IsImg seed l n T from fun n' T' hi => by
        obtain ⟨h1, h2, _⟩ := HSAME.out n' T' hi
        subst h1
        apply heq
        rw [hi.2.2, HC.out]
        have h3 := refT_only (seed := seed) (T := T') HNN.out HD.out HORD.out hi.1 (fun q => by
          rw [HC.out, ← HIN.out]
          constructor
          · rintro ⟨c, hc, e⟩; exact ⟨c, hc, by rw [h2 c hc]; exact e⟩
          · rintro ⟨c, hc, e⟩; exact ⟨c, hc, by rw [← h2 c hc]; exact e⟩)
        rw [HC.out] at h3
        exact (imageB_congr h3).symm)
      clear heq hsu hsl hown ht2 hord hbl
      generalize (imageB m x (refT seed x m ord (atL (cellsL T x)))).length = il at *
      go_wp2_with fail
      refine HSM.out.mono ?_
      rintro e w3 ⟨rfl, ht3⟩
      go_wp2_with fail
      go_ret2
      exact .inl ⟨rfl, HT2.out.trans ht3, HR.out⟩
end Go.Proofs.Ytabjpejgnfeegaa
