import Derived.Test.YticddcnlafbkoaaDoorVbase
/- The reference's Compare and what rests on it; lengths that are allowed. -/
namespace Go.Proofs.YticddcnlafbkoaaDoor
open Go.ChangeShapes Go.WideShapes Go.ChangeAt Go.RowKit Go.Deep

/-- What the reference's Compare answers. -/
def cmpR : Key → Key → Int
  | [], b => - (b.length : Int)
  | a, [] => (a.length : Int)
  | x :: a, y :: b => if x = y then cmpR a b else (x.toNat : Int) - (y.toNat : Int)
theorem cmpR_zero : ∀ a b : Key, cmpR a b = 0 ↔ a = b
  | [], [] => by simp [cmpR]
  | [], y :: b => by simp [cmpR]; omega
  | x :: a, [] => by simp [cmpR]; omega
  | x :: a, y :: b => by
    simp only [cmpR]
    by_cases h : x = y
    · rw [if_pos h, cmpR_zero a b, h]; simp
    · have : x.toNat ≠ y.toNat := fun e => h (UInt8.toNat_inj.1 e)
      rw [if_neg h]; simp [h]; omega
theorem cmpR_neg : ∀ a b : Key, cmpR a b < 0 ↔ Lib.compareBytes a b < 0
  | [], [] => by simp [cmpR, Lib.compareBytes]
  | [], y :: b => by simp only [cmpR, Lib.compareBytes, List.length_cons]; omega
  | x :: a, [] => by simp only [cmpR, Lib.compareBytes, List.length_cons]; omega
  | x :: a, y :: b => by
    simp only [cmpR, Lib.compareBytes]
    by_cases h : x = y
    · subst h
      rw [if_pos rfl, if_neg (UInt8.lt_irrefl x), if_neg (UInt8.lt_irrefl x)]
      exact cmpR_neg a b
    · have hn : x.toNat ≠ y.toNat := fun e => h (UInt8.toNat_inj.1 e)
      rw [if_neg h]
      by_cases g : x < y
      · have := UInt8.lt_iff_toNat_lt.1 g
        rw [if_pos g]; omega
      · have g2 : y < x := UInt8.lt_iff_toNat_lt.2 (by have : ¬ x.toNat < y.toNat := fun h => g (UInt8.lt_iff_toNat_lt.2 h); omega)
        have := UInt8.lt_iff_toNat_lt.1 g2
        rw [if_neg g, if_pos g2]; omega
theorem cmpR_step {a b : Key} {i : Nat} (ha : i < a.length) (hb : i < b.length) :
    cmpR (a.drop i) (b.drop i) = if a.getD i 0 = b.getD i 0 then cmpR (a.drop (i + 1)) (b.drop (i + 1)) else ((a.getD i 0).toNat : Int) - ((b.getD i 0).toNat : Int) := by
  rw [List.drop_eq_getElem_cons ha, List.drop_eq_getElem_cons hb]
  simp only [cmpR]
  simp [List.getD_eq_getElem?_getD, ha, hb]
theorem cmpR_end {a b : Key} {i : Nat} (hi : i ≤ a.length ∧ i ≤ b.length) (h : i = a.length ∨ i = b.length) : cmpR (a.drop i) (b.drop i) = (a.length : Int) - (b.length : Int) := by
  rcases h with h | h
  · have e : a.drop i = [] := List.drop_of_length_le (by omega)
    rw [e]
    simp only [cmpR, List.length_drop]; omega
  · have e : b.drop i = [] := List.drop_of_length_le (by omega)
    rw [e]
    cases hd : a.drop i with
    | nil => have := congrArg List.length hd; simp at this; simp [cmpR]; omega
    | cons c l => have := congrArg List.length hd; simp at this; simp [cmpR]; omega
theorem cmpR_bd : ∀ a b : Key, - (b.length : Int) - 255 ≤ cmpR a b ∧ cmpR a b ≤ (a.length : Int) + 255
  | [], b => by simp [cmpR]; omega
  | x :: a, [] => by simp [cmpR]; omega
  | x :: a, y :: b => by
    simp only [cmpR, List.length_cons]
    have := cmpR_bd a b
    have := x.toNat_lt
    have := y.toNat_lt
    split <;> omega

def CmpRP (r : Int) (w : World) (e : Ending) (w' : World) : Prop := e = .returned (.int .i64 r) ∧ ∃ k, w' = w.drewN k
set_option maxRecDepth 100000 in
set_option maxHeartbeats 2000000 in
theorem compareR_any (a b : Key) (ao bo : Option Addr) (c1 c2 : Nat) (w : World) (hl : a.length ≤ 1000000000) (hl2 : b.length ≤ 1000000000) (ha : SlI w .u8 ao (ub a)) (hb : SlI w .u8 bo (ub b)) :
    Calls Tryd.prog 10 #[.slice ao a.length c1, .slice bo b.length c2] w (CmpRP (cmpR a b) w) := by
  have HA := Lib.hid ha
  have HB := Lib.hid hb
  have HE : ∃ la, a.length = la := ⟨_, rfl⟩
  obtain ⟨la, ela⟩ := HE
  have HE : ∃ lb, b.length = lb := ⟨_, rfl⟩
  obtain ⟨lb, elb⟩ := HE
  rw [ela] at hl ⊢
  rw [elb] at hl2 ⊢
  have HLA := Lib.hid ela
  have HLB := Lib.hid elb
  clear ha hb ela elb
  go_enter Tryd.func10, Tryd.ntmps10
  go_wp2_with fail
  go_loopw [5] (fun i wr => ∃ x k : Nat, x ≤ la ∧ x ≤ lb ∧ i = .int .i64 (x : Int) ∧ Hid (cmpR (a.drop x) (b.drop x) = cmpR a b) ∧ Hid (wr = w.drewN k)) (fun i _ => la - (intOf i).toNat)
  case atStart => exact ⟨0, 0, Nat.zero_le _, Nat.zero_le _, rfl, Lib.hid rfl, Lib.hid rfl⟩
  obtain ⟨x, k, hxa, hxb, rfl, HC, HW⟩ := hrel
  by_cases h1 : x < la
  · by_cases h2 : x < lb
    · obtain ⟨ab, aoff, rfl, hca⟩ := HA.out x (by rw [ub_length, HLA.out]; exact h1)
      obtain ⟨bb, boff, rfl, hcb⟩ := HB.out x (by rw [ub_length, HLB.out]; exact h2)
      rw [ub_getD a x (by rw [HLA.out]; exact h1)] at hca
      rw [ub_getD b x (by rw [HLB.out]; exact h2)] at hcb
      have HST := Lib.hid (cmpR_step (a := a) (b := b) (i := x) (by rw [HLA.out]; exact h1) (by rw [HLB.out]; exact h2))
      have HE : ∃ p, a.getD x 0 = p := ⟨_, rfl⟩
      obtain ⟨p, ep⟩ := HE
      have HE : ∃ q, b.getD x 0 = q := ⟨_, rfl⟩
      obtain ⟨q, eq⟩ := HE
      rw [ep] at hca
      rw [eq] at hcb
      rw [ep, eq] at HST
      have hca' : wr.cell? ⟨ab, aoff + x, none⟩ = some (.int .u8 ((p.toNat : Nat) : Int)) := by rw [HW.out]; exact hca
      have hcb' : wr.cell? ⟨bb, boff + x, none⟩ = some (.int .u8 ((q.toNat : Nat) : Int)) := by rw [HW.out]; exact hcb
      have hp := p.toNat_lt
      have hq := q.toNat_lt
      clear ep eq hca hcb
      have t1 : decide (x < la) = true := by simpa using h1
      have t2 : decide (x < lb) = true := by simpa using h2
      have i1 : ((x : Nat) : Int) < (la : Int) := by omega
      have i2 : ((x : Nat) : Int) < (lb : Int) := by omega
      have i3 : (0 : Int) ≤ (x : Int) := by omega
      by_cases hpq : p = q
      · have hbne : (((p.toNat : Nat) : Int) != ((q.toNat : Nat) : Int)) = false := by simp [hpq]
        have HPQ := Lib.hid hpq
        clear hpq
        go_wp2_with fail
        go_quiet (fail)
        go_wp2_with fail
        go_roundw
        case rel =>
          refine ⟨x + 1, k + nq, by omega, by omega, by go_num, Lib.hid ?_, Lib.hid (by rw [HW.out]; exact World.drewN_drewN ..)⟩
          rw [← HC.out, HST.out, HPQ.out]
          simp
        case measure => simp [intOf]; omega
      · have hbne : (((p.toNat : Nat) : Int) != ((q.toNat : Nat) : Int)) = true := by
          rw [bne_iff_ne]
          intro e
          exact hpq (UInt8.toNat_inj.1 (by omega))
        have HF := Lib.hid (show cmpR a b = ((p.toNat : Nat) : Int) - ((q.toNat : Nat) : Int) from by rw [← HC.out, HST.out, if_neg hpq])
        have hP : ∃ pn : Nat, p.toNat = pn := ⟨_, rfl⟩
        obtain ⟨pn, epn⟩ := hP
        have hQ : ∃ qn : Nat, q.toNat = qn := ⟨_, rfl⟩
        obtain ⟨qn, eqn⟩ := hQ
        rw [epn] at hca' hbne HF hp
        rw [eqn] at hcb' hbne HF hq
        have hp2 : pn ≤ 255 := by omega
        have hq2 : qn ≤ 255 := by omega
        clear hpq epn eqn hp hq
        go_wp2_with fail
        go_quiet (fail)
        go_wp2_with (go_quiet (fail))
        go_ret
        exact ⟨ret_int (by rw [HF.out]), _, by rw [HW.out, World.drewN_drewN, World.drewN_drewN]⟩
    · have t1 : decide (x < la) = true := by simpa using h1
      have t2 : decide (x < lb) = false := by simpa using h2
      have i1 : ((x : Nat) : Int) < (la : Int) := by omega
      have HF := Lib.hid (show cmpR a b = (la : Int) - (lb : Int) from by rw [← HC.out, cmpR_end (by rw [HLA.out, HLB.out]; omega) (by rw [HLA.out, HLB.out]; omega), HLA.out, HLB.out])
      go_wp2_with fail
      go_ret
      exact ⟨ret_int (by rw [HF.out]), _, HW.out⟩
  · have t1 : decide (x < la) = false := by simpa using h1
    have HF := Lib.hid (show cmpR a b = (la : Int) - (lb : Int) from by rw [← HC.out, cmpR_end (by rw [HLA.out, HLB.out]; omega) (by rw [HLA.out, HLB.out]; omega), HLA.out, HLB.out])
    go_wp2_with fail
    go_ret
    exact ⟨ret_int (by rw [HF.out]), _, HW.out⟩

theorem BV.same {w : World} {x : Value} {a b : Key} (h : BV w x a) (k : BV w x b) : a = b := by
  obtain ⟨ao, c, rfl, _, h2⟩ := h
  obtain ⟨bo, d, e, _, k2⟩ := k
  injection e with e1 e2 e3
  subst e1
  apply List.ext_getElem?
  intro i
  by_cases hi : i < a.length
  · obtain ⟨b1, o1, f1, g1⟩ := h2 i (by simpa using hi)
    obtain ⟨b2, o2, f2, g2⟩ := k2 i (by simp; omega)
    rw [f1] at f2
    cases f2
    rw [g1, ub_getD _ _ hi, ub_getD _ _ (by omega)] at g2
    injection g2 with g2
    injection g2 with _ g2
    have : a.getD i 0 = b.getD i 0 := UInt8.toNat_inj.1 (by omega)
    simp only [List.getD_eq_getElem?_getD, List.getElem?_eq_getElem hi, List.getElem?_eq_getElem (show i < b.length by omega), Option.getD_some] at this
    rw [List.getElem?_eq_getElem hi, List.getElem?_eq_getElem (show i < b.length by omega), this]
  · rw [List.getElem?_eq_none (by omega), List.getElem?_eq_none (by omega)]
/-- Compare of bytes as values. -/
theorem compareV_any {w : World} {x y : Value} {a b : Key} (hx : BV w x a) (hy : BV w y b) (hl : a.length ≤ 1000000000) (hl2 : b.length ≤ 1000000000) :
    Calls Tryd.prog 10 #[x, y] w (CmpRP (cmpR a b) w) := by
  obtain ⟨ao, c1, rfl, _, ha⟩ := hx
  obtain ⟨bo, c2, rfl, _, hb⟩ := hy
  exact compareR_any a b ao bo c1 c2 w hl hl2 ha hb
end Go.Proofs.YticddcnlafbkoaaDoor
