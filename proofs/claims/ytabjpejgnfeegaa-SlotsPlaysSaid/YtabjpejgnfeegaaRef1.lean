import Derived.Test.YtabjpejgnfeegaaKeys
/- The reference's Less, Same, Before. -/
namespace Go.Proofs.Ytabjpejgnfeegaa
open Go.ChangeShapes Go.WideShapes Go.ChangeAt Go.RowKit Go.Deep

def lessB (a b : List UInt8) : Bool := decide (Lib.compareBytes a b < 0)
theorem cmp_step {a b : List UInt8} {i : Nat} (ha : i < a.length) (hb : i < b.length) :
    Lib.compareBytes (a.drop i) (b.drop i) = if a.getD i 0 < b.getD i 0 then -1 else if b.getD i 0 < a.getD i 0 then 1 else Lib.compareBytes (a.drop (i + 1)) (b.drop (i + 1)) := by
  rw [List.drop_eq_getElem_cons ha, List.drop_eq_getElem_cons hb]
  simp only [Lib.compareBytes]
  simp [List.getD_eq_getElem?_getD, ha, hb]
theorem cmp_end {a b : List UInt8} {i : Nat} (hi : i ≤ a.length ∧ i ≤ b.length) (h : i = a.length ∨ i = b.length) : decide (Lib.compareBytes (a.drop i) (b.drop i) < 0) = decide (a.length < b.length) := by
  rcases h with h | h
  · have e : a.drop i = [] := List.drop_of_length_le (by omega)
    rw [e]
    by_cases g : a.length < b.length
    · rw [List.drop_eq_getElem_cons (show i < b.length by omega)]
      simp [Lib.compareBytes, g]
    · have e2 : b.drop i = [] := List.drop_of_length_le (by omega)
      rw [e2]; simp [Lib.compareBytes, g]
  · have e : b.drop i = [] := List.drop_of_length_le (by omega)
    rw [e]
    have g : ¬ a.length < b.length := by omega
    cases hd : a.drop i with
    | nil => simp [Lib.compareBytes, g]
    | cons c l => simp [Lib.compareBytes, g]

set_option maxHeartbeats 2000000 in
theorem less_any (a b : List UInt8) (ao bo : Option Addr) (c1 c2 : Nat) (w : World) (hl : a.length ≤ 9223372036854775807) (_hl2 : b.length ≤ 9223372036854775807) (ha : SlI w .u8 ao (ub a)) (hb : SlI w .u8 bo (ub b)) :
    Calls Try.prog 52 #[.slice ao a.length c1, .slice bo b.length c2] w fun e w' => e = .returned (.bool (lessB a b)) ∧ ∃ k, w' = w.drewN k := by
  have HA := Lib.hid ha
  have HB := Lib.hid hb
  have HR := Lib.hid (show lessB a b = decide (Lib.compareBytes a b < 0) from rfl)
  have HE : ∃ la, a.length = la := ⟨_, rfl⟩
  obtain ⟨la, ela⟩ := HE
  have HE : ∃ lb, b.length = lb := ⟨_, rfl⟩
  obtain ⟨lb, elb⟩ := HE
  rw [ela] at hl ⊢
  rw [elb] at _hl2 ⊢
  clear _hl2
  have HLA := Lib.hid ela
  have HLB := Lib.hid elb
  clear ha hb ela elb
  go_enter Try.func52, Try.ntmps52
  go_wp2_with fail
  go_loopw [5] (fun i wr => ∃ x k : Nat, x ≤ la ∧ x ≤ lb ∧ i = .int .i64 (x : Int) ∧ Hid (Lib.compareBytes (a.drop x) (b.drop x) = Lib.compareBytes a b) ∧ Hid (wr = w.drewN k)) (fun i _ => la - (intOf i).toNat)
  case atStart => exact ⟨0, 0, Nat.zero_le _, Nat.zero_le _, rfl, Lib.hid rfl, Lib.hid rfl⟩
  obtain ⟨x, k, hxa, hxb, rfl, HC, HW⟩ := hrel
  have d0 : ((x : Nat) : Int) = (x : Int) := rfl
  by_cases h1 : x < la
  · by_cases h2 : x < lb
    · obtain ⟨ab, aoff, rfl, hca⟩ := HA.out x (by rw [ub_length, HLA.out]; exact h1)
      obtain ⟨bb, boff, rfl, hcb⟩ := HB.out x (by rw [ub_length, HLB.out]; exact h2)
      rw [ub_getD a x (by rw [HLA.out]; exact h1)] at hca
      rw [ub_getD b x (by rw [HLB.out]; exact h2)] at hcb
      have HST := Lib.hid (cmp_step (a := a) (b := b) (i := x) (by rw [HLA.out]; exact h1) (by rw [HLB.out]; exact h2))
      have HE : ∃ p, a.getD x 0 = p := ⟨_, rfl⟩
      obtain ⟨p, ep⟩ := HE
      have HE : ∃ q, b.getD x 0 = q := ⟨_, rfl⟩
      obtain ⟨q, eq⟩ := HE
      rw [ep] at hca
      rw [eq] at hcb
      rw [ep, eq] at HST
      have hca' : wr.cell? ⟨ab, aoff + x, none⟩ = some (.int .u8 ((p.toNat : Nat) : Int)) := by rw [HW.out]; exact hca
      have hcb' : wr.cell? ⟨bb, boff + x, none⟩ = some (.int .u8 ((q.toNat : Nat) : Int)) := by rw [HW.out]; exact hcb
      clear ep eq hca hcb
      have t1 : decide (x < la) = true := by simpa using h1
      have t2 : decide (x < lb) = true := by simpa using h2
      have i1 : ((x : Nat) : Int) < (la : Int) := by omega
      have i2 : ((x : Nat) : Int) < (lb : Int) := by omega
      have i3 : (0 : Int) ≤ (x : Int) := by omega
      by_cases hpq : p = q
      · have hbne : (((p.toNat : Nat) : Int) != ((q.toNat : Nat) : Int)) = false := by simp [hpq]
        have HPQ := Lib.hid hpq
        clear hpq
        go_wp2_with fail
        go_quiet (fail)
        go_wp2_with fail
        go_roundw
        case rel =>
          refine ⟨x + 1, k + nq, by omega, by omega, by go_num, Lib.hid ?_, Lib.hid (by rw [HW.out]; exact World.drewN_drewN ..)⟩
          rw [← HC.out, HST.out, HPQ.out]
          simp
        case measure => simp [intOf]; omega
      · have hbne : (((p.toNat : Nat) : Int) != ((q.toNat : Nat) : Int)) = true := by
          rw [bne_iff_ne]
          intro e
          exact hpq (UInt8.toNat_inj.1 (by omega))
        have HF := Lib.hid (show lessB a b = decide (p.toNat < q.toNat) from by
          rw [HR.out, ← HC.out, HST.out]
          by_cases g : p < q
          · have := UInt8.lt_iff_toNat_lt.1 g
            rw [if_pos g]; simp [this]
          · have g2 : ¬ p.toNat < q.toNat := fun h => g (UInt8.lt_iff_toNat_lt.2 h)
            have g3 : q < p := UInt8.lt_iff_toNat_lt.2 (by have : p.toNat ≠ q.toNat := fun e => hpq (UInt8.toNat_inj.1 e); omega)
            rw [if_neg g, if_pos g3]; simp [g2])
        clear hpq
        go_wp2_with fail
        go_quiet (fail)
        go_wp2_with fail
        go_quiet (fail)
        go_wp2_with fail
        go_ret
        exact ⟨by rw [HF.out]; rfl, _, by rw [HW.out, World.drewN_drewN, World.drewN_drewN]⟩
    · have hx : x = lb := by omega
      have t1 : decide (x < la) = true := by simpa using h1
      have t2 : decide (x < lb) = false := by simpa using h2
      have HF := Lib.hid (show lessB a b = decide (la < lb) from by rw [HR.out, ← HC.out, cmp_end ⟨by rw [HLA.out]; omega, by rw [HLB.out]; omega⟩ (.inr (by rw [HLB.out]; omega)), HLA.out, HLB.out])
      have i2 : ¬ ((x : Nat) : Int) < (lb : Int) := by omega
      go_wp2_with fail
      go_ret
      exact ⟨by rw [HF.out]; first | rfl | simp, k, HW.out⟩
  · have hx : x = la := by omega
    have t1 : decide (x < la) = false := by simpa using h1
    have HF := Lib.hid (show lessB a b = decide (la < lb) from by rw [HR.out, ← HC.out, cmp_end ⟨by rw [HLA.out]; omega, by rw [HLB.out]; omega⟩ (.inl (by rw [HLA.out]; omega)), HLA.out, HLB.out])
    go_wp2_with fail
    go_ret
    exact ⟨by rw [HF.out]; first | rfl | simp, k, HW.out⟩

theorem lessB_same (a b : List UInt8) : (!lessB a b && !lessB b a) = decide (a = b) := by
  unfold lessB
  have hn := cmp_neg a b
  by_cases h : a = b
  · subst h; rw [cmp_self]; simp
  · have hne : Lib.compareBytes a b ≠ 0 := fun e => h (cmp_eq0 a b e)
    rw [hn]
    by_cases g : Lib.compareBytes a b < 0
    · simp [h, g]
    · have : - Lib.compareBytes a b < 0 := by omega
      simp [h]; omega

set_option maxHeartbeats 2000000 in
theorem same_q (a b : List UInt8) (ao bo : Option Addr) (c1 c2 : Nat) (w : World) (hl : a.length ≤ 9223372036854775807) (hl2 : b.length ≤ 9223372036854775807) (ha : SlI w .u8 ao (ub a)) (hb : SlI w .u8 bo (ub b)) :
    Calls Try.prog 25 #[.slice ao a.length c1, .slice bo b.length c2] w fun e w' => e = .returned (.bool (decide (a = b))) ∧ ∃ k, w' = w.drewN k := by
  have HR := Lib.hid (lessB_same a b)
  have H1 := Lib.hid (less_any a b ao bo c1 c2 w hl hl2 ha hb)
  have H2 := Lib.hid (fun k => less_any b a bo ao c2 c1 (w.drewN k) hl2 hl hb ha)
  clear ha hb
  cases h1 : lessB a b
  all_goals
    rw [h1] at H1 HR
    clear h1
  · cases h2 : lessB b a
    all_goals
      rw [h2] at H2 HR
      clear h2
      go_enter Try.func25, Try.ntmps25
      go_wp2_with fail
      refine H1.out.mono ?_
      rintro e w' ⟨rfl, k, rfl⟩
      go_wp2_with fail
      refine (H2.out k).mono ?_
      rintro e w' ⟨rfl, k2, rfl⟩
      go_wp2_with fail
      go_ret
      exact ⟨by rw [← HR.out]; rfl, k + k2, rfl⟩
  · go_enter Try.func25, Try.ntmps25
    go_wp2_with fail
    refine H1.out.mono ?_
    rintro e w' ⟨rfl, k, rfl⟩
    go_wp2_with fail
    go_ret
    exact ⟨by rw [← HR.out]; rfl, k, rfl⟩

theorem same_any (a b : List UInt8) (ao bo : Option Addr) (c1 c2 : Nat) (w : World) (hl : a.length ≤ 9223372036854775807) (hl2 : b.length ≤ 9223372036854775807) (ha : SlI w .u8 ao (ub a)) (hb : SlI w .u8 bo (ub b)) :
    Calls Try.prog 25 #[.slice ao a.length c1, .slice bo b.length c2] w fun e w' => e = .returned (.bool (decide (a = b))) ∧ Touch Nil w w' :=
  (same_q a b ao bo c1 c2 w hl hl2 ha hb).mono fun _ _ ⟨he, k, hk⟩ => ⟨he, by rw [hk]; exact (Touch.refl Nil w).drewN k⟩

/-- Whether one item comes before another one. -/
def befI (r s : Int) (a b : List UInt8) : Bool := decide (s < r) || (decide (r = s) && lessB a b)
set_option maxHeartbeats 2000000 in
theorem before_any (r s : Int) (a b : List UInt8) (u v : Value) (ao bo : Option Addr) (c1 c2 : Nat) (w : World) (_hu : u.oneCell' = true) (_hv : v.oneCell' = true) (hl : a.length ≤ 9223372036854775807) (hl2 : b.length ≤ 9223372036854775807) (ha : SlI w .u8 ao (ub a)) (hb : SlI w .u8 bo (ub b)) :
    Calls Try.prog 44 #[.agg #[u, .int .u64 r, .slice ao a.length c1], .agg #[v, .int .u64 s, .slice bo b.length c2]] w fun e w' => e = .returned (.bool (befI r s a b)) ∧ Touch Nil w w' := by
  have HR := Lib.hid (show befI r s a b = (decide (s < r) || (decide (r = s) && lessB a b)) from rfl)
  have H1 := Lib.hid (fun w' (ht : Touch Nil w w') => less_any a b ao bo c1 c2 w' hl hl2 (ha.keepN ht) (hb.keepN ht))
  clear ha hb
  by_cases h : r = s
  · have hb : ((r : Int) != s) = false := by simp [h]
    have HE := Lib.hid h
    clear h
    go_enter Try.func44, Try.ntmps44
    go_wp2_with fail
    refine (H1.out _ (((Touch.refl Nil w).alloc _).alloc _)).mono ?_
    rintro e w' ⟨rfl, k, rfl⟩
    go_wp2_with fail
    go_ret
    exact ⟨by rw [HR.out, HE.out]; simp, (((Touch.refl Nil w).alloc _).alloc _).drewN k⟩
  · have hb : ((r : Int) != s) = true := by simp [h]
    have HE := Lib.hid h
    clear h
    go_enter Try.func44, Try.ntmps44
    go_wp2_with fail
    go_ret
    exact ⟨by rw [HR.out]; simp [HE.out], ((Touch.refl Nil w).alloc _).alloc _⟩

set_option maxHeartbeats 1000000 in
/-- Where an item begins. -/
theorem start_any (x : Int) (r y : Value) (w : World) (_hr : r.oneCell' = true) (_hy : y.oneCell' = true) :
    Calls Try.prog 45 #[.agg #[.int .i64 x, r, y]] w fun e w' => e = .returned (.int .i64 x) ∧ Touch Nil w w' := by
  go_enter Try.func45, Try.ntmps45
  go_wp2_with fail
  go_ret
  exact ⟨rfl, (Touch.refl Nil w).alloc _⟩
end Go.Proofs.Ytabjpejgnfeegaa
