import Derived.Test.YticddcnlafbkoaaDoorCmp
import Derived.Test.YticddcnlafbkoaaDoorLay
/- The home of a key and the order of the keys, by coins. -/
namespace Go.Proofs.YticddcnlafbkoaaDoor
open Go.ChangeShapes Go.WideShapes Go.ChangeAt Go.RowKit Go.Deep

def rankK (seed : Int) (k : Key) : Int := coin seed 2 (ub k)
/-- Whether the pair of one key comes before that of another one. -/
def bfS (seed : Int) (a b : Key) : Bool := decide (rankK seed b < rankK seed a) || (decide (rankK seed a = rankK seed b) && decide (Lib.compareBytes a b < 0))
/-- The home of a key among C cells. -/
def homS (seed : Int) (C : Nat) (k : Key) : Nat := (coin seed 1 (ub k) % (C : Int)).toNat

theorem homS_lt {C : Nat} (hC : 0 < C) (seed : Int) (k : Key) : homS seed C k < C := by
  unfold homS
  have h1 := Int.emod_nonneg (coin seed 1 (ub k)) (show (C : Int) ≠ 0 by omega)
  have h2 := Int.emod_lt_of_pos (coin seed 1 (ub k)) (show (0 : Int) < C by omega)
  omega
theorem homS_cast {C : Nat} (hC : 0 < C) (seed : Int) (k : Key) : coin seed 1 (ub k) % (C : Int) = ((homS seed C k : Nat) : Int) := by
  unfold homS
  have h1 := Int.emod_nonneg (coin seed 1 (ub k)) (show (C : Int) ≠ 0 by omega)
  omega
theorem bfS_iff (seed : Int) (a b : Key) : bfS seed a b = true ↔ rankK seed b < rankK seed a ∨ (rankK seed a = rankK seed b ∧ Lib.compareBytes a b < 0) := by simp [bfS]
theorem koS (seed : Int) : KO (bfS seed) where
  irrefl := fun a => by
    cases h : bfS seed a a
    · rfl
    · rw [bfS_iff, cmp_self] at h; omega
  trans := fun a b c h k => by
    rw [bfS_iff] at *
    rcases h with h | ⟨h, h'⟩ <;> rcases k with k | ⟨k, k'⟩
    · left; omega
    · left; omega
    · left; omega
    · right; exact ⟨by omega, cmp_trans a b c h' k'⟩
  tot := fun a b h => by
    rw [bfS_iff, bfS_iff]
    rcases Int.lt_trichotomy (rankK seed a) (rankK seed b) with o | o | o
    · right; left; exact o
    · have hne : Lib.compareBytes a b ≠ 0 := fun e => h (cmp_eq0 a b e)
      have hn := cmp_neg a b
      rcases Int.lt_or_gt_of_ne hne with g | g
      · left; right; exact ⟨o, g⟩
      · right; right; exact ⟨o.symm, by omega⟩
    · left; left; exact o

set_option maxHeartbeats 1000000 in
theorem home_any (seed : Int) (k : Key) (ao : Option Addr) (cap C : Nat) (w : World) (hC : 0 < C) (hC2 : C ≤ 1048576) (hk : k.length ≤ 1048576) (h : SlI w .u8 ao (ub k)) :
    Calls Tryd.prog 57 #[.int .u64 seed, .slice ao k.length cap, .int .i64 C] w fun e w' => e = .returned (.int .i64 ((homS seed C k : Nat) : Int)) ∧ w = w' := by
  have HCO := Lib.hid (by have := coinP_any seed 1 (ub k) ao cap w (by simp; omega) h; rw [ub_length] at this; exact this)
  have hbd := coin_bd seed 1 (ub k)
  have hlt := homS_lt hC seed k
  have hca := homS_cast hC seed k
  clear h
  generalize coin seed 1 (ub k) = x at *
  generalize homS seed C k = y at *
  have hz0 : ((C : Int) == 0) = false := by simp; omega
  obtain ⟨hb1, hb2⟩ := hbd
  go_enter Tryd.func57, Tryd.ntmps57
  go_wp2_with fail
  refine HCO.out.mono ?_
  rintro e w' ⟨rfl, rfl⟩
  go_wp2_with fail
  go_ret
  exact ⟨rfl, rfl⟩

set_option maxHeartbeats 1000000 in
theorem comesBefore_any (seed : Int) (a b : Key) (ao bo : Option Addr) (c1 c2 : Nat) (w : World) (ha : a.length ≤ 1048576) (hb : b.length ≤ 1048576) (h1 : SlI w .u8 ao (ub a)) (h2 : SlI w .u8 bo (ub b)) :
    Calls Tryd.prog 59 #[.int .u64 seed, .slice ao a.length c1, .slice bo b.length c2] w fun e w' => e = .returned (.bool (bfS seed a b)) ∧ w = w' := by
  have HA := Lib.hid (by have := coinP_any seed 2 (ub a) ao c1 w (by simp; omega) h1; rw [ub_length] at this; exact this)
  have HB := Lib.hid (by have := coinP_any seed 2 (ub b) bo c2 w (by simp; omega) h2; rw [ub_length] at this; exact this)
  have HC := Lib.hid (bytesCompare_any a b ao bo c1 c2 w h1 h2)
  have HR := Lib.hid (show bfS seed a b = (decide (coin seed 2 (ub b) < coin seed 2 (ub a)) || (decide (coin seed 2 (ub a) = coin seed 2 (ub b)) && decide (Lib.compareBytes a b < 0))) from rfl)
  clear h1 h2
  generalize bfS seed a b = r at *
  generalize coin seed 2 (ub a) = x at *
  generalize coin seed 2 (ub b) = y at *
  generalize Lib.compareBytes a b = z at *
  rcases Int.lt_trichotomy y x with o | o | o
  · have hd : decide (y < x) = true := by simpa using o
    go_enter Tryd.func59, Tryd.ntmps59
    go_wp2_with fail
    refine HA.out.mono ?_
    rintro e w' ⟨rfl, rfl⟩
    go_wp2_with fail
    refine HB.out.mono ?_
    rintro e w' ⟨rfl, rfl⟩
    go_wp2_with fail
    go_ret
    exact ⟨by rw [HR.out, hd]; rfl, rfl⟩
  · have hd : decide (y < x) = false := by simp; omega
    have hq : ((x : Int) == y) = true := by simp; omega
    have HQ := Lib.hid (show decide (x = y) = true by simp; omega)
    have HD := Lib.hid hd
    have HO := Lib.hid o
    clear o
    go_enter Tryd.func59, Tryd.ntmps59
    go_wp2_with fail
    refine HA.out.mono ?_
    rintro e w' ⟨rfl, rfl⟩
    go_wp2_with fail
    refine HB.out.mono ?_
    rintro e w' ⟨rfl, rfl⟩
    go_wp2_with fail
    refine HC.out.mono ?_
    rintro e w' ⟨rfl, rfl⟩
    go_wp2_with fail
    go_ret
    exact ⟨by rw [HR.out, HD.out, HQ.out]; rfl, rfl⟩
  · have hd : decide (y < x) = false := by simp; omega
    have hq : ((x : Int) == y) = false := by simp; omega
    have HQ := Lib.hid (show decide (x = y) = false by simp; omega)
    have HD := Lib.hid hd
    go_enter Tryd.func59, Tryd.ntmps59
    go_wp2_with fail
    refine HA.out.mono ?_
    rintro e w' ⟨rfl, rfl⟩
    go_wp2_with fail
    refine HB.out.mono ?_
    rintro e w' ⟨rfl, rfl⟩
    go_wp2_with fail
    go_ret
    exact ⟨by rw [HR.out, HD.out, HQ.out]; rfl, rfl⟩

/-- The number of cells of a table of so many pairs. -/
def cfR : Nat → Nat → Nat → Nat
  | 0, _, c => c
  | f + 1, n, c => if 3 * c < 4 * n then cfR f n (2 * c) else c
def cellsN (n : Nat) : Nat := cfR 18 n 8

theorem cfR_spec : ∀ f n c, 4 * n ≤ 3 * (c * 2 ^ f) → 4 * n ≤ 3 * cfR f n c ∧ c ≤ cfR f n c ∧ (c < cfR f n c → 3 * (cfR f n c / 2) < 4 * n)
  | 0, n, c, h => by simp only [cfR]; simp at h; omega
  | f + 1, n, c, h => by
    by_cases g : 3 * c < 4 * n
    · simp only [cfR, g, if_true]
      obtain ⟨h1, h2, h3⟩ := cfR_spec f n (2 * c) (by rw [Nat.pow_succ] at h; rw [Nat.mul_comm 2 c, Nat.mul_assoc, Nat.mul_comm 2]; exact h)
      refine ⟨h1, by omega, fun _ => ?_⟩
      by_cases e : 2 * c < cfR f n (2 * c)
      · exact h3 e
      · have : cfR f n (2 * c) = 2 * c := by omega
        rw [this]; omega
    · simp only [cfR, g, if_false]; omega
theorem cellsN_spec (n : Nat) (h : n ≤ 100001) : 8 ≤ cellsN n ∧ cellsN n ≤ 300000 ∧ 4 * n ≤ 3 * cellsN n ∧ (8 < cellsN n → 3 * (cellsN n / 2) < 4 * n) := by
  obtain ⟨h1, h2, h3⟩ := cfR_spec 18 n 8 (by simp only [Nat.reducePow, Nat.reduceMul]; omega)
  have e : cfR 18 n 8 = cellsN n := rfl
  rw [e] at h1 h2 h3
  refine ⟨h2, ?_, h1, h3⟩
  by_cases g : 8 < cellsN n
  · have := h3 g; omega
  · omega
theorem cfR_pow : ∀ f n c, ∃ j, cfR f n c = c * 2 ^ j
  | 0, _, c => ⟨0, by simp [cfR]⟩
  | f + 1, n, c => by
    unfold cfR
    split
    · obtain ⟨j, e⟩ := cfR_pow f n (2 * c)
      exact ⟨j + 1, by rw [e, Nat.pow_succ, Nat.mul_comm 2 c, Nat.mul_assoc, Nat.mul_comm 2]⟩
    · exact ⟨0, by simp⟩
theorem cellsN_pow (n : Nat) : ∃ j, cellsN n = 2 ^ (j + 3) := by
  obtain ⟨j, e⟩ := cfR_pow 18 n 8
  exact ⟨j, by unfold cellsN; rw [e, Nat.pow_add]; omega⟩

set_option maxHeartbeats 1000000 in
theorem cellsFor_any (n : Nat) (w : World) (hn : n ≤ 100001) :
    Calls Tryd.prog 61 #[.int .i64 n] w fun e w' => e = .returned (.int .i64 ((cellsN n : Nat) : Int)) ∧ w = w' := by
  have HK := Lib.hid (show cellsN n = cfR 18 n 8 from rfl)
  generalize cellsN n = r at *
  go_enter Tryd.func61, Tryd.ntmps61
  go_wp2_with fail
  go_loopw [3] (fun i wr => ∃ f c : Nat, i = .int .i64 c ∧ Hid (r = cfR f n c ∧ c * 2 ^ f = 2097152) ∧ 8 ≤ c ∧ wr = w) (fun i _ => 2097152 - (intOf i).toNat)
  case atStart => exact ⟨18, 8, rfl, Lib.hid ⟨HK.out, by decide⟩, by omega, rfl⟩
  obtain ⟨f, c, rfl, HF, hc, rfl⟩ := hrel
  have hc2 : c ≤ 2097152 := by
    have := HF.out.2
    have h2 := Nat.two_pow_pos f
    calc c = c * 1 := by omega
      _ ≤ c * 2 ^ f := Nat.mul_le_mul_left _ h2
      _ = 2097152 := this
  by_cases hlt : 3 * c < 4 * n
  · have hd : decide (3 * (c : Int) < 4 * (n : Int)) = true := by simp; omega
    go_wp2_with fail
    go_roundw
    case rel =>
      cases f with
      | zero => have := HF.out.2; simp at this; omega
      | succ f =>
        refine ⟨f, 2 * c, by go_num, Lib.hid ⟨by rw [HF.out.1]; simp [cfR, hlt], ?_⟩, by omega, by first | rfl | trivial⟩
        have := HF.out.2
        rw [Nat.pow_succ] at this
        rw [Nat.mul_comm 2 c, Nat.mul_assoc, Nat.mul_comm 2]; exact this
    case measure => simp [intOf]; omega
  · have hd : decide (3 * (c : Int) < 4 * (n : Int)) = false := by simp; omega
    have HR := Lib.hid (show c = r by
      rw [HF.out.1]
      cases f with
      | zero => rfl
      | succ f => simp [cfR, hlt])
    go_wp2_with fail
    go_ret
    exact ⟨by rw [HR.out]; rfl, rfl⟩
end Go.Proofs.YticddcnlafbkoaaDoor
