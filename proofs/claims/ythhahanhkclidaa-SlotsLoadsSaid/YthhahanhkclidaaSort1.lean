import Derived.Test.YthhahanhkclidaaBase
import Derived.Test.YthhahanhkclidaaSortMath
/- The stable sort of package slices over a row of numbers: swapRange, rotate. -/
namespace Go.Proofs.Ythhahanhkclidaa
open Go.ChangeShapes Go.WideShapes Go.ChangeAt Go.RowKit Go.Deep

/-- Block b is a row of n ints, f their content. -/
def Ints (w : World) (b n : Nat) (f : Nat → Nat) : Prop := w.rowIs b 3 n (fun i => .int .i64 ((f i : Nat) : Int))

theorem Ints.cell {w : World} {b n : Nat} {f : Nat → Nat} (h : Ints w b n f) {i : Nat} (hi : i < n) : w.cell? ⟨b, i, none⟩ = some (.int .i64 ((f i : Nat) : Int)) := World.rowIs.cell h hi
theorem Ints.frozen {w : World} {b n : Nat} {f : Nat → Nat} (h : Ints w b n f) (i : Nat) : w.frozen? ⟨b, i, none⟩ = false := World.rowIs.frozen h i
theorem Ints.lt {w : World} {b n : Nat} {f : Nat → Nat} (h : Ints w b n f) : b < w.heap.size := World.rowIs.lt h
theorem Ints.congr {w : World} {b n : Nat} {f g : Nat → Nat} (h : Ints w b n f) (e : ∀ i, i < n → f i = g i) : Ints w b n g := World.rowIs.congr h fun i hi => by rw [e i hi]
theorem Ints.drew {w : World} {b n : Nat} {f : Nat → Nat} (h : Ints w b n f) : Ints w.drew b n f := h
theorem Ints.set {w : World} {b n : Nat} {f : Nat → Nat} (h : Ints w b n f) (i v : Nat) : Ints (w.setCell ⟨b, i, none⟩ (.int .i64 (v : Int))) b n (fun j => if j = i then v else f j) :=
  World.rowIs.congr (World.rowIs.set h i _) fun j _ => by by_cases e : j = i <;> simp [e]
theorem Ints.keep {S : Nat → Prop} {w w' : World} {b n : Nat} {f : Nat → Nat} (h : Ints w b n f) (ht : Touch S w w') (hn : ¬ S b) : Ints w' b n f := ht.row h hn
/-- An exchange of two places. -/
theorem Ints.swap {w : World} {b n : Nat} {f : Nat → Nat} (h : Ints w b n f) (i j : Nat) :
    Ints ((w.setCell ⟨b, i, none⟩ (.int .i64 ((f j : Nat) : Int))).setCell ⟨b, j, none⟩ (.int .i64 ((f i : Nat) : Int))) b n (swp f i j) :=
  ((h.set i (f j)).set j (f i)).congr fun _k _ => rfl
theorem touch_swap {w wr : World} {b i j : Nat} {u v : Value} (h : Touch (Just b) w wr) : Touch (Just b) w ((wr.setCell ⟨b, i, none⟩ u).setCell ⟨b, j, none⟩ v) :=
  (h.setCell ⟨b, i, none⟩ u fun _ => rfl).setCell ⟨b, j, none⟩ v fun _ => rfl

def IntsPost (blk n : Nat) (f : Nat → Nat) (S : Nat → Prop) (w : World) (e : Ending) (w' : World) : Prop := e = .returned (.tuple #[]) ∧ Ints w' blk n f ∧ Touch S w w'

set_option maxHeartbeats 1000000 in
theorem swapRange_any (blk n cap p q k : Nat) (f : Nat → Nat) (fv : Value) (w : World) (h : Ints w blk n f) (hn : n ≤ 4611686018427387904) (h1 : p + k ≤ q) (h2 : q + k ≤ n) :
    Calls Try.prog 102 #[.slice (some ⟨blk, 0, none⟩) n cap, .int .i64 p, .int .i64 q, .int .i64 k, fv] w (IntsPost blk n (swapFn f p q k) (Just blk) w) := by
  go_enter Try.func102, Try.ntmps102
  go_wp2
  go_loopw [10] (fun i wr => ∃ t : Nat, t ≤ k ∧ i = .int .i64 t ∧ Ints wr blk n (swapFn f p q t) ∧ Touch (Just blk) w wr) (fun i _ => k - (intOf i).toNat)
  case atStart => exact ⟨0, by omega, rfl, by rw [swapFn_zero]; exact h, Touch.refl _ _⟩
  obtain ⟨t, ht, rfl, hr, hto⟩ := hrel
  by_cases hlt : t < k
  · have c1 := hr.cell (i := p + t) (by omega)
    have c2 := hr.cell (i := q + t) (by omega)
    have z1 := hr.frozen (p + t)
    have z2 := hr.frozen (q + t)
    have HR := Lib.hid (hr.swap (p + t) (q + t))
    have HS := Lib.hid (swapFn_succ f p q t (by omega))
    have HT := Lib.hid (touch_swap (i := p + t) (j := q + t) (u := .int .i64 ((swapFn f p q t (q + t) : Nat) : Int)) (v := .int .i64 ((swapFn f p q t (p + t) : Nat) : Int)) hto)
    generalize swapFn f p q t (p + t) = x at *
    generalize swapFn f p q t (q + t) = y at *
    clear hr hto h
    go_wp2
    go_region
    go_wp2
    go_roundw
    case rel => exact ⟨t + 1, by omega, by go_num, by rw [← HS.out]; exact HR.out.drew, HT.out.drew⟩
    case measure => simp [intOf]; omega
  · obtain rfl : t = k := by omega
    clear h
    have HR := Lib.hid hr
    have HT := Lib.hid hto
    clear hr hto
    go_wp2
    go_end0
    exact ⟨rfl, HR.out, HT.out⟩

set_option maxHeartbeats 1000000 in
theorem rotate_any (blk n cap a m b : Nat) (f : Nat → Nat) (fv : Value) (w : World) (h : Ints w blk n f) (hn : n ≤ 4611686018427387904) (h1 : a < m) (h2 : m < b) (h3 : b ≤ n) :
    Calls Try.prog 100 #[.slice (some ⟨blk, 0, none⟩) n cap, .int .i64 a, .int .i64 m, .int .i64 b, fv] w (IntsPost blk n (rot a m b f) (Just blk) w) := by
  go_enter Try.func100, Try.ntmps100
  go_wp2
  go_loopw [10, 11] (fun i j wr => ∃ x y : Nat, 0 < x ∧ x ≤ m ∧ 0 < y ∧ m + y ≤ n ∧ i = .int .i64 x ∧ j = .int .i64 y ∧ (∃ g, Ints wr blk n g ∧ rot (m - x) m (m + y) g = rot a m b f) ∧ Touch (Just blk) w wr) (fun i j _ => (intOf i).toNat + (intOf j).toNat)
  case atStart =>
    exact ⟨m - a, b - m, by omega, by omega, by omega, by omega, by go_num, by go_num, ⟨f, h, by rw [show m - (m - a) = a from by omega, show m + (b - m) = b from by omega]⟩, Touch.refl _ _⟩
  obtain ⟨x, y, hx0, hxm, hy0, hym, rfl, rfl, ⟨g, hg, hrot⟩, hto⟩ := hrel
  have HROT := Lib.hid hrot
  have HTO := Lib.hid hto
  have HG := Lib.hid hg
  clear hrot hto hg h
  rcases Nat.lt_trichotomy x y with hxy | hxy | hxy
  · have e1 : ((x : Int) != (y : Int)) = true := by rw [bne_iff_ne]; omega
    go_wp2_with fail
    rw [show (m : Int) - (x : Int) = ((m - x : Nat) : Int) from by omega, show (m : Int) + (y : Int) - (x : Int) = ((m + y - x : Nat) : Int) from by omega]
    refine (swapRange_any blk n cap (m - x) (m + y - x) x g _ _ HG.out hn (by omega) (by omega)).mono ?_
    rintro e w' ⟨rfl, hi, ht⟩
    have HI := Lib.hid hi
    have HT := Lib.hid ht
    clear hi ht
    go_wp2_with fail
    go_roundw
    case rel => exact ⟨x, y - x, hx0, hxm, by omega, by omega, rfl, by go_num, ⟨_, HI.out, by rw [← HROT.out]; exact rot_step2 g m x y hxm hxy⟩, HTO.out.trans HT.out⟩
    case measure => simp [intOf]; omega
  · subst hxy
    have e1 : ((x : Int) != (x : Int)) = false := by simp
    go_wp2_with fail
    rw [show (m : Int) - (x : Int) = ((m - x : Nat) : Int) from by omega]
    refine (swapRange_any blk n cap (m - x) m x g _ _ HG.out hn (by omega) (by omega)).mono ?_
    rintro e w' ⟨rfl, hi, ht⟩
    have HI := Lib.hid hi
    have HT := Lib.hid ht
    clear hi ht
    go_wp2_with fail
    go_end0
    exact ⟨rfl, by rw [← HROT.out, ← rot_last g m x hxm]; exact HI.out, HTO.out.trans HT.out⟩
  · have e1 : ((x : Int) != (y : Int)) = true := by rw [bne_iff_ne]; omega
    go_wp2_with fail
    rw [show (m : Int) - (x : Int) = ((m - x : Nat) : Int) from by omega]
    refine (swapRange_any blk n cap (m - x) m y g _ _ HG.out hn (by omega) (by omega)).mono ?_
    rintro e w' ⟨rfl, hi, ht⟩
    have HI := Lib.hid hi
    have HT := Lib.hid ht
    clear hi ht
    go_wp2_with fail
    go_roundw
    case rel => exact ⟨x - y, y, by omega, by omega, hy0, hym, by go_num, rfl, ⟨_, HI.out, by rw [← HROT.out]; exact rot_step1 g m x y hxm hxy⟩, HTO.out.trans HT.out⟩
    case measure => simp [intOf]; omega
end Go.Proofs.Ythhahanhkclidaa
