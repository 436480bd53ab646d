import Derived.Test.YticddcnlafbkoaaDoorBase
import Derived.Test.YticddcnlafbkoaaDoorSortMath
/- The stable sort of package slices over a row of numbers: swapRange, rotate. -/
namespace Go.Proofs.YticddcnlafbkoaaDoor
open Go.ChangeShapes Go.WideShapes Go.ChangeAt Go.RowKit Go.Deep

/-- Block b is a row of n ints, f their content. -/
def Ints (w : World) (b n : Nat) (f : Nat → Nat) : Prop := w.rowIs b 3 n (fun i => .int .i64 ((f i : Nat) : Int))

theorem Ints.cell {w : World} {b n : Nat} {f : Nat → Nat} (h : Ints w b n f) {i : Nat} (hi : i < n) : w.cell? ⟨b, i, none⟩ = some (.int .i64 ((f i : Nat) : Int)) := World.rowIs.cell h hi
theorem Ints.frozen {w : World} {b n : Nat} {f : Nat → Nat} (h : Ints w b n f) (i : Nat) : w.frozen? ⟨b, i, none⟩ = false := World.rowIs.frozen h i
theorem Ints.lt {w : World} {b n : Nat} {f : Nat → Nat} (h : Ints w b n f) : b < w.heap.size := World.rowIs.lt h
theorem Ints.congr {w : World} {b n : Nat} {f g : Nat → Nat} (h : Ints w b n f) (e : ∀ i, i < n → f i = g i) : Ints w b n g := World.rowIs.congr h fun i hi => by rw [e i hi]
theorem Ints.drew {w : World} {b n : Nat} {f : Nat → Nat} (h : Ints w b n f) : Ints w.drew b n f := h
theorem Ints.set {w : World} {b n : Nat} {f : Nat → Nat} (h : Ints w b n f) (i v : Nat) : Ints (w.setCell ⟨b, i, none⟩ (.int .i64 (v : Int))) b n (fun j => if j = i then v else f j) :=
  World.rowIs.congr (World.rowIs.set h i _) fun j _ => by by_cases e : j = i <;> simp [e]
theorem Ints.keep {S : Nat → Prop} {w w' : World} {b n : Nat} {f : Nat → Nat} (h : Ints w b n f) (ht : Touch S w w') (hn : ¬ S b) : Ints w' b n f := ht.row h hn
/-- An exchange of two places. -/
theorem Ints.swap {w : World} {b n : Nat} {f : Nat → Nat} (h : Ints w b n f) (i j : Nat) :
    Ints ((w.setCell ⟨b, i, none⟩ (.int .i64 ((f j : Nat) : Int))).setCell ⟨b, j, none⟩ (.int .i64 ((f i : Nat) : Int))) b n (swp f i j) :=
  ((h.set i (f j)).set j (f i)).congr fun _k _ => rfl
theorem touch_swap {w wr : World} {b i j : Nat} {u v : Value} (h : Touch (Just b) w wr) : Touch (Just b) w ((wr.setCell ⟨b, i, none⟩ u).setCell ⟨b, j, none⟩ v) :=
  (h.setCell ⟨b, i, none⟩ u fun _ => rfl).setCell ⟨b, j, none⟩ v fun _ => rfl

def IntsPost (blk n : Nat) (f : Nat → Nat) (S : Nat → Prop) (w : World) (e : Ending) (w' : World) : Prop := e = .returned (.tuple #[]) ∧ Ints w' blk n f ∧ Touch S w w'

set_option maxHeartbeats 1000000 in
theorem swapRange_any (blk n cap p q k : Nat) (f : Nat → Nat) (fv : Value) (w : World) (h : Ints w blk n f) (hn : n ≤ 4611686018427387904) (h1 : p + k ≤ q) (h2 : q + k ≤ n) :
    Calls Tryd.prog 106 #[.slice (some ⟨blk, 0, none⟩) n cap, .int .i64 p, .int .i64 q, .int .i64 k, fv] w (IntsPost blk n (swapFn f p q k) (Just blk) w) := by
  go_enter Tryd.func106, Tryd.ntmps106
  go_wp2
  go_loopw [10] (fun i wr => ∃ t : Nat, t ≤ k ∧ i = .int .i64 t ∧ Ints wr blk n (swapFn f p q t) ∧ Touch (Just blk) w wr) (fun i _ => k - (intOf i).toNat)
  case atStart => exact ⟨0, by omega, rfl, by rw [swapFn_zero]; exact h, Touch.refl _ _⟩
  obtain ⟨t, ht, rfl, hr, hto⟩ := hrel
  by_cases hlt : t < k
  · have c1 := hr.cell (i := p + t) (by omega)
    have c2 := hr.cell (i := q + t) (by omega)
    have z1 := hr.frozen (p + t)
    have z2 := hr.frozen (q + t)
    have HR := Lib.hid (hr.swap (p + t) (q + t))
    have HS := Lib.hid (swapFn_succ f p q t (by omega))
    have HT := Lib.hid (touch_swap (i := p + t) (j := q + t) (u := .int .i64 ((swapFn f p q t (q + t) : Nat) : Int)) (v := .int .i64 ((swapFn f p q t (p + t) : Nat) : Int)) hto)
    generalize swapFn f p q t (p + t) = x at *
    generalize swapFn f p q t (q + t) = y at *
    clear hr hto h
    go_wp2
    go_region
    go_wp2
    go_roundw
    case rel => exact ⟨t + 1, by omega, by go_num, by rw [← HS.out]; exact HR.out.drew, HT.out.drew⟩
    case measure => simp [intOf]; omega
  · obtain rfl : t = k := by omega
    clear h
    have HR := Lib.hid hr
    have HT := Lib.hid hto
    clear hr hto
    go_wp2
    go_end0
    exact ⟨rfl, HR.out, HT.out⟩

set_option maxHeartbeats 1000000 in
theorem rotate_any (blk n cap a m b : Nat) (f : Nat → Nat) (fv : Value) (w : World) (h : Ints w blk n f) (hn : n ≤ 4611686018427387904) (h1 : a < m) (h2 : m < b) (h3 : b ≤ n) :
    Calls Tryd.prog 105 #[.slice (some ⟨blk, 0, none⟩) n cap, .int .i64 a, .int .i64 m, .int .i64 b, fv] w (IntsPost blk n (rot a m b f) (Just blk) w) := by
  go_enter Tryd.func105, Tryd.ntmps105
  go_wp2
  go_loopw [10, 11] (fun i j wr => ∃ x y : Nat, 0 < x ∧ x ≤ m ∧ 0 < y ∧ m + y ≤ n ∧ i = .int .i64 x ∧ j = .int .i64 y ∧ (∃ g, Ints wr blk n g ∧ rot (m - x) m (m + y) g = rot a m b f) ∧ Touch (Just blk) w wr) (fun i j _ => (intOf i).toNat + (intOf j).toNat)
  case atStart =>
    exact ⟨m - a, b - m, by omega, by omega, by omega, by omega, by go_num, by go_num, ⟨f, h, by rw [show m - (m - a) = a from by omega, show m + (b - m) = b from by omega]⟩, Touch.refl _ _⟩
  obtain ⟨x, y, hx0, hxm, hy0, hym, rfl, rfl, ⟨g, hg, hrot⟩, hto⟩ := hrel
  have HROT := Lib.hid hrot
  have HTO := Lib.hid hto
  have HG := Lib.hid hg
  clear hrot hto hg h
  rcases Nat.lt_trichotomy x y with hxy | hxy | hxy
  · have e1 : ((x : Int) != (y : Int)) = true := by rw [bne_iff_ne]; omega
    go_wp2_with fail
    rw [show (m : Int) - (x : Int) = ((m - x : Nat) : Int) from by omega, show (m : Int) + (y : Int) - (x : Int) = ((m + y - x : Nat) : Int) from by omega]
    refine (swapRange_any blk n cap (m - x) (m + y - x) x g _ _ HG.out hn (by omega) (by omega)).mono ?_
    rintro e w' ⟨rfl, hi, ht⟩
    have HI := Lib.hid hi
    have HT := Lib.hid ht
    clear hi ht
    go_wp2_with fail
    go_roundw
    case rel => exact ⟨x, y - x, hx0, hxm, by omega, by omega, rfl, by go_num, ⟨_, HI.out, by rw [← HROT.out]; exact rot_step2 g m x y hxm hxy⟩, HTO.out.trans HT.out⟩
    case measure => simp [intOf]; omega
  · subst hxy
    have e1 : ((x : Int) != (x : Int)) = false := by simp
    go_wp2_with fail
    rw [show (m : Int) - (x : Int) = ((m - x : Nat) : Int) from by omega]
    refine (swapRange_any blk n cap (m - x) m x g _ _ HG.out hn (by omega) (by omega)).mono ?_
    rintro e w' ⟨rfl, hi, ht⟩
    have HI := Lib.hid hi
    have HT := Lib.hid ht
    clear hi ht
    go_wp2_with fail
    go_end0
    exact ⟨rfl, by rw [← HROT.out, ← rot_last g m x hxm]; exact HI.out, HTO.out.trans HT.out⟩
  · have e1 : ((x : Int) != (y : Int)) = true := by rw [bne_iff_ne]; omega
    go_wp2_with fail
    rw [show (m : Int) - (x : Int) = ((m - x : Nat) : Int) from by omega]
    refine (swapRange_any blk n cap (m - x) m y g _ _ HG.out hn (by omega) (by omega)).mono ?_
    rintro e w' ⟨rfl, hi, ht⟩
    have HI := Lib.hid hi
    have HT := Lib.hid ht
    clear hi ht
    go_wp2_with fail
    go_roundw
    case rel => exact ⟨x - y, y, by omega, by omega, hy0, hym, by go_num, rfl, ⟨_, HI.out, by rw [← HROT.out]; exact rot_step1 g m x y hxm hxy⟩, HTO.out.trans HT.out⟩
    case measure => simp [intOf]; omega
end Go.Proofs.YticddcnlafbkoaaDoor

/- The stable sort of package slices over a row of numbers: the insertion sort of a block. -/
namespace Go.Proofs.YticddcnlafbkoaaDoor
open Go.ChangeShapes Go.WideShapes Go.ChangeAt Go.RowKit Go.Deep

def CmpPost (lt : Nat → Nat → Bool) (x y : Nat) (I : World → Prop) (S : Nat → Prop) (w : World) (e : Ending) (w' : World) : Prop :=
  ∃ r : Int, e = .returned (.int .i64 r) ∧ (lt x y = true → r < 0) ∧ (lt x y = false → 0 ≤ r) ∧ I w' ∧ Touch S w w'

/-- What the sort is told of the function that compares: I holds of the world at each call, S is what it may change. -/
structure Cmp (g : Nat) (cb : Array Value) (lt : Nat → Nat → Bool) (n blk : Nat) (I : World → Prop) (S : Nat → Prop) : Prop where
  enter : ∀ args w, (callFunc g args).run Tryd.prog w = .ok (.enter g args) w
  call : ∀ w (x y : Nat), I w → x < n → y < n → Calls Tryd.prog g (#[.int .i64 x, .int .i64 y] ++ cb) w (CmpPost lt x y I S w)
  keep : ∀ w w', I w → Touch (Just blk) w w' → I w'
  apart : ¬ S blk

theorem mixed : Tryd.prog.follows .mixedOrders = true := by kernel_rfl

/-- What was there below and in S may have changed, the row too. -/
def Plus (S : Nat → Prop) (b : Nat) : Nat → Prop := fun k => S k ∨ k = b

def SortPost (blk n : Nat) (I : World → Prop) (S : Nat → Prop) (w : World) (Q : (Nat → Nat) → Prop) (e : Ending) (w' : World) : Prop :=
  e = .returned (.tuple #[]) ∧ I w' ∧ Touch (Plus S blk) w w' ∧ ∃ f', Ints w' blk n f' ∧ Q f'

set_option maxRecDepth 100000 in
set_option maxHeartbeats 2000000 in
theorem insertion_any (g : Nat) (cb : Array Value) (lt : Nat → Nat → Bool) (N blk n cap a b : Nat) (I : World → Prop) (S : Nat → Prop) (C : Cmp g cb lt N blk I S) (hw : SWO lt N)
    (f0 : Nat → Nat) (w : World) (hI : I w) (h : Ints w blk n f0) (hn : n ≤ 4611686018427387904) (hab : a ≤ b) (hb : b ≤ n) (hN : ∀ k, a ≤ k → k < b → f0 k < N)
    (hup : ∀ p q, a ≤ p → p < q → q < b → f0 p < f0 q) :
    Calls Tryd.prog 103 #[.slice (some ⟨blk, 0, none⟩) n cap, .int .i64 a, .int .i64 b, .func (.func g) #[] cb] w
      (SortPost blk n I S w (fun f' => PermOn a b f0 f' ∧ Sorted lt f' a b)) := by
  have HC := Lib.hid C
  have HI := Lib.hid hI
  have H := Lib.hid h
  have HN := Lib.hid hN
  have HU := Lib.hid hup
  have HW := Lib.hid hw
  have eg := C.enter
  clear C hI h hN hup hw
  go_enter Tryd.func103, Tryd.ntmps103
  go_wp2
  go_loopw [8, 9] (fun i _ wr => ∃ x : Nat, a < x ∧ x ≤ b + 1 ∧ i = .int .i64 x ∧ I wr ∧ Touch (Plus S blk) w wr ∧ ∃ f, Ints wr blk n f ∧ (x ≤ b → PermOn a x f0 f ∧ Sorted lt f a x) ∧ (x = b + 1 → a = b ∧ f = f0)) (fun i _ _ => b + 1 - (intOf i).toNat)
  case atStart =>
    exact ⟨a + 1, by omega, by omega, rfl, HI.out, Touch.refl _ _, f0, H.out, fun _ => ⟨PermOn.refl _ _ _, sorted_short (by omega)⟩, fun _ => ⟨by omega, rfl⟩⟩
  obtain ⟨x, hax, hxb, rfl, hIr, hto, f, hf, hp, hq⟩ := hrel
  have HIr := Lib.hid hIr
  have HT := Lib.hid hto
  have HF := Lib.hid hf
  have HP := Lib.hid hp
  have HQ := Lib.hid hq
  clear hIr hto hf hp hq
  by_cases hlt : x < b
  · go_wp2
    obtain ⟨wo, rfl⟩ : ∃ wo : World, wo = wr := ⟨_, rfl⟩
    go_loopw [9] (fun j wr => ∃ y : Nat, a ≤ y ∧ y ≤ x ∧ j = .int .i64 y ∧ I wr ∧ Touch (Plus S blk) w wr ∧ ∃ f, Ints wr blk n f ∧ Ins lt f0 f a x y) (fun j _ => (intOf j).toNat)
    case atStart =>
      exact ⟨x, by omega, by omega, rfl, HIr.out, HT.out, f, HF.out, Ins.start (HP.out (by omega)).1 (HP.out (by omega)).2 (by omega)⟩
    obtain ⟨y, hay, hyx, rfl, hIr, hto, f', hf, hins⟩ := hrel
    have HIr := Lib.hid hIr
    have HT := Lib.hid hto
    have HF' := Lib.hid hf
    have HINS := Lib.hid hins
    clear hIr hto hf hins
    by_cases hya : a < y
    · have c1 := HF'.out.cell (i := y) (by omega)
      have c2 := HF'.out.cell (i := y - 1) (by omega)
      have i1 : (y : Int) < (n : Int) := by omega
      have i2 : (0 : Int) ≤ (y : Int) := by omega
      have i3 : (y : Int) - 1 < (n : Int) := by omega
      have i4 : (0 : Int) ≤ (y : Int) - 1 := by omega
      have i5 : (1 : Int) ≤ (y : Int) := by omega
      have i6 : (y : Int) ≤ (n : Int) := by omega
      have i7 : 0 < y := by omega
      have i8 : 1 ≤ y := by omega
      have i9 : y ≤ n := by omega
      have e1 : ((y : Int) - 1).toNat = y - 1 := by omega
      have e2 : IntKind.i64.wrap ((y : Int) - 1) = (y : Int) - 1 := IntWalk.i64_in _ (by omega)
      go_wp2_with fail
      go_still_tail 14, mixed
      clear e1 e2
      change wpList _ _ _ _ _ wr.drew
      have HIr := Lib.hid (HC.out.keep _ _ HIr.out (Touch.refl _ _).drew)
      have HT := Lib.hid HT.out.drew
      have HF' := Lib.hid HF'.out.drew
      clear c1 c2
      generalize wr.drew = w1 at *
      have hall := HINS.out.perm.all (p := fun v => v < N) fun k h1 h2 => HN.out k h1 (by omega)
      have b1 : f' y < N := hall y (by omega) (by omega)
      have b2 : f' (y - 1) < N := hall (y - 1) (by omega) (by omega)
      have HL := Lib.hid (HINS.out.less hya hlt HU.out)
      clear hall
      have HB := Lib.hid (And.intro b1 b2)
      clear b1 b2
      go_wp2_with fail
      refine (HC.out.call _ _ _ HIr.out HB.out.1 HB.out.2).mono ?_
      rintro e w' ⟨r, rfl, hr1, hr2, hI2, hT2⟩
      have HI2 := Lib.hid hI2
      have HT3 := Lib.hid (HT.out.trans (hT2.mono fun _ _ c => .inl c))
      have hF2 := HF'.out.keep hT2 HC.out.apart
      have c1 := hF2.cell (i := y) (by omega)
      have c2 := hF2.cell (i := y - 1) (by omega)
      have z1 := hF2.frozen y
      have z2 := hF2.frozen (y - 1)
      have HF2 := Lib.hid hF2
      clear hI2 hT2 hF2
      by_cases hlt2 : lt (f' y) (f' (y - 1)) = true
      · have hr := hr1 hlt2
        have HR := Lib.hid ((Rel.of_gt HL.out).2 hlt2)
        clear hr1 hr2 hlt2
        have HSW := Lib.hid (HF2.out.swap y (y - 1)).drew
        have HTW := Lib.hid (touch_swap (b := blk) (i := y) (j := y - 1) (u := .int .i64 ((f' (y - 1) : Nat) : Int)) (v := .int .i64 ((f' y : Nat) : Int)) (Touch.refl _ w')).drew
        have HDN := Lib.hid (show Ins lt f0 (swp f' y (y - 1)) a x (y - 1) from by
          have e : y - 1 + 1 = y := by omega
          have := HINS.out; rw [← e] at this
          have d := this.down (by omega) (by rw [e]; exact HR.out)
          rw [e] at d; exact d)
        generalize f' y = v1 at *
        generalize f' (y - 1) = v2 at *
        go_wp2_with fail
        go_region
        go_wp2_with fail
        go_roundw
        case rel =>
          exact ⟨y - 1, by omega, by omega, by go_num, HC.out.keep _ _ HI2.out HTW.out, HT3.out.trans (HTW.out.mono fun _ _ c => .inr c), _, HSW.out, HDN.out⟩
        case measure => simp [intOf]; omega
      · have hr := hr2 (by simpa using hlt2)
        have HR := Lib.hid (show Rel lt (f' (y - 1)) (f' y) from Rel.not HW.out HB.out.1 HB.out.2 (by have := HL.out; omega) (fun c => hlt2 ((Rel.of_gt HL.out).1 c)))
        clear hr1 hr2 hlt2 c1 c2 z1 z2
        go_wp2_with fail
        go_roundw
        case rel =>
          exact ⟨x + 1, by omega, by omega, by go_num, HI2.out, HT3.out, f', HF2.out, fun _ => ⟨HINS.out.perm, HINS.out.stop HW.out (fun k h1 h2 => HINS.out.perm.all (p := fun v => v < N) (fun k h1 h2 => HN.out k h1 (by omega)) k h1 (by omega)) fun _ => HR.out⟩, fun c => by omega⟩
        case measure => simp [intOf]; omega
    · obtain rfl : y = a := by omega
      have hd : decide ((y : Int) < (y : Int)) = false := by simp
      go_wp2_with fail
      go_quiet (fail)
      go_wp2_with fail
      go_roundw
      case rel =>
        exact ⟨x + 1, by omega, by omega, by go_num, HC.out.keep _ _ HIr.out ((Touch.refl _ _).drewN _), HT.out.drewN _, f', HF'.out.keep (S := Nil) ((Touch.refl _ _).drewN _) (fun c => c), fun _ => ⟨HINS.out.perm, HINS.out.stop HW.out (fun k h1 h2 => HINS.out.perm.all (p := fun v => v < N) (fun k h1 h2 => HN.out k h1 (by omega)) k h1 (by omega)) fun c => by omega⟩, fun c => by omega⟩
      case measure => simp [intOf]; omega
  · go_wp2_with fail
    go_end0
    refine ⟨rfl, HIr.out, HT.out, f, HF.out, ?_⟩
    by_cases hx : x = b + 1
    · obtain ⟨rfl, rfl⟩ := HQ.out hx
      exact ⟨PermOn.refl _ _ _, sorted_short (by omega)⟩
    · obtain rfl : x = b := by omega
      exact HP.out (by omega)
end Go.Proofs.YticddcnlafbkoaaDoor

/- The stable sort of package slices over a row of numbers: the merge, where one of the halves has one element. -/
namespace Go.Proofs.YticddcnlafbkoaaDoor
open Go.ChangeShapes Go.WideShapes Go.ChangeAt Go.RowKit Go.Deep

theorem half_nat (i j : Nat) (hj : i + j ≤ 9223372036854775807) : IntKind.i64.wrap (IntKind.u64.wrap ((i : Int) + (j : Int)) / 2) = (((i + j) / 2 : Nat) : Int) := by
  rw [IntWalk.u64_in _ (by omega), IntWalk.i64_in _ (by omega)]
  omega

set_option maxRecDepth 100000 in
set_option maxHeartbeats 4000000 in
theorem symMerge_one (g : Nat) (cb : Array Value) (lt : Nat → Nat → Bool) (N blk n cap a b : Nat) (I : World → Prop) (S : Nat → Prop) (C : Cmp g cb lt N blk I S) (hw : SWO lt N)
    (f0 : Nat → Nat) (w : World) (hI : I w) (h : Ints w blk n f0) (hn : n ≤ 4611686018427387904) (hab : a + 1 < b) (hb : b ≤ n) (hN : ∀ k, a ≤ k → k < b → f0 k < N)
    (hs : Sorted lt f0 (a + 1) b) (hup : ∀ q, a + 1 ≤ q → q < b → f0 a < f0 q) :
    Calls Tryd.prog 104 #[.slice (some ⟨blk, 0, none⟩) n cap, .int .i64 a, .int .i64 ((a + 1 : Nat) : Int), .int .i64 b, .func (.func g) #[] cb] w
      (SortPost blk n I S w (fun f' => PermOn a b f0 f' ∧ Sorted lt f' a b)) := by
  have HC := Lib.hid C
  have HI := Lib.hid hI
  have H := Lib.hid h
  have HN := Lib.hid hN
  have HU := Lib.hid hup
  have HW := Lib.hid hw
  have HS := Lib.hid hs
  have eg := C.enter
  clear C hI h hN hup hw hs
  obtain ⟨m, HM⟩ : ∃ m, Hid (m = a + 1) := ⟨_, Lib.hid rfl⟩
  rw [← HM.out]
  have hm1 : a < m := by have := HM.out; omega
  have hm2 : m < b := by have := HM.out; omega
  have e1 : ((m : Int) - (a : Int) == 1) = true := by rw [beq_iff_eq]; have := HM.out; omega
  go_enter Tryd.func104, Tryd.ntmps104
  go_wp2_with fail
  go_loopw [10, 11] (fun i j wr => ∃ x y : Nat, m ≤ x ∧ x ≤ y ∧ y ≤ b ∧ i = .int .i64 x ∧ j = .int .i64 y ∧ I wr ∧ Touch S w wr ∧ (∀ k, m ≤ k → k < x → Rel lt (f0 k) (f0 a)) ∧ (∀ k, y ≤ k → k < b → Rel lt (f0 a) (f0 k))) (fun i j _ => (intOf j).toNat - (intOf i).toNat)
  case atStart => exact ⟨m, b, by omega, by omega, by omega, rfl, rfl, HI.out, Touch.refl _ _, fun k h1 h2 => by omega, fun k h1 h2 => by omega⟩
  obtain ⟨x, y, hmx, hxy, hyb, rfl, rfl, hIr, hto, hlo, hhi⟩ := hrel
  have HIr := Lib.hid hIr
  have HT := Lib.hid hto
  have HLO := Lib.hid hlo
  have HHI := Lib.hid hhi
  have HF := Lib.hid (H.out.keep hto HC.out.apart)
  clear hIr hto hlo hhi
  by_cases hlt : x < y
  · obtain ⟨z, HZ⟩ : ∃ z, Hid (z = (x + y) / 2) := ⟨_, Lib.hid rfl⟩
    have hz1 : x ≤ z := by have := HZ.out; omega
    have hz2 : z < y := by have := HZ.out; omega
    have hz3 : z < n := by omega
    have ez3 : ((x : Int) + (y : Int)) / 2 = (z : Int) := by rw [HZ.out]; omega
    have c1 := HF.out.cell (i := z) (by omega)
    have c2 := HF.out.cell (i := a) (by omega)
    have i1 : (z : Int) < (n : Int) := by omega
    have i2 : (0 : Int) ≤ (z : Int) := by omega
    have i3 : (a : Int) < (n : Int) := by omega
    have i4 : (0 : Int) ≤ (a : Int) := by omega
    go_wp2_with fail
    go_still_tail 9, mixed
    clear ez3
    change wpList _ _ _ _ _ wr.drew
    have HIr := Lib.hid (HC.out.keep _ _ HIr.out (Touch.refl _ _).drew)
    have HT := Lib.hid HT.out.drew
    have HF := Lib.hid HF.out.drew
    clear c1 c2
    generalize wr.drew = w1 at *
    have HL := Lib.hid (HU.out z (by have := HM.out; omega) (by omega))
    have HB := Lib.hid (And.intro (HN.out z (by omega) (by omega)) (HN.out a (by omega) (by omega)))
    go_wp2_with fail
    refine (HC.out.call _ _ _ HIr.out HB.out.1 HB.out.2).mono ?_
    rintro e w' ⟨r, rfl, hr1, hr2, hI2, hT2⟩
    have HI2 := Lib.hid hI2
    have HT3 := Lib.hid (HT.out.trans hT2)
    clear hI2 hT2
    by_cases hlt2 : lt (f0 z) (f0 a) = true
    · have hr := hr1 hlt2
      have HR := Lib.hid ((Rel.of_gt HL.out).2 hlt2)
      clear hr1 hr2 hlt2
      go_wp2_with fail
      go_roundw
      case rel =>
        refine ⟨z + 1, y, by omega, by omega, hyb, by go_num, rfl, HI2.out, HT3.out, ?_, HHI.out⟩
        intro k h1 h2
        by_cases hk : k = z
        · subst hk; exact HR.out
        · exact Rel.trans HW.out (HN.out k (by omega) (by omega)) HB.out.1 HB.out.2 (HS.out k z (by have := HM.out; omega) (by omega) (by omega)) HR.out
      case measure => simp [intOf]; omega
    · have hr := hr2 (by simpa using hlt2)
      have HR := Lib.hid (show Rel lt (f0 a) (f0 z) from Rel.not HW.out HB.out.1 HB.out.2 (by have := HL.out; omega) (fun c => hlt2 ((Rel.of_gt HL.out).1 c)))
      clear hr1 hr2 hlt2
      go_wp2_with fail
      go_roundw
      case rel =>
        refine ⟨x, z, hmx, by omega, by omega, rfl, rfl, HI2.out, HT3.out, HLO.out, ?_⟩
        intro k h1 h2
        by_cases hk : k = z
        · subst hk; exact HR.out
        · exact Rel.trans HW.out HB.out.2 HB.out.1 (HN.out k (by omega) (by omega)) HR.out (HS.out z k (by have := HM.out; omega) (by omega) (by omega))
      case measure => simp [intOf]; omega
  · obtain rfl : x = y := by omega
    obtain ⟨wo, rfl⟩ : ∃ wo : World, wo = wr := ⟨_, rfl⟩
    go_wp2_with fail
    go_loopw [13] (fun k wr => ∃ z : Nat, a ≤ z ∧ z + 1 ≤ x ∧ k = .int .i64 z ∧ Touch (Just blk) wo wr ∧ Ints wr blk n (rot a (a + 1) (z + 1) f0)) (fun k _ => x - (intOf k).toNat)
    case atStart => exact ⟨a, by omega, by omega, rfl, Touch.refl _ _, by rw [rot_right0]; exact HF.out⟩
    obtain ⟨z, haz, hzx, rfl, hto, hf⟩ := hrel
    by_cases hlt : z + 1 < x
    · have c1 := hf.cell (i := z) (by omega)
      have c2 := hf.cell (i := z + 1) (by omega)
      have z1 := hf.frozen z
      have z2 := hf.frozen (z + 1)
      have i1 : (z : Int) < (x : Int) - 1 := by omega
      have i2 : ((z : Int) + 1).toNat = z + 1 := by omega
      have HSW := Lib.hid (hf.swap z (z + 1)).drew
      have HTW := Lib.hid (touch_swap (b := blk) (i := z) (j := z + 1) (u := .int .i64 ((rot a (a + 1) (z + 1) f0 (z + 1) : Nat) : Int)) (v := .int .i64 ((rot a (a + 1) (z + 1) f0 z : Nat) : Int)) hto).drew
      have HE := Lib.hid (rot_right f0 a z haz)
      clear hf hto
      generalize rot a (a + 1) (z + 1) f0 z = v1 at *
      generalize rot a (a + 1) (z + 1) f0 (z + 1) = v2 at *
      go_wp2_with fail
      go_region
      go_wp2_with fail
      go_roundw
      case rel => exact ⟨z + 1, by omega, by omega, by go_num, HTW.out, by rw [← HE.out]; exact HSW.out⟩
      case measure => simp [intOf]; omega
    · have i1 : (x : Int) - 1 ≤ (z : Int) := by omega
      have HT4 := Lib.hid hto
      have HF4 := Lib.hid hf
      clear hf hto
      go_wp2_with fail
      (try simp only [Exit.inBlock, Exit.then])
      refine bodyPost_ret (results_none rfl _ _ _) rfl ?_
      obtain rfl : x = z + 1 := by omega
      refine ⟨rfl, HC.out.keep _ _ HIr.out HT4.out, (HT.out.mono fun _ _ c => .inl c).trans (HT4.out.mono fun _ _ c => .inr c), _, HF4.out, ?_, ?_⟩
      · exact (rot_perm f0 (by omega) (by omega)).wide (Nat.le_refl _) (by omega)
      · exact insert_right (by omega) hyb HS.out (fun k h1 h2 => HLO.out k (by have := HM.out; omega) h2) HHI.out
set_option maxRecDepth 100000 in
set_option maxHeartbeats 4000000 in
theorem symMerge_last (g : Nat) (cb : Array Value) (lt : Nat → Nat → Bool) (N blk n cap a m : Nat) (I : World → Prop) (S : Nat → Prop) (C : Cmp g cb lt N blk I S) (hw : SWO lt N)
    (f0 : Nat → Nat) (w : World) (hI : I w) (h : Ints w blk n f0) (hn : n ≤ 4611686018427387904) (hab : a + 1 < m) (hb : m + 1 ≤ n) (hN : ∀ k, a ≤ k → k < m + 1 → f0 k < N)
    (hs : Sorted lt f0 a m) (hup : ∀ q, a ≤ q → q < m → f0 q < f0 m) :
    Calls Tryd.prog 104 #[.slice (some ⟨blk, 0, none⟩) n cap, .int .i64 a, .int .i64 m, .int .i64 ((m + 1 : Nat) : Int), .func (.func g) #[] cb] w
      (SortPost blk n I S w (fun f' => PermOn a (m + 1) f0 f' ∧ Sorted lt f' a (m + 1))) := by
  have HC := Lib.hid C
  have HI := Lib.hid hI
  have H := Lib.hid h
  have HN := Lib.hid hN
  have HU := Lib.hid hup
  have HW := Lib.hid hw
  have HS := Lib.hid hs
  have eg := C.enter
  clear C hI h hN hup hw hs
  obtain ⟨b, HM⟩ : ∃ b, Hid (b = m + 1) := ⟨_, Lib.hid rfl⟩
  rw [← HM.out]
  have hm2 : m < b := by have := HM.out; omega
  have hm3 : b ≤ n := by have := HM.out; omega
  have e1 : ((m : Int) - (a : Int) == 1) = false := by rw [beq_eq_false_iff_ne]; omega
  have e2 : ((b : Int) - (m : Int) == 1) = true := by rw [beq_iff_eq]; have := HM.out; omega
  go_enter Tryd.func104, Tryd.ntmps104
  go_wp2_with fail
  go_loopw [14, 15] (fun i j wr => ∃ x y : Nat, a ≤ x ∧ x ≤ y ∧ y ≤ m ∧ i = .int .i64 x ∧ j = .int .i64 y ∧ I wr ∧ Touch S w wr ∧ (∀ k, a ≤ k → k < x → Rel lt (f0 k) (f0 m)) ∧ (∀ k, y ≤ k → k < m → Rel lt (f0 m) (f0 k))) (fun i j _ => (intOf j).toNat - (intOf i).toNat)
  case atStart => exact ⟨a, m, by omega, by omega, by omega, rfl, rfl, HI.out, Touch.refl _ _, fun k h1 h2 => by omega, fun k h1 h2 => by omega⟩
  obtain ⟨x, y, hmx, hxy, hyb, rfl, rfl, hIr, hto, hlo, hhi⟩ := hrel
  have HIr := Lib.hid hIr
  have HT := Lib.hid hto
  have HLO := Lib.hid hlo
  have HHI := Lib.hid hhi
  have HF := Lib.hid (H.out.keep hto HC.out.apart)
  clear hIr hto hlo hhi
  by_cases hlt : x < y
  · obtain ⟨z, HZ⟩ : ∃ z, Hid (z = (x + y) / 2) := ⟨_, Lib.hid rfl⟩
    have hz1 : x ≤ z := by have := HZ.out; omega
    have hz2 : z < y := by have := HZ.out; omega
    have hz3 : z < n := by omega
    have ez3 : ((x : Int) + (y : Int)) / 2 = (z : Int) := by rw [HZ.out]; omega
    have c1 := HF.out.cell (i := z) (by omega)
    have c2 := HF.out.cell (i := m) (by omega)
    have i1 : (z : Int) < (n : Int) := by omega
    have i2 : (0 : Int) ≤ (z : Int) := by omega
    have i3 : (m : Int) < (n : Int) := by omega
    have i4 : (0 : Int) ≤ (m : Int) := by omega
    go_wp2_with fail
    go_still_tail 9, mixed
    clear ez3
    change wpList _ _ _ _ _ wr.drew
    have HIr := Lib.hid (HC.out.keep _ _ HIr.out (Touch.refl _ _).drew)
    have HT := Lib.hid HT.out.drew
    have HF := Lib.hid HF.out.drew
    clear c1 c2
    generalize wr.drew = w1 at *
    have HL := Lib.hid (HU.out z (by omega) (by omega))
    have HB := Lib.hid (And.intro (HN.out z (by omega) (by omega)) (HN.out m (by omega) (by omega)))
    go_wp2_with fail
    refine (HC.out.call _ _ _ HIr.out HB.out.2 HB.out.1).mono ?_
    rintro e w' ⟨r, rfl, hr1, hr2, hI2, hT2⟩
    have HI2 := Lib.hid hI2
    have HT3 := Lib.hid (HT.out.trans hT2)
    clear hI2 hT2
    by_cases hlt2 : lt (f0 m) (f0 z) = true
    · have hr := hr1 hlt2
      have HR := Lib.hid ((Rel.of_gt HL.out).2 hlt2)
      clear hr1 hr2 hlt2
      go_wp2_with fail
      go_roundw
      case rel =>
        refine ⟨x, z, hmx, by omega, by omega, rfl, rfl, HI2.out, HT3.out, HLO.out, ?_⟩
        intro k h1 h2
        by_cases hk : k = z
        · subst hk; exact HR.out
        · exact Rel.trans HW.out HB.out.2 HB.out.1 (HN.out k (by omega) (by omega)) HR.out (HS.out z k (by omega) (by omega) (by omega))
      case measure => simp [intOf]; omega
    · have hr := hr2 (by simpa using hlt2)
      have hd : decide (r < 0) = false := by simp; omega
      have HR := Lib.hid (show Rel lt (f0 z) (f0 m) from Rel.not HW.out HB.out.2 HB.out.1 (by have := HL.out; omega) (fun c => hlt2 ((Rel.of_gt HL.out).1 c)))
      clear hr1 hr2 hlt2
      go_wp2_with fail
      go_roundw
      case rel =>
        refine ⟨z + 1, y, by omega, by omega, hyb, by go_num, rfl, HI2.out, HT3.out, ?_, HHI.out⟩
        intro k h1 h2
        by_cases hk : k = z
        · subst hk; exact HR.out
        · exact Rel.trans HW.out (HN.out k (by omega) (by omega)) HB.out.1 HB.out.2 (HS.out k z (by omega) (by omega) (by omega)) HR.out
      case measure => simp [intOf]; omega
  · obtain rfl : x = y := by omega
    obtain ⟨wo, rfl⟩ : ∃ wo : World, wo = wr := ⟨_, rfl⟩
    go_wp2_with fail
    go_loopw [17] (fun k wr => ∃ z : Nat, x ≤ z ∧ z ≤ m ∧ k = .int .i64 z ∧ Touch (Just blk) wo wr ∧ Ints wr blk n (rot z m (m + 1) f0)) (fun k _ => (intOf k).toNat)
    case atStart => exact ⟨m, by omega, by omega, rfl, Touch.refl _ _, by rw [rot_left0]; exact HF.out⟩
    obtain ⟨z, haz, hzx, rfl, hto, hf⟩ := hrel
    by_cases hlt : x < z
    · have c1 := hf.cell (i := z) (by omega)
      have c2 := hf.cell (i := z - 1) (by omega)
      have z1 := hf.frozen z
      have z2 := hf.frozen (z - 1)
      have i1 : (z : Int) - 1 < (n : Int) := by omega
      have i3 : (1 : Int) ≤ (z : Int) := by omega
      have i2 : ((z : Int) - 1).toNat = z - 1 := by omega
      have HSW := Lib.hid (hf.swap z (z - 1)).drew
      have HTW := Lib.hid (touch_swap (b := blk) (i := z) (j := z - 1) (u := .int .i64 ((rot z m (m + 1) f0 (z - 1) : Nat) : Int)) (v := .int .i64 ((rot z m (m + 1) f0 z : Nat) : Int)) hto).drew
      have HE := Lib.hid (show swp (rot z m (m + 1) f0) z (z - 1) = rot (z - 1) m (m + 1) f0 from by
        have e : z - 1 + 1 = z := by omega
        have := rot_left f0 (z - 1) m (by omega)
        rw [e] at this; exact this)
      clear hf hto
      generalize rot z m (m + 1) f0 z = v1 at *
      generalize rot z m (m + 1) f0 (z - 1) = v2 at *
      go_wp2_with fail
      go_region
      go_wp2_with fail
      go_roundw
      case rel => exact ⟨z - 1, by omega, by omega, by go_num, HTW.out, by rw [← HE.out]; exact HSW.out⟩
      case measure => simp [intOf]; omega
    · have i1 : (z : Int) ≤ (x : Int) := by omega
      have HT4 := Lib.hid hto
      have HF4 := Lib.hid hf
      clear hf hto
      go_wp2_with fail
      (try simp only [Exit.inBlock, Exit.then])
      refine bodyPost_ret (results_none rfl _ _ _) rfl ?_
      obtain rfl : z = x := by omega
      refine ⟨rfl, HC.out.keep _ _ HIr.out HT4.out, (HT.out.mono fun _ _ c => .inl c).trans (HT4.out.mono fun _ _ c => .inr c), _, HF4.out, ?_, ?_⟩
      · have := HM.out
        exact (rot_perm f0 (by omega) (by omega)).wide (by omega) (by omega)
      · rw [HM.out]
        exact insert_left (by omega) (by omega) HS.out (fun k h1 h2 => HLO.out k h1 h2) HHI.out
end Go.Proofs.YticddcnlafbkoaaDoor

/- The stable sort of package slices over a row of numbers: the merge. -/
namespace Go.Proofs.YticddcnlafbkoaaDoor
open Go.ChangeShapes Go.WideShapes Go.ChangeAt Go.RowKit Go.Deep

/-- What the merge is asked and gives. -/
def MergeSaid (g : Nat) (cb : Array Value) (lt : Nat → Nat → Bool) (N blk n cap : Nat) (I : World → Prop) (S : Nat → Prop) (a m b : Nat) : Prop :=
  ∀ (f0 : Nat → Nat) (w : World), I w → Ints w blk n f0 → a < m → m < b → b ≤ n → (∀ k, a ≤ k → k < b → f0 k < N) → Sorted lt f0 a m → Sorted lt f0 m b →
    (∀ p q, a ≤ p → p < m → m ≤ q → q < b → f0 p < f0 q) →
    Calls Tryd.prog 104 #[.slice (some ⟨blk, 0, none⟩) n cap, .int .i64 a, .int .i64 m, .int .i64 b, .func (.func g) #[] cb] w
      (SortPost blk n I S w (fun f' => PermOn a b f0 f' ∧ Sorted lt f' a b))

set_option maxRecDepth 100000 in
set_option maxHeartbeats 8000000 in
theorem symMerge_step (g : Nat) (cb : Array Value) (lt : Nat → Nat → Bool) (N blk n cap : Nat) (I : World → Prop) (S : Nat → Prop) (C : Cmp g cb lt N blk I S) (hw : SWO lt N)
    (hn : n ≤ 4611686018427387904) (a m b : Nat) (hm1 : a + 1 < m) (hm2 : m + 1 < b)
    (ih1 : ∀ s, MergeSaid g cb lt N blk n cap I S a s ((a + b) / 2)) (ih2 : ∀ e, MergeSaid g cb lt N blk n cap I S ((a + b) / 2) e b) : MergeSaid g cb lt N blk n cap I S a m b := by
  intro f0 w hI h _ _ hb hN hsA hsB hup
  have HC := Lib.hid C
  have HI := Lib.hid hI
  have H := Lib.hid h
  have HN := Lib.hid hN
  have HU := Lib.hid hup
  have HW := Lib.hid hw
  have HSA := Lib.hid hsA
  have HSB := Lib.hid hsB
  have H1 := Lib.hid ih1
  have H2 := Lib.hid ih2
  have eg := C.enter
  clear C hI h hN hup hw hsA hsB ih1 ih2
  obtain ⟨mid, HMID⟩ : ∃ mid, Hid (mid = (a + b) / 2) := ⟨_, Lib.hid rfl⟩
  have k1 : a < mid := by have := HMID.out; omega
  have k2 : mid < b := by have := HMID.out; omega
  have k3 : 2 * mid ≤ a + b := by have := HMID.out; omega
  have k4 : a + b ≤ 2 * mid + 1 := by have := HMID.out; omega
  have em : ((a : Int) + (b : Int)) / 2 = (mid : Int) := by rw [HMID.out]; omega
  have e1 : ((m : Int) - (a : Int) == 1) = false := by rw [beq_eq_false_iff_ne]; omega
  have e2 : ((b : Int) - (m : Int) == 1) = false := by rw [beq_eq_false_iff_ne]; omega
  obtain ⟨s0, r0, HR0⟩ : ∃ s0 r0, Hid (mid < m ∧ s0 = mid + m - b ∧ r0 = mid ∨ m ≤ mid ∧ s0 = a ∧ r0 = m) := by
    by_cases c : mid < m
    · exact ⟨_, _, Lib.hid (.inl ⟨c, rfl, rfl⟩)⟩
    · exact ⟨_, _, Lib.hid (.inr ⟨by omega, rfl, rfl⟩)⟩
  have hcase : (mid < m ∧ decide (mid < m) = true) ∨ (m ≤ mid ∧ decide (mid < m) = false) := by
    by_cases c : mid < m
    · exact .inl ⟨c, by simpa using c⟩
    · exact .inr ⟨by omega, by simpa using c⟩
  rcases hcase with ⟨hcase, hd0⟩ | ⟨hcase, hd0⟩
  all_goals
    go_enter Tryd.func104, Tryd.ntmps104
    go_wp2_with fail
    go_loopw [20, 21] (fun i j wr => ∃ x y : Nat, s0 ≤ x ∧ x ≤ y ∧ y ≤ r0 ∧ i = .int .i64 x ∧ j = .int .i64 y ∧ I wr ∧ Touch S w wr ∧ (s0 < x → Rel lt (f0 (x - 1)) (f0 (mid + m - x))) ∧ (y < r0 → Rel lt (f0 (mid + m - 1 - y)) (f0 y))) (fun i j _ => (intOf j).toNat - (intOf i).toNat)
    case atStart =>
      have := HR0.out
      exact ⟨s0, r0, by omega, by omega, by omega, by go_num, by go_num, HI.out, Touch.refl _ _, fun h1 => by omega, fun h1 => by omega⟩
    obtain ⟨x, y, hmx, hxy, hyb, rfl, rfl, hIr, hto, hlo, hhi⟩ := hrel
    have HIr := Lib.hid hIr
    have HT := Lib.hid hto
    have HLO := Lib.hid hlo
    have HHI := Lib.hid hhi
    have HF := Lib.hid (H.out.keep hto HC.out.apart)
    clear hIr hto hlo hhi
    by_cases hlt : x < y
    · obtain ⟨z, HZ⟩ : ∃ z, Hid (z = (x + y) / 2) := ⟨_, Lib.hid rfl⟩
      have hz1 : x ≤ z := by have := HZ.out; omega
      have hz2 : z < y := by have := HZ.out; omega
      obtain ⟨p, HP⟩ : ∃ p, Hid (p = mid + m - 1 - z) := ⟨_, Lib.hid rfl⟩
      have hp1 : m ≤ p := by have := HR0.out; have := HP.out; omega
      have hp2 : p < b := by have := HR0.out; have := HP.out; omega
      have hz3 : z < m := by have := HR0.out; omega
      have hz4 : a ≤ z := by have := HR0.out; omega
      have ez3 : ((x : Int) + (y : Int)) / 2 = (z : Int) := by rw [HZ.out]; omega
      have ep1 : (mid : Int) + (m : Int) - 1 - (z : Int) = (p : Int) := by have := HP.out; omega
      have ep2 : IntKind.i64.wrap (p : Int) = (p : Int) := IntWalk.i64_in _ (by omega)
      have c1 := HF.out.cell (i := z) (by omega)
      have c2 := HF.out.cell (i := p) (by omega)
      have i1 : (z : Int) < (n : Int) := by omega
      have i2 : (0 : Int) ≤ (z : Int) := by omega
      have i3 : (p : Int) < (n : Int) := by omega
      have i4 : (0 : Int) ≤ (p : Int) := by omega
      clear em
      go_wp2_with fail
      go_still_tail 11, mixed
      clear ez3 ep1 ep2
      change wpList _ _ _ _ _ wr.drew
      have HIr := Lib.hid (HC.out.keep _ _ HIr.out (Touch.refl _ _).drew)
      have HT := Lib.hid HT.out.drew
      have HF := Lib.hid HF.out.drew
      clear c1 c2
      generalize wr.drew = w1 at *
      have HL := Lib.hid (HU.out z p hz4 hz3 hp1 hp2)
      have HB := Lib.hid (And.intro (HN.out z (by omega) (by omega)) (HN.out p (by omega) (by omega)))
      go_wp2_with fail
      refine (HC.out.call _ _ _ HIr.out HB.out.2 HB.out.1).mono ?_
      rintro e w' ⟨r, rfl, hr1, hr2, hI2, hT2⟩
      have HI2 := Lib.hid hI2
      have HT3 := Lib.hid (HT.out.trans hT2)
      clear hI2 hT2
      by_cases hlt2 : lt (f0 p) (f0 z) = true
      · have hr := hr1 hlt2
        have HR := Lib.hid ((Rel.of_gt HL.out).2 hlt2)
        clear hr1 hr2 hlt2
        go_wp2_with fail
        go_roundw
        case rel =>
          refine ⟨x, z, hmx, by omega, by omega, rfl, rfl, HI2.out, HT3.out, HLO.out, ?_⟩
          intro _; rw [← HP.out]; exact HR.out
        case measure => simp [intOf]; omega
      · have hr := hr2 (by simpa using hlt2)
        have hd : decide (r < 0) = false := by simp; omega
        have HR := Lib.hid (show Rel lt (f0 z) (f0 p) from Rel.not HW.out HB.out.2 HB.out.1 (by have := HL.out; omega) (fun c => hlt2 ((Rel.of_gt HL.out).1 c)))
        clear hr1 hr2 hlt2
        go_wp2_with fail
        go_roundw
        case rel =>
          refine ⟨z + 1, y, by omega, by omega, hyb, by go_num, rfl, HI2.out, HT3.out, ?_, HHI.out⟩
          intro _
          rw [show z + 1 - 1 = z from by omega, show mid + m - (z + 1) = p from by have := HP.out; omega]
          exact HR.out
        case measure => simp [intOf]; omega
    · obtain rfl : x = y := by omega
      obtain ⟨e, HE⟩ : ∃ e, Hid (e = mid + m - x) := ⟨_, Lib.hid rfl⟩
      have q1 : a ≤ x := by have := HR0.out; omega
      have q2 : x ≤ m := by have := HR0.out; omega
      have q3 : m ≤ e := by have := HR0.out; have := HE.out; omega
      have q4 : e ≤ b := by have := HR0.out; have := HE.out; omega
      have HQ5 := Lib.hid (show x + (e - m) = mid from by have := HR0.out; have := HE.out; omega)
      have q6 : x ≤ mid := by have := HQ5.out; omega
      have q7 : mid ≤ e := by have := HQ5.out; omega
      have HMC := Lib.hid (merge_cut HW.out q1 q2 q3 q4 HN.out HSA.out HSB.out
        (fun g1 g2 => by
          have := HR0.out; have he := HE.out
          have := HLO.out (by omega)
          rw [he]; exact this)
        (fun g1 g2 => by
          have := HR0.out; have he := HE.out
          have := HHI.out (by omega)
          rw [show e - 1 = mid + m - 1 - x from by omega]; exact this))
      have HCF := Lib.hid (cut_facts q1 q2 q3 q4 HU.out)
      simp only [HQ5.out] at HMC HCF
      have HPR := Lib.hid ((rot_perm f0 q2 q3).wide q1 q4)
      have HNR := Lib.hid (HPR.out.all (p := fun v => v < N) HN.out)
      have HRID0 := Lib.hid (show ¬ (x < m ∧ m < e) → rot x m e f0 = f0 from fun c => rot_id (f := f0) q2 q3 c)
      generalize HF1 : rot x m e f0 = f1 at HMC HCF HPR HNR
      have HF1 := Lib.hid HF1
      have ee1 : (mid : Int) + (m : Int) - (x : Int) = (e : Int) := by have := HE.out; omega
      clear em
      have HIH1 := Lib.hid (show ∀ s, MergeSaid g cb lt N blk n cap I S a s mid from by rw [HMID.out]; exact H1.out)
      have HIH2 := Lib.hid (show ∀ e, MergeSaid g cb lt N blk n cap I S mid e b from by rw [HMID.out]; exact H2.out)
      clear H1 H2
      rcases (show (x < m ∧ m < e) ∨ ¬ x < m ∨ (x < m ∧ ¬ m < e) from by omega) with ⟨g1, g2⟩ | g1 | ⟨g1, g2⟩
      · go_wp2_with fail
        refine (rotate_any blk n cap x m e f0 _ _ HF.out hn g1 g2 (by omega)).mono ?_
        rintro e' w1 ⟨rfl, hF1, hT1⟩
        have HI1 := Lib.hid (HC.out.keep _ _ HIr.out hT1)
        have HT1 := Lib.hid ((HT.out.mono (S' := Plus S blk) fun _ _ c => .inl c).trans (hT1.mono fun _ _ c => .inr c))
        rw [HF1.out] at hF1
        have HF1 := Lib.hid hF1
        clear hT1 hF1
        rcases (show (a < x ∧ x < mid) ∨ ¬ a < x ∨ (a < x ∧ ¬ x < mid) from by omega) with ⟨g3, g4⟩ | g3 | ⟨g3, g4⟩
        · go_wp2_with fail
          refine (HIH1.out x f1 _ HI1.out HF1.out g3 g4 (by omega) (fun k u v => HNR.out k u (by omega)) HMC.out.1.1 HMC.out.1.2.1 HCF.out.1).mono ?_
          rintro e' w2 ⟨rfl, hI2, hT2, f2, hF2, hP2, hS2⟩
          have HI2 := Lib.hid hI2
          have HT2 := Lib.hid (HT1.out.trans hT2)
          have HF2 := Lib.hid hF2
          have HP2 := Lib.hid hP2
          have HS2 := Lib.hid hS2
          clear hI2 hT2 hF2 hP2 hS2
          rcases (show (mid < e ∧ e < b) ∨ ¬ mid < e ∨ (mid < e ∧ ¬ e < b) from by omega) with ⟨g5, g6⟩ | g5 | ⟨g5, g6⟩
          · go_wp2_with fail
            refine (HIH2.out e f2 _ HI2.out HF2.out g5 g6 hb (fun k u v => by rw [HP2.out.out k (by omega)]; exact HNR.out k (by omega) v)
              (sorted_congr HMC.out.1.2.2.1 fun k u v => HP2.out.out k (by omega)) (sorted_congr HMC.out.1.2.2.2 fun k u v => HP2.out.out k (by omega))
              (fun p q u1 u2 u3 u4 => by rw [HP2.out.out p (by omega), HP2.out.out q (by omega)]; exact HCF.out.2 p q u1 u2 u3 u4)).mono ?_
            rintro e' w3 ⟨rfl, hI3, hT3, f3, hF3, hP3, hS3⟩
            have HI3 := Lib.hid hI3
            have HT3 := Lib.hid (HT2.out.trans hT3)
            have HF3 := Lib.hid hF3
            have HE3 := Lib.hid (merge_end (by omega) (by omega) HMC.out.2 HP2.out HS2.out hP3 hS3)
            clear hI3 hT3 hF3 hP3 hS3
            go_wp2_with fail
            go_end0
            exact ⟨rfl, HI3.out, HT3.out, f3, HF3.out, HPR.out.trans HE3.out.1, HE3.out.2⟩
          · have HS3 := Lib.hid (show Sorted lt f2 mid b from sorted_congr (by rw [show mid = e from by omega]; exact HMC.out.1.2.2.2) fun k u v => HP2.out.out k (by omega))
            have HE3 := Lib.hid (merge_end (by omega) (by omega) HMC.out.2 HP2.out HS2.out (PermOn.refl mid b f2) HS3.out)
            go_wp2_with fail
            go_end0
            exact ⟨rfl, HI2.out, HT2.out, f2, HF2.out, HPR.out.trans HE3.out.1, HE3.out.2⟩
          · have HS3 := Lib.hid (show Sorted lt f2 mid b from sorted_congr (by rw [← (show e = b from by omega)]; exact HMC.out.1.2.2.1) fun k u v => HP2.out.out k (by omega))
            have HE3 := Lib.hid (merge_end (by omega) (by omega) HMC.out.2 HP2.out HS2.out (PermOn.refl mid b f2) HS3.out)
            go_wp2_with fail
            go_end0
            exact ⟨rfl, HI2.out, HT2.out, f2, HF2.out, HPR.out.trans HE3.out.1, HE3.out.2⟩
        · have HS2 := Lib.hid (show Sorted lt f1 a mid from by rw [show a = x from by omega]; exact HMC.out.1.2.1)
          have HI2 := HI1
          have HT2 := HT1
          have HF2 := HF1
          have HP2 := Lib.hid (PermOn.refl a mid f1)
          obtain ⟨f2, HFE⟩ : ∃ f2, Hid (f2 = f1) := ⟨_, Lib.hid rfl⟩
          rw [← HFE.out] at HS2 HF2
          have HP2 := Lib.hid (show PermOn a mid f1 f2 from by rw [HFE.out]; exact PermOn.refl a mid f1)
          rcases (show (mid < e ∧ e < b) ∨ ¬ mid < e ∨ (mid < e ∧ ¬ e < b) from by omega) with ⟨g5, g6⟩ | g5 | ⟨g5, g6⟩
          · go_wp2_with fail
            refine (HIH2.out e f2 _ HI2.out HF2.out g5 g6 hb (fun k u v => by rw [HP2.out.out k (by omega)]; exact HNR.out k (by omega) v)
              (sorted_congr HMC.out.1.2.2.1 fun k u v => HP2.out.out k (by omega)) (sorted_congr HMC.out.1.2.2.2 fun k u v => HP2.out.out k (by omega))
              (fun p q u1 u2 u3 u4 => by rw [HP2.out.out p (by omega), HP2.out.out q (by omega)]; exact HCF.out.2 p q u1 u2 u3 u4)).mono ?_
            rintro e' w3 ⟨rfl, hI3, hT3, f3, hF3, hP3, hS3⟩
            have HI3 := Lib.hid hI3
            have HT3 := Lib.hid (HT2.out.trans hT3)
            have HF3 := Lib.hid hF3
            have HE3 := Lib.hid (merge_end (by omega) (by omega) HMC.out.2 HP2.out HS2.out hP3 hS3)
            clear hI3 hT3 hF3 hP3 hS3
            go_wp2_with fail
            go_end0
            exact ⟨rfl, HI3.out, HT3.out, f3, HF3.out, HPR.out.trans HE3.out.1, HE3.out.2⟩
          · have HS3 := Lib.hid (show Sorted lt f2 mid b from sorted_congr (by rw [show mid = e from by omega]; exact HMC.out.1.2.2.2) fun k u v => HP2.out.out k (by omega))
            have HE3 := Lib.hid (merge_end (by omega) (by omega) HMC.out.2 HP2.out HS2.out (PermOn.refl mid b f2) HS3.out)
            go_wp2_with fail
            go_end0
            exact ⟨rfl, HI2.out, HT2.out, f2, HF2.out, HPR.out.trans HE3.out.1, HE3.out.2⟩
          · have HS3 := Lib.hid (show Sorted lt f2 mid b from sorted_congr (by rw [← (show e = b from by omega)]; exact HMC.out.1.2.2.1) fun k u v => HP2.out.out k (by omega))
            have HE3 := Lib.hid (merge_end (by omega) (by omega) HMC.out.2 HP2.out HS2.out (PermOn.refl mid b f2) HS3.out)
            go_wp2_with fail
            go_end0
            exact ⟨rfl, HI2.out, HT2.out, f2, HF2.out, HPR.out.trans HE3.out.1, HE3.out.2⟩
        · have HS2 := Lib.hid (show Sorted lt f1 a mid from by rw [← (show x = mid from by omega)]; exact HMC.out.1.1)
          have HI2 := HI1
          have HT2 := HT1
          have HF2 := HF1
          have HP2 := Lib.hid (PermOn.refl a mid f1)
          obtain ⟨f2, HFE⟩ : ∃ f2, Hid (f2 = f1) := ⟨_, Lib.hid rfl⟩
          rw [← HFE.out] at HS2 HF2
          have HP2 := Lib.hid (show PermOn a mid f1 f2 from by rw [HFE.out]; exact PermOn.refl a mid f1)
          rcases (show (mid < e ∧ e < b) ∨ ¬ mid < e ∨ (mid < e ∧ ¬ e < b) from by omega) with ⟨g5, g6⟩ | g5 | ⟨g5, g6⟩
          · go_wp2_with fail
            refine (HIH2.out e f2 _ HI2.out HF2.out g5 g6 hb (fun k u v => by rw [HP2.out.out k (by omega)]; exact HNR.out k (by omega) v)
              (sorted_congr HMC.out.1.2.2.1 fun k u v => HP2.out.out k (by omega)) (sorted_congr HMC.out.1.2.2.2 fun k u v => HP2.out.out k (by omega))
              (fun p q u1 u2 u3 u4 => by rw [HP2.out.out p (by omega), HP2.out.out q (by omega)]; exact HCF.out.2 p q u1 u2 u3 u4)).mono ?_
            rintro e' w3 ⟨rfl, hI3, hT3, f3, hF3, hP3, hS3⟩
            have HI3 := Lib.hid hI3
            have HT3 := Lib.hid (HT2.out.trans hT3)
            have HF3 := Lib.hid hF3
            have HE3 := Lib.hid (merge_end (by omega) (by omega) HMC.out.2 HP2.out HS2.out hP3 hS3)
            clear hI3 hT3 hF3 hP3 hS3
            go_wp2_with fail
            go_end0
            exact ⟨rfl, HI3.out, HT3.out, f3, HF3.out, HPR.out.trans HE3.out.1, HE3.out.2⟩
          · have HS3 := Lib.hid (show Sorted lt f2 mid b from sorted_congr (by rw [show mid = e from by omega]; exact HMC.out.1.2.2.2) fun k u v => HP2.out.out k (by omega))
            have HE3 := Lib.hid (merge_end (by omega) (by omega) HMC.out.2 HP2.out HS2.out (PermOn.refl mid b f2) HS3.out)
            go_wp2_with fail
            go_end0
            exact ⟨rfl, HI2.out, HT2.out, f2, HF2.out, HPR.out.trans HE3.out.1, HE3.out.2⟩
          · have HS3 := Lib.hid (show Sorted lt f2 mid b from sorted_congr (by rw [← (show e = b from by omega)]; exact HMC.out.1.2.2.1) fun k u v => HP2.out.out k (by omega))
            have HE3 := Lib.hid (merge_end (by omega) (by omega) HMC.out.2 HP2.out HS2.out (PermOn.refl mid b f2) HS3.out)
            go_wp2_with fail
            go_end0
            exact ⟨rfl, HI2.out, HT2.out, f2, HF2.out, HPR.out.trans HE3.out.1, HE3.out.2⟩
      · have HF1 := Lib.hid (show Ints wr blk n f1 from by rw [← HF1.out, HRID0.out (by omega)]; exact HF.out)
        have HI1 := HIr
        have HT1 := Lib.hid (HT.out.mono (S' := Plus S blk) fun _ _ c => .inl c)
        rcases (show (a < x ∧ x < mid) ∨ ¬ a < x ∨ (a < x ∧ ¬ x < mid) from by omega) with ⟨g3, g4⟩ | g3 | ⟨g3, g4⟩
        · go_wp2_with fail
          refine (HIH1.out x f1 _ HI1.out HF1.out g3 g4 (by omega) (fun k u v => HNR.out k u (by omega)) HMC.out.1.1 HMC.out.1.2.1 HCF.out.1).mono ?_
          rintro e' w2 ⟨rfl, hI2, hT2, f2, hF2, hP2, hS2⟩
          have HI2 := Lib.hid hI2
          have HT2 := Lib.hid (HT1.out.trans hT2)
          have HF2 := Lib.hid hF2
          have HP2 := Lib.hid hP2
          have HS2 := Lib.hid hS2
          clear hI2 hT2 hF2 hP2 hS2
          rcases (show (mid < e ∧ e < b) ∨ ¬ mid < e ∨ (mid < e ∧ ¬ e < b) from by omega) with ⟨g5, g6⟩ | g5 | ⟨g5, g6⟩
          · go_wp2_with fail
            refine (HIH2.out e f2 _ HI2.out HF2.out g5 g6 hb (fun k u v => by rw [HP2.out.out k (by omega)]; exact HNR.out k (by omega) v)
              (sorted_congr HMC.out.1.2.2.1 fun k u v => HP2.out.out k (by omega)) (sorted_congr HMC.out.1.2.2.2 fun k u v => HP2.out.out k (by omega))
              (fun p q u1 u2 u3 u4 => by rw [HP2.out.out p (by omega), HP2.out.out q (by omega)]; exact HCF.out.2 p q u1 u2 u3 u4)).mono ?_
            rintro e' w3 ⟨rfl, hI3, hT3, f3, hF3, hP3, hS3⟩
            have HI3 := Lib.hid hI3
            have HT3 := Lib.hid (HT2.out.trans hT3)
            have HF3 := Lib.hid hF3
            have HE3 := Lib.hid (merge_end (by omega) (by omega) HMC.out.2 HP2.out HS2.out hP3 hS3)
            clear hI3 hT3 hF3 hP3 hS3
            go_wp2_with fail
            go_end0
            exact ⟨rfl, HI3.out, HT3.out, f3, HF3.out, HPR.out.trans HE3.out.1, HE3.out.2⟩
          · have HS3 := Lib.hid (show Sorted lt f2 mid b from sorted_congr (by rw [show mid = e from by omega]; exact HMC.out.1.2.2.2) fun k u v => HP2.out.out k (by omega))
            have HE3 := Lib.hid (merge_end (by omega) (by omega) HMC.out.2 HP2.out HS2.out (PermOn.refl mid b f2) HS3.out)
            go_wp2_with fail
            go_end0
            exact ⟨rfl, HI2.out, HT2.out, f2, HF2.out, HPR.out.trans HE3.out.1, HE3.out.2⟩
          · have HS3 := Lib.hid (show Sorted lt f2 mid b from sorted_congr (by rw [← (show e = b from by omega)]; exact HMC.out.1.2.2.1) fun k u v => HP2.out.out k (by omega))
            have HE3 := Lib.hid (merge_end (by omega) (by omega) HMC.out.2 HP2.out HS2.out (PermOn.refl mid b f2) HS3.out)
            go_wp2_with fail
            go_end0
            exact ⟨rfl, HI2.out, HT2.out, f2, HF2.out, HPR.out.trans HE3.out.1, HE3.out.2⟩
        · have HS2 := Lib.hid (show Sorted lt f1 a mid from by rw [show a = x from by omega]; exact HMC.out.1.2.1)
          have HI2 := HI1
          have HT2 := HT1
          have HF2 := HF1
          have HP2 := Lib.hid (PermOn.refl a mid f1)
          obtain ⟨f2, HFE⟩ : ∃ f2, Hid (f2 = f1) := ⟨_, Lib.hid rfl⟩
          rw [← HFE.out] at HS2 HF2
          have HP2 := Lib.hid (show PermOn a mid f1 f2 from by rw [HFE.out]; exact PermOn.refl a mid f1)
          rcases (show (mid < e ∧ e < b) ∨ ¬ mid < e ∨ (mid < e ∧ ¬ e < b) from by omega) with ⟨g5, g6⟩ | g5 | ⟨g5, g6⟩
          · go_wp2_with fail
            refine (HIH2.out e f2 _ HI2.out HF2.out g5 g6 hb (fun k u v => by rw [HP2.out.out k (by omega)]; exact HNR.out k (by omega) v)
              (sorted_congr HMC.out.1.2.2.1 fun k u v => HP2.out.out k (by omega)) (sorted_congr HMC.out.1.2.2.2 fun k u v => HP2.out.out k (by omega))
              (fun p q u1 u2 u3 u4 => by rw [HP2.out.out p (by omega), HP2.out.out q (by omega)]; exact HCF.out.2 p q u1 u2 u3 u4)).mono ?_
            rintro e' w3 ⟨rfl, hI3, hT3, f3, hF3, hP3, hS3⟩
            have HI3 := Lib.hid hI3
            have HT3 := Lib.hid (HT2.out.trans hT3)
            have HF3 := Lib.hid hF3
            have HE3 := Lib.hid (merge_end (by omega) (by omega) HMC.out.2 HP2.out HS2.out hP3 hS3)
            clear hI3 hT3 hF3 hP3 hS3
            go_wp2_with fail
            go_end0
            exact ⟨rfl, HI3.out, HT3.out, f3, HF3.out, HPR.out.trans HE3.out.1, HE3.out.2⟩
          · have HS3 := Lib.hid (show Sorted lt f2 mid b from sorted_congr (by rw [show mid = e from by omega]; exact HMC.out.1.2.2.2) fun k u v => HP2.out.out k (by omega))
            have HE3 := Lib.hid (merge_end (by omega) (by omega) HMC.out.2 HP2.out HS2.out (PermOn.refl mid b f2) HS3.out)
            go_wp2_with fail
            go_end0
            exact ⟨rfl, HI2.out, HT2.out, f2, HF2.out, HPR.out.trans HE3.out.1, HE3.out.2⟩
          · have HS3 := Lib.hid (show Sorted lt f2 mid b from sorted_congr (by rw [← (show e = b from by omega)]; exact HMC.out.1.2.2.1) fun k u v => HP2.out.out k (by omega))
            have HE3 := Lib.hid (merge_end (by omega) (by omega) HMC.out.2 HP2.out HS2.out (PermOn.refl mid b f2) HS3.out)
            go_wp2_with fail
            go_end0
            exact ⟨rfl, HI2.out, HT2.out, f2, HF2.out, HPR.out.trans HE3.out.1, HE3.out.2⟩
        · have HS2 := Lib.hid (show Sorted lt f1 a mid from by rw [← (show x = mid from by omega)]; exact HMC.out.1.1)
          have HI2 := HI1
          have HT2 := HT1
          have HF2 := HF1
          have HP2 := Lib.hid (PermOn.refl a mid f1)
          obtain ⟨f2, HFE⟩ : ∃ f2, Hid (f2 = f1) := ⟨_, Lib.hid rfl⟩
          rw [← HFE.out] at HS2 HF2
          have HP2 := Lib.hid (show PermOn a mid f1 f2 from by rw [HFE.out]; exact PermOn.refl a mid f1)
          rcases (show (mid < e ∧ e < b) ∨ ¬ mid < e ∨ (mid < e ∧ ¬ e < b) from by omega) with ⟨g5, g6⟩ | g5 | ⟨g5, g6⟩
          · go_wp2_with fail
            refine (HIH2.out e f2 _ HI2.out HF2.out g5 g6 hb (fun k u v => by rw [HP2.out.out k (by omega)]; exact HNR.out k (by omega) v)
              (sorted_congr HMC.out.1.2.2.1 fun k u v => HP2.out.out k (by omega)) (sorted_congr HMC.out.1.2.2.2 fun k u v => HP2.out.out k (by omega))
              (fun p q u1 u2 u3 u4 => by rw [HP2.out.out p (by omega), HP2.out.out q (by omega)]; exact HCF.out.2 p q u1 u2 u3 u4)).mono ?_
            rintro e' w3 ⟨rfl, hI3, hT3, f3, hF3, hP3, hS3⟩
            have HI3 := Lib.hid hI3
            have HT3 := Lib.hid (HT2.out.trans hT3)
            have HF3 := Lib.hid hF3
            have HE3 := Lib.hid (merge_end (by omega) (by omega) HMC.out.2 HP2.out HS2.out hP3 hS3)
            clear hI3 hT3 hF3 hP3 hS3
            go_wp2_with fail
            go_end0
            exact ⟨rfl, HI3.out, HT3.out, f3, HF3.out, HPR.out.trans HE3.out.1, HE3.out.2⟩
          · have HS3 := Lib.hid (show Sorted lt f2 mid b from sorted_congr (by rw [show mid = e from by omega]; exact HMC.out.1.2.2.2) fun k u v => HP2.out.out k (by omega))
            have HE3 := Lib.hid (merge_end (by omega) (by omega) HMC.out.2 HP2.out HS2.out (PermOn.refl mid b f2) HS3.out)
            go_wp2_with fail
            go_end0
            exact ⟨rfl, HI2.out, HT2.out, f2, HF2.out, HPR.out.trans HE3.out.1, HE3.out.2⟩
          · have HS3 := Lib.hid (show Sorted lt f2 mid b from sorted_congr (by rw [← (show e = b from by omega)]; exact HMC.out.1.2.2.1) fun k u v => HP2.out.out k (by omega))
            have HE3 := Lib.hid (merge_end (by omega) (by omega) HMC.out.2 HP2.out HS2.out (PermOn.refl mid b f2) HS3.out)
            go_wp2_with fail
            go_end0
            exact ⟨rfl, HI2.out, HT2.out, f2, HF2.out, HPR.out.trans HE3.out.1, HE3.out.2⟩
      · have HF1 := Lib.hid (show Ints wr blk n f1 from by rw [← HF1.out, HRID0.out (by omega)]; exact HF.out)
        have HI1 := HIr
        have HT1 := Lib.hid (HT.out.mono (S' := Plus S blk) fun _ _ c => .inl c)
        rcases (show (a < x ∧ x < mid) ∨ ¬ a < x ∨ (a < x ∧ ¬ x < mid) from by omega) with ⟨g3, g4⟩ | g3 | ⟨g3, g4⟩
        · go_wp2_with fail
          refine (HIH1.out x f1 _ HI1.out HF1.out g3 g4 (by omega) (fun k u v => HNR.out k u (by omega)) HMC.out.1.1 HMC.out.1.2.1 HCF.out.1).mono ?_
          rintro e' w2 ⟨rfl, hI2, hT2, f2, hF2, hP2, hS2⟩
          have HI2 := Lib.hid hI2
          have HT2 := Lib.hid (HT1.out.trans hT2)
          have HF2 := Lib.hid hF2
          have HP2 := Lib.hid hP2
          have HS2 := Lib.hid hS2
          clear hI2 hT2 hF2 hP2 hS2
          rcases (show (mid < e ∧ e < b) ∨ ¬ mid < e ∨ (mid < e ∧ ¬ e < b) from by omega) with ⟨g5, g6⟩ | g5 | ⟨g5, g6⟩
          · go_wp2_with fail
            refine (HIH2.out e f2 _ HI2.out HF2.out g5 g6 hb (fun k u v => by rw [HP2.out.out k (by omega)]; exact HNR.out k (by omega) v)
              (sorted_congr HMC.out.1.2.2.1 fun k u v => HP2.out.out k (by omega)) (sorted_congr HMC.out.1.2.2.2 fun k u v => HP2.out.out k (by omega))
              (fun p q u1 u2 u3 u4 => by rw [HP2.out.out p (by omega), HP2.out.out q (by omega)]; exact HCF.out.2 p q u1 u2 u3 u4)).mono ?_
            rintro e' w3 ⟨rfl, hI3, hT3, f3, hF3, hP3, hS3⟩
            have HI3 := Lib.hid hI3
            have HT3 := Lib.hid (HT2.out.trans hT3)
            have HF3 := Lib.hid hF3
            have HE3 := Lib.hid (merge_end (by omega) (by omega) HMC.out.2 HP2.out HS2.out hP3 hS3)
            clear hI3 hT3 hF3 hP3 hS3
            go_wp2_with fail
            go_end0
            exact ⟨rfl, HI3.out, HT3.out, f3, HF3.out, HPR.out.trans HE3.out.1, HE3.out.2⟩
          · have HS3 := Lib.hid (show Sorted lt f2 mid b from sorted_congr (by rw [show mid = e from by omega]; exact HMC.out.1.2.2.2) fun k u v => HP2.out.out k (by omega))
            have HE3 := Lib.hid (merge_end (by omega) (by omega) HMC.out.2 HP2.out HS2.out (PermOn.refl mid b f2) HS3.out)
            go_wp2_with fail
            go_end0
            exact ⟨rfl, HI2.out, HT2.out, f2, HF2.out, HPR.out.trans HE3.out.1, HE3.out.2⟩
          · have HS3 := Lib.hid (show Sorted lt f2 mid b from sorted_congr (by rw [← (show e = b from by omega)]; exact HMC.out.1.2.2.1) fun k u v => HP2.out.out k (by omega))
            have HE3 := Lib.hid (merge_end (by omega) (by omega) HMC.out.2 HP2.out HS2.out (PermOn.refl mid b f2) HS3.out)
            go_wp2_with fail
            go_end0
            exact ⟨rfl, HI2.out, HT2.out, f2, HF2.out, HPR.out.trans HE3.out.1, HE3.out.2⟩
        · have HS2 := Lib.hid (show Sorted lt f1 a mid from by rw [show a = x from by omega]; exact HMC.out.1.2.1)
          have HI2 := HI1
          have HT2 := HT1
          have HF2 := HF1
          have HP2 := Lib.hid (PermOn.refl a mid f1)
          obtain ⟨f2, HFE⟩ : ∃ f2, Hid (f2 = f1) := ⟨_, Lib.hid rfl⟩
          rw [← HFE.out] at HS2 HF2
          have HP2 := Lib.hid (show PermOn a mid f1 f2 from by rw [HFE.out]; exact PermOn.refl a mid f1)
          rcases (show (mid < e ∧ e < b) ∨ ¬ mid < e ∨ (mid < e ∧ ¬ e < b) from by omega) with ⟨g5, g6⟩ | g5 | ⟨g5, g6⟩
          · go_wp2_with fail
            refine (HIH2.out e f2 _ HI2.out HF2.out g5 g6 hb (fun k u v => by rw [HP2.out.out k (by omega)]; exact HNR.out k (by omega) v)
              (sorted_congr HMC.out.1.2.2.1 fun k u v => HP2.out.out k (by omega)) (sorted_congr HMC.out.1.2.2.2 fun k u v => HP2.out.out k (by omega))
              (fun p q u1 u2 u3 u4 => by rw [HP2.out.out p (by omega), HP2.out.out q (by omega)]; exact HCF.out.2 p q u1 u2 u3 u4)).mono ?_
            rintro e' w3 ⟨rfl, hI3, hT3, f3, hF3, hP3, hS3⟩
            have HI3 := Lib.hid hI3
            have HT3 := Lib.hid (HT2.out.trans hT3)
            have HF3 := Lib.hid hF3
            have HE3 := Lib.hid (merge_end (by omega) (by omega) HMC.out.2 HP2.out HS2.out hP3 hS3)
            clear hI3 hT3 hF3 hP3 hS3
            go_wp2_with fail
            go_end0
            exact ⟨rfl, HI3.out, HT3.out, f3, HF3.out, HPR.out.trans HE3.out.1, HE3.out.2⟩
          · have HS3 := Lib.hid (show Sorted lt f2 mid b from sorted_congr (by rw [show mid = e from by omega]; exact HMC.out.1.2.2.2) fun k u v => HP2.out.out k (by omega))
            have HE3 := Lib.hid (merge_end (by omega) (by omega) HMC.out.2 HP2.out HS2.out (PermOn.refl mid b f2) HS3.out)
            go_wp2_with fail
            go_end0
            exact ⟨rfl, HI2.out, HT2.out, f2, HF2.out, HPR.out.trans HE3.out.1, HE3.out.2⟩
          · have HS3 := Lib.hid (show Sorted lt f2 mid b from sorted_congr (by rw [← (show e = b from by omega)]; exact HMC.out.1.2.2.1) fun k u v => HP2.out.out k (by omega))
            have HE3 := Lib.hid (merge_end (by omega) (by omega) HMC.out.2 HP2.out HS2.out (PermOn.refl mid b f2) HS3.out)
            go_wp2_with fail
            go_end0
            exact ⟨rfl, HI2.out, HT2.out, f2, HF2.out, HPR.out.trans HE3.out.1, HE3.out.2⟩
        · have HS2 := Lib.hid (show Sorted lt f1 a mid from by rw [← (show x = mid from by omega)]; exact HMC.out.1.1)
          have HI2 := HI1
          have HT2 := HT1
          have HF2 := HF1
          have HP2 := Lib.hid (PermOn.refl a mid f1)
          obtain ⟨f2, HFE⟩ : ∃ f2, Hid (f2 = f1) := ⟨_, Lib.hid rfl⟩
          rw [← HFE.out] at HS2 HF2
          have HP2 := Lib.hid (show PermOn a mid f1 f2 from by rw [HFE.out]; exact PermOn.refl a mid f1)
          rcases (show (mid < e ∧ e < b) ∨ ¬ mid < e ∨ (mid < e ∧ ¬ e < b) from by omega) with ⟨g5, g6⟩ | g5 | ⟨g5, g6⟩
          · go_wp2_with fail
            refine (HIH2.out e f2 _ HI2.out HF2.out g5 g6 hb (fun k u v => by rw [HP2.out.out k (by omega)]; exact HNR.out k (by omega) v)
              (sorted_congr HMC.out.1.2.2.1 fun k u v => HP2.out.out k (by omega)) (sorted_congr HMC.out.1.2.2.2 fun k u v => HP2.out.out k (by omega))
              (fun p q u1 u2 u3 u4 => by rw [HP2.out.out p (by omega), HP2.out.out q (by omega)]; exact HCF.out.2 p q u1 u2 u3 u4)).mono ?_
            rintro e' w3 ⟨rfl, hI3, hT3, f3, hF3, hP3, hS3⟩
            have HI3 := Lib.hid hI3
            have HT3 := Lib.hid (HT2.out.trans hT3)
            have HF3 := Lib.hid hF3
            have HE3 := Lib.hid (merge_end (by omega) (by omega) HMC.out.2 HP2.out HS2.out hP3 hS3)
            clear hI3 hT3 hF3 hP3 hS3
            go_wp2_with fail
            go_end0
            exact ⟨rfl, HI3.out, HT3.out, f3, HF3.out, HPR.out.trans HE3.out.1, HE3.out.2⟩
          · have HS3 := Lib.hid (show Sorted lt f2 mid b from sorted_congr (by rw [show mid = e from by omega]; exact HMC.out.1.2.2.2) fun k u v => HP2.out.out k (by omega))
            have HE3 := Lib.hid (merge_end (by omega) (by omega) HMC.out.2 HP2.out HS2.out (PermOn.refl mid b f2) HS3.out)
            go_wp2_with fail
            go_end0
            exact ⟨rfl, HI2.out, HT2.out, f2, HF2.out, HPR.out.trans HE3.out.1, HE3.out.2⟩
          · have HS3 := Lib.hid (show Sorted lt f2 mid b from sorted_congr (by rw [← (show e = b from by omega)]; exact HMC.out.1.2.2.1) fun k u v => HP2.out.out k (by omega))
            have HE3 := Lib.hid (merge_end (by omega) (by omega) HMC.out.2 HP2.out HS2.out (PermOn.refl mid b f2) HS3.out)
            go_wp2_with fail
            go_end0
            exact ⟨rfl, HI2.out, HT2.out, f2, HF2.out, HPR.out.trans HE3.out.1, HE3.out.2⟩
end Go.Proofs.YticddcnlafbkoaaDoor

/- The stable sort of package slices over a row of numbers: the whole. -/
namespace Go.Proofs.YticddcnlafbkoaaDoor
open Go.ChangeShapes Go.WideShapes Go.ChangeAt Go.RowKit Go.Deep

theorem symMerge_any (g : Nat) (cb : Array Value) (lt : Nat → Nat → Bool) (N blk n cap : Nat) (I : World → Prop) (S : Nat → Prop) (C : Cmp g cb lt N blk I S) (hw : SWO lt N)
    (hn : n ≤ 4611686018427387904) : ∀ d a m b, b - a ≤ d → MergeSaid g cb lt N blk n cap I S a m b := by
  intro d
  induction d with
  | zero => intro a m b hd f0 w _ _ h1 h2; omega
  | succ d ih =>
    intro a m b hd
    by_cases h1 : m = a + 1
    · subst h1
      intro f0 w hI h g1 g2 hb hN hA hB hup
      exact symMerge_one g cb lt N blk n cap a b I S C hw f0 w hI h hn g2 hb hN hB fun q u v => hup a q (by omega) (by omega) u v
    · by_cases h2 : b = m + 1
      · subst h2
        intro f0 w hI h g1 g2 hb hN hA hB hup
        exact symMerge_last g cb lt N blk n cap a m I S C hw f0 w hI h hn (by omega) hb hN hA fun q u v => hup q m u v (by omega) (by omega)
      · intro f0 w hI h g1 g2
        exact symMerge_step g cb lt N blk n cap I S C hw hn a m b (by omega) (by omega) (fun s => ih a s _ (by omega)) (fun e => ih _ e b (by omega)) f0 w hI h g1 g2

/-- All below c come before all from c on. -/
def Cut (f : Nat → Nat) (c n : Nat) : Prop := ∀ p r, p < c → c ≤ r → r < n → f p < f r
theorem Cut.perm {f f' : Nat → Nat} {a b c n : Nat} (h : Cut f c n) (hp : PermOn a b f f') (hb : b ≤ n) (hc : c ≤ a ∨ b ≤ c) : Cut f' c n := by
  intro p r h1 h2 h3
  have hr : ∃ r', c ≤ r' ∧ r' < n ∧ f' r = f r' := by
    by_cases i : a ≤ r ∧ r < b
    · obtain ⟨j, j1, j2, j3⟩ := hp.back r i
      exact ⟨j, by omega, by omega, j3⟩
    · exact ⟨r, h2, h3, hp.out r i⟩
  have hq : ∃ p', p' < c ∧ f' p = f p' := by
    by_cases i : a ≤ p ∧ p < b
    · obtain ⟨j, j1, j2, j3⟩ := hp.back p i
      exact ⟨j, by omega, j3⟩
    · exact ⟨p, h1, hp.out p i⟩
  obtain ⟨r', r1, r2, r3⟩ := hr
  obtain ⟨p', p1, p2⟩ := hq
  rw [r3, p2]; exact h p' r' p1 r1 r2

/-- Blocks of d elements lie in order, and come one after another. -/
def Blk (lt : Nat → Nat → Bool) (f : Nat → Nat) (d n : Nat) : Prop := ∀ q, Sorted lt f (q * d) (min (q * d + d) n) ∧ Cut f (q * d) n

theorem mul_gap {q Q d : Nat} (h : q < Q) : q * d + d ≤ Q * d := by
  have := Nat.mul_le_mul_right d (Nat.succ_le_of_lt h)
  rw [Nat.succ_mul] at this; exact this

/-- A pass over the blocks that stands at Q: those ahead of it lie in order, d by d; from there on all is as it was in f0. -/
structure Pass (lt : Nat → Nat → Bool) (f0 f : Nat → Nat) (d n Q : Nat) : Prop where
  perm : PermOn 0 n f0 f
  done : ∀ q, q < Q → Sorted lt f (q * d) (q * d + d)
  rest : ∀ k, Q * d ≤ k → f k = f0 k
  cut : ∀ q, Cut f (q * d) n
  le : Q * d ≤ n

theorem Pass.start {lt : Nat → Nat → Bool} {f : Nat → Nat} {d n : Nat} (hc : ∀ q, Cut f (q * d) n) : Pass lt f f d n 0 :=
  ⟨PermOn.refl _ _ _, fun q h => by omega, fun _ _ => rfl, hc, by omega⟩
theorem Pass.next {lt : Nat → Nat → Bool} {f0 f f' : Nat → Nat} {d n Q : Nat} (h : Pass lt f0 f d n Q) (hb : Q * d + d ≤ n) (hp : PermOn (Q * d) (Q * d + d) f f') (hs : Sorted lt f' (Q * d) (Q * d + d)) : Pass lt f0 f' d n (Q + 1) := by
  have e : (Q + 1) * d = Q * d + d := Nat.succ_mul Q d
  refine ⟨h.perm.trans (hp.wide (by omega) hb), fun q hq => ?_, fun k hk => ?_, fun q => ?_, by omega⟩
  · by_cases c : q = Q
    · subst c; exact hs
    · have g := mul_gap (d := d) (show q < Q from by omega)
      exact sorted_congr (h.done q (by omega)) fun k h1 h2 => hp.out k (by omega)
  · rw [hp.out k (by omega), h.rest k (by omega)]
  · refine (h.cut q).perm hp hb ?_
    rcases Nat.lt_trichotomy q Q with c | c | c
    · have := mul_gap (d := d) c; omega
    · subst c; omega
    · have := mul_gap (d := d) c; omega
theorem Pass.last {lt : Nat → Nat → Bool} {f0 f f' : Nat → Nat} {d n Q : Nat} (h : Pass lt f0 f d n Q) (hb : n < Q * d + d) (hp : PermOn (Q * d) n f f') (hs : Sorted lt f' (Q * d) n) : PermOn 0 n f0 f' ∧ Blk lt f' d n := by
  have hle := h.le
  refine ⟨h.perm.trans (hp.wide (by omega) (Nat.le_refl _)), fun q => ⟨?_, ?_⟩⟩
  · rcases Nat.lt_trichotomy q Q with c | c | c
    · have g := mul_gap (d := d) c
      rw [Nat.min_eq_left (by omega)]
      exact sorted_congr (h.done q c) fun k h1 h2 => hp.out k (by omega)
    · subst c; rw [Nat.min_eq_right (by omega)]; exact hs
    · have g := mul_gap (d := d) c
      rw [Nat.min_eq_right (by omega)]
      exact sorted_short (by omega)
  · refine (h.cut q).perm hp (Nat.le_refl _) ?_
    rcases Nat.lt_trichotomy q Q with c | c | c
    · have := mul_gap (d := d) c; omega
    · subst c; omega
    · have := mul_gap (d := d) c; omega

/-- The two halves of a block of 2 d, as the pass before left them. -/
theorem Blk.halves {lt : Nat → Nat → Bool} {f0 f : Nat → Nat} {d n Q : Nat} (h0 : Blk lt f0 d n) (h : Pass lt f0 f (2 * d) n Q) (b : Nat) (hd : 0 < d) (hb : b ≤ n) (hb2 : b = Q * (2 * d) + 2 * d ∨ (b = n ∧ n < Q * (2 * d) + 2 * d)) (hm : Q * (2 * d) + d < b) :
    Sorted lt f (Q * (2 * d)) (Q * (2 * d) + d) ∧ Sorted lt f (Q * (2 * d) + d) b ∧ (∀ p q, Q * (2 * d) ≤ p → p < Q * (2 * d) + d → Q * (2 * d) + d ≤ q → q < b → f p < f q) := by
  have e1 : (2 * Q) * d = Q * (2 * d) := by rw [Nat.mul_comm 2 Q, Nat.mul_assoc]
  have e2 : (2 * Q + 1) * d = Q * (2 * d) + d := by rw [Nat.succ_mul, e1]
  have a1 := (h0 (2 * Q)).1
  have a2 := (h0 (2 * Q + 1)).1
  have a3 := (h0 (2 * Q + 1)).2
  rw [e1, Nat.min_eq_left (by omega)] at a1
  rw [e2] at a2 a3
  have a2' : Sorted lt f0 (Q * (2 * d) + d) b := by
    rcases hb2 with hb2 | ⟨hb2, hb3⟩
    · rw [Nat.min_eq_left (by omega)] at a2
      rw [hb2, show Q * (2 * d) + 2 * d = Q * (2 * d) + d + d from by omega]; exact a2
    · rw [Nat.min_eq_right (by omega)] at a2
      rw [hb2]; exact a2
  refine ⟨sorted_congr a1 fun k h1 _ => h.rest k h1, sorted_congr a2' fun k h1 _ => h.rest k (by omega), fun p q h1 h2 h3 h4 => ?_⟩
  rw [h.rest p h1, h.rest q (by omega)]
  exact a3 p q h2 h3 (by omega)
/-- The last block, where it has no second half. -/
theorem Blk.short {lt : Nat → Nat → Bool} {f0 f : Nat → Nat} {d n Q : Nat} (h0 : Blk lt f0 d n) (h : Pass lt f0 f (2 * d) n Q) (hm : n ≤ Q * (2 * d) + d) : Sorted lt f (Q * (2 * d)) n := by
  have e1 : (2 * Q) * d = Q * (2 * d) := by rw [Nat.mul_comm 2 Q, Nat.mul_assoc]
  have a1 := (h0 (2 * Q)).1
  rw [e1, Nat.min_eq_right (by omega)] at a1
  exact sorted_congr a1 fun k h1 _ => h.rest k h1
theorem Blk.cuts {lt : Nat → Nat → Bool} {f : Nat → Nat} {d n : Nat} (h : Blk lt f d n) (q : Nat) : Cut f (q * (2 * d)) n := by
  have e1 : (2 * q) * d = q * (2 * d) := by rw [Nat.mul_comm 2 q, Nat.mul_assoc]
  rw [← e1]; exact (h (2 * q)).2

set_option maxRecDepth 100000 in
set_option maxHeartbeats 4000000 in
theorem stable_any (g : Nat) (cb : Array Value) (lt : Nat → Nat → Bool) (blk n cap : Nat) (I : World → Prop) (S : Nat → Prop) (C : Cmp g cb lt n blk I S) (hw : SWO lt n)
    (w : World) (hI : I w) (h : Ints w blk n (fun k => k)) (hn : n ≤ 1152921504606846976) :
    Calls Tryd.prog 101 #[.slice (some ⟨blk, 0, none⟩) n cap, .int .i64 n, .func (.func g) #[] cb] w
      (SortPost blk n I S w (fun f' => PermOn 0 n (fun k => k) f' ∧ Sorted lt f' 0 n)) := by
  have HC := Lib.hid C
  have HI := Lib.hid hI
  have H := Lib.hid h
  have HW := Lib.hid hw
  have hid : ∀ c, Cut (fun k => k) c n := fun c p r h1 h2 h3 => by show p < r; omega
  have HCUT := Lib.hid hid
  clear C hI h hw hid
  go_enter Tryd.func101, Tryd.ntmps101
  go_wp2_with fail
  go_loopw [7, 8] (fun i j wr => ∃ Q a b : Nat, Hid (a = Q * 20) ∧ Hid (b = a + 20) ∧ i = .int .i64 a ∧ j = .int .i64 b ∧ I wr ∧ Touch (Plus S blk) w wr ∧ ∃ f, Ints wr blk n f ∧ Pass lt (fun k => k) f 20 n Q) (fun i _ _ => n - (intOf i).toNat)
  case atStart => exact ⟨0, 0, 20, Lib.hid rfl, Lib.hid rfl, rfl, rfl, HI.out, Touch.refl _ _, _, H.out, Pass.start fun q => HCUT.out _⟩
  obtain ⟨Q, a, b, HA, HBB, rfl, rfl, hIr, hto, f, hf, hp⟩ := hrel
  have hQ := hp.le
  have hab : a + 20 ≤ b ∧ b ≤ a + 20 ∧ a ≤ n := by have := HA.out; have := HBB.out; omega
  have HIr := Lib.hid hIr
  have HT := Lib.hid hto
  have HF := Lib.hid hf
  have HP := Lib.hid hp
  clear hIr hto hf hp hQ
  by_cases hlt : b ≤ n
  · go_wp2_with fail
    refine (insertion_any g cb lt n blk n cap a b I S HC.out HW.out f _ HIr.out HF.out (by omega) (by omega) hlt
      (fun k h1 h2 => by have := HP.out.rest k (by have := HA.out; omega); rw [this]; omega)
      (fun p q h1 h2 h3 => by rw [HP.out.rest p (by have := HA.out; omega), HP.out.rest q (by have := HA.out; omega)]; exact h2)).mono ?_
    rintro e' w1 ⟨rfl, hI1, hT1, f', hF1, hP1, hS1⟩
    have HI1 := Lib.hid hI1
    have HT1 := Lib.hid (HT.out.trans hT1)
    have HF1 := Lib.hid hF1
    have HP1 := Lib.hid (show Pass lt (fun k => k) f' 20 n (Q + 1) from by
      have e1 := HA.out
      have e2 := HBB.out
      subst e2
      subst e1
      exact HP.out.next hlt hP1 hS1)
    clear hI1 hT1 hF1 hP1 hS1
    go_wp2_with fail
    go_roundw
    case rel => exact ⟨Q + 1, b, b + 20, Lib.hid (by have := HA.out; have := HBB.out; omega), Lib.hid rfl, rfl, by go_num, HI1.out, HT1.out, f', HF1.out, HP1.out⟩
    case measure => simp [intOf]; omega
  · go_wp2_with fail
    refine (insertion_any g cb lt n blk n cap a n I S HC.out HW.out f _ HIr.out HF.out (by omega) (by omega) (Nat.le_refl _)
      (fun k h1 h2 => by have := HP.out.rest k (by have := HA.out; omega); rw [this]; omega)
      (fun p q h1 h2 h3 => by rw [HP.out.rest p (by have := HA.out; omega), HP.out.rest q (by have := HA.out; omega)]; exact h2)).mono ?_
    rintro e' w1 ⟨rfl, hI1, hT1, f1, hF1, hP1, hS1⟩
    have HI1 := Lib.hid hI1
    have HT1 := Lib.hid (HT.out.trans hT1)
    have HF1 := Lib.hid hF1
    have HP1 := Lib.hid (show PermOn 0 n (fun k => k) f1 ∧ Blk lt f1 20 n from by
      have e1 := HA.out
      have e2 := HBB.out
      subst e2
      subst e1
      exact HP.out.last (by omega) hP1 hS1)
    clear hI1 hT1 hF1 hP1 hS1
    go_wp2_with fail
    go_loopw [6, 7, 8, 9] (fun d _ _ _ wr => ∃ x : Nat, 0 < x ∧ x ≤ 2 * n + 20 ∧ d = .int .i64 x ∧ I wr ∧ Touch (Plus S blk) w wr ∧ ∃ f, Ints wr blk n f ∧ PermOn 0 n (fun k => k) f ∧ Blk lt f x n) (fun d _ _ _ _ => n - (intOf d).toNat)
    case atStart => exact ⟨20, by omega, by omega, rfl, HI1.out, HT1.out, f1, HF1.out, HP1.out.1, HP1.out.2⟩
    obtain ⟨x, hx0, hxn, rfl, hIr2, hto2, f2, hf2, hp2, hb2⟩ := hrel
    have HIr2 := Lib.hid hIr2
    have HT2 := Lib.hid hto2
    have HF2 := Lib.hid hf2
    have HP2 := Lib.hid hp2
    have HB2 := Lib.hid hb2
    clear hIr2 hto2 hf2 hp2 hb2
    by_cases hlt2 : x < n
    · obtain ⟨wo, rfl⟩ : ∃ wo : World, wo = wr := ⟨_, rfl⟩
      obtain ⟨dd, HD⟩ : ∃ dd, Hid (dd = 2 * x) := ⟨_, Lib.hid rfl⟩
      have hdd : dd ≤ 2 * x ∧ 2 * x ≤ dd := by have := HD.out; omega
      have ed1 : 2 * (x : Int) = (dd : Int) := by omega
      have ed2 : (x : Int) * 2 = (dd : Int) := by omega
      go_wp2_with fail
      go_loopw [7, 8] (fun i j wr => ∃ Q a b : Nat, Hid (a = Q * (2 * x)) ∧ Hid (b = a + dd) ∧ i = .int .i64 a ∧ j = .int .i64 b ∧ I wr ∧ Touch (Plus S blk) w wr ∧ ∃ f, Ints wr blk n f ∧ Pass lt f2 f (2 * x) n Q) (fun i _ _ => n - (intOf i).toNat)
      case atStart => exact ⟨0, 0, dd, Lib.hid (by omega), Lib.hid (by omega), rfl, rfl, HIr2.out, HT2.out, _, HF2.out, Pass.start fun q => HB2.out.cuts q⟩
      obtain ⟨Q3, a3, b3, HA3, HB3, rfl, rfl, hIr3, hto3, f3, hf3, hp3⟩ := hrel
      have hQ3 := hp3.le
      have hab3 : a3 + dd ≤ b3 ∧ b3 ≤ a3 + dd ∧ a3 ≤ n := by have := HA3.out; have := HB3.out; omega
      have HIr3 := Lib.hid hIr3
      have HT3 := Lib.hid hto3
      have HF3 := Lib.hid hf3
      have HP3 := Lib.hid hp3
      have hN3 := hp3.perm.all (p := fun v => v < n) fun k _ h2 => HP2.out.all (p := fun v => v < n) (fun k _ h => h) k (by omega) h2
      have HN3 := Lib.hid hN3
      clear hIr3 hto3 hf3 hp3 hQ3 hN3
      by_cases hlt3 : b3 ≤ n
      · have HH := Lib.hid (HB2.out.halves HP3.out b3 hx0 hlt3 (.inl (by have := HA3.out; have := HB3.out; omega)) (by have := HA3.out; omega))
        go_wp2_with fail
        rw [show (a3 : Int) + (x : Int) = ((a3 + x : Nat) : Int) from by omega]
        refine (symMerge_any g cb lt n blk n cap I S HC.out HW.out (by omega) _ a3 (a3 + x) b3 (Nat.le_refl _) f3 _ HIr3.out HF3.out (by omega) (by omega) hlt3 (fun k _ h2 => HN3.out k (by omega) (by omega))
          (by rw [HA3.out]; exact HH.out.1) (by rw [HA3.out]; exact HH.out.2.1) (by rw [HA3.out]; exact HH.out.2.2)).mono ?_
        rintro e' w4 ⟨rfl, hI4, hT4, f4, hF4, hP4, hS4⟩
        have HI4 := Lib.hid hI4
        have HT4 := Lib.hid (HT3.out.trans hT4)
        have HF4 := Lib.hid hF4
        have HP4 := Lib.hid (show Pass lt f2 f4 (2 * x) n (Q3 + 1) from by
          have e1 := HA3.out
          have e2 := HB3.out
          have e3 := HD.out
          subst e3
          subst e2
          subst e1
          exact HP3.out.next hlt3 hP4 hS4)
        clear hI4 hT4 hF4 hP4 hS4
        go_wp2_with fail
        go_roundw
        case rel => exact ⟨Q3 + 1, b3, b3 + dd, Lib.hid (by have := HA3.out; have := HB3.out; have := HD.out; rw [Nat.succ_mul]; omega), Lib.hid rfl, rfl, by go_num, HI4.out, HT4.out, f4, HF4.out, HP4.out⟩
        case measure => simp [intOf]; omega
      · by_cases hm : a3 + x < n
        · have HH := Lib.hid (HB2.out.halves HP3.out n hx0 (Nat.le_refl _) (.inr ⟨rfl, by have := HA3.out; have := HB3.out; omega⟩) (by have := HA3.out; omega))
          go_wp2_with fail
          rw [show (a3 : Int) + (x : Int) = ((a3 + x : Nat) : Int) from by omega]
          refine (symMerge_any g cb lt n blk n cap I S HC.out HW.out (by omega) _ a3 (a3 + x) n (Nat.le_refl _) f3 _ HIr3.out HF3.out (by omega) (by omega) (Nat.le_refl _) (fun k _ h2 => HN3.out k (by omega) (by omega))
            (by rw [HA3.out]; exact HH.out.1) (by rw [HA3.out]; exact HH.out.2.1) (by rw [HA3.out]; exact HH.out.2.2)).mono ?_
          rintro e' w4 ⟨rfl, hI4, hT4, f4, hF4, hP4, hS4⟩
          have HI4 := Lib.hid hI4
          have HT4 := Lib.hid (HT3.out.trans hT4)
          have HF4 := Lib.hid hF4
          have HP4 := Lib.hid (show PermOn 0 n f2 f4 ∧ Blk lt f4 (2 * x) n from by
            have e1 := HA3.out
            have e2 := HB3.out
            have e3 := HD.out
            subst e3
            subst e2
            subst e1
            exact HP3.out.last (by omega) hP4 hS4)
          clear hI4 hT4 hF4 hP4 hS4
          go_wp2_with fail
          go_roundw
          case rel => exact ⟨dd, by omega, by omega, rfl, HI4.out, HT4.out, f4, HF4.out, HP2.out.trans HP4.out.1, by rw [HD.out]; exact HP4.out.2⟩
          case measure => simp [intOf]; omega
        · have HP4 := Lib.hid (show PermOn 0 n f2 f3 ∧ Blk lt f3 (2 * x) n from by
            have e1 := HA3.out
            have e2 := HB3.out
            have e3 := HD.out
            subst e3
            subst e2
            subst e1
            exact HP3.out.last (by omega) (PermOn.refl _ _ _) (HB2.out.short HP3.out (by omega)))
          go_wp2_with fail
          go_roundw
          case rel => exact ⟨dd, by omega, by omega, rfl, HIr3.out, HT3.out, f3, HF3.out, HP2.out.trans HP4.out.1, by rw [HD.out]; exact HP4.out.2⟩
          case measure => simp [intOf]; omega
    · go_wp2_with fail
      go_end0
      refine ⟨rfl, HIr2.out, HT2.out, f2, HF2.out, HP2.out, ?_⟩
      have := (HB2.out 0).1
      rw [Nat.zero_mul, Nat.zero_add, Nat.min_eq_right (by omega)] at this
      exact this

set_option maxHeartbeats 1000000 in
theorem sortStable_any (g : Nat) (cb : Array Value) (lt : Nat → Nat → Bool) (blk n cap : Nat) (I : World → Prop) (S : Nat → Prop) (C : Cmp g cb lt n blk I S) (hw : SWO lt n)
    (w : World) (hI : I w) (h : Ints w blk n (fun k => k)) (hn : n ≤ 1152921504606846976) :
    Calls Tryd.prog 96 #[.slice (some ⟨blk, 0, none⟩) n cap, .func (.func g) #[] cb] w
      (SortPost blk n I S w (fun f' => PermOn 0 n (fun k => k) f' ∧ Sorted lt f' 0 n)) := by
  have HC := Lib.hid C
  have HI := Lib.hid hI
  have H := Lib.hid h
  have HW := Lib.hid hw
  clear C hI h hw
  go_enter Tryd.func96, Tryd.ntmps96
  go_wp2_with fail
  refine (stable_any g cb lt blk n cap I S HC.out HW.out w HI.out H.out hn).mono ?_
  rintro e' w1 ⟨rfl, hI1, hT1, f1, hF1, hP1⟩
  have HX := Lib.hid (show SortPost blk n I S w (fun f' => PermOn 0 n (fun k => k) f' ∧ Sorted lt f' 0 n) (.returned (.tuple #[])) w1 from ⟨rfl, hI1, hT1, f1, hF1, hP1⟩)
  clear hI1 hT1 hF1 hP1
  go_wp2_with fail
  go_end0
  exact HX.out
end Go.Proofs.YticddcnlafbkoaaDoor
