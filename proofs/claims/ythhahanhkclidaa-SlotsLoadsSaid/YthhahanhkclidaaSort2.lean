import Derived.Test.YthhahanhkclidaaSort1
/- The stable sort of package slices over a row of numbers: the insertion sort of a block. -/
namespace Go.Proofs.Ythhahanhkclidaa
open Go.ChangeShapes Go.WideShapes Go.ChangeAt Go.RowKit Go.Deep

def CmpPost (lt : Nat → Nat → Bool) (x y : Nat) (I : World → Prop) (S : Nat → Prop) (w : World) (e : Ending) (w' : World) : Prop :=
  ∃ r : Int, e = .returned (.int .i64 r) ∧ (lt x y = true → r < 0) ∧ (lt x y = false → 0 ≤ r) ∧ I w' ∧ Touch S w w'

/-- What the sort is told of the function that compares: I holds of the world at each call, S is what it may change. -/
structure Cmp (g : Nat) (cb : Array Value) (lt : Nat → Nat → Bool) (n blk : Nat) (I : World → Prop) (S : Nat → Prop) : Prop where
  enter : ∀ args w, (callFunc g args).run Try.prog w = .ok (.enter g args) w
  call : ∀ w (x y : Nat), I w → x < n → y < n → Calls Try.prog g (#[.int .i64 x, .int .i64 y] ++ cb) w (CmpPost lt x y I S w)
  keep : ∀ w w', I w → Touch (Just blk) w w' → I w'
  apart : ¬ S blk

theorem mixed : Try.prog.follows .mixedOrders = true := by kernel_rfl

/-- What was there below and in S may have changed, the row too. -/
def Plus (S : Nat → Prop) (b : Nat) : Nat → Prop := fun k => S k ∨ k = b

def SortPost (blk n : Nat) (I : World → Prop) (S : Nat → Prop) (w : World) (Q : (Nat → Nat) → Prop) (e : Ending) (w' : World) : Prop :=
  e = .returned (.tuple #[]) ∧ I w' ∧ Touch (Plus S blk) w w' ∧ ∃ f', Ints w' blk n f' ∧ Q f'

set_option maxRecDepth 100000 in
set_option maxHeartbeats 2000000 in
theorem insertion_any (g : Nat) (cb : Array Value) (lt : Nat → Nat → Bool) (N blk n cap a b : Nat) (I : World → Prop) (S : Nat → Prop) (C : Cmp g cb lt N blk I S) (hw : SWO lt N)
    (f0 : Nat → Nat) (w : World) (hI : I w) (h : Ints w blk n f0) (hn : n ≤ 4611686018427387904) (hab : a ≤ b) (hb : b ≤ n) (hN : ∀ k, a ≤ k → k < b → f0 k < N)
    (hup : ∀ p q, a ≤ p → p < q → q < b → f0 p < f0 q) :
    Calls Try.prog 96 #[.slice (some ⟨blk, 0, none⟩) n cap, .int .i64 a, .int .i64 b, .func (.func g) #[] cb] w
      (SortPost blk n I S w (fun f' => PermOn a b f0 f' ∧ Sorted lt f' a b)) := by
  have HC := Lib.hid C
  have HI := Lib.hid hI
  have H := Lib.hid h
  have HN := Lib.hid hN
  have HU := Lib.hid hup
  have HW := Lib.hid hw
  have eg := C.enter
  clear C hI h hN hup hw
  go_enter Try.func96, Try.ntmps96
  go_wp2
  go_loopw [8, 9] (fun i _ wr => ∃ x : Nat, a < x ∧ x ≤ b + 1 ∧ i = .int .i64 x ∧ I wr ∧ Touch (Plus S blk) w wr ∧ ∃ f, Ints wr blk n f ∧ (x ≤ b → PermOn a x f0 f ∧ Sorted lt f a x) ∧ (x = b + 1 → a = b ∧ f = f0)) (fun i _ _ => b + 1 - (intOf i).toNat)
  case atStart =>
    exact ⟨a + 1, by omega, by omega, rfl, HI.out, Touch.refl _ _, f0, H.out, fun _ => ⟨PermOn.refl _ _ _, sorted_short (by omega)⟩, fun _ => ⟨by omega, rfl⟩⟩
  obtain ⟨x, hax, hxb, rfl, hIr, hto, f, hf, hp, hq⟩ := hrel
  have HIr := Lib.hid hIr
  have HT := Lib.hid hto
  have HF := Lib.hid hf
  have HP := Lib.hid hp
  have HQ := Lib.hid hq
  clear hIr hto hf hp hq
  by_cases hlt : x < b
  · go_wp2
    obtain ⟨wo, rfl⟩ : ∃ wo : World, wo = wr := ⟨_, rfl⟩
    go_loopw [9] (fun j wr => ∃ y : Nat, a ≤ y ∧ y ≤ x ∧ j = .int .i64 y ∧ I wr ∧ Touch (Plus S blk) w wr ∧ ∃ f, Ints wr blk n f ∧ Ins lt f0 f a x y) (fun j _ => (intOf j).toNat)
    case atStart =>
      exact ⟨x, by omega, by omega, rfl, HIr.out, HT.out, f, HF.out, Ins.start (HP.out (by omega)).1 (HP.out (by omega)).2 (by omega)⟩
    obtain ⟨y, hay, hyx, rfl, hIr, hto, f', hf, hins⟩ := hrel
    have HIr := Lib.hid hIr
    have HT := Lib.hid hto
    have HF' := Lib.hid hf
    have HINS := Lib.hid hins
    clear hIr hto hf hins
    by_cases hya : a < y
    · have c1 := HF'.out.cell (i := y) (by omega)
      have c2 := HF'.out.cell (i := y - 1) (by omega)
      have i1 : (y : Int) < (n : Int) := by omega
      have i2 : (0 : Int) ≤ (y : Int) := by omega
      have i3 : (y : Int) - 1 < (n : Int) := by omega
      have i4 : (0 : Int) ≤ (y : Int) - 1 := by omega
      have i5 : (1 : Int) ≤ (y : Int) := by omega
      have i6 : (y : Int) ≤ (n : Int) := by omega
      have i7 : 0 < y := by omega
      have i8 : 1 ≤ y := by omega
      have i9 : y ≤ n := by omega
      have e1 : ((y : Int) - 1).toNat = y - 1 := by omega
      have e2 : IntKind.i64.wrap ((y : Int) - 1) = (y : Int) - 1 := IntWalk.i64_in _ (by omega)
      go_wp2_with fail
      go_still_tail 14, mixed
      clear e1 e2
      change wpList _ _ _ _ _ wr.drew
      have HIr := Lib.hid (HC.out.keep _ _ HIr.out (Touch.refl _ _).drew)
      have HT := Lib.hid HT.out.drew
      have HF' := Lib.hid HF'.out.drew
      clear c1 c2
      generalize wr.drew = w1 at *
      have hall := HINS.out.perm.all (p := fun v => v < N) fun k h1 h2 => HN.out k h1 (by omega)
      have b1 : f' y < N := hall y (by omega) (by omega)
      have b2 : f' (y - 1) < N := hall (y - 1) (by omega) (by omega)
      have HL := Lib.hid (HINS.out.less hya hlt HU.out)
      clear hall
      have HB := Lib.hid (And.intro b1 b2)
      clear b1 b2
      go_wp2_with fail
      refine (HC.out.call _ _ _ HIr.out HB.out.1 HB.out.2).mono ?_
      rintro e w' ⟨r, rfl, hr1, hr2, hI2, hT2⟩
      have HI2 := Lib.hid hI2
      have HT3 := Lib.hid (HT.out.trans (hT2.mono fun _ _ c => .inl c))
      have hF2 := HF'.out.keep hT2 HC.out.apart
      have c1 := hF2.cell (i := y) (by omega)
      have c2 := hF2.cell (i := y - 1) (by omega)
      have z1 := hF2.frozen y
      have z2 := hF2.frozen (y - 1)
      have HF2 := Lib.hid hF2
      clear hI2 hT2 hF2
      by_cases hlt2 : lt (f' y) (f' (y - 1)) = true
      · have hr := hr1 hlt2
        have HR := Lib.hid ((Rel.of_gt HL.out).2 hlt2)
        clear hr1 hr2 hlt2
        have HSW := Lib.hid (HF2.out.swap y (y - 1)).drew
        have HTW := Lib.hid (touch_swap (b := blk) (i := y) (j := y - 1) (u := .int .i64 ((f' (y - 1) : Nat) : Int)) (v := .int .i64 ((f' y : Nat) : Int)) (Touch.refl _ w')).drew
        have HDN := Lib.hid (show Ins lt f0 (swp f' y (y - 1)) a x (y - 1) from by
          have e : y - 1 + 1 = y := by omega
          have := HINS.out; rw [← e] at this
          have d := this.down (by omega) (by rw [e]; exact HR.out)
          rw [e] at d; exact d)
        generalize f' y = v1 at *
        generalize f' (y - 1) = v2 at *
        go_wp2_with fail
        go_region
        go_wp2_with fail
        go_roundw
        case rel =>
          exact ⟨y - 1, by omega, by omega, by go_num, HC.out.keep _ _ HI2.out HTW.out, HT3.out.trans (HTW.out.mono fun _ _ c => .inr c), _, HSW.out, HDN.out⟩
        case measure => simp [intOf]; omega
      · have hr := hr2 (by simpa using hlt2)
        have HR := Lib.hid (show Rel lt (f' (y - 1)) (f' y) from Rel.not HW.out HB.out.1 HB.out.2 (by have := HL.out; omega) (fun c => hlt2 ((Rel.of_gt HL.out).1 c)))
        clear hr1 hr2 hlt2 c1 c2 z1 z2
        go_wp2_with fail
        go_roundw
        case rel =>
          exact ⟨x + 1, by omega, by omega, by go_num, HI2.out, HT3.out, f', HF2.out, fun _ => ⟨HINS.out.perm, HINS.out.stop HW.out (fun k h1 h2 => HINS.out.perm.all (p := fun v => v < N) (fun k h1 h2 => HN.out k h1 (by omega)) k h1 (by omega)) fun _ => HR.out⟩, fun c => by omega⟩
        case measure => simp [intOf]; omega
    · obtain rfl : y = a := by omega
      have hd : decide ((y : Int) < (y : Int)) = false := by simp
      go_wp2_with fail
      go_quiet (fail)
      go_wp2_with fail
      go_roundw
      case rel =>
        exact ⟨x + 1, by omega, by omega, by go_num, HC.out.keep _ _ HIr.out ((Touch.refl _ _).drewN _), HT.out.drewN _, f', HF'.out.keep (S := Nil) ((Touch.refl _ _).drewN _) (fun c => c), fun _ => ⟨HINS.out.perm, HINS.out.stop HW.out (fun k h1 h2 => HINS.out.perm.all (p := fun v => v < N) (fun k h1 h2 => HN.out k h1 (by omega)) k h1 (by omega)) fun c => by omega⟩, fun c => by omega⟩
      case measure => simp [intOf]; omega
  · go_wp2_with fail
    go_end0
    refine ⟨rfl, HIr.out, HT.out, f, HF.out, ?_⟩
    by_cases hx : x = b + 1
    · obtain ⟨rfl, rfl⟩ := HQ.out hx
      exact ⟨PermOn.refl _ _ _, sorted_short (by omega)⟩
    · obtain rfl : x = b := by omega
      exact HP.out (by omega)
end Go.Proofs.Ythhahanhkclidaa
