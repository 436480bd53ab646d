import Derived.Test.YthhahanhkclidaaSort4
/- The stable sort of package slices over a row of numbers: the whole. -/
namespace Go.Proofs.Ythhahanhkclidaa
open Go.ChangeShapes Go.WideShapes Go.ChangeAt Go.RowKit Go.Deep

theorem symMerge_any (g : Nat) (cb : Array Value) (lt : Nat → Nat → Bool) (N blk n cap : Nat) (I : World → Prop) (S : Nat → Prop) (C : Cmp g cb lt N blk I S) (hw : SWO lt N)
    (hn : n ≤ 4611686018427387904) : ∀ d a m b, b - a ≤ d → MergeSaid g cb lt N blk n cap I S a m b := by
  intro d
  induction d with
  | zero => intro a m b hd f0 w _ _ h1 h2; omega
  | succ d ih =>
    intro a m b hd
    by_cases h1 : m = a + 1
    · subst h1
      intro f0 w hI h g1 g2 hb hN hA hB hup
      exact symMerge_one g cb lt N blk n cap a b I S C hw f0 w hI h hn g2 hb hN hB fun q u v => hup a q (by omega) (by omega) u v
    · by_cases h2 : b = m + 1
      · subst h2
        intro f0 w hI h g1 g2 hb hN hA hB hup
        exact symMerge_last g cb lt N blk n cap a m I S C hw f0 w hI h hn (by omega) hb hN hA fun q u v => hup q m u v (by omega) (by omega)
      · intro f0 w hI h g1 g2
        exact symMerge_step g cb lt N blk n cap I S C hw hn a m b (by omega) (by omega) (fun s => ih a s _ (by omega)) (fun e => ih _ e b (by omega)) f0 w hI h g1 g2

/-- All below c come before all from c on. -/
def Cut (f : Nat → Nat) (c n : Nat) : Prop := ∀ p r, p < c → c ≤ r → r < n → f p < f r
theorem Cut.perm {f f' : Nat → Nat} {a b c n : Nat} (h : Cut f c n) (hp : PermOn a b f f') (hb : b ≤ n) (hc : c ≤ a ∨ b ≤ c) : Cut f' c n := by
  intro p r h1 h2 h3
  have hr : ∃ r', c ≤ r' ∧ r' < n ∧ f' r = f r' := by
    by_cases i : a ≤ r ∧ r < b
    · obtain ⟨j, j1, j2, j3⟩ := hp.back r i
      exact ⟨j, by omega, by omega, j3⟩
    · exact ⟨r, h2, h3, hp.out r i⟩
  have hq : ∃ p', p' < c ∧ f' p = f p' := by
    by_cases i : a ≤ p ∧ p < b
    · obtain ⟨j, j1, j2, j3⟩ := hp.back p i
      exact ⟨j, by omega, j3⟩
    · exact ⟨p, h1, hp.out p i⟩
  obtain ⟨r', r1, r2, r3⟩ := hr
  obtain ⟨p', p1, p2⟩ := hq
  rw [r3, p2]; exact h p' r' p1 r1 r2

/-- Blocks of d elements lie in order, and come one after another. -/
def Blk (lt : Nat → Nat → Bool) (f : Nat → Nat) (d n : Nat) : Prop := ∀ q, Sorted lt f (q * d) (min (q * d + d) n) ∧ Cut f (q * d) n

theorem mul_gap {q Q d : Nat} (h : q < Q) : q * d + d ≤ Q * d := by
  have := Nat.mul_le_mul_right d (Nat.succ_le_of_lt h)
  rw [Nat.succ_mul] at this; exact this

/-- A pass over the blocks that stands at Q: those ahead of it lie in order, d by d; from there on all is as it was in f0. -/
structure Pass (lt : Nat → Nat → Bool) (f0 f : Nat → Nat) (d n Q : Nat) : Prop where
  perm : PermOn 0 n f0 f
  done : ∀ q, q < Q → Sorted lt f (q * d) (q * d + d)
  rest : ∀ k, Q * d ≤ k → f k = f0 k
  cut : ∀ q, Cut f (q * d) n
  le : Q * d ≤ n

theorem Pass.start {lt : Nat → Nat → Bool} {f : Nat → Nat} {d n : Nat} (hc : ∀ q, Cut f (q * d) n) : Pass lt f f d n 0 :=
  ⟨PermOn.refl _ _ _, fun q h => by omega, fun _ _ => rfl, hc, by omega⟩
theorem Pass.next {lt : Nat → Nat → Bool} {f0 f f' : Nat → Nat} {d n Q : Nat} (h : Pass lt f0 f d n Q) (hb : Q * d + d ≤ n) (hp : PermOn (Q * d) (Q * d + d) f f') (hs : Sorted lt f' (Q * d) (Q * d + d)) : Pass lt f0 f' d n (Q + 1) := by
  have e : (Q + 1) * d = Q * d + d := Nat.succ_mul Q d
  refine ⟨h.perm.trans (hp.wide (by omega) hb), fun q hq => ?_, fun k hk => ?_, fun q => ?_, by omega⟩
  · by_cases c : q = Q
    · subst c; exact hs
    · have g := mul_gap (d := d) (show q < Q from by omega)
      exact sorted_congr (h.done q (by omega)) fun k h1 h2 => hp.out k (by omega)
  · rw [hp.out k (by omega), h.rest k (by omega)]
  · refine (h.cut q).perm hp hb ?_
    rcases Nat.lt_trichotomy q Q with c | c | c
    · have := mul_gap (d := d) c; omega
    · subst c; omega
    · have := mul_gap (d := d) c; omega
theorem Pass.last {lt : Nat → Nat → Bool} {f0 f f' : Nat → Nat} {d n Q : Nat} (h : Pass lt f0 f d n Q) (hb : n < Q * d + d) (hp : PermOn (Q * d) n f f') (hs : Sorted lt f' (Q * d) n) : PermOn 0 n f0 f' ∧ Blk lt f' d n := by
  have hle := h.le
  refine ⟨h.perm.trans (hp.wide (by omega) (Nat.le_refl _)), fun q => ⟨?_, ?_⟩⟩
  · rcases Nat.lt_trichotomy q Q with c | c | c
    · have g := mul_gap (d := d) c
      rw [Nat.min_eq_left (by omega)]
      exact sorted_congr (h.done q c) fun k h1 h2 => hp.out k (by omega)
    · subst c; rw [Nat.min_eq_right (by omega)]; exact hs
    · have g := mul_gap (d := d) c
      rw [Nat.min_eq_right (by omega)]
      exact sorted_short (by omega)
  · refine (h.cut q).perm hp (Nat.le_refl _) ?_
    rcases Nat.lt_trichotomy q Q with c | c | c
    · have := mul_gap (d := d) c; omega
    · subst c; omega
    · have := mul_gap (d := d) c; omega

/-- The two halves of a block of 2 d, as the pass before left them. -/
theorem Blk.halves {lt : Nat → Nat → Bool} {f0 f : Nat → Nat} {d n Q : Nat} (h0 : Blk lt f0 d n) (h : Pass lt f0 f (2 * d) n Q) (b : Nat) (hd : 0 < d) (hb : b ≤ n) (hb2 : b = Q * (2 * d) + 2 * d ∨ (b = n ∧ n < Q * (2 * d) + 2 * d)) (hm : Q * (2 * d) + d < b) :
    Sorted lt f (Q * (2 * d)) (Q * (2 * d) + d) ∧ Sorted lt f (Q * (2 * d) + d) b ∧ (∀ p q, Q * (2 * d) ≤ p → p < Q * (2 * d) + d → Q * (2 * d) + d ≤ q → q < b → f p < f q) := by
  have e1 : (2 * Q) * d = Q * (2 * d) := by rw [Nat.mul_comm 2 Q, Nat.mul_assoc]
  have e2 : (2 * Q + 1) * d = Q * (2 * d) + d := by rw [Nat.succ_mul, e1]
  have a1 := (h0 (2 * Q)).1
  have a2 := (h0 (2 * Q + 1)).1
  have a3 := (h0 (2 * Q + 1)).2
  rw [e1, Nat.min_eq_left (by omega)] at a1
  rw [e2] at a2 a3
  have a2' : Sorted lt f0 (Q * (2 * d) + d) b := by
    rcases hb2 with hb2 | ⟨hb2, hb3⟩
    · rw [Nat.min_eq_left (by omega)] at a2
      rw [hb2, show Q * (2 * d) + 2 * d = Q * (2 * d) + d + d from by omega]; exact a2
    · rw [Nat.min_eq_right (by omega)] at a2
      rw [hb2]; exact a2
  refine ⟨sorted_congr a1 fun k h1 _ => h.rest k h1, sorted_congr a2' fun k h1 _ => h.rest k (by omega), fun p q h1 h2 h3 h4 => ?_⟩
  rw [h.rest p h1, h.rest q (by omega)]
  exact a3 p q h2 h3 (by omega)
/-- The last block, where it has no second half. -/
theorem Blk.short {lt : Nat → Nat → Bool} {f0 f : Nat → Nat} {d n Q : Nat} (h0 : Blk lt f0 d n) (h : Pass lt f0 f (2 * d) n Q) (hm : n ≤ Q * (2 * d) + d) : Sorted lt f (Q * (2 * d)) n := by
  have e1 : (2 * Q) * d = Q * (2 * d) := by rw [Nat.mul_comm 2 Q, Nat.mul_assoc]
  have a1 := (h0 (2 * Q)).1
  rw [e1, Nat.min_eq_right (by omega)] at a1
  exact sorted_congr a1 fun k h1 _ => h.rest k h1
theorem Blk.cuts {lt : Nat → Nat → Bool} {f : Nat → Nat} {d n : Nat} (h : Blk lt f d n) (q : Nat) : Cut f (q * (2 * d)) n := by
  have e1 : (2 * q) * d = q * (2 * d) := by rw [Nat.mul_comm 2 q, Nat.mul_assoc]
  rw [← e1]; exact (h (2 * q)).2

set_option maxRecDepth 100000 in
set_option maxHeartbeats 4000000 in
theorem stable_any (g : Nat) (cb : Array Value) (lt : Nat → Nat → Bool) (blk n cap : Nat) (I : World → Prop) (S : Nat → Prop) (C : Cmp g cb lt n blk I S) (hw : SWO lt n)
    (w : World) (hI : I w) (h : Ints w blk n (fun k => k)) (hn : n ≤ 1152921504606846976) :
    Calls Try.prog 90 #[.slice (some ⟨blk, 0, none⟩) n cap, .int .i64 n, .func (.func g) #[] cb] w
      (SortPost blk n I S w (fun f' => PermOn 0 n (fun k => k) f' ∧ Sorted lt f' 0 n)) := by
  have HC := Lib.hid C
  have HI := Lib.hid hI
  have H := Lib.hid h
  have HW := Lib.hid hw
  have hid : ∀ c, Cut (fun k => k) c n := fun c p r h1 h2 h3 => by show p < r; omega
  have HCUT := Lib.hid hid
  clear C hI h hw hid
  go_enter Try.func90, Try.ntmps90
  go_wp2_with fail
  go_loopw [7, 8] (fun i j wr => ∃ Q a b : Nat, Hid (a = Q * 20) ∧ Hid (b = a + 20) ∧ i = .int .i64 a ∧ j = .int .i64 b ∧ I wr ∧ Touch (Plus S blk) w wr ∧ ∃ f, Ints wr blk n f ∧ Pass lt (fun k => k) f 20 n Q) (fun i _ _ => n - (intOf i).toNat)
  case atStart => exact ⟨0, 0, 20, Lib.hid rfl, Lib.hid rfl, rfl, rfl, HI.out, Touch.refl _ _, _, H.out, Pass.start fun q => HCUT.out _⟩
  obtain ⟨Q, a, b, HA, HBB, rfl, rfl, hIr, hto, f, hf, hp⟩ := hrel
  have hQ := hp.le
  have hab : a + 20 ≤ b ∧ b ≤ a + 20 ∧ a ≤ n := by have := HA.out; have := HBB.out; omega
  have HIr := Lib.hid hIr
  have HT := Lib.hid hto
  have HF := Lib.hid hf
  have HP := Lib.hid hp
  clear hIr hto hf hp hQ
  by_cases hlt : b ≤ n
  · go_wp2_with fail
    refine (insertion_any g cb lt n blk n cap a b I S HC.out HW.out f _ HIr.out HF.out (by omega) (by omega) hlt
      (fun k h1 h2 => by have := HP.out.rest k (by have := HA.out; omega); rw [this]; omega)
      (fun p q h1 h2 h3 => by rw [HP.out.rest p (by have := HA.out; omega), HP.out.rest q (by have := HA.out; omega)]; exact h2)).mono ?_
    rintro e' w1 ⟨rfl, hI1, hT1, f', hF1, hP1, hS1⟩
    have HI1 := Lib.hid hI1
    have HT1 := Lib.hid (HT.out.trans hT1)
    have HF1 := Lib.hid hF1
    have HP1 := Lib.hid (show Pass lt (fun k => k) f' 20 n (Q + 1) from by
      have e1 := HA.out
      have e2 := HBB.out
      subst e2
      subst e1
      exact HP.out.next hlt hP1 hS1)
    clear hI1 hT1 hF1 hP1 hS1
    go_wp2_with fail
    go_roundw
    case rel => exact ⟨Q + 1, b, b + 20, Lib.hid (by have := HA.out; have := HBB.out; omega), Lib.hid rfl, rfl, by go_num, HI1.out, HT1.out, f', HF1.out, HP1.out⟩
    case measure => simp [intOf]; omega
  · go_wp2_with fail
    refine (insertion_any g cb lt n blk n cap a n I S HC.out HW.out f _ HIr.out HF.out (by omega) (by omega) (Nat.le_refl _)
      (fun k h1 h2 => by have := HP.out.rest k (by have := HA.out; omega); rw [this]; omega)
      (fun p q h1 h2 h3 => by rw [HP.out.rest p (by have := HA.out; omega), HP.out.rest q (by have := HA.out; omega)]; exact h2)).mono ?_
    rintro e' w1 ⟨rfl, hI1, hT1, f1, hF1, hP1, hS1⟩
    have HI1 := Lib.hid hI1
    have HT1 := Lib.hid (HT.out.trans hT1)
    have HF1 := Lib.hid hF1
    have HP1 := Lib.hid (show PermOn 0 n (fun k => k) f1 ∧ Blk lt f1 20 n from by
      have e1 := HA.out
      have e2 := HBB.out
      subst e2
      subst e1
      exact HP.out.last (by omega) hP1 hS1)
    clear hI1 hT1 hF1 hP1 hS1
    go_wp2_with fail
    go_loopw [6, 7, 8, 9] (fun d _ _ _ wr => ∃ x : Nat, 0 < x ∧ x ≤ 2 * n + 20 ∧ d = .int .i64 x ∧ I wr ∧ Touch (Plus S blk) w wr ∧ ∃ f, Ints wr blk n f ∧ PermOn 0 n (fun k => k) f ∧ Blk lt f x n) (fun d _ _ _ _ => n - (intOf d).toNat)
    case atStart => exact ⟨20, by omega, by omega, rfl, HI1.out, HT1.out, f1, HF1.out, HP1.out.1, HP1.out.2⟩
    obtain ⟨x, hx0, hxn, rfl, hIr2, hto2, f2, hf2, hp2, hb2⟩ := hrel
    have HIr2 := Lib.hid hIr2
    have HT2 := Lib.hid hto2
    have HF2 := Lib.hid hf2
    have HP2 := Lib.hid hp2
    have HB2 := Lib.hid hb2
    clear hIr2 hto2 hf2 hp2 hb2
    by_cases hlt2 : x < n
    · obtain ⟨wo, rfl⟩ : ∃ wo : World, wo = wr := ⟨_, rfl⟩
      obtain ⟨dd, HD⟩ : ∃ dd, Hid (dd = 2 * x) := ⟨_, Lib.hid rfl⟩
      have hdd : dd ≤ 2 * x ∧ 2 * x ≤ dd := by have := HD.out; omega
      have ed1 : 2 * (x : Int) = (dd : Int) := by omega
      have ed2 : (x : Int) * 2 = (dd : Int) := by omega
      go_wp2_with fail
      go_loopw [7, 8] (fun i j wr => ∃ Q a b : Nat, Hid (a = Q * (2 * x)) ∧ Hid (b = a + dd) ∧ i = .int .i64 a ∧ j = .int .i64 b ∧ I wr ∧ Touch (Plus S blk) w wr ∧ ∃ f, Ints wr blk n f ∧ Pass lt f2 f (2 * x) n Q) (fun i _ _ => n - (intOf i).toNat)
      case atStart => exact ⟨0, 0, dd, Lib.hid (by omega), Lib.hid (by omega), rfl, rfl, HIr2.out, HT2.out, _, HF2.out, Pass.start fun q => HB2.out.cuts q⟩
      obtain ⟨Q3, a3, b3, HA3, HB3, rfl, rfl, hIr3, hto3, f3, hf3, hp3⟩ := hrel
      have hQ3 := hp3.le
      have hab3 : a3 + dd ≤ b3 ∧ b3 ≤ a3 + dd ∧ a3 ≤ n := by have := HA3.out; have := HB3.out; omega
      have HIr3 := Lib.hid hIr3
      have HT3 := Lib.hid hto3
      have HF3 := Lib.hid hf3
      have HP3 := Lib.hid hp3
      have hN3 := hp3.perm.all (p := fun v => v < n) fun k _ h2 => HP2.out.all (p := fun v => v < n) (fun k _ h => h) k (by omega) h2
      have HN3 := Lib.hid hN3
      clear hIr3 hto3 hf3 hp3 hQ3 hN3
      by_cases hlt3 : b3 ≤ n
      · have HH := Lib.hid (HB2.out.halves HP3.out b3 hx0 hlt3 (.inl (by have := HA3.out; have := HB3.out; omega)) (by have := HA3.out; omega))
        go_wp2_with fail
        rw [show (a3 : Int) + (x : Int) = ((a3 + x : Nat) : Int) from by omega]
        refine (symMerge_any g cb lt n blk n cap I S HC.out HW.out (by omega) _ a3 (a3 + x) b3 (Nat.le_refl _) f3 _ HIr3.out HF3.out (by omega) (by omega) hlt3 (fun k _ h2 => HN3.out k (by omega) (by omega))
          (by rw [HA3.out]; exact HH.out.1) (by rw [HA3.out]; exact HH.out.2.1) (by rw [HA3.out]; exact HH.out.2.2)).mono ?_
        rintro e' w4 ⟨rfl, hI4, hT4, f4, hF4, hP4, hS4⟩
        have HI4 := Lib.hid hI4
        have HT4 := Lib.hid (HT3.out.trans hT4)
        have HF4 := Lib.hid hF4
        have HP4 := Lib.hid (show Pass lt f2 f4 (2 * x) n (Q3 + 1) from by
          have e1 := HA3.out
          have e2 := HB3.out
          have e3 := HD.out
          subst e3
          subst e2
          subst e1
          exact HP3.out.next hlt3 hP4 hS4)
        clear hI4 hT4 hF4 hP4 hS4
        go_wp2_with fail
        go_roundw
        case rel => exact ⟨Q3 + 1, b3, b3 + dd, Lib.hid (by have := HA3.out; have := HB3.out; have := HD.out; rw [Nat.succ_mul]; omega), Lib.hid rfl, rfl, by go_num, HI4.out, HT4.out, f4, HF4.out, HP4.out⟩
        case measure => simp [intOf]; omega
      · by_cases hm : a3 + x < n
        · have HH := Lib.hid (HB2.out.halves HP3.out n hx0 (Nat.le_refl _) (.inr ⟨rfl, by have := HA3.out; have := HB3.out; omega⟩) (by have := HA3.out; omega))
          go_wp2_with fail
          rw [show (a3 : Int) + (x : Int) = ((a3 + x : Nat) : Int) from by omega]
          refine (symMerge_any g cb lt n blk n cap I S HC.out HW.out (by omega) _ a3 (a3 + x) n (Nat.le_refl _) f3 _ HIr3.out HF3.out (by omega) (by omega) (Nat.le_refl _) (fun k _ h2 => HN3.out k (by omega) (by omega))
            (by rw [HA3.out]; exact HH.out.1) (by rw [HA3.out]; exact HH.out.2.1) (by rw [HA3.out]; exact HH.out.2.2)).mono ?_
          rintro e' w4 ⟨rfl, hI4, hT4, f4, hF4, hP4, hS4⟩
          have HI4 := Lib.hid hI4
          have HT4 := Lib.hid (HT3.out.trans hT4)
          have HF4 := Lib.hid hF4
          have HP4 := Lib.hid (show PermOn 0 n f2 f4 ∧ Blk lt f4 (2 * x) n from by
            have e1 := HA3.out
            have e2 := HB3.out
            have e3 := HD.out
            subst e3
            subst e2
            subst e1
            exact HP3.out.last (by omega) hP4 hS4)
          clear hI4 hT4 hF4 hP4 hS4
          go_wp2_with fail
          go_roundw
          case rel => exact ⟨dd, by omega, by omega, rfl, HI4.out, HT4.out, f4, HF4.out, HP2.out.trans HP4.out.1, by rw [HD.out]; exact HP4.out.2⟩
          case measure => simp [intOf]; omega
        · have HP4 := Lib.hid (show PermOn 0 n f2 f3 ∧ Blk lt f3 (2 * x) n from by
            have e1 := HA3.out
            have e2 := HB3.out
            have e3 := HD.out
            subst e3
            subst e2
            subst e1
            exact HP3.out.last (by omega) (PermOn.refl _ _ _) (HB2.out.short HP3.out (by omega)))
          go_wp2_with fail
          go_roundw
          case rel => exact ⟨dd, by omega, by omega, rfl, HIr3.out, HT3.out, f3, HF3.out, HP2.out.trans HP4.out.1, by rw [HD.out]; exact HP4.out.2⟩
          case measure => simp [intOf]; omega
    · go_wp2_with fail
      go_end0
      refine ⟨rfl, HIr2.out, HT2.out, f2, HF2.out, HP2.out, ?_⟩
      have := (HB2.out 0).1
      rw [Nat.zero_mul, Nat.zero_add, Nat.min_eq_right (by omega)] at this
      exact this

set_option maxHeartbeats 1000000 in
theorem sortStable_any (g : Nat) (cb : Array Value) (lt : Nat → Nat → Bool) (blk n cap : Nat) (I : World → Prop) (S : Nat → Prop) (C : Cmp g cb lt n blk I S) (hw : SWO lt n)
    (w : World) (hI : I w) (h : Ints w blk n (fun k => k)) (hn : n ≤ 1152921504606846976) :
    Calls Try.prog 75 #[.slice (some ⟨blk, 0, none⟩) n cap, .func (.func g) #[] cb] w
      (SortPost blk n I S w (fun f' => PermOn 0 n (fun k => k) f' ∧ Sorted lt f' 0 n)) := by
  have HC := Lib.hid C
  have HI := Lib.hid hI
  have H := Lib.hid h
  have HW := Lib.hid hw
  clear C hI h hw
  go_enter Try.func75, Try.ntmps75
  go_wp2_with fail
  refine (stable_any g cb lt blk n cap I S HC.out HW.out w HI.out H.out hn).mono ?_
  rintro e' w1 ⟨rfl, hI1, hT1, f1, hF1, hP1⟩
  have HX := Lib.hid (show SortPost blk n I S w (fun f' => PermOn 0 n (fun k => k) f' ∧ Sorted lt f' 0 n) (.returned (.tuple #[])) w1 from ⟨rfl, hI1, hT1, f1, hF1, hP1⟩)
  clear hI1 hT1 hF1 hP1
  go_wp2_with fail
  go_end0
  exact HX.out
end Go.Proofs.Ythhahanhkclidaa
