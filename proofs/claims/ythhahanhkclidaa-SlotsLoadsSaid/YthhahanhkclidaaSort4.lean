import Derived.Test.YthhahanhkclidaaSort3
/- The stable sort of package slices over a row of numbers: the merge. -/
namespace Go.Proofs.Ythhahanhkclidaa
open Go.ChangeShapes Go.WideShapes Go.ChangeAt Go.RowKit Go.Deep

/-- What the merge is asked and gives. -/
def MergeSaid (g : Nat) (cb : Array Value) (lt : Nat → Nat → Bool) (N blk n cap : Nat) (I : World → Prop) (S : Nat → Prop) (a m b : Nat) : Prop :=
  ∀ (f0 : Nat → Nat) (w : World), I w → Ints w blk n f0 → a < m → m < b → b ≤ n → (∀ k, a ≤ k → k < b → f0 k < N) → Sorted lt f0 a m → Sorted lt f0 m b →
    (∀ p q, a ≤ p → p < m → m ≤ q → q < b → f0 p < f0 q) →
    Calls Try.prog 97 #[.slice (some ⟨blk, 0, none⟩) n cap, .int .i64 a, .int .i64 m, .int .i64 b, .func (.func g) #[] cb] w
      (SortPost blk n I S w (fun f' => PermOn a b f0 f' ∧ Sorted lt f' a b))

set_option maxRecDepth 100000 in
set_option maxHeartbeats 8000000 in
theorem symMerge_step (g : Nat) (cb : Array Value) (lt : Nat → Nat → Bool) (N blk n cap : Nat) (I : World → Prop) (S : Nat → Prop) (C : Cmp g cb lt N blk I S) (hw : SWO lt N)
    (hn : n ≤ 4611686018427387904) (a m b : Nat) (hm1 : a + 1 < m) (hm2 : m + 1 < b)
    (ih1 : ∀ s, MergeSaid g cb lt N blk n cap I S a s ((a + b) / 2)) (ih2 : ∀ e, MergeSaid g cb lt N blk n cap I S ((a + b) / 2) e b) : MergeSaid g cb lt N blk n cap I S a m b := by
  intro f0 w hI h _ _ hb hN hsA hsB hup
  have HC := Lib.hid C
  have HI := Lib.hid hI
  have H := Lib.hid h
  have HN := Lib.hid hN
  have HU := Lib.hid hup
  have HW := Lib.hid hw
  have HSA := Lib.hid hsA
  have HSB := Lib.hid hsB
  have H1 := Lib.hid ih1
  have H2 := Lib.hid ih2
  have eg := C.enter
  clear C hI h hN hup hw hsA hsB ih1 ih2
  obtain ⟨mid, HMID⟩ : ∃ mid, Hid (mid = (a + b) / 2) := ⟨_, Lib.hid rfl⟩
  have k1 : a < mid := by have := HMID.out; omega
  have k2 : mid < b := by have := HMID.out; omega
  have k3 : 2 * mid ≤ a + b := by have := HMID.out; omega
  have k4 : a + b ≤ 2 * mid + 1 := by have := HMID.out; omega
  have em : ((a : Int) + (b : Int)) / 2 = (mid : Int) := by rw [HMID.out]; omega
  have e1 : ((m : Int) - (a : Int) == 1) = false := by rw [beq_eq_false_iff_ne]; omega
  have e2 : ((b : Int) - (m : Int) == 1) = false := by rw [beq_eq_false_iff_ne]; omega
  obtain ⟨s0, r0, HR0⟩ : ∃ s0 r0, Hid (mid < m ∧ s0 = mid + m - b ∧ r0 = mid ∨ m ≤ mid ∧ s0 = a ∧ r0 = m) := by
    by_cases c : mid < m
    · exact ⟨_, _, Lib.hid (.inl ⟨c, rfl, rfl⟩)⟩
    · exact ⟨_, _, Lib.hid (.inr ⟨by omega, rfl, rfl⟩)⟩
  have hcase : (mid < m ∧ decide (mid < m) = true) ∨ (m ≤ mid ∧ decide (mid < m) = false) := by
    by_cases c : mid < m
    · exact .inl ⟨c, by simpa using c⟩
    · exact .inr ⟨by omega, by simpa using c⟩
  rcases hcase with ⟨hcase, hd0⟩ | ⟨hcase, hd0⟩
  all_goals
    go_enter Try.func97, Try.ntmps97
    go_wp2_with fail
    go_loopw [20, 21] (fun i j wr => ∃ x y : Nat, s0 ≤ x ∧ x ≤ y ∧ y ≤ r0 ∧ i = .int .i64 x ∧ j = .int .i64 y ∧ I wr ∧ Touch S w wr ∧ (s0 < x → Rel lt (f0 (x - 1)) (f0 (mid + m - x))) ∧ (y < r0 → Rel lt (f0 (mid + m - 1 - y)) (f0 y))) (fun i j _ => (intOf j).toNat - (intOf i).toNat)
    case atStart =>
      have := HR0.out
      exact ⟨s0, r0, by omega, by omega, by omega, by go_num, by go_num, HI.out, Touch.refl _ _, fun h1 => by omega, fun h1 => by omega⟩
    obtain ⟨x, y, hmx, hxy, hyb, rfl, rfl, hIr, hto, hlo, hhi⟩ := hrel
    have HIr := Lib.hid hIr
    have HT := Lib.hid hto
    have HLO := Lib.hid hlo
    have HHI := Lib.hid hhi
    have HF := Lib.hid (H.out.keep hto HC.out.apart)
    clear hIr hto hlo hhi
    by_cases hlt : x < y
    · obtain ⟨z, HZ⟩ : ∃ z, Hid (z = (x + y) / 2) := ⟨_, Lib.hid rfl⟩
      have hz1 : x ≤ z := by have := HZ.out; omega
      have hz2 : z < y := by have := HZ.out; omega
      obtain ⟨p, HP⟩ : ∃ p, Hid (p = mid + m - 1 - z) := ⟨_, Lib.hid rfl⟩
      have hp1 : m ≤ p := by have := HR0.out; have := HP.out; omega
      have hp2 : p < b := by have := HR0.out; have := HP.out; omega
      have hz3 : z < m := by have := HR0.out; omega
      have hz4 : a ≤ z := by have := HR0.out; omega
      have ez3 : ((x : Int) + (y : Int)) / 2 = (z : Int) := by rw [HZ.out]; omega
      have ep1 : (mid : Int) + (m : Int) - 1 - (z : Int) = (p : Int) := by have := HP.out; omega
      have ep2 : IntKind.i64.wrap (p : Int) = (p : Int) := IntWalk.i64_in _ (by omega)
      have c1 := HF.out.cell (i := z) (by omega)
      have c2 := HF.out.cell (i := p) (by omega)
      have i1 : (z : Int) < (n : Int) := by omega
      have i2 : (0 : Int) ≤ (z : Int) := by omega
      have i3 : (p : Int) < (n : Int) := by omega
      have i4 : (0 : Int) ≤ (p : Int) := by omega
      clear em
      go_wp2_with fail
      go_still_tail 11, mixed
      clear ez3 ep1 ep2
      change wpList _ _ _ _ _ wr.drew
      have HIr := Lib.hid (HC.out.keep _ _ HIr.out (Touch.refl _ _).drew)
      have HT := Lib.hid HT.out.drew
      have HF := Lib.hid HF.out.drew
      clear c1 c2
      generalize wr.drew = w1 at *
      have HL := Lib.hid (HU.out z p hz4 hz3 hp1 hp2)
      have HB := Lib.hid (And.intro (HN.out z (by omega) (by omega)) (HN.out p (by omega) (by omega)))
      go_wp2_with fail
      refine (HC.out.call _ _ _ HIr.out HB.out.2 HB.out.1).mono ?_
      rintro e w' ⟨r, rfl, hr1, hr2, hI2, hT2⟩
      have HI2 := Lib.hid hI2
      have HT3 := Lib.hid (HT.out.trans hT2)
      clear hI2 hT2
      by_cases hlt2 : lt (f0 p) (f0 z) = true
      · have hr := hr1 hlt2
        have HR := Lib.hid ((Rel.of_gt HL.out).2 hlt2)
        clear hr1 hr2 hlt2
        go_wp2_with fail
        go_roundw
        case rel =>
          refine ⟨x, z, hmx, by omega, by omega, rfl, rfl, HI2.out, HT3.out, HLO.out, ?_⟩
          intro _; rw [← HP.out]; exact HR.out
        case measure => simp [intOf]; omega
      · have hr := hr2 (by simpa using hlt2)
        have hd : decide (r < 0) = false := by simp; omega
        have HR := Lib.hid (show Rel lt (f0 z) (f0 p) from Rel.not HW.out HB.out.2 HB.out.1 (by have := HL.out; omega) (fun c => hlt2 ((Rel.of_gt HL.out).1 c)))
        clear hr1 hr2 hlt2
        go_wp2_with fail
        go_roundw
        case rel =>
          refine ⟨z + 1, y, by omega, by omega, hyb, by go_num, rfl, HI2.out, HT3.out, ?_, HHI.out⟩
          intro _
          rw [show z + 1 - 1 = z from by omega, show mid + m - (z + 1) = p from by have := HP.out; omega]
          exact HR.out
        case measure => simp [intOf]; omega
    · obtain rfl : x = y := by omega
      obtain ⟨e, HE⟩ : ∃ e, Hid (e = mid + m - x) := ⟨_, Lib.hid rfl⟩
      have q1 : a ≤ x := by have := HR0.out; omega
      have q2 : x ≤ m := by have := HR0.out; omega
      have q3 : m ≤ e := by have := HR0.out; have := HE.out; omega
      have q4 : e ≤ b := by have := HR0.out; have := HE.out; omega
      have HQ5 := Lib.hid (show x + (e - m) = mid from by have := HR0.out; have := HE.out; omega)
      have q6 : x ≤ mid := by have := HQ5.out; omega
      have q7 : mid ≤ e := by have := HQ5.out; omega
      have HMC := Lib.hid (merge_cut HW.out q1 q2 q3 q4 HN.out HSA.out HSB.out
        (fun g1 g2 => by
          have := HR0.out; have he := HE.out
          have := HLO.out (by omega)
          rw [he]; exact this)
        (fun g1 g2 => by
          have := HR0.out; have he := HE.out
          have := HHI.out (by omega)
          rw [show e - 1 = mid + m - 1 - x from by omega]; exact this))
      have HCF := Lib.hid (cut_facts q1 q2 q3 q4 HU.out)
      simp only [HQ5.out] at HMC HCF
      have HPR := Lib.hid ((rot_perm f0 q2 q3).wide q1 q4)
      have HNR := Lib.hid (HPR.out.all (p := fun v => v < N) HN.out)
      have HRID0 := Lib.hid (show ¬ (x < m ∧ m < e) → rot x m e f0 = f0 from fun c => rot_id (f := f0) q2 q3 c)
      generalize HF1 : rot x m e f0 = f1 at HMC HCF HPR HNR
      have HF1 := Lib.hid HF1
      have ee1 : (mid : Int) + (m : Int) - (x : Int) = (e : Int) := by have := HE.out; omega
      clear em
      have HIH1 := Lib.hid (show ∀ s, MergeSaid g cb lt N blk n cap I S a s mid from by rw [HMID.out]; exact H1.out)
      have HIH2 := Lib.hid (show ∀ e, MergeSaid g cb lt N blk n cap I S mid e b from by rw [HMID.out]; exact H2.out)
      clear H1 H2
      rcases (show (x < m ∧ m < e) ∨ ¬ x < m ∨ (x < m ∧ ¬ m < e) from by omega) with ⟨g1, g2⟩ | g1 | ⟨g1, g2⟩
      · go_wp2_with fail
        refine (rotate_any blk n cap x m e f0 _ _ HF.out hn g1 g2 (by omega)).mono ?_
        rintro e' w1 ⟨rfl, hF1, hT1⟩
        have HI1 := Lib.hid (HC.out.keep _ _ HIr.out hT1)
        have HT1 := Lib.hid ((HT.out.mono (S' := Plus S blk) fun _ _ c => .inl c).trans (hT1.mono fun _ _ c => .inr c))
        rw [HF1.out] at hF1
        have HF1 := Lib.hid hF1
        clear hT1 hF1
        rcases (show (a < x ∧ x < mid) ∨ ¬ a < x ∨ (a < x ∧ ¬ x < mid) from by omega) with ⟨g3, g4⟩ | g3 | ⟨g3, g4⟩
        · go_wp2_with fail
          refine (HIH1.out x f1 _ HI1.out HF1.out g3 g4 (by omega) (fun k u v => HNR.out k u (by omega)) HMC.out.1.1 HMC.out.1.2.1 HCF.out.1).mono ?_
          rintro e' w2 ⟨rfl, hI2, hT2, f2, hF2, hP2, hS2⟩
          have HI2 := Lib.hid hI2
          have HT2 := Lib.hid (HT1.out.trans hT2)
          have HF2 := Lib.hid hF2
          have HP2 := Lib.hid hP2
          have HS2 := Lib.hid hS2
          clear hI2 hT2 hF2 hP2 hS2
          rcases (show (mid < e ∧ e < b) ∨ ¬ mid < e ∨ (mid < e ∧ ¬ e < b) from by omega) with ⟨g5, g6⟩ | g5 | ⟨g5, g6⟩
          · go_wp2_with fail
            refine (HIH2.out e f2 _ HI2.out HF2.out g5 g6 hb (fun k u v => by rw [HP2.out.out k (by omega)]; exact HNR.out k (by omega) v)
              (sorted_congr HMC.out.1.2.2.1 fun k u v => HP2.out.out k (by omega)) (sorted_congr HMC.out.1.2.2.2 fun k u v => HP2.out.out k (by omega))
              (fun p q u1 u2 u3 u4 => by rw [HP2.out.out p (by omega), HP2.out.out q (by omega)]; exact HCF.out.2 p q u1 u2 u3 u4)).mono ?_
            rintro e' w3 ⟨rfl, hI3, hT3, f3, hF3, hP3, hS3⟩
            have HI3 := Lib.hid hI3
            have HT3 := Lib.hid (HT2.out.trans hT3)
            have HF3 := Lib.hid hF3
            have HE3 := Lib.hid (merge_end (by omega) (by omega) HMC.out.2 HP2.out HS2.out hP3 hS3)
            clear hI3 hT3 hF3 hP3 hS3
            go_wp2_with fail
            go_end0
            exact ⟨rfl, HI3.out, HT3.out, f3, HF3.out, HPR.out.trans HE3.out.1, HE3.out.2⟩
          · have HS3 := Lib.hid (show Sorted lt f2 mid b from sorted_congr (by rw [show mid = e from by omega]; exact HMC.out.1.2.2.2) fun k u v => HP2.out.out k (by omega))
            have HE3 := Lib.hid (merge_end (by omega) (by omega) HMC.out.2 HP2.out HS2.out (PermOn.refl mid b f2) HS3.out)
            go_wp2_with fail
            go_end0
            exact ⟨rfl, HI2.out, HT2.out, f2, HF2.out, HPR.out.trans HE3.out.1, HE3.out.2⟩
          · have HS3 := Lib.hid (show Sorted lt f2 mid b from sorted_congr (by rw [← (show e = b from by omega)]; exact HMC.out.1.2.2.1) fun k u v => HP2.out.out k (by omega))
            have HE3 := Lib.hid (merge_end (by omega) (by omega) HMC.out.2 HP2.out HS2.out (PermOn.refl mid b f2) HS3.out)
            go_wp2_with fail
            go_end0
            exact ⟨rfl, HI2.out, HT2.out, f2, HF2.out, HPR.out.trans HE3.out.1, HE3.out.2⟩
        · have HS2 := Lib.hid (show Sorted lt f1 a mid from by rw [show a = x from by omega]; exact HMC.out.1.2.1)
          have HI2 := HI1
          have HT2 := HT1
          have HF2 := HF1
          have HP2 := Lib.hid (PermOn.refl a mid f1)
          obtain ⟨f2, HFE⟩ : ∃ f2, Hid (f2 = f1) := ⟨_, Lib.hid rfl⟩
          rw [← HFE.out] at HS2 HF2
          have HP2 := Lib.hid (show PermOn a mid f1 f2 from by rw [HFE.out]; exact PermOn.refl a mid f1)
          rcases (show (mid < e ∧ e < b) ∨ ¬ mid < e ∨ (mid < e ∧ ¬ e < b) from by omega) with ⟨g5, g6⟩ | g5 | ⟨g5, g6⟩
          · go_wp2_with fail
            refine (HIH2.out e f2 _ HI2.out HF2.out g5 g6 hb (fun k u v => by rw [HP2.out.out k (by omega)]; exact HNR.out k (by omega) v)
              (sorted_congr HMC.out.1.2.2.1 fun k u v => HP2.out.out k (by omega)) (sorted_congr HMC.out.1.2.2.2 fun k u v => HP2.out.out k (by omega))
              (fun p q u1 u2 u3 u4 => by rw [HP2.out.out p (by omega), HP2.out.out q (by omega)]; exact HCF.out.2 p q u1 u2 u3 u4)).mono ?_
            rintro e' w3 ⟨rfl, hI3, hT3, f3, hF3, hP3, hS3⟩
            have HI3 := Lib.hid hI3
            have HT3 := Lib.hid (HT2.out.trans hT3)
            have HF3 := Lib.hid hF3
            have HE3 := Lib.hid (merge_end (by omega) (by omega) HMC.out.2 HP2.out HS2.out hP3 hS3)
            clear hI3 hT3 hF3 hP3 hS3
            go_wp2_with fail
            go_end0
            exact ⟨rfl, HI3.out, HT3.out, f3, HF3.out, HPR.out.trans HE3.out.1, HE3.out.2⟩
          · have HS3 := Lib.hid (show Sorted lt f2 mid b from sorted_congr (by rw [show mid = e from by omega]; exact HMC.out.1.2.2.2) fun k u v => HP2.out.out k (by omega))
            have HE3 := Lib.hid (merge_end (by omega) (by omega) HMC.out.2 HP2.out HS2.out (PermOn.refl mid b f2) HS3.out)
            go_wp2_with fail
            go_end0
            exact ⟨rfl, HI2.out, HT2.out, f2, HF2.out, HPR.out.trans HE3.out.1, HE3.out.2⟩
          · have HS3 := Lib.hid (show Sorted lt f2 mid b from sorted_congr (by rw [← (show e = b from by omega)]; exact HMC.out.1.2.2.1) fun k u v => HP2.out.out k (by omega))
            have HE3 := Lib.hid (merge_end (by omega) (by omega) HMC.out.2 HP2.out HS2.out (PermOn.refl mid b f2) HS3.out)
            go_wp2_with fail
            go_end0
            exact ⟨rfl, HI2.out, HT2.out, f2, HF2.out, HPR.out.trans HE3.out.1, HE3.out.2⟩
        · have HS2 := Lib.hid (show Sorted lt f1 a mid from by rw [← (show x = mid from by omega)]; exact HMC.out.1.1)
          have HI2 := HI1
          have HT2 := HT1
          have HF2 := HF1
          have HP2 := Lib.hid (PermOn.refl a mid f1)
          obtain ⟨f2, HFE⟩ : ∃ f2, Hid (f2 = f1) := ⟨_, Lib.hid rfl⟩
          rw [← HFE.out] at HS2 HF2
          have HP2 := Lib.hid (show PermOn a mid f1 f2 from by rw [HFE.out]; exact PermOn.refl a mid f1)
          rcases (show (mid < e ∧ e < b) ∨ ¬ mid < e ∨ (mid < e ∧ ¬ e < b) from by omega) with ⟨g5, g6⟩ | g5 | ⟨g5, g6⟩
          · go_wp2_with fail
            refine (HIH2.out e f2 _ HI2.out HF2.out g5 g6 hb (fun k u v => by rw [HP2.out.out k (by omega)]; exact HNR.out k (by omega) v)
              (sorted_congr HMC.out.1.2.2.1 fun k u v => HP2.out.out k (by omega)) (sorted_congr HMC.out.1.2.2.2 fun k u v => HP2.out.out k (by omega))
              (fun p q u1 u2 u3 u4 => by rw [HP2.out.out p (by omega), HP2.out.out q (by omega)]; exact HCF.out.2 p q u1 u2 u3 u4)).mono ?_
            rintro e' w3 ⟨rfl, hI3, hT3, f3, hF3, hP3, hS3⟩
            have HI3 := Lib.hid hI3
            have HT3 := Lib.hid (HT2.out.trans hT3)
            have HF3 := Lib.hid hF3
            have HE3 := Lib.hid (merge_end (by omega) (by omega) HMC.out.2 HP2.out HS2.out hP3 hS3)
            clear hI3 hT3 hF3 hP3 hS3
            go_wp2_with fail
            go_end0
            exact ⟨rfl, HI3.out, HT3.out, f3, HF3.out, HPR.out.trans HE3.out.1, HE3.out.2⟩
          · have HS3 := Lib.hid (show Sorted lt f2 mid b from sorted_congr (by rw [show mid = e from by omega]; exact HMC.out.1.2.2.2) fun k u v => HP2.out.out k (by omega))
            have HE3 := Lib.hid (merge_end (by omega) (by omega) HMC.out.2 HP2.out HS2.out (PermOn.refl mid b f2) HS3.out)
            go_wp2_with fail
            go_end0
            exact ⟨rfl, HI2.out, HT2.out, f2, HF2.out, HPR.out.trans HE3.out.1, HE3.out.2⟩
          · have HS3 := Lib.hid (show Sorted lt f2 mid b from sorted_congr (by rw [← (show e = b from by omega)]; exact HMC.out.1.2.2.1) fun k u v => HP2.out.out k (by omega))
            have HE3 := Lib.hid (merge_end (by omega) (by omega) HMC.out.2 HP2.out HS2.out (PermOn.refl mid b f2) HS3.out)
            go_wp2_with fail
            go_end0
            exact ⟨rfl, HI2.out, HT2.out, f2, HF2.out, HPR.out.trans HE3.out.1, HE3.out.2⟩
      · have HF1 := Lib.hid (show Ints wr blk n f1 from by rw [← HF1.out, HRID0.out (by omega)]; exact HF.out)
        have HI1 := HIr
        have HT1 := Lib.hid (HT.out.mono (S' := Plus S blk) fun _ _ c => .inl c)
        rcases (show (a < x ∧ x < mid) ∨ ¬ a < x ∨ (a < x ∧ ¬ x < mid) from by omega) with ⟨g3, g4⟩ | g3 | ⟨g3, g4⟩
        · go_wp2_with fail
          refine (HIH1.out x f1 _ HI1.out HF1.out g3 g4 (by omega) (fun k u v => HNR.out k u (by omega)) HMC.out.1.1 HMC.out.1.2.1 HCF.out.1).mono ?_
          rintro e' w2 ⟨rfl, hI2, hT2, f2, hF2, hP2, hS2⟩
          have HI2 := Lib.hid hI2
          have HT2 := Lib.hid (HT1.out.trans hT2)
          have HF2 := Lib.hid hF2
          have HP2 := Lib.hid hP2
          have HS2 := Lib.hid hS2
          clear hI2 hT2 hF2 hP2 hS2
          rcases (show (mid < e ∧ e < b) ∨ ¬ mid < e ∨ (mid < e ∧ ¬ e < b) from by omega) with ⟨g5, g6⟩ | g5 | ⟨g5, g6⟩
          · go_wp2_with fail
            refine (HIH2.out e f2 _ HI2.out HF2.out g5 g6 hb (fun k u v => by rw [HP2.out.out k (by omega)]; exact HNR.out k (by omega) v)
              (sorted_congr HMC.out.1.2.2.1 fun k u v => HP2.out.out k (by omega)) (sorted_congr HMC.out.1.2.2.2 fun k u v => HP2.out.out k (by omega))
              (fun p q u1 u2 u3 u4 => by rw [HP2.out.out p (by omega), HP2.out.out q (by omega)]; exact HCF.out.2 p q u1 u2 u3 u4)).mono ?_
            rintro e' w3 ⟨rfl, hI3, hT3, f3, hF3, hP3, hS3⟩
            have HI3 := Lib.hid hI3
            have HT3 := Lib.hid (HT2.out.trans hT3)
            have HF3 := Lib.hid hF3
            have HE3 := Lib.hid (merge_end (by omega) (by omega) HMC.out.2 HP2.out HS2.out hP3 hS3)
            clear hI3 hT3 hF3 hP3 hS3
            go_wp2_with fail
            go_end0
            exact ⟨rfl, HI3.out, HT3.out, f3, HF3.out, HPR.out.trans HE3.out.1, HE3.out.2⟩
          · have HS3 := Lib.hid (show Sorted lt f2 mid b from sorted_congr (by rw [show mid = e from by omega]; exact HMC.out.1.2.2.2) fun k u v => HP2.out.out k (by omega))
            have HE3 := Lib.hid (merge_end (by omega) (by omega) HMC.out.2 HP2.out HS2.out (PermOn.refl mid b f2) HS3.out)
            go_wp2_with fail
            go_end0
            exact ⟨rfl, HI2.out, HT2.out, f2, HF2.out, HPR.out.trans HE3.out.1, HE3.out.2⟩
          · have HS3 := Lib.hid (show Sorted lt f2 mid b from sorted_congr (by rw [← (show e = b from by omega)]; exact HMC.out.1.2.2.1) fun k u v => HP2.out.out k (by omega))
            have HE3 := Lib.hid (merge_end (by omega) (by omega) HMC.out.2 HP2.out HS2.out (PermOn.refl mid b f2) HS3.out)
            go_wp2_with fail
            go_end0
            exact ⟨rfl, HI2.out, HT2.out, f2, HF2.out, HPR.out.trans HE3.out.1, HE3.out.2⟩
        · have HS2 := Lib.hid (show Sorted lt f1 a mid from by rw [show a = x from by omega]; exact HMC.out.1.2.1)
          have HI2 := HI1
          have HT2 := HT1
          have HF2 := HF1
          have HP2 := Lib.hid (PermOn.refl a mid f1)
          obtain ⟨f2, HFE⟩ : ∃ f2, Hid (f2 = f1) := ⟨_, Lib.hid rfl⟩
          rw [← HFE.out] at HS2 HF2
          have HP2 := Lib.hid (show PermOn a mid f1 f2 from by rw [HFE.out]; exact PermOn.refl a mid f1)
          rcases (show (mid < e ∧ e < b) ∨ ¬ mid < e ∨ (mid < e ∧ ¬ e < b) from by omega) with ⟨g5, g6⟩ | g5 | ⟨g5, g6⟩
          · go_wp2_with fail
            refine (HIH2.out e f2 _ HI2.out HF2.out g5 g6 hb (fun k u v => by rw [HP2.out.out k (by omega)]; exact HNR.out k (by omega) v)
              (sorted_congr HMC.out.1.2.2.1 fun k u v => HP2.out.out k (by omega)) (sorted_congr HMC.out.1.2.2.2 fun k u v => HP2.out.out k (by omega))
              (fun p q u1 u2 u3 u4 => by rw [HP2.out.out p (by omega), HP2.out.out q (by omega)]; exact HCF.out.2 p q u1 u2 u3 u4)).mono ?_
            rintro e' w3 ⟨rfl, hI3, hT3, f3, hF3, hP3, hS3⟩
            have HI3 := Lib.hid hI3
            have HT3 := Lib.hid (HT2.out.trans hT3)
            have HF3 := Lib.hid hF3
            have HE3 := Lib.hid (merge_end (by omega) (by omega) HMC.out.2 HP2.out HS2.out hP3 hS3)
            clear hI3 hT3 hF3 hP3 hS3
            go_wp2_with fail
            go_end0
            exact ⟨rfl, HI3.out, HT3.out, f3, HF3.out, HPR.out.trans HE3.out.1, HE3.out.2⟩
          · have HS3 := Lib.hid (show Sorted lt f2 mid b from sorted_congr (by rw [show mid = e from by omega]; exact HMC.out.1.2.2.2) fun k u v => HP2.out.out k (by omega))
            have HE3 := Lib.hid (merge_end (by omega) (by omega) HMC.out.2 HP2.out HS2.out (PermOn.refl mid b f2) HS3.out)
            go_wp2_with fail
            go_end0
            exact ⟨rfl, HI2.out, HT2.out, f2, HF2.out, HPR.out.trans HE3.out.1, HE3.out.2⟩
          · have HS3 := Lib.hid (show Sorted lt f2 mid b from sorted_congr (by rw [← (show e = b from by omega)]; exact HMC.out.1.2.2.1) fun k u v => HP2.out.out k (by omega))
            have HE3 := Lib.hid (merge_end (by omega) (by omega) HMC.out.2 HP2.out HS2.out (PermOn.refl mid b f2) HS3.out)
            go_wp2_with fail
            go_end0
            exact ⟨rfl, HI2.out, HT2.out, f2, HF2.out, HPR.out.trans HE3.out.1, HE3.out.2⟩
        · have HS2 := Lib.hid (show Sorted lt f1 a mid from by rw [← (show x = mid from by omega)]; exact HMC.out.1.1)
          have HI2 := HI1
          have HT2 := HT1
          have HF2 := HF1
          have HP2 := Lib.hid (PermOn.refl a mid f1)
          obtain ⟨f2, HFE⟩ : ∃ f2, Hid (f2 = f1) := ⟨_, Lib.hid rfl⟩
          rw [← HFE.out] at HS2 HF2
          have HP2 := Lib.hid (show PermOn a mid f1 f2 from by rw [HFE.out]; exact PermOn.refl a mid f1)
          rcases (show (mid < e ∧ e < b) ∨ ¬ mid < e ∨ (mid < e ∧ ¬ e < b) from by omega) with ⟨g5, g6⟩ | g5 | ⟨g5, g6⟩
          · go_wp2_with fail
            refine (HIH2.out e f2 _ HI2.out HF2.out g5 g6 hb (fun k u v => by rw [HP2.out.out k (by omega)]; exact HNR.out k (by omega) v)
              (sorted_congr HMC.out.1.2.2.1 fun k u v => HP2.out.out k (by omega)) (sorted_congr HMC.out.1.2.2.2 fun k u v => HP2.out.out k (by omega))
              (fun p q u1 u2 u3 u4 => by rw [HP2.out.out p (by omega), HP2.out.out q (by omega)]; exact HCF.out.2 p q u1 u2 u3 u4)).mono ?_
            rintro e' w3 ⟨rfl, hI3, hT3, f3, hF3, hP3, hS3⟩
            have HI3 := Lib.hid hI3
            have HT3 := Lib.hid (HT2.out.trans hT3)
            have HF3 := Lib.hid hF3
            have HE3 := Lib.hid (merge_end (by omega) (by omega) HMC.out.2 HP2.out HS2.out hP3 hS3)
            clear hI3 hT3 hF3 hP3 hS3
            go_wp2_with fail
            go_end0
            exact ⟨rfl, HI3.out, HT3.out, f3, HF3.out, HPR.out.trans HE3.out.1, HE3.out.2⟩
          · have HS3 := Lib.hid (show Sorted lt f2 mid b from sorted_congr (by rw [show mid = e from by omega]; exact HMC.out.1.2.2.2) fun k u v => HP2.out.out k (by omega))
            have HE3 := Lib.hid (merge_end (by omega) (by omega) HMC.out.2 HP2.out HS2.out (PermOn.refl mid b f2) HS3.out)
            go_wp2_with fail
            go_end0
            exact ⟨rfl, HI2.out, HT2.out, f2, HF2.out, HPR.out.trans HE3.out.1, HE3.out.2⟩
          · have HS3 := Lib.hid (show Sorted lt f2 mid b from sorted_congr (by rw [← (show e = b from by omega)]; exact HMC.out.1.2.2.1) fun k u v => HP2.out.out k (by omega))
            have HE3 := Lib.hid (merge_end (by omega) (by omega) HMC.out.2 HP2.out HS2.out (PermOn.refl mid b f2) HS3.out)
            go_wp2_with fail
            go_end0
            exact ⟨rfl, HI2.out, HT2.out, f2, HF2.out, HPR.out.trans HE3.out.1, HE3.out.2⟩
      · have HF1 := Lib.hid (show Ints wr blk n f1 from by rw [← HF1.out, HRID0.out (by omega)]; exact HF.out)
        have HI1 := HIr
        have HT1 := Lib.hid (HT.out.mono (S' := Plus S blk) fun _ _ c => .inl c)
        rcases (show (a < x ∧ x < mid) ∨ ¬ a < x ∨ (a < x ∧ ¬ x < mid) from by omega) with ⟨g3, g4⟩ | g3 | ⟨g3, g4⟩
        · go_wp2_with fail
          refine (HIH1.out x f1 _ HI1.out HF1.out g3 g4 (by omega) (fun k u v => HNR.out k u (by omega)) HMC.out.1.1 HMC.out.1.2.1 HCF.out.1).mono ?_
          rintro e' w2 ⟨rfl, hI2, hT2, f2, hF2, hP2, hS2⟩
          have HI2 := Lib.hid hI2
          have HT2 := Lib.hid (HT1.out.trans hT2)
          have HF2 := Lib.hid hF2
          have HP2 := Lib.hid hP2
          have HS2 := Lib.hid hS2
          clear hI2 hT2 hF2 hP2 hS2
          rcases (show (mid < e ∧ e < b) ∨ ¬ mid < e ∨ (mid < e ∧ ¬ e < b) from by omega) with ⟨g5, g6⟩ | g5 | ⟨g5, g6⟩
          · go_wp2_with fail
            refine (HIH2.out e f2 _ HI2.out HF2.out g5 g6 hb (fun k u v => by rw [HP2.out.out k (by omega)]; exact HNR.out k (by omega) v)
              (sorted_congr HMC.out.1.2.2.1 fun k u v => HP2.out.out k (by omega)) (sorted_congr HMC.out.1.2.2.2 fun k u v => HP2.out.out k (by omega))
              (fun p q u1 u2 u3 u4 => by rw [HP2.out.out p (by omega), HP2.out.out q (by omega)]; exact HCF.out.2 p q u1 u2 u3 u4)).mono ?_
            rintro e' w3 ⟨rfl, hI3, hT3, f3, hF3, hP3, hS3⟩
            have HI3 := Lib.hid hI3
            have HT3 := Lib.hid (HT2.out.trans hT3)
            have HF3 := Lib.hid hF3
            have HE3 := Lib.hid (merge_end (by omega) (by omega) HMC.out.2 HP2.out HS2.out hP3 hS3)
            clear hI3 hT3 hF3 hP3 hS3
            go_wp2_with fail
            go_end0
            exact ⟨rfl, HI3.out, HT3.out, f3, HF3.out, HPR.out.trans HE3.out.1, HE3.out.2⟩
          · have HS3 := Lib.hid (show Sorted lt f2 mid b from sorted_congr (by rw [show mid = e from by omega]; exact HMC.out.1.2.2.2) fun k u v => HP2.out.out k (by omega))
            have HE3 := Lib.hid (merge_end (by omega) (by omega) HMC.out.2 HP2.out HS2.out (PermOn.refl mid b f2) HS3.out)
            go_wp2_with fail
            go_end0
            exact ⟨rfl, HI2.out, HT2.out, f2, HF2.out, HPR.out.trans HE3.out.1, HE3.out.2⟩
          · have HS3 := Lib.hid (show Sorted lt f2 mid b from sorted_congr (by rw [← (show e = b from by omega)]; exact HMC.out.1.2.2.1) fun k u v => HP2.out.out k (by omega))
            have HE3 := Lib.hid (merge_end (by omega) (by omega) HMC.out.2 HP2.out HS2.out (PermOn.refl mid b f2) HS3.out)
            go_wp2_with fail
            go_end0
            exact ⟨rfl, HI2.out, HT2.out, f2, HF2.out, HPR.out.trans HE3.out.1, HE3.out.2⟩
        · have HS2 := Lib.hid (show Sorted lt f1 a mid from by rw [show a = x from by omega]; exact HMC.out.1.2.1)
          have HI2 := HI1
          have HT2 := HT1
          have HF2 := HF1
          have HP2 := Lib.hid (PermOn.refl a mid f1)
          obtain ⟨f2, HFE⟩ : ∃ f2, Hid (f2 = f1) := ⟨_, Lib.hid rfl⟩
          rw [← HFE.out] at HS2 HF2
          have HP2 := Lib.hid (show PermOn a mid f1 f2 from by rw [HFE.out]; exact PermOn.refl a mid f1)
          rcases (show (mid < e ∧ e < b) ∨ ¬ mid < e ∨ (mid < e ∧ ¬ e < b) from by omega) with ⟨g5, g6⟩ | g5 | ⟨g5, g6⟩
          · go_wp2_with fail
            refine (HIH2.out e f2 _ HI2.out HF2.out g5 g6 hb (fun k u v => by rw [HP2.out.out k (by omega)]; exact HNR.out k (by omega) v)
              (sorted_congr HMC.out.1.2.2.1 fun k u v => HP2.out.out k (by omega)) (sorted_congr HMC.out.1.2.2.2 fun k u v => HP2.out.out k (by omega))
              (fun p q u1 u2 u3 u4 => by rw [HP2.out.out p (by omega), HP2.out.out q (by omega)]; exact HCF.out.2 p q u1 u2 u3 u4)).mono ?_
            rintro e' w3 ⟨rfl, hI3, hT3, f3, hF3, hP3, hS3⟩
            have HI3 := Lib.hid hI3
            have HT3 := Lib.hid (HT2.out.trans hT3)
            have HF3 := Lib.hid hF3
            have HE3 := Lib.hid (merge_end (by omega) (by omega) HMC.out.2 HP2.out HS2.out hP3 hS3)
            clear hI3 hT3 hF3 hP3 hS3
            go_wp2_with fail
            go_end0
            exact ⟨rfl, HI3.out, HT3.out, f3, HF3.out, HPR.out.trans HE3.out.1, HE3.out.2⟩
          · have HS3 := Lib.hid (show Sorted lt f2 mid b from sorted_congr (by rw [show mid = e from by omega]; exact HMC.out.1.2.2.2) fun k u v => HP2.out.out k (by omega))
            have HE3 := Lib.hid (merge_end (by omega) (by omega) HMC.out.2 HP2.out HS2.out (PermOn.refl mid b f2) HS3.out)
            go_wp2_with fail
            go_end0
            exact ⟨rfl, HI2.out, HT2.out, f2, HF2.out, HPR.out.trans HE3.out.1, HE3.out.2⟩
          · have HS3 := Lib.hid (show Sorted lt f2 mid b from sorted_congr (by rw [← (show e = b from by omega)]; exact HMC.out.1.2.2.1) fun k u v => HP2.out.out k (by omega))
            have HE3 := Lib.hid (merge_end (by omega) (by omega) HMC.out.2 HP2.out HS2.out (PermOn.refl mid b f2) HS3.out)
            go_wp2_with fail
            go_end0
            exact ⟨rfl, HI2.out, HT2.out, f2, HF2.out, HPR.out.trans HE3.out.1, HE3.out.2⟩
        · have HS2 := Lib.hid (show Sorted lt f1 a mid from by rw [← (show x = mid from by omega)]; exact HMC.out.1.1)
          have HI2 := HI1
          have HT2 := HT1
          have HF2 := HF1
          have HP2 := Lib.hid (PermOn.refl a mid f1)
          obtain ⟨f2, HFE⟩ : ∃ f2, Hid (f2 = f1) := ⟨_, Lib.hid rfl⟩
          rw [← HFE.out] at HS2 HF2
          have HP2 := Lib.hid (show PermOn a mid f1 f2 from by rw [HFE.out]; exact PermOn.refl a mid f1)
          rcases (show (mid < e ∧ e < b) ∨ ¬ mid < e ∨ (mid < e ∧ ¬ e < b) from by omega) with ⟨g5, g6⟩ | g5 | ⟨g5, g6⟩
          · go_wp2_with fail
            refine (HIH2.out e f2 _ HI2.out HF2.out g5 g6 hb (fun k u v => by rw [HP2.out.out k (by omega)]; exact HNR.out k (by omega) v)
              (sorted_congr HMC.out.1.2.2.1 fun k u v => HP2.out.out k (by omega)) (sorted_congr HMC.out.1.2.2.2 fun k u v => HP2.out.out k (by omega))
              (fun p q u1 u2 u3 u4 => by rw [HP2.out.out p (by omega), HP2.out.out q (by omega)]; exact HCF.out.2 p q u1 u2 u3 u4)).mono ?_
            rintro e' w3 ⟨rfl, hI3, hT3, f3, hF3, hP3, hS3⟩
            have HI3 := Lib.hid hI3
            have HT3 := Lib.hid (HT2.out.trans hT3)
            have HF3 := Lib.hid hF3
            have HE3 := Lib.hid (merge_end (by omega) (by omega) HMC.out.2 HP2.out HS2.out hP3 hS3)
            clear hI3 hT3 hF3 hP3 hS3
            go_wp2_with fail
            go_end0
            exact ⟨rfl, HI3.out, HT3.out, f3, HF3.out, HPR.out.trans HE3.out.1, HE3.out.2⟩
          · have HS3 := Lib.hid (show Sorted lt f2 mid b from sorted_congr (by rw [show mid = e from by omega]; exact HMC.out.1.2.2.2) fun k u v => HP2.out.out k (by omega))
            have HE3 := Lib.hid (merge_end (by omega) (by omega) HMC.out.2 HP2.out HS2.out (PermOn.refl mid b f2) HS3.out)
            go_wp2_with fail
            go_end0
            exact ⟨rfl, HI2.out, HT2.out, f2, HF2.out, HPR.out.trans HE3.out.1, HE3.out.2⟩
          · have HS3 := Lib.hid (show Sorted lt f2 mid b from sorted_congr (by rw [← (show e = b from by omega)]; exact HMC.out.1.2.2.1) fun k u v => HP2.out.out k (by omega))
            have HE3 := Lib.hid (merge_end (by omega) (by omega) HMC.out.2 HP2.out HS2.out (PermOn.refl mid b f2) HS3.out)
            go_wp2_with fail
            go_end0
            exact ⟨rfl, HI2.out, HT2.out, f2, HF2.out, HPR.out.trans HE3.out.1, HE3.out.2⟩
end Go.Proofs.Ythhahanhkclidaa
