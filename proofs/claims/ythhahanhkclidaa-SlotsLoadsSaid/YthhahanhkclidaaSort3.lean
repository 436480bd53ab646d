import Derived.Test.YthhahanhkclidaaSort2
/- The stable sort of package slices over a row of numbers: the merge, where one of the halves has one element. -/
namespace Go.Proofs.Ythhahanhkclidaa
open Go.ChangeShapes Go.WideShapes Go.ChangeAt Go.RowKit Go.Deep

theorem half_nat (i j : Nat) (hj : i + j ≤ 9223372036854775807) : IntKind.i64.wrap (IntKind.u64.wrap ((i : Int) + (j : Int)) / 2) = (((i + j) / 2 : Nat) : Int) := by
  rw [IntWalk.u64_in _ (by omega), IntWalk.i64_in _ (by omega)]
  omega

set_option maxRecDepth 100000 in
set_option maxHeartbeats 4000000 in
theorem symMerge_one (g : Nat) (cb : Array Value) (lt : Nat → Nat → Bool) (N blk n cap a b : Nat) (I : World → Prop) (S : Nat → Prop) (C : Cmp g cb lt N blk I S) (hw : SWO lt N)
    (f0 : Nat → Nat) (w : World) (hI : I w) (h : Ints w blk n f0) (hn : n ≤ 4611686018427387904) (hab : a + 1 < b) (hb : b ≤ n) (hN : ∀ k, a ≤ k → k < b → f0 k < N)
    (hs : Sorted lt f0 (a + 1) b) (hup : ∀ q, a + 1 ≤ q → q < b → f0 a < f0 q) :
    Calls Try.prog 97 #[.slice (some ⟨blk, 0, none⟩) n cap, .int .i64 a, .int .i64 ((a + 1 : Nat) : Int), .int .i64 b, .func (.func g) #[] cb] w
      (SortPost blk n I S w (fun f' => PermOn a b f0 f' ∧ Sorted lt f' a b)) := by
  have HC := Lib.hid C
  have HI := Lib.hid hI
  have H := Lib.hid h
  have HN := Lib.hid hN
  have HU := Lib.hid hup
  have HW := Lib.hid hw
  have HS := Lib.hid hs
  have eg := C.enter
  clear C hI h hN hup hw hs
  obtain ⟨m, HM⟩ : ∃ m, Hid (m = a + 1) := ⟨_, Lib.hid rfl⟩
  rw [← HM.out]
  have hm1 : a < m := by have := HM.out; omega
  have hm2 : m < b := by have := HM.out; omega
  have e1 : ((m : Int) - (a : Int) == 1) = true := by rw [beq_iff_eq]; have := HM.out; omega
  go_enter Try.func97, Try.ntmps97
  go_wp2_with fail
  go_loopw [10, 11] (fun i j wr => ∃ x y : Nat, m ≤ x ∧ x ≤ y ∧ y ≤ b ∧ i = .int .i64 x ∧ j = .int .i64 y ∧ I wr ∧ Touch S w wr ∧ (∀ k, m ≤ k → k < x → Rel lt (f0 k) (f0 a)) ∧ (∀ k, y ≤ k → k < b → Rel lt (f0 a) (f0 k))) (fun i j _ => (intOf j).toNat - (intOf i).toNat)
  case atStart => exact ⟨m, b, by omega, by omega, by omega, rfl, rfl, HI.out, Touch.refl _ _, fun k h1 h2 => by omega, fun k h1 h2 => by omega⟩
  obtain ⟨x, y, hmx, hxy, hyb, rfl, rfl, hIr, hto, hlo, hhi⟩ := hrel
  have HIr := Lib.hid hIr
  have HT := Lib.hid hto
  have HLO := Lib.hid hlo
  have HHI := Lib.hid hhi
  have HF := Lib.hid (H.out.keep hto HC.out.apart)
  clear hIr hto hlo hhi
  by_cases hlt : x < y
  · obtain ⟨z, HZ⟩ : ∃ z, Hid (z = (x + y) / 2) := ⟨_, Lib.hid rfl⟩
    have hz1 : x ≤ z := by have := HZ.out; omega
    have hz2 : z < y := by have := HZ.out; omega
    have hz3 : z < n := by omega
    have ez3 : ((x : Int) + (y : Int)) / 2 = (z : Int) := by rw [HZ.out]; omega
    have c1 := HF.out.cell (i := z) (by omega)
    have c2 := HF.out.cell (i := a) (by omega)
    have i1 : (z : Int) < (n : Int) := by omega
    have i2 : (0 : Int) ≤ (z : Int) := by omega
    have i3 : (a : Int) < (n : Int) := by omega
    have i4 : (0 : Int) ≤ (a : Int) := by omega
    go_wp2_with fail
    go_still_tail 9, mixed
    clear ez3
    change wpList _ _ _ _ _ wr.drew
    have HIr := Lib.hid (HC.out.keep _ _ HIr.out (Touch.refl _ _).drew)
    have HT := Lib.hid HT.out.drew
    have HF := Lib.hid HF.out.drew
    clear c1 c2
    generalize wr.drew = w1 at *
    have HL := Lib.hid (HU.out z (by have := HM.out; omega) (by omega))
    have HB := Lib.hid (And.intro (HN.out z (by omega) (by omega)) (HN.out a (by omega) (by omega)))
    go_wp2_with fail
    refine (HC.out.call _ _ _ HIr.out HB.out.1 HB.out.2).mono ?_
    rintro e w' ⟨r, rfl, hr1, hr2, hI2, hT2⟩
    have HI2 := Lib.hid hI2
    have HT3 := Lib.hid (HT.out.trans hT2)
    clear hI2 hT2
    by_cases hlt2 : lt (f0 z) (f0 a) = true
    · have hr := hr1 hlt2
      have HR := Lib.hid ((Rel.of_gt HL.out).2 hlt2)
      clear hr1 hr2 hlt2
      go_wp2_with fail
      go_roundw
      case rel =>
        refine ⟨z + 1, y, by omega, by omega, hyb, by go_num, rfl, HI2.out, HT3.out, ?_, HHI.out⟩
        intro k h1 h2
        by_cases hk : k = z
        · subst hk; exact HR.out
        · exact Rel.trans HW.out (HN.out k (by omega) (by omega)) HB.out.1 HB.out.2 (HS.out k z (by have := HM.out; omega) (by omega) (by omega)) HR.out
      case measure => simp [intOf]; omega
    · have hr := hr2 (by simpa using hlt2)
      have HR := Lib.hid (show Rel lt (f0 a) (f0 z) from Rel.not HW.out HB.out.1 HB.out.2 (by have := HL.out; omega) (fun c => hlt2 ((Rel.of_gt HL.out).1 c)))
      clear hr1 hr2 hlt2
      go_wp2_with fail
      go_roundw
      case rel =>
        refine ⟨x, z, hmx, by omega, by omega, rfl, rfl, HI2.out, HT3.out, HLO.out, ?_⟩
        intro k h1 h2
        by_cases hk : k = z
        · subst hk; exact HR.out
        · exact Rel.trans HW.out HB.out.2 HB.out.1 (HN.out k (by omega) (by omega)) HR.out (HS.out z k (by have := HM.out; omega) (by omega) (by omega))
      case measure => simp [intOf]; omega
  · obtain rfl : x = y := by omega
    obtain ⟨wo, rfl⟩ : ∃ wo : World, wo = wr := ⟨_, rfl⟩
    go_wp2_with fail
    go_loopw [13] (fun k wr => ∃ z : Nat, a ≤ z ∧ z + 1 ≤ x ∧ k = .int .i64 z ∧ Touch (Just blk) wo wr ∧ Ints wr blk n (rot a (a + 1) (z + 1) f0)) (fun k _ => x - (intOf k).toNat)
    case atStart => exact ⟨a, by omega, by omega, rfl, Touch.refl _ _, by rw [rot_right0]; exact HF.out⟩
    obtain ⟨z, haz, hzx, rfl, hto, hf⟩ := hrel
    by_cases hlt : z + 1 < x
    · have c1 := hf.cell (i := z) (by omega)
      have c2 := hf.cell (i := z + 1) (by omega)
      have z1 := hf.frozen z
      have z2 := hf.frozen (z + 1)
      have i1 : (z : Int) < (x : Int) - 1 := by omega
      have i2 : ((z : Int) + 1).toNat = z + 1 := by omega
      have HSW := Lib.hid (hf.swap z (z + 1)).drew
      have HTW := Lib.hid (touch_swap (b := blk) (i := z) (j := z + 1) (u := .int .i64 ((rot a (a + 1) (z + 1) f0 (z + 1) : Nat) : Int)) (v := .int .i64 ((rot a (a + 1) (z + 1) f0 z : Nat) : Int)) hto).drew
      have HE := Lib.hid (rot_right f0 a z haz)
      clear hf hto
      generalize rot a (a + 1) (z + 1) f0 z = v1 at *
      generalize rot a (a + 1) (z + 1) f0 (z + 1) = v2 at *
      go_wp2_with fail
      go_region
      go_wp2_with fail
      go_roundw
      case rel => exact ⟨z + 1, by omega, by omega, by go_num, HTW.out, by rw [← HE.out]; exact HSW.out⟩
      case measure => simp [intOf]; omega
    · have i1 : (x : Int) - 1 ≤ (z : Int) := by omega
      have HT4 := Lib.hid hto
      have HF4 := Lib.hid hf
      clear hf hto
      go_wp2_with fail
      (try simp only [Exit.inBlock, Exit.then])
      refine bodyPost_ret (results_none rfl _ _ _) rfl ?_
      obtain rfl : x = z + 1 := by omega
      refine ⟨rfl, HC.out.keep _ _ HIr.out HT4.out, (HT.out.mono fun _ _ c => .inl c).trans (HT4.out.mono fun _ _ c => .inr c), _, HF4.out, ?_, ?_⟩
      · exact (rot_perm f0 (by omega) (by omega)).wide (Nat.le_refl _) (by omega)
      · exact insert_right (by omega) hyb HS.out (fun k h1 h2 => HLO.out k (by have := HM.out; omega) h2) HHI.out
set_option maxRecDepth 100000 in
set_option maxHeartbeats 4000000 in
theorem symMerge_last (g : Nat) (cb : Array Value) (lt : Nat → Nat → Bool) (N blk n cap a m : Nat) (I : World → Prop) (S : Nat → Prop) (C : Cmp g cb lt N blk I S) (hw : SWO lt N)
    (f0 : Nat → Nat) (w : World) (hI : I w) (h : Ints w blk n f0) (hn : n ≤ 4611686018427387904) (hab : a + 1 < m) (hb : m + 1 ≤ n) (hN : ∀ k, a ≤ k → k < m + 1 → f0 k < N)
    (hs : Sorted lt f0 a m) (hup : ∀ q, a ≤ q → q < m → f0 q < f0 m) :
    Calls Try.prog 97 #[.slice (some ⟨blk, 0, none⟩) n cap, .int .i64 a, .int .i64 m, .int .i64 ((m + 1 : Nat) : Int), .func (.func g) #[] cb] w
      (SortPost blk n I S w (fun f' => PermOn a (m + 1) f0 f' ∧ Sorted lt f' a (m + 1))) := by
  have HC := Lib.hid C
  have HI := Lib.hid hI
  have H := Lib.hid h
  have HN := Lib.hid hN
  have HU := Lib.hid hup
  have HW := Lib.hid hw
  have HS := Lib.hid hs
  have eg := C.enter
  clear C hI h hN hup hw hs
  obtain ⟨b, HM⟩ : ∃ b, Hid (b = m + 1) := ⟨_, Lib.hid rfl⟩
  rw [← HM.out]
  have hm2 : m < b := by have := HM.out; omega
  have hm3 : b ≤ n := by have := HM.out; omega
  have e1 : ((m : Int) - (a : Int) == 1) = false := by rw [beq_eq_false_iff_ne]; omega
  have e2 : ((b : Int) - (m : Int) == 1) = true := by rw [beq_iff_eq]; have := HM.out; omega
  go_enter Try.func97, Try.ntmps97
  go_wp2_with fail
  go_loopw [14, 15] (fun i j wr => ∃ x y : Nat, a ≤ x ∧ x ≤ y ∧ y ≤ m ∧ i = .int .i64 x ∧ j = .int .i64 y ∧ I wr ∧ Touch S w wr ∧ (∀ k, a ≤ k → k < x → Rel lt (f0 k) (f0 m)) ∧ (∀ k, y ≤ k → k < m → Rel lt (f0 m) (f0 k))) (fun i j _ => (intOf j).toNat - (intOf i).toNat)
  case atStart => exact ⟨a, m, by omega, by omega, by omega, rfl, rfl, HI.out, Touch.refl _ _, fun k h1 h2 => by omega, fun k h1 h2 => by omega⟩
  obtain ⟨x, y, hmx, hxy, hyb, rfl, rfl, hIr, hto, hlo, hhi⟩ := hrel
  have HIr := Lib.hid hIr
  have HT := Lib.hid hto
  have HLO := Lib.hid hlo
  have HHI := Lib.hid hhi
  have HF := Lib.hid (H.out.keep hto HC.out.apart)
  clear hIr hto hlo hhi
  by_cases hlt : x < y
  · obtain ⟨z, HZ⟩ : ∃ z, Hid (z = (x + y) / 2) := ⟨_, Lib.hid rfl⟩
    have hz1 : x ≤ z := by have := HZ.out; omega
    have hz2 : z < y := by have := HZ.out; omega
    have hz3 : z < n := by omega
    have ez3 : ((x : Int) + (y : Int)) / 2 = (z : Int) := by rw [HZ.out]; omega
    have c1 := HF.out.cell (i := z) (by omega)
    have c2 := HF.out.cell (i := m) (by omega)
    have i1 : (z : Int) < (n : Int) := by omega
    have i2 : (0 : Int) ≤ (z : Int) := by omega
    have i3 : (m : Int) < (n : Int) := by omega
    have i4 : (0 : Int) ≤ (m : Int) := by omega
    go_wp2_with fail
    go_still_tail 9, mixed
    clear ez3
    change wpList _ _ _ _ _ wr.drew
    have HIr := Lib.hid (HC.out.keep _ _ HIr.out (Touch.refl _ _).drew)
    have HT := Lib.hid HT.out.drew
    have HF := Lib.hid HF.out.drew
    clear c1 c2
    generalize wr.drew = w1 at *
    have HL := Lib.hid (HU.out z (by omega) (by omega))
    have HB := Lib.hid (And.intro (HN.out z (by omega) (by omega)) (HN.out m (by omega) (by omega)))
    go_wp2_with fail
    refine (HC.out.call _ _ _ HIr.out HB.out.2 HB.out.1).mono ?_
    rintro e w' ⟨r, rfl, hr1, hr2, hI2, hT2⟩
    have HI2 := Lib.hid hI2
    have HT3 := Lib.hid (HT.out.trans hT2)
    clear hI2 hT2
    by_cases hlt2 : lt (f0 m) (f0 z) = true
    · have hr := hr1 hlt2
      have HR := Lib.hid ((Rel.of_gt HL.out).2 hlt2)
      clear hr1 hr2 hlt2
      go_wp2_with fail
      go_roundw
      case rel =>
        refine ⟨x, z, hmx, by omega, by omega, rfl, rfl, HI2.out, HT3.out, HLO.out, ?_⟩
        intro k h1 h2
        by_cases hk : k = z
        · subst hk; exact HR.out
        · exact Rel.trans HW.out HB.out.2 HB.out.1 (HN.out k (by omega) (by omega)) HR.out (HS.out z k (by omega) (by omega) (by omega))
      case measure => simp [intOf]; omega
    · have hr := hr2 (by simpa using hlt2)
      have hd : decide (r < 0) = false := by simp; omega
      have HR := Lib.hid (show Rel lt (f0 z) (f0 m) from Rel.not HW.out HB.out.2 HB.out.1 (by have := HL.out; omega) (fun c => hlt2 ((Rel.of_gt HL.out).1 c)))
      clear hr1 hr2 hlt2
      go_wp2_with fail
      go_roundw
      case rel =>
        refine ⟨z + 1, y, by omega, by omega, hyb, by go_num, rfl, HI2.out, HT3.out, ?_, HHI.out⟩
        intro k h1 h2
        by_cases hk : k = z
        · subst hk; exact HR.out
        · exact Rel.trans HW.out (HN.out k (by omega) (by omega)) HB.out.1 HB.out.2 (HS.out k z (by omega) (by omega) (by omega)) HR.out
      case measure => simp [intOf]; omega
  · obtain rfl : x = y := by omega
    obtain ⟨wo, rfl⟩ : ∃ wo : World, wo = wr := ⟨_, rfl⟩
    go_wp2_with fail
    go_loopw [17] (fun k wr => ∃ z : Nat, x ≤ z ∧ z ≤ m ∧ k = .int .i64 z ∧ Touch (Just blk) wo wr ∧ Ints wr blk n (rot z m (m + 1) f0)) (fun k _ => (intOf k).toNat)
    case atStart => exact ⟨m, by omega, by omega, rfl, Touch.refl _ _, by rw [rot_left0]; exact HF.out⟩
    obtain ⟨z, haz, hzx, rfl, hto, hf⟩ := hrel
    by_cases hlt : x < z
    · have c1 := hf.cell (i := z) (by omega)
      have c2 := hf.cell (i := z - 1) (by omega)
      have z1 := hf.frozen z
      have z2 := hf.frozen (z - 1)
      have i1 : (z : Int) - 1 < (n : Int) := by omega
      have i3 : (1 : Int) ≤ (z : Int) := by omega
      have i2 : ((z : Int) - 1).toNat = z - 1 := by omega
      have HSW := Lib.hid (hf.swap z (z - 1)).drew
      have HTW := Lib.hid (touch_swap (b := blk) (i := z) (j := z - 1) (u := .int .i64 ((rot z m (m + 1) f0 (z - 1) : Nat) : Int)) (v := .int .i64 ((rot z m (m + 1) f0 z : Nat) : Int)) hto).drew
      have HE := Lib.hid (show swp (rot z m (m + 1) f0) z (z - 1) = rot (z - 1) m (m + 1) f0 from by
        have e : z - 1 + 1 = z := by omega
        have := rot_left f0 (z - 1) m (by omega)
        rw [e] at this; exact this)
      clear hf hto
      generalize rot z m (m + 1) f0 z = v1 at *
      generalize rot z m (m + 1) f0 (z - 1) = v2 at *
      go_wp2_with fail
      go_region
      go_wp2_with fail
      go_roundw
      case rel => exact ⟨z - 1, by omega, by omega, by go_num, HTW.out, by rw [← HE.out]; exact HSW.out⟩
      case measure => simp [intOf]; omega
    · have i1 : (z : Int) ≤ (x : Int) := by omega
      have HT4 := Lib.hid hto
      have HF4 := Lib.hid hf
      clear hf hto
      go_wp2_with fail
      (try simp only [Exit.inBlock, Exit.then])
      refine bodyPost_ret (results_none rfl _ _ _) rfl ?_
      obtain rfl : z = x := by omega
      refine ⟨rfl, HC.out.keep _ _ HIr.out HT4.out, (HT.out.mono fun _ _ c => .inl c).trans (HT4.out.mono fun _ _ c => .inr c), _, HF4.out, ?_, ?_⟩
      · have := HM.out
        exact (rot_perm f0 (by omega) (by omega)).wide (by omega) (by omega)
      · rw [HM.out]
        exact insert_left (by omega) (by omega) HS.out (fun k h1 h2 => HLO.out k h1 h2) HHI.out
end Go.Proofs.Ythhahanhkclidaa
