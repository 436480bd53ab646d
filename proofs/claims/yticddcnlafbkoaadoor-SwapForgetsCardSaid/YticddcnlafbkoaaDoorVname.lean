import Derived.Test.YticddcnlafbkoaaDoorBase
/- Names. -/
namespace Go.Proofs.YticddcnlafbkoaaDoor
open Go.ChangeShapes Go.WideShapes Go.ChangeAt Go.RowKit Go.Deep

/-- Whether a name may have a byte. -/
def nameC (c : Nat) : Bool := (decide (97 ≤ c ∧ c ≤ 122) || decide (48 ≤ c ∧ c ≤ 57)) || (decide (c = 45) || decide (c = 46))
def namedB (nm : ByteArray) : Bool := (nm.data.toList.all fun c => nameC c.toNat) && decide (1 ≤ nm.size ∧ nm.size ≤ 16)
theorem namedB_bad {nm : ByteArray} {i : Nat} (hi : i < nm.size) (h : nameC nm[i].toNat = false) : namedB nm = false := by
  unfold namedB
  rw [Bool.and_eq_false_iff]
  left
  rw [List.all_eq_false]
  exact ⟨nm[i], by rw [List.mem_iff_getElem]; exact ⟨i, by simpa using hi, rfl⟩, by simp [h]⟩
theorem namedB_ok {nm : ByteArray} (h : ∀ j (h : j < nm.size), nameC nm[j].toNat = true) : namedB nm = decide (1 ≤ nm.size ∧ nm.size ≤ 16) := by
  unfold namedB
  rw [show (nm.data.toList.all fun c => nameC c.toNat) = true from by
    rw [List.all_eq_true]
    intro c hc
    obtain ⟨j, hj, rfl⟩ := List.mem_iff_getElem.1 hc
    exact h j (by simpa using hj), Bool.true_and]
set_option maxRecDepth 100000 in
set_option maxHeartbeats 4000000 in
theorem named_any {w : World} {nm : ByteArray} (hm : nm.size ≤ 9223372036854775807) : Calls Tryd.prog 21 #[.string nm] w fun e w' => e = .returned (.bool (namedB nm)) ∧ w = w' := by
  obtain ⟨n, en⟩ : ∃ n, nm.size = n := ⟨_, rfl⟩
  have HM := Lib.hid (show n ≤ 9223372036854775807 from by omega)
  have HN := Lib.hid en
  clear hm
  go_enter Tryd.func21, Tryd.ntmps21
  go_wp2_with fail
  go_loop [3] (fun s => ∃ (i : Nat), i ≤ n ∧ s = .int .i64 (i : Int) ∧ Hid (∀ j (h : j < nm.size), j < i → nameC nm[j].toNat = true)) (fun s => n - (intOf s).toNat)
  case atStart => exact ⟨0, Nat.zero_le _, rfl, Lib.hid fun j _ h => by omega⟩
  case round =>
    obtain ⟨i, hi, rfl, HI⟩ := hrel
    by_cases hlt : i < n
    · have hs : i < nm.size := by omega
      have j1 : (i : Int) < (n : Int) := by omega
      have j2 : (0 : Int) ≤ (i : Int) := by omega
      have j3 : (i : Int) < (nm.size : Int) := by omega
      have hnm : n ≤ 9223372036854775807 := HM.out
      obtain ⟨c, hc⟩ : ∃ c, nm[i].toNat = c := ⟨_, rfl⟩
      have HC := Lib.hid (fun h => namedB_bad (i := i) hs (by rw [hc]; exact h))
      have HC2 := Lib.hid (fun (h : nameC c = true) => show ∀ j (h : j < nm.size), j < i + 1 → nameC nm[j].toNat = true from fun j hj hji => by
        by_cases e : j = i
        · subst e; rw [hc]; exact h
        · exact HI.out j hj (by omega))
      have hcl : c < 256 := by rw [← hc]; exact nm[i].toNat_lt
      rcases (by omega : c ≤ 44 ∨ c = 45 ∨ c = 46 ∨ c = 47 ∨ (48 ≤ c ∧ c ≤ 57) ∨ (58 ≤ c ∧ c ≤ 96) ∨ (97 ≤ c ∧ c ≤ 122) ∨ 123 ≤ c) with hr | hr | hr | hr | hr | hr | hr | hr
      · have f0 : (c : Int) < 97 := by omega
        have f1 : (c : Int) < 48 := by omega
        have f2 : (c : Int) ≠ 45 := by omega
        have f3 : (c : Int) ≠ 46 := by omega
        have e2 : ((c : Int) != 45) = true := by simp; omega
        have e3 : ((c : Int) != 46) = true := by simp; omega
        have HR := Lib.hid (HC.out (by unfold nameC; simp; omega))
        clear HC HC2 hcl hr
        go_wp2_with fail
        go_ret
        exact ⟨by first | (rw [HR.out]; rfl) | rw [HR.out], rfl⟩
      · subst hr
        have HR := Lib.hid (HC2.out (by decide))
        clear HC HC2 hcl
        go_wp2_with fail
        go_round
        case rel => exact ⟨i + 1, by omega, by go_num, HR⟩
        case measure => simp [intOf]; omega
      · subst hr
        have HR := Lib.hid (HC2.out (by decide))
        clear HC HC2 hcl
        go_wp2_with fail
        go_round
        case rel => exact ⟨i + 1, by omega, by go_num, HR⟩
        case measure => simp [intOf]; omega
      · subst hr
        have HR := Lib.hid (HC.out (by decide))
        clear HC HC2 hcl
        go_wp2_with fail
        go_ret
        exact ⟨by first | (rw [HR.out]; rfl) | rw [HR.out], rfl⟩
      · have f0 : (c : Int) < 97 := by omega
        have f1 : (48 : Int) ≤ (c : Int) := by omega
        have f2 : (c : Int) ≤ 57 := by omega
        have HR := Lib.hid (HC2.out (by unfold nameC; simp; omega))
        clear HC HC2 hcl hr
        go_wp2_with fail
        go_round
        case rel => exact ⟨i + 1, by omega, by go_num, HR⟩
        case measure => simp [intOf]; omega
      · have f0 : (c : Int) < 97 := by omega
        have f1 : (48 : Int) ≤ (c : Int) := by omega
        have f2 : (57 : Int) < (c : Int) := by omega
        have f3 : (c : Int) ≠ 45 := by omega
        have f4 : (c : Int) ≠ 46 := by omega
        have e3 : ((c : Int) != 45) = true := by simp; omega
        have e4 : ((c : Int) != 46) = true := by simp; omega
        have HR := Lib.hid (HC.out (by unfold nameC; simp; omega))
        clear HC HC2 hcl hr
        go_wp2_with fail
        go_ret
        exact ⟨by first | (rw [HR.out]; rfl) | rw [HR.out], rfl⟩
      · have f0 : (97 : Int) ≤ (c : Int) := by omega
        have f1 : (c : Int) ≤ 122 := by omega
        have HR := Lib.hid (HC2.out (by unfold nameC; simp; omega))
        clear HC HC2 hcl hr
        go_wp2_with fail
        go_round
        case rel => exact ⟨i + 1, by omega, by go_num, HR⟩
        case measure => simp [intOf]; omega
      · have f0 : (97 : Int) ≤ (c : Int) := by omega
        have f1 : (122 : Int) < (c : Int) := by omega
        have f2 : (48 : Int) ≤ (c : Int) := by omega
        have f3 : (57 : Int) < (c : Int) := by omega
        have f4 : (c : Int) ≠ 45 := by omega
        have f5 : (c : Int) ≠ 46 := by omega
        have e4 : ((c : Int) != 45) = true := by simp; omega
        have e5 : ((c : Int) != 46) = true := by simp; omega
        have HR := Lib.hid (HC.out (by unfold nameC; simp; omega))
        clear HC HC2 hcl hr
        go_wp2_with fail
        go_ret
        exact ⟨by first | (rw [HR.out]; rfl) | rw [HR.out], rfl⟩
    · obtain rfl : i = n := by omega
      have HR := Lib.hid (namedB_ok (nm := nm) fun j hj => HI.out j hj (by have := HN.out; omega))
      have i1 : ¬ ((i : Int) < (i : Int)) := by omega
      by_cases c1 : 1 ≤ i
      · have d1 : (1 : Int) ≤ (i : Int) := by omega
        by_cases c2 : i ≤ 16
        · have d2 : (i : Int) ≤ 16 := by omega
          have HQ := Lib.hid (show namedB nm = true from by rw [HR.out, decide_eq_true_iff, HN.out]; exact ⟨c1, c2⟩)
          go_wp2_with fail
          go_ret
          exact ⟨by first | (rw [HQ.out]; rfl) | rw [HQ.out], rfl⟩
        · have d2 : decide ((i : Int) ≤ 16) = false := by rw [decide_eq_false_iff_not]; omega
          have HQ := Lib.hid (show namedB nm = false from by rw [HR.out, decide_eq_false_iff_not, HN.out]; omega)
          go_wp2_with fail
          go_ret
          exact ⟨by first | (rw [HQ.out]; rfl) | rw [HQ.out], rfl⟩
      · have d1 : (i : Int) < 1 := by omega
        have HQ := Lib.hid (show namedB nm = false from by rw [HR.out, decide_eq_false_iff_not, HN.out]; omega)
        go_wp2_with fail
        go_ret
        exact ⟨by first | (rw [HQ.out]; rfl) | rw [HQ.out], rfl⟩
end Go.Proofs.YticddcnlafbkoaaDoor
