import Derived.Test.YticddcnlafbkoaaDoorVlay
import Derived.Test.YticddcnlafbkoaaDoorVname
/- Which names a vault takes. -/
namespace Go.Proofs.YticddcnlafbkoaaDoor
open Go.ChangeShapes Go.WideShapes Go.ChangeAt Go.RowKit Go.Deep

def nameSet : ByteArray := ⟨#[97, 98, 99, 100, 101, 102, 103, 104, 105, 106, 107, 108, 109, 110, 111, 112, 113, 114, 115, 116, 117, 118, 119, 120, 121, 122, 48, 49, 50, 51, 52, 53, 54, 55, 56, 57, 45, 46]⟩
theorem nameSet_has : ∀ c : Fin 256, nameSet.data.toList.contains (UInt8.ofNat c.1) = nameC c.1 := by decide +kernel
theorem nameSet_mem (c : UInt8) : nameSet.data.toList.contains c = nameC c.toNat := by
  have h := nameSet_has ⟨c.toNat, c.toNat_lt⟩
  simpa using h
theorem drop_all {p : UInt8 → Bool} : ∀ l : List UInt8, l.dropWhile p = [] ↔ l.all p = true
  | [] => by simp
  | c :: l => by
    by_cases h : p c = true
    · simp [List.dropWhile_cons, h, drop_all l]
    · simp [List.dropWhile_cons, h]
theorem take_all {p : UInt8 → Bool} : ∀ l : List UInt8, (l.takeWhile p).all p = true
  | [] => rfl
  | c :: l => by
    by_cases h : p c = true
    · simp [List.takeWhile_cons, h, take_all l]
    · simp [List.takeWhile_cons, h]
theorem trim_all (l : List UInt8) (cs : List UInt8) : Lib.trimS l cs = [] ↔ l.all (cs.contains ·) = true := by
  unfold Lib.trimS Lib.trimLeftS Lib.trimRightS
  rw [drop_all, List.all_reverse]
  constructor
  · intro h
    have h2 := List.takeWhile_append_dropWhile (p := (cs.contains ·)) (l := l.reverse)
    have h3 : l.reverse.all (cs.contains ·) = true := by rw [← h2, List.all_append, h, take_all]; rfl
    rw [List.all_reverse] at h3
    exact h3
  · intro h
    have h3 : l.reverse.dropWhile (cs.contains ·) = [] := (drop_all _).2 (by rw [List.all_reverse]; exact h)
    rw [h3]; rfl
theorem trim_named (nm : ByteArray) : decide (Lib.trimS nm.data.toList nameSet.data.toList = []) = nm.data.toList.all fun c => nameC c.toNat := by
  rw [Bool.eq_iff_iff, decide_eq_true_iff, trim_all]
  have : (fun c => nameSet.data.toList.contains c) = fun c : UInt8 => nameC c.toNat := funext nameSet_mem
  rw [this]

set_option maxRecDepth 100000 in
set_option maxHeartbeats 2000000 in
theorem isName_any (nm : ByteArray) (w : World) (hs : nm.size ≤ 9223372036854775807) : Calls Tryd.prog 23 #[.string nm] w fun e w' => e = .returned (.bool (namedB nm)) ∧ Touch Nil w w' := by
  have HR := Lib.hid (show namedB nm = (decide (Lib.trimS nm.data.toList nameSet.data.toList = []) && decide (1 ≤ nm.size ∧ nm.size ≤ 16)) from by unfold namedB; rw [trim_named])
  have hcon := Any.strings_Trim_laid Tryd.lays160 (by kernel_rfl) nm nameSet w hs (by decide) (ascii_of_all (by decide))
  change Calls Tryd.prog 36 _ _ (fun e w' => e = .returned (.string ⟨(Lib.trimS nm.data.toList nameSet.data.toList).toArray⟩) ∧ Below w.heap.size w w') at hcon
  have hq : (⟨(Lib.trimS nm.data.toList nameSet.data.toList).toArray⟩ : ByteArray).toList.isEmpty = decide (Lib.trimS nm.data.toList nameSet.data.toList = []) := by
    rw [Lib.toList_data]
    cases Lib.trimS nm.data.toList nameSet.data.toList <;> rfl
  have HC := Lib.hid hcon
  have HQ := Lib.hid hq
  clear hcon hq
  generalize (⟨(Lib.trimS nm.data.toList nameSet.data.toList).toArray⟩ : ByteArray) = r at *
  generalize decide (Lib.trimS nm.data.toList nameSet.data.toList = []) = ok at *
  by_cases h1 : 1 ≤ nm.size
  · have d1 : decide ((1 : Int) ≤ (nm.size : Int)) = true := by rw [decide_eq_true_iff]; omega
    by_cases h2 : nm.size ≤ 16
    · have d2 : decide ((nm.size : Int) ≤ 16) = true := by rw [decide_eq_true_iff]; omega
      have HB := Lib.hid (show decide (1 ≤ nm.size ∧ nm.size ≤ 16) = true from by rw [decide_eq_true_iff]; exact ⟨h1, h2⟩)
      clear h1 h2
      go_enter Tryd.func23, Tryd.ntmps23
      go_wp2_with fail
      refine HC.out.mono ?_
      rintro e w' ⟨rfl, hb⟩
      have hq := HQ.out
      go_wp2_with fail
      go_ret
      exact ⟨by rw [HR.out, HB.out, Bool.and_true]; first | rfl | (rw [← HQ.out]; rfl), Touch.of_below hb⟩
    · have d2 : decide ((nm.size : Int) ≤ 16) = false := by rw [decide_eq_false_iff_not]; omega
      have HB := Lib.hid (show decide (1 ≤ nm.size ∧ nm.size ≤ 16) = false from by rw [decide_eq_false_iff_not]; omega)
      clear h1 h2
      go_enter Tryd.func23, Tryd.ntmps23
      go_wp2_with fail
      go_ret
      exact ⟨by rw [HR.out, HB.out, Bool.and_false]; rfl, Touch.refl _ _⟩
  · have d1 : decide ((1 : Int) ≤ (nm.size : Int)) = false := by rw [decide_eq_false_iff_not]; omega
    have HB := Lib.hid (show decide (1 ≤ nm.size ∧ nm.size ≤ 16) = false from by rw [decide_eq_false_iff_not]; omega)
    clear h1
    go_enter Tryd.func23, Tryd.ntmps23
    go_wp2_with fail
    go_ret
    exact ⟨by rw [HR.out, HB.out, Bool.and_false]; rfl, Touch.refl _ _⟩
end Go.Proofs.YticddcnlafbkoaaDoor
