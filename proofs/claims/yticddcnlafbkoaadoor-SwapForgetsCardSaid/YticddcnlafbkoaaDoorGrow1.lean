import Derived.Test.YticddcnlafbkoaaDoorTab7
import Derived.Test.YticddcnlafbkoaaDoorRunMath
import Derived.Test.YticddcnlafbkoaaDoorOwn
import Derived.Test.YticddcnlafbkoaaDoorLayoutP
/- The pairs of a table as they lie; the two functions by which they are laid anew. -/
namespace Go.Proofs.YticddcnlafbkoaaDoor
open Go.ChangeShapes Go.WideShapes Go.ChangeAt Go.RowKit Go.Deep

/-- The numbers of the full cells among the first x. -/
def fullL (T : Cells) : Nat → List Nat
  | 0 => []
  | x + 1 => fullL T x ++ if (T x).isSome then [x] else []
theorem fullL_len (T : Cells) : ∀ C, (fullL T C).length + frees C T = C
  | 0 => rfl
  | C + 1 => by
    have := fullL_len T C
    simp only [fullL, frees, List.length_append]
    cases T C <;> simp <;> omega
theorem fullL_le (T : Cells) (C : Nat) : (fullL T C).length ≤ C := by have := fullL_len T C; omega
theorem fullL_mem (T : Cells) : ∀ C c, c ∈ fullL T C ↔ c < C ∧ (T c).isSome = true
  | 0, c => by simp [fullL]
  | C + 1, c => by
    simp only [fullL, List.mem_append, fullL_mem T C c]
    constructor
    · rintro (⟨h, k⟩ | h)
      · exact ⟨by omega, k⟩
      · cases e : T C with
        | none => rw [e] at h; simp at h
        | some p => rw [e] at h; simp at h; rw [h, e]; exact ⟨by omega, rfl⟩
    · rintro ⟨h, k⟩
      by_cases e : c = C
      · right; rw [← e, k]; simp
      · left; exact ⟨by omega, k⟩
theorem fullL_pre (T : Cells) (C x i : Nat) (hi : i < (fullL T x).length) (hx : x ≤ C) : (fullL T C).getD i 0 = (fullL T x).getD i 0 := by
  induction C with
  | zero => have : x = 0 := by omega
            subst this; rfl
  | succ C ih =>
    by_cases e : x = C + 1
    · rw [e]
    · have h := ih (by omega)
      have hlt : i < (fullL T C).length := by
        have : ∀ d, (fullL T x).length ≤ (fullL T (x + d)).length := fun d => by
          induction d with
          | zero => exact Nat.le_refl _
          | succ d ih => rw [← Nat.add_assoc]; simp only [fullL, List.length_append]; omega
        have := this (C - x)
        rw [show x + (C - x) = C by omega] at this
        omega
      rw [← h]
      simp only [fullL, List.getD_eq_getElem?_getD]
      rw [List.getElem?_append_left hlt]
theorem fullL_at (T : Cells) (x : Nat) (h : (T x).isSome = true) : (fullL T (x + 1)).getD (fullL T x).length 0 = x := by
  simp only [fullL, h, if_true, List.getD_eq_getElem?_getD]
  rw [List.getElem?_append_right (Nat.le_refl _)]
  simp
/-- The i-th full cell. -/
def nthF (T : Cells) (C i : Nat) : Nat := (fullL T C).getD i 0
theorem nthF_lt (T : Cells) (C i : Nat) (hi : i < (fullL T C).length) : nthF T C i < C ∧ (T (nthF T C i)).isSome = true := by
  unfold nthF
  rw [List.getD_eq_getElem?_getD, List.getElem?_eq_getElem hi]
  exact (fullL_mem T C _).1 (List.getElem_mem hi)
theorem nthF_all (T : Cells) (C c : Nat) (hc : c < C) (h : (T c).isSome = true) : ∃ i, i < (fullL T C).length ∧ nthF T C i = c := by
  obtain ⟨i, hi, e⟩ := List.getElem_of_mem ((fullL_mem T C c).2 ⟨hc, h⟩)
  exact ⟨i, hi, by unfold nthF; rw [List.getD_eq_getElem?_getD, List.getElem?_eq_getElem hi]; exact e⟩
theorem fullL_sorted (T : Cells) : ∀ C, (fullL T C).Pairwise (· < ·)
  | 0 => List.Pairwise.nil
  | C + 1 => by
    simp only [fullL]
    rw [List.pairwise_append]
    refine ⟨fullL_sorted T C, by split <;> simp, fun a ha b hb => ?_⟩
    have h1 := ((fullL_mem T C a).1 ha).1
    split at hb
    · simp at hb; omega
    · simp at hb
theorem nthF_inj (T : Cells) (C i j : Nat) (hi : i < (fullL T C).length) (hj : j < (fullL T C).length) (h : nthF T C i = nthF T C j) : i = j := by
  have hs := fullL_sorted T C
  rw [List.pairwise_iff_getElem] at hs
  unfold nthF at h
  simp only [List.getD_eq_getElem?_getD, List.getElem?_eq_getElem hi, List.getElem?_eq_getElem hj, Option.getD_some] at h
  rcases Nat.lt_trichotomy i j with o | o | o
  · have := hs i j hi hj o; omega
  · exact o
  · have := hs j i hj hi o; omega

/-- The pairs as they lie, in new memory. -/
def PairsPost (C : Nat) (vv : Nat → Nat → Value) (T : Cells) (w : World) (e : Ending) (w' : World) : Prop :=
  ∃ v, e = .returned v ∧ w'.ownsRow w.heap.size 79 2 v (fullL T C).length (flat 2 (fun i c => vv (nthF T C i) c) (fullL T C).length) ∧ Touch Nil w w'

theorem own_none (w : World) (base e k : Nat) : w.ownsRow base e k (.slice none 0 0) 0 [] := ⟨by simp, .inl ⟨rfl, rfl⟩⟩

set_option maxRecDepth 100000 in
set_option maxHeartbeats 2000000 in
theorem pairs_any {R : Nat → Prop} {w : World} {bb bc : Nat} {seed : Int} {n C : Nat} {vv : Nat → Nat → Value} {T : Cells} (h : Bod R w bb bc seed n C vv T) (hC : C ≤ 1048576) :
    Calls Tryd.prog 63 #[.pointer (some ⟨bb, 0, none⟩)] w (PairsPost C vv T w) := by
  have HB := Lib.hid h
  have c2 := h.cellsC
  have HN := Lib.hid (own_none w w.heap.size 79 2)
  clear h
  go_enter Tryd.func63, Tryd.ntmps63
  go_wp2_with fail
  clear c2
  go_loopw [3, 11] (fun v i wr => ∃ x : Nat, x ≤ C ∧ i = .int .i64 (x : Int) ∧ wr.ownsRow w.heap.size 79 2 v (fullL T x).length (flat 2 (fun i c => vv (nthF T C i) c) (fullL T x).length) ∧ Touch Nil w wr) (fun _ i _ => C - (intOf i).toNat)
  case atStart => exact ⟨0, Nat.zero_le _, rfl, HN.out, Touch.refl _ _⟩
  obtain ⟨x, hx, rfl, hown, hto⟩ := hrel
  obtain ⟨va, vcap, rfl, _⟩ := own_row hown
  have HO := Lib.hid hown
  have HT := Lib.hid hto
  clear hown hto
  by_cases hlt : x < C
  · have HBr := Lib.hid (HB.out.keepN HT.out)
    obtain ⟨ao, l, cap, bo, m, cap', e0, e1, hfree, hl64, hm1000⟩ := HBr.out.slice hlt
    have k0 := HBr.out.keyC hlt
    have k1 := HBr.out.valC hlt
    rw [e0] at k0
    rw [e1] at k1
    have HE0 := Lib.hid e0
    have HE1 := Lib.hid e1
    have HFR := Lib.hid hfree
    have HLL := Lib.hid (fullL_le T x)
    clear e0 e1 hfree
    have i1 : (x : Int) < (C : Int) := by omega
    have i2 : (0 : Int) ≤ (x : Int) := by omega
    go_wp2_with fail
    refine (isFree_any ao l cap (.slice bo m cap') _ (by omega)).mono ?_
    rintro e w2 ⟨rfl, hT2⟩
    have HT2 := Lib.hid ((HT.out.alloc (.cells #[.slice ao l cap, .slice bo m cap'] 79)).trans hT2)
    have HTR := Lib.hid (((Touch.refl Nil wr).alloc (.cells #[.slice ao l cap, .slice bo m cap'] 79)).trans hT2)
    have hbx : w2.heap[wr.heap.size]? = some (.cells #[.slice ao l cap, .slice bo m cap'] 79 (0, 0)) := (hT2.same _ (by simp) (fun c => c)).trans (heap_alloc_new _ _)
    have d0 : w2.cell? ⟨wr.heap.size, 0, none⟩ = some (.slice ao l cap) := by simp [World.cell?, hbx]
    have d1 : w2.cell? ⟨wr.heap.size, 1, none⟩ = some (.slice bo m cap') := by simp [World.cell?, hbx]
    clear k0 k1 hT2 hbx
    cases hTa : T x with
    | none =>
      have hl0 : decide (l = 0) = true := by rw [HFR.out, hTa]; rfl
      have HF := Lib.hid (show fullL T (x + 1) = fullL T x from by simp only [fullL, hTa]; simp)
      clear hTa
      go_wp2_with fail
      go_roundw
      case rel => exact ⟨x + 1, by omega, by go_num, by rw [HF.out]; exact own_keepN HO.out HTR.out, HT2.out⟩
      case measure => simp [intOf]; omega
    | some p =>
      have hl0 : decide (l = 0) = false := by rw [HFR.out, hTa]; rfl
      have HF := Lib.hid (show (fullL T (x + 1)).length = (fullL T x).length + 1 from by simp only [fullL, hTa]; simp)
      have HNT := Lib.hid (show nthF T C (fullL T x).length = x from by
        unfold nthF
        rw [fullL_pre T C (x + 1) _ (by rw [HF.out]; omega) (by omega)]
        exact fullL_at T x (by rw [hTa]; rfl))
      have HV := Lib.hid (show (List.range 2).map ((fun i c => vv (nthF T C i) c) (fullL T x).length) = [.slice ao l cap, .slice bo m cap'] from by
        show [vv (nthF T C (fullL T x).length) 0, vv (nthF T C (fullL T x).length) 1] = _
        rw [HNT.out, HE0.out, HE1.out])
      have HOA := Lib.hid (show (w2.alloc (.cells #[.slice ao l cap, .slice bo m cap'] 79)).ownsRow w.heap.size 79 2 (.slice va (fullL T x).length vcap) (fullL T x).length (flat 2 (fun i c => vv (nthF T C i) c) (fullL T x).length) from own_keepN (own_keepN HO.out HTR.out) ((Touch.refl Nil w2).alloc _))
      have HCB := Lib.hid (show ∀ q u, ([.slice ao l cap, .slice bo m cap'] : List Value)[q]? = some u → (w2.alloc (.cells #[.slice ao l cap, .slice bo m cap'] 79)).cell? ⟨w2.heap.size, q, none⟩ = some u from fun q u hq => by rw [cell_new]; simpa using hq)
      have HON := Lib.hid (show ∀ u ∈ ([.slice ao l cap, .slice bo m cap'] : List Value), u.oneCell' = true from fun u hu => by
        simp at hu
        rcases hu with rfl | rfl <;> rfl)
      have HBS := Lib.hid (show w.heap.size ≤ (w2.alloc (.cells #[.slice ao l cap, .slice bo m cap'] 79)).heap.size from by have := HT2.out.size; rw [nblk_alloc]; omega)
      have HJ := Lib.hid (show (fullL T x).length ≤ 1048576 by have := HLL.out; omega)
      clear hTa
      have HE : ∃ L, (fullL T x).length = L := ⟨_, rfl⟩
      obtain ⟨L, eL⟩ := HE
      rw [eL] at HF HV HOA HJ HO
      rw [eL]
      clear HNT HLL eL
      go_wp2_with (refine wpList_append_one rfl (.tmp 18) (.tmp 20) 26 79 rfl w.heap.size 2 48 _ Tryd.underlying26 infoPair rfl (Nat.succ_pos _) (by decide) (.slice va L vcap) L _ rfl HOA.out w2.heap.size 1 rfl [.slice ao l cap, .slice bo m cap'] rfl HCB.out HON.out HJ.out HBS.out ?_)
      intro v1 w3 ho1 hT3
      obtain ⟨va', vcap', rfl, _⟩ := own_row ho1.out
      have HO3 := Lib.hid (show w3.ownsRow w.heap.size 79 2 (.slice va' (L + 1) vcap') (fullL T (x + 1)).length (flat 2 (fun i c => vv (nthF T C i) c) (fullL T (x + 1)).length) from by
        have := ho1.out
        rw [← HV.out] at this
        rw [HF.out]
        exact this)
      have HT3 := Lib.hid (show Touch Nil w w3 from (HT2.out.alloc _).trans' hT3.out fun b hb hs => by have := own_base HOA.out b hs; omega)
      clear ho1 hT3
      go_wp2_with fail
      go_roundw
      case rel => exact ⟨x + 1, by omega, by go_num, HO3.out, HT3.out⟩
      case measure => simp [intOf]; omega
  · obtain rfl : x = C := by omega
    go_wp2_with fail
    go_ret
    exact ⟨_, rfl, HO.out, HT.out⟩
end Go.Proofs.YticddcnlafbkoaaDoor
