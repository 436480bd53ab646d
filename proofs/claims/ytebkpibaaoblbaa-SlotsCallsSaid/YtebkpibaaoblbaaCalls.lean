import Derived.Test.YtebkpibaaoblbaaLayoutN
/- The two functions that SlotsCalls hands to Layout. -/
namespace Go.Proofs.Ytebkpibaaoblbaa
open Go.ChangeShapes Go.WideShapes Go.ChangeAt Go.RowKit Go.Deep

/-- How often a number lies among the first k of a list. -/
def cnt (l : List Int) (k : Nat) (x : Int) : Nat := ((l.take k).filter fun y => y == x).length
/-- What both functions know: late, compared, the numbers, the counts. -/
structure Known (b7 b6 b3 b5 sb : Nat) (ao : Option Addr) (cap : Nat) (l : List Int) (c : Bool) (f : Nat → Nat) (w : World) : Prop where
  late : w.heap[b7]? = some (.cells #[.bool false] 4 (0, 0))
  comp : w.heap[b6]? = some (.cells #[.bool c] 4 (0, 0))
  nums : w.heap[b3]? = some (.cells #[.slice ao l.length cap] 27 (0, 0))
  seen : w.heap[b5]? = some (.cells #[.slice (some ⟨sb, 0, none⟩) l.length l.length] 27 (0, 0))
  row : Ints w sb l.length f
  data : SlI w .i64 ao l

theorem set_bool {w : World} {b : Nat} {c d : Bool} (h : w.heap[b]? = some (.cells #[.bool c] 4 (0, 0))) : (w.setCell ⟨b, 0, none⟩ (.bool d)).heap[b]? = some (.cells #[.bool d] 4 (0, 0)) := by
  have hrow : w.rowIs b 4 1 (fun _ => .bool c) := ⟨_, h, rfl, fun i hi => by have : i = 0 := (by omega); subst this; rfl⟩
  exact row_block ((hrow.set 0 (.bool d)).congr (g := fun _ => .bool d) fun i hi => by have : i = 0 := (by omega); subst this; rfl)

section
variable {b7 b6 b3 b5 sb : Nat} {ao : Option Addr} {cap : Nat} {l : List Int} {c : Bool} {f : Nat → Nat} {w : World}
/-- Apart: no two of these blocks are one, and the numbers lie elsewhere. -/
structure Apart (b7 b6 b3 b5 sb : Nat) (ao : Option Addr) (k : Nat) : Prop where
  h1 : b7 ≠ b6
  h2 : b7 ≠ b3
  h3 : b7 ≠ b5
  h4 : b7 ≠ sb
  h5 : b6 ≠ b3
  h6 : b6 ≠ b5
  h7 : b6 ≠ sb
  h8 : sb ≠ b3
  h9 : sb ≠ b5
  ha : 0 < k → ∀ a, ao = some a → a.block ≠ b7 ∧ a.block ≠ b6 ∧ a.block ≠ sb

set_option maxHeartbeats 1000000 in
theorem compare_any (A : Apart b7 b6 b3 b5 sb ao l.length) (x y : Int) (h : Known b7 b6 b3 b5 sb ao cap l c f w) :
    Calls Try.prog 27 #[.int .i64 x, .int .i64 y, .pointer (some ⟨b6, 0, none⟩)] w fun e w' => e = .returned (.bool (decide (x < y))) ∧ Known b7 b6 b3 b5 sb ao cap l true f w' ∧ Touch (Just b6) w w' := by
  have HK := Lib.hid h
  have c6 : w.cell? ⟨b6, 0, none⟩ = some (.bool c) := by simp [World.cell?, h.comp]
  have z6 : w.frozen? ⟨b6, 0, none⟩ = false := by simp [World.frozen?, h.comp]
  have HT := Lib.hid ((Touch.refl (Just b6) w).setCell ⟨b6, 0, none⟩ (.bool true) fun _ => rfl)
  clear h
  go_enter Try.func27, Try.ntmps27
  go_wp2_with fail
  go_ret
  have h := HK.out
  have lt : ∀ {b : Nat} {o : Obj}, w.heap[b]? = some o → b < w.heap.size := fun h => (Array.getElem?_eq_some_iff.1 h).1
  exact ⟨rfl, ⟨(HT.out.same _ (lt h.late) A.h1).trans h.late, set_bool h.comp, (HT.out.same _ (lt h.nums) (Ne.symm A.h5)).trans h.nums, (HT.out.same _ (lt h.seen) (Ne.symm A.h6)).trans h.seen, h.row.keep HT.out (Ne.symm A.h7), h.data.keep HT.out fun a e h0 => (A.ha h0 a e).2.1⟩, HT.out⟩

theorem cnt_succ {k : Nat} (x : Int) (hk : k < l.length) : cnt l (k + 1) x = cnt l k x + if l.getD k 0 = x then 1 else 0 := by
  unfold cnt
  rw [List.take_succ_eq_append_getElem hk, List.filter_append, List.length_append]
  have : l.getD k 0 = l[k] := by simp [List.getD_eq_getElem?_getD, hk]
  rw [this]
  by_cases h : l[k] = x <;> simp [h]

/-- One number more is counted. -/
def more (l : List Int) (f : Nat → Nat) (x : Int) (k : Nat) : Nat → Nat := fun j => if j < k ∧ l.getD j 0 = x then f j + 1 else f j

set_option maxRecDepth 100000 in
set_option maxHeartbeats 2000000 in
theorem asked_any (A : Apart b7 b6 b3 b5 sb ao l.length) (x : Int) (hn : l.length ≤ 200) (hf : ∀ j, j < l.length → f j ≤ 200) (h : Known b7 b6 b3 b5 sb ao cap l false f w) :
    Calls Try.prog 26 #[.int .i64 x, .pointer (some ⟨b7, 0, none⟩), .pointer (some ⟨b6, 0, none⟩), .pointer (some ⟨b3, 0, none⟩), .pointer (some ⟨b5, 0, none⟩)] w
      fun e w' => e = .returned (.int .i64 x) ∧ Known b7 b6 b3 b5 sb ao cap l false (more l f x l.length) w' ∧ Touch (fun b => b = b7 ∨ b = sb) w w' := by
  have HF := Lib.hid hf
  have HA := Lib.hid A
  have lt : ∀ {b : Nat} {o : Obj}, w.heap[b]? = some o → b < w.heap.size := fun h => (Array.getElem?_eq_some_iff.1 h).1
  have c7 : w.cell? ⟨b7, 0, none⟩ = some (.bool false) := by simp [World.cell?, h.late]
  have z7 : w.frozen? ⟨b7, 0, none⟩ = false := by simp [World.frozen?, h.late]
  have c6 : w.cell? ⟨b6, 0, none⟩ = some (.bool false) := by simp [World.cell?, h.comp]
  have HT0 := Lib.hid ((Touch.refl (Just b7) w).setCell ⟨b7, 0, none⟩ (.bool false) fun _ => rfl)
  have HK0 := Lib.hid (show Known b7 b6 b3 b5 sb ao cap l false f (w.setCell ⟨b7, 0, none⟩ (.bool false)) from
    ⟨set_bool h.late, (HT0.out.same _ (lt h.comp) (Ne.symm A.h1)).trans h.comp, (HT0.out.same _ (lt h.nums) (Ne.symm A.h2)).trans h.nums, (HT0.out.same _ (lt h.seen) (Ne.symm A.h3)).trans h.seen, h.row.keep HT0.out (Ne.symm A.h4), h.data.keep HT0.out fun a e h0 => (A.ha h0 a e).1⟩)
  clear h lt hf A
  have HE : ∃ n, l.length = n := ⟨_, rfl⟩
  obtain ⟨n, en⟩ := HE
  have HN := Lib.hid en
  rw [en] at hn ⊢
  clear en
  go_enter Try.func26, Try.ntmps26
  go_wp2_with fail
  clear c7 z7 c6
  go_loopw [7] (fun i wr => ∃ k : Nat, k ≤ n ∧ i = .int .i64 (k : Int) ∧ Known b7 b6 b3 b5 sb ao cap l false (more l f x k) wr ∧ Touch (fun b => b = b7 ∨ b = sb) w wr) (fun i _ => n - (intOf i).toNat)
  case atStart =>
    refine ⟨0, Nat.zero_le _, rfl, ?_, HT0.out.mono fun b _ e => .inl e⟩
    have e : more l f x 0 = f := by funext j; simp [more]
    rw [e]; exact HK0.out
  obtain ⟨k, hk, rfl, hkn, hto⟩ := hrel
  have HK := Lib.hid hkn
  have HT := Lib.hid hto
  have c3 : wr.cell? ⟨b3, 0, none⟩ = some (.slice ao n cap) := by simp [World.cell?, hkn.nums, HN.out]
  have c5 : wr.cell? ⟨b5, 0, none⟩ = some (.slice (some ⟨sb, 0, none⟩) n n) := by simp [World.cell?, hkn.seen, HN.out]
  clear hkn hto
  by_cases hlt : k < n
  · obtain ⟨ab, aoff, hao, hc⟩ := HK.out.data k (by rw [HN.out]; exact hlt)
    subst hao
    have HE : ∃ y, l.getD k 0 = y := ⟨_, rfl⟩
    obtain ⟨y, ey⟩ := HE
    rw [ey] at hc
    have HY := Lib.hid ey
    have HE : ∃ m, f k = m := ⟨_, rfl⟩
    obtain ⟨m, em⟩ := HE
    have HM := Lib.hid em
    have hmk : more l f x k k = m := by simp [more, em]
    have cs := HK.out.row.cell (i := k) (by rw [HN.out]; exact hlt)
    rw [hmk] at cs
    have zs := HK.out.row.frozen k
    have hm200 : m ≤ 200 := by rw [← em]; exact HF.out k (by rw [HN.out]; exact hlt)
    have i1 : ((k : Nat) : Int) < (n : Int) := by omega
    have i2 : (0 : Int) ≤ (k : Int) := by omega
    clear ey em hmk
    by_cases hyx : y = x
    · have hb : ((y : Int) == x) = true := by simp [hyx]
      have HYX := Lib.hid hyx
      clear hyx
      have HR := Lib.hid (HK.out.row.set k (m + 1))
      have HT2 := Lib.hid ((Touch.refl (Just sb) wr).setCell ⟨sb, k, none⟩ (.int .i64 ((m + 1 : Nat) : Int)) fun _ => rfl)
      rw [show ((m + 1 : Nat) : Int) = (m : Int) + 1 from rfl] at HT2
      go_wp2_with fail
      go_roundw
      case rel =>
        have h := HK.out
        have A := HA.out
        have lt : ∀ {b : Nat} {o : Obj}, wr.heap[b]? = some o → b < wr.heap.size := fun h => (Array.getElem?_eq_some_iff.1 h).1
        refine ⟨k + 1, by omega, by go_num, ⟨(HT2.out.same _ (lt h.late) A.h4).trans h.late, (HT2.out.same _ (lt h.comp) A.h7).trans h.comp, (HT2.out.same _ (lt h.nums) (Ne.symm A.h8)).trans h.nums, (HT2.out.same _ (lt h.seen) (Ne.symm A.h9)).trans h.seen, HR.out.congr fun j hj => ?_, h.data.keep HT2.out fun a e h0 => (A.ha h0 a e).2.2⟩, HT.out.trans (HT2.out.mono fun b _ e => .inr e)⟩
        unfold more
        by_cases e : j = k
        · subst e
          rw [if_pos rfl, if_pos ⟨by omega, by rw [HY.out, HYX.out]⟩, HM.out]
        · by_cases g : j < k
          · simp [e, g, show j < k + 1 by omega]
          · simp [e, g, show ¬ j < k + 1 by omega]
      case measure => simp [intOf]; omega
    · have hb : ((y : Int) == x) = false := by simp [hyx]
      have HYX := Lib.hid hyx
      clear hyx
      go_wp2_with fail
      go_roundw
      case rel =>
        have e : more l f x (k + 1) = more l f x k := by
          funext j
          unfold more
          by_cases e : j = k
          · subst e
            have this : ¬ l.getD j 0 = x := by rw [HY.out]; exact HYX.out
            rw [if_neg (fun h => this h.2), if_neg (fun h => this h.2)]
          · by_cases g : j < k
            · simp [g, show j < k + 1 by omega]
            · simp [g, show ¬ j < k + 1 by omega]
        refine ⟨k + 1, by omega, by go_num, ?_, HT.out⟩
        rw [e]; exact HK.out
      case measure => simp [intOf]; omega
  · obtain rfl : k = n := by omega
    go_wp2_with fail
    go_ret
    exact ⟨rfl, HK.out, HT.out⟩
end
end Go.Proofs.Ytebkpibaaoblbaa
