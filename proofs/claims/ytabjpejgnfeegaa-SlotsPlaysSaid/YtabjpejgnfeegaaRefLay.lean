import Derived.Test.YtabjpejgnfeegaaOneMath
import Derived.Test.YtabjpejgnfeegaaTab1
import Derived.BigQuiet
import Derived.Test.YtabjpejgnfeegaaRef1
import Derived.Test.YtabjpejgnfeegaaLay
/- Plain mathematics: the first of those that do not lie yet, one after another, is the sorted order. Nothing of the program. -/
namespace Go.Proofs.Ytabjpejgnfeegaa

/-- The first of the numbers below i that are not done. -/
def pickN (lt : Nat → Nat → Bool) (done : Nat → Bool) : Nat → Option Nat
  | 0 => none
  | i + 1 => if done i then pickN lt done i else match pickN lt done i with
    | none => some i
    | some m => if lt i m then some i else some m
theorem pickN_none {lt : Nat → Nat → Bool} {done : Nat → Bool} : ∀ i, pickN lt done i = none → ∀ j, j < i → done j = true
  | 0, _, j, hj => by omega
  | i + 1, h, j, hj => by
    unfold pickN at h
    by_cases hd : done i = true
    · rw [if_pos hd] at h
      by_cases hji : j = i
      · rw [hji]; exact hd
      · exact pickN_none i h j (by omega)
    · rw [if_neg hd] at h
      cases e : pickN lt done i with
      | none => rw [e] at h; cases h
      | some m =>
        rw [e] at h
        have h : (if lt i m = true then some i else some m) = none := h
        split at h <;> cases h
theorem pickN_spec {lt : Nat → Nat → Bool} {n : Nat} {done : Nat → Bool} (w : SWO lt n) : ∀ i m, i ≤ n → pickN lt done i = some m → m < i ∧ done m = false ∧ ∀ j, j < i → done j = false → j ≠ m → Rel lt m j
  | 0, _, _, h => by cases h
  | i + 1, m, hi, h => by
    unfold pickN at h
    by_cases hd : done i = true
    · rw [if_pos hd] at h
      obtain ⟨h1, h2, h3⟩ := pickN_spec w i m (by omega) h
      refine ⟨by omega, h2, fun j hj hdj hne => ?_⟩
      have hji : j ≠ i := fun e => by rw [e, hd] at hdj; cases hdj
      exact h3 j (by omega) hdj hne
    · rw [if_neg hd] at h
      have hd : done i = false := by simpa using hd
      cases e : pickN lt done i with
      | none =>
        rw [e] at h
        cases h
        refine ⟨by omega, hd, fun j hj hdj hne => ?_⟩
        have := pickN_none i e j (by omega)
        rw [hdj] at this; cases this
      | some m' =>
        rw [e] at h
        have h : (if lt i m' = true then some i else some m') = some m := h
        obtain ⟨h1, h2, h3⟩ := pickN_spec w i m' (by omega) e
        by_cases hl : lt i m' = true
        · rw [if_pos hl] at h
          cases h
          refine ⟨by omega, hd, fun j hj hdj hne => ?_⟩
          by_cases hjm : j = m'
          · rw [hjm]; exact .inl hl
          · exact Rel.trans w (by omega) (by omega) (by omega) (.inl hl) (h3 j (by omega) hdj hjm)
        · rw [if_neg hl] at h
          cases h
          refine ⟨by omega, h2, fun j hj hdj hne => ?_⟩
          by_cases hji : j = i
          · rw [hji]; exact .inr ⟨by simpa using hl, h1⟩
          · exact h3 j (by omega) hdj hne
/-- Where the first k of an order are done, the next is its number k. -/
theorem pick_ordr {lt : Nat → Nat → Bool} {n k : Nat} {f : Nat → Nat} {done : Nat → Bool} (w : SWO lt n) (hf : Ordr lt n f) (hk : k < n) (hd : ∀ i, i < n → (done i = true ↔ ∃ j, j < k ∧ f j = i)) : pickN lt done n = some (f k) := by
  have fresh : done (f k) = false := by
    cases e : done (f k) with
    | false => rfl
    | true =>
      obtain ⟨j, hj, ej⟩ := (hd _ (hf.lt' k hk)).1 e
      have := hf.sorted j k (by omega) hj hk
      rw [ej] at this
      exact absurd this (Rel.irrefl w (hf.lt' k hk))
  cases e : pickN lt done n with
  | none =>
    have := pickN_none n e (f k) (hf.lt' k hk)
    rw [fresh] at this; cases this
  | some m =>
    obtain ⟨h1, h2, h3⟩ := pickN_spec w n m (Nat.le_refl _) e
    obtain ⟨j, hj, ej⟩ := hf.all m h1
    by_cases hmk : m = f k
    · rw [hmk]
    · have hjk : ¬ j < k := fun hlt => by
        have := (hd m h1).2 ⟨j, hlt, ej⟩
        rw [h2] at this; cases this
      have hkj : k < j := by
        have : j ≠ k := fun ee => hmk (by rw [← ej, ee])
        omega
      have a := hf.sorted k j (by omega) hkj hj
      rw [ej] at a
      exact absurd (h3 (f k) (hf.lt' k hk) fresh fun ee => hmk ee.symm) (Rel.asym w (hf.lt' k hk) h1 a)
/-- There is an order. -/
theorem ordr_exists {lt : Nat → Nat → Bool} {n : Nat} (w : SWO lt n) : ∃ f, Ordr lt n f := by
  let le : Fin n → Fin n → Bool := fun x y => decide (x = y) || lt x.1 y.1 || (!lt y.1 x.1 && decide (x.1 < y.1))
  have hle : ∀ x y : Fin n, le x y = true ↔ (x = y ∨ Rel lt x.1 y.1) := fun x y => by
    show (decide (x = y) || lt x.1 y.1 || (!lt y.1 x.1 && decide (x.1 < y.1))) = true ↔ _
    unfold Rel
    simp [or_assoc]
  have htr : ∀ a b c : Fin n, le a b = true → le b c = true → le a c = true := fun a b c h1 h2 => by
    rw [hle] at *
    rcases h1 with rfl | h1
    · exact h2
    · rcases h2 with rfl | h2
      · exact .inr h1
      · exact .inr (Rel.trans w a.2 b.2 c.2 h1 h2)
  have htot : ∀ a b : Fin n, (le a b || le b a) = true := fun a b => by
    rw [Bool.or_eq_true, hle, hle]
    by_cases h : a = b
    · exact .inl (.inl h)
    · rcases Rel.tot w a.2 b.2 (fun e => h (Fin.ext e)) with h | h
      · exact .inl (.inr h)
      · exact .inr (.inr h)
  have hs := List.pairwise_mergeSort (le := le) htr htot (List.finRange n)
  have hp := List.mergeSort_perm (List.finRange n) le
  have hlen : ((List.finRange n).mergeSort le).length = n := by rw [hp.length_eq]; simp
  have hnd : ((List.finRange n).mergeSort le).Nodup := hp.nodup_iff.2 (List.nodup_finRange n)
  refine ⟨fun k => if h : k < ((List.finRange n).mergeSort le).length then (((List.finRange n).mergeSort le)[k]).1 else 0, ?_, ?_, ?_⟩
  · intro k hk
    rw [dif_pos (by omega)]
    exact Fin.isLt _
  · intro x hx
    have hm : (⟨x, hx⟩ : Fin n) ∈ (List.finRange n).mergeSort le := hp.mem_iff.2 (List.mem_finRange _)
    obtain ⟨j, hj, ej⟩ := List.getElem_of_mem hm
    exact ⟨j, by omega, by rw [dif_pos hj, ej]⟩
  · intro p q _ hpq hq
    simp only []
    rw [dif_pos (show p < ((List.finRange n).mergeSort le).length by omega), dif_pos (show q < ((List.finRange n).mergeSort le).length by omega)]
    have := List.pairwise_iff_getElem.1 hs p q (by omega) (by omega) hpq
    rcases (hle _ _).1 this with e | h
    · have := (List.pairwise_iff_getElem.1 hnd) p q (by omega) (by omega) hpq
      exact absurd e this
    · exact h
end Go.Proofs.Ytabjpejgnfeegaa

/- The reference's layout. -/
namespace Go.Proofs.Ytabjpejgnfeegaa
open Go.ChangeShapes Go.WideShapes Go.ChangeAt Go.RowKit Go.Deep

theorem tmod_parts {C : Nat} (hC : 0 < C) (s : Int) : ∃ t : Int, s.tmod (C : Int) = t ∧ -(C : Int) < t ∧ t < C ∧ (if t < 0 then t + C else t) = s % (C : Int) := by
  have h1 := Int.emod_nonneg s (show (C : Int) ≠ 0 by omega)
  have h2 := Int.emod_lt_of_pos s (show (0 : Int) < C by omega)
  have key : s.tmod (C : Int) = s % (C : Int) ∨ (s.tmod (C : Int) = s % (C : Int) - C ∧ s % (C : Int) ≠ 0) := by
    rw [Int.tmod_eq_emod]
    split
    · exact .inl (by simp)
    · rename_i hn
      have : (((C : Int).natAbs : Nat) : Int) = (C : Int) := by omega
      rw [this]
      exact .inr ⟨rfl, fun e => hn (.inr (Int.dvd_of_emod_eq_zero e))⟩
  refine ⟨_, rfl, ?_, ?_, ?_⟩
  · rcases key with k | ⟨k, k'⟩ <;> omega
  · rcases key with k | ⟨k, k'⟩ <;> omega
  · rcases key with k | ⟨k, k'⟩ <;> split <;> omega

set_option maxHeartbeats 1000000 in
theorem mod_any (s : Int) (C : Nat) (hC : 1 ≤ C) (hC2 : C ≤ 1048576) (w : World) :
    Calls Try.prog 46 #[.int .i64 s, .int .i64 (C : Int)] w fun e w' => e = .returned (.int .i64 (s % (C : Int))) ∧ w' = w := by
  obtain ⟨t, et, t1, t2, t3⟩ := tmod_parts (show 0 < C by omega) s
  have hC0 : (C : Int) ≠ 0 := by omega
  have hbeq : ((C : Int) == 0) = false := by simp; omega
  go_enter Try.func46, Try.ntmps46
  by_cases hneg : t < 0
  · rw [if_pos hneg] at t3
    have hd : decide (t < 0) = true := decide_eq_true hneg
    go_wp2_with fail
    go_ret
    refine ⟨?_, rfl⟩
    rw [← t3]
    rfl
  · rw [if_neg hneg] at t3
    have hd : decide (t < 0) = false := decide_eq_false hneg
    go_wp2_with fail
    go_ret
    refine ⟨?_, rfl⟩
    rw [← t3]
    rfl

set_option maxHeartbeats 1000000 in
/-- The reference's layout where there is none. -/
theorem layRef_none (cells : Int) (ao : Option Addr) (n cap : Nat) (w : World) (h : ¬ (1 ≤ cells ∧ cells ≤ 1048576 ∧ (n : Int) ≤ cells)) :
    Calls Try.prog 18 #[.int .i64 cells, .slice ao n cap] w fun e w' => e = .returned (.slice none 0 0) ∧ w' = w := by
  go_enter Try.func18, Try.ntmps18
  by_cases h1 : cells < 1
  · have d1 : decide (cells < 1) = true := decide_eq_true h1
    go_wp2_with fail
    go_ret
    exact ⟨rfl, rfl⟩
  · have d1 : decide (cells < 1) = false := decide_eq_false h1
    by_cases h2 : 1048576 < cells
    · have d2 : decide (1048576 < cells) = true := decide_eq_true h2
      go_wp2_with fail
      go_ret
      exact ⟨rfl, rfl⟩
    · have d2 : decide (1048576 < cells) = false := decide_eq_false h2
      have d3 : decide (cells < (n : Int)) = true := decide_eq_true (by omega)
      go_wp2_with fail
      go_ret
      exact ⟨rfl, rfl⟩

/-- Ints in a slice. -/
def IntsS (w : World) (ao : Option Addr) (n : Nat) (f : Nat → Int) : Prop := 0 < n → ∃ b o, ao = some ⟨b, o, none⟩ ∧ ∀ j, j < n → w.cell? ⟨b, o + j, none⟩ = some (.int .i64 (f j))
theorem IntsS.keepN {w w' : World} {ao : Option Addr} {n : Nat} {f : Nat → Int} (h : IntsS w ao n f) (ht : Touch Nil w w') : IntsS w' ao n f := fun h0 => by
  obtain ⟨b, o, e, hc⟩ := h h0
  exact ⟨b, o, e, fun j hj => (ht.cell (World.block_lt_of_cell? w _ (hc j hj)) (fun c => c) _).trans (hc j hj)⟩

set_option maxRecDepth 100000 in
set_option maxHeartbeats 1000000 in
/-- Two lists of the same numbers are the same. -/
theorem sameI_true (n c1 c2 : Nat) (ao bo : Option Addr) (f : Nat → Int) (w : World) (hn : n ≤ 1048576) (ha : IntsS w ao n f) (hb : IntsS w bo n f) :
    Calls Try.prog 16 #[.slice ao n c1, .slice bo n c2] w (BoolN true w) := by
  have HA := Lib.hid ha
  have HB := Lib.hid hb
  have hnn : ((n : Int) != (n : Int)) = false := by simp
  clear ha hb
  go_enter Try.func16, Try.ntmps16
  go_wp2_with fail
  go_loopw [5] (fun i wr => ∃ x : Nat, x ≤ n ∧ i = .int .i64 (x : Int) ∧ Touch Nil w wr) (fun i _ => n - (intOf i).toNat)
  case atStart => exact ⟨0, Nat.zero_le _, rfl, Touch.refl _ _⟩
  obtain ⟨x, hx, rfl, hto⟩ := hrel
  have HT := Lib.hid hto
  clear hto
  by_cases hlt : x < n
  · obtain ⟨b, o, rfl, hc⟩ := HA.out (by omega)
    obtain ⟨b', o', rfl, hc'⟩ := HB.out (by omega)
    have c0 := (HT.out.cell (World.block_lt_of_cell? w _ (hc x hlt)) (fun c => c) _).trans (hc x hlt)
    have c1 := (HT.out.cell (World.block_lt_of_cell? w _ (hc' x hlt)) (fun c => c) _).trans (hc' x hlt)
    have i1 : (x : Int) < (n : Int) := by omega
    have i2 : (0 : Int) ≤ (x : Int) := by omega
    have hne : ((f x : Int) != f x) = false := by simp
    clear hc hc'
    go_wp2_with (go_quiet (fail))
    go_roundw
    case rel => exact ⟨x + 1, by omega, by go_num, HT.out.drewN _⟩
    case measure => simp [intOf]; omega
  · obtain rfl : x = n := by omega
    clear hlt hx
    go_wp2_with fail
    go_ret
    exact ⟨rfl, HT.out⟩
end Go.Proofs.Ytabjpejgnfeegaa
