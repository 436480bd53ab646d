import Derived.Test.YtkkpcndpjkebkaaRL
/- The reference's lists of pairs: copies, ranks, pairs that are put in. -/
namespace Go.Proofs.Ytkkpcndpjkebkaa
open Go.ChangeShapes Go.WideShapes Go.ChangeAt Go.RowKit Go.Deep

theorem RL.at {α : Type} {k : Nat} {fld : α → Nat → Fv} {w : World} {ao : Option Addr} {n cap : Nat} {L : List α} (h : RL k fld w (.slice ao n cap) L) {i : Nat} {a : α} (ha : L[i]? = some a) : ∃ b off, ao = some ⟨b, off, none⟩ ∧ b < w.heap.size ∧ ∃ f : Nat → Value, (∀ c, c < k → w.cell? ⟨b, off + i * k + c, none⟩ = some (f c)) ∧ ∀ c, c < k → FV w (f c) (fld a c) := by
  obtain ⟨b, off, cap', e, hb, f, h1, h2⟩ := h.cell ha
  cases e
  exact ⟨b, off, rfl, hb, f, h1, h2⟩
theorem RL.len {α : Type} {k : Nat} {fld : α → Nat → Fv} {w : World} {ao : Option Addr} {n cap : Nat} {L : List α} (h : RL k fld w (.slice ao n cap) L) : n = L.length := by obtain ⟨_, _, _, e, _⟩ := h; cases e; rfl

/-! ### Copy -/
theorem row_made (w : World) (z : Array Value) (n : Nat) (t : TypeId) : (w.alloc (.cells (madeCells z n) t)).rowIs w.heap.size t n (fun i => z[i % z.size]!) :=
  ⟨_, blk_alloc_new _ _, size_madeCells _ _, fun i hi => by simp [madeCells, hi]⟩
theorem run_make_all (c : Nat) (hc : c ≤ 1073741824) (w : World) : (Instr.makeSlice 29 (.int .i64 (c : Int)) (.int .i64 (c : Int))).run Try.prog w = .ok (.slice (some ⟨w.heap.size, 0, none⟩) c c) (w.alloc (.cells (madeCells #[.int .u8 0] (c * 1)) 5)) := by
  obtain ⟨i, hi, hz, hs, hb⟩ := info_parts infoByte
  have hr := run_make (P := Try.prog) w 29 5 i _ Try.underlying29 hi hz .i64 .i64 (c : Int) c (by omega) (by omega) (by rw [hb]; omega) (by omega)
  simp only [Int.toNat_natCast, hs] at hr
  exact hr
theorem own_ofRow {w : World} {b n : Nat} {f : Nat → Value} {l : Key} (h : w.rowIs b 5 n f) (hn : l.length = n) (hf : ∀ i, i < n → f i = .int .u8 (((l.getD i 0).toNat : Nat) : Int)) (hm : n ≤ 1073741824) : OwnB b w (.slice (some ⟨b, 0, none⟩) n n) l := by
  subst hn
  refine ⟨by simp, .inr ⟨b, l.length, _, rfl, Nat.le_refl _, row_block h, Nat.le_refl _, by unfold maxLen; omega, by simp, ?_⟩⟩
  apply List.ext_getElem?
  intro i
  by_cases hi : i < l.length
  · simp only [List.getElem?_take, Nat.mul_one, hi, if_true, List.getElem?_map, List.getElem?_range hi, Option.map_some, hf i hi, ub]
    simp [List.getD_eq_getElem?_getD, hi]
  · rw [List.getElem?_take, if_neg (by omega), List.getElem?_eq_none (by simp; omega)]
set_option maxRecDepth 100000 in
set_option maxHeartbeats 2000000 in
theorem copyR_any {w : World} {x : Value} {l : Key} (h : BV w x l) (hl : l.length ≤ 1073741824) : Calls Try.prog 48 #[x] w (ClonePost l w) := by
  have HB := Lib.hid h
  obtain ⟨ao, cap, rfl, hnone, hs⟩ := h
  have HN := Lib.hid hnone
  have HE : ∃ n, l.length = n := ⟨_, rfl⟩
  obtain ⟨n, en⟩ := HE
  have hmk := run_make_all n (by omega) w
  have HROW : ∃ F : Nat → Value, Hid ((w.alloc (.cells (madeCells #[.int .u8 0] (n * 1)) 5)).rowIs w.heap.size 5 (n * 1) F) := ⟨_, row_made w #[.int .u8 0] (n * 1) 5⟩
  obtain ⟨F, HROW⟩ := HROW
  obtain ⟨src, esrc⟩ : ∃ src : Nat → Value, src = fun i => .int .u8 (((l.getD i 0).toNat : Nat) : Int) := ⟨_, rfl⟩
  have HSRC := Lib.hid esrc
  have h1c : ∀ j, (src j).oneCell' = true := fun j => by rw [esrc]; rfl
  have HONE := Lib.hid h1c
  have HTA := Lib.hid ((Touch.refl Nil w).alloc (.cells (madeCells #[.int .u8 0] (n * 1)) 5))
  have HS := Lib.hid (hs.keepN HTA.out)
  have HLN := Lib.hid en
  have HLL := Lib.hid hl
  rw [en]
  generalize madeCells #[.int .u8 0] (n * 1) = mc at *
  clear hs hnone en hl esrc h1c
  go_enter Try.func48, Try.ntmps48
  go_wp2_with (refine wpList_copy_row rfl (.tmp 7) (.tmp 8) 29 29 rfl 5 Try.underlying29 (by kernel_rfl) w.heap.size 0 n n n cap ao rfl rfl 5 (n * 1) n F src HROW.out (by simp) ?p1 (by omega) (fun j _ => HONE.out j) ?p2)
  case p1 =>
    intro h0
    obtain ⟨b, off, rfl, _⟩ := HS.out 0 (by simp; have := HLN.out; omega)
    refine ⟨b, off, rfl, fun j hj => ?_⟩
    obtain ⟨b', off', e, hc⟩ := HS.out j (by simp; have := HLN.out; omega)
    cases e
    rw [hc, ub_getD _ _ (by have := HLN.out; omega), HSRC.out]
  intro w2 hr2 ht2
  have HR2 := Lib.hid (show w2.rowIs w.heap.size 5 n (laid F src 0 n) from by first | exact hr2.out | (have := hr2.out; rw [Nat.mul_one] at this; exact this))
  have HT2 := Lib.hid (show Touch Nil w w2 from HTA.out.trans' ht2.out fun b hb hs => by have hs : b = w.heap.size := hs; omega)
  clear hr2 ht2 HROW
  go_wp2_with fail
  go_ret
  exact ⟨_, rfl, own_ofRow HR2.out HLN.out (fun i hi => by unfold laid; rw [if_pos (by omega), Nat.sub_zero, HSRC.out]) (by have := HLL.out; have := HLN.out; omega), HT2.out⟩

/-! ### Rank -/
def rankF (key : Key) : Pairs → Nat
  | [] => 0
  | p :: L => if klt p.1 key = true then rankF key L + 1 else 0
theorem rankF_eq (key : Key) : ∀ (L : Pairs) (x : Nat), x ≤ L.length → (∀ j p, j < x → L[j]? = some p → klt p.1 key = true) → (∀ p, L[x]? = some p → klt p.1 key = false) → rankF key L = x
  | [], x, h, _, _ => by simp at h; simp [rankF, h]
  | p :: L, 0, _, _, h2 => by
    have := h2 p rfl
    simp [rankF, this]
  | p :: L, x + 1, h, h1, h2 => by
    have h0 := h1 0 p (by omega) rfl
    have := rankF_eq key L x (by simpa using h) (fun j q hj e => h1 (j + 1) q (by omega) (by simpa using e)) (fun q e => h2 q (by simpa using e))
    simp [rankF, h0, this]
theorem rankF_le (key : Key) : ∀ L : Pairs, rankF key L ≤ L.length
  | [] => by simp [rankF]
  | p :: L => by
    have := rankF_le key L
    simp only [rankF, List.length_cons]
    split <;> omega
theorem rank_parts (key : Key) : ∀ {L : Pairs}, Srt L → L.take (rankF key L) = L.filter (fun x => klt x.1 key) ∧ L.drop (rankF key L) = L.filter (fun x => !klt x.1 key)
  | [], _ => by simp [rankF]
  | p :: L, h => by
    unfold Srt at h
    rw [List.pairwise_cons] at h
    by_cases c : klt p.1 key = true
    · obtain ⟨e1, e2⟩ := rank_parts key h.2
      simp [rankF, c, e1, e2]
    · have cf : klt p.1 key = false := by simpa using c
      have hl : ∀ y ∈ L, klt y.1 key = false := fun y hy => by
        rcases klt_false.1 cf with e | e
        · rw [← e]; exact klt_ko.asym (h.1 y hy)
        · exact klt_ko.asym (klt_ko.trans _ _ _ e (h.1 y hy))
      simp only [rankF, cf, Bool.false_eq_true, if_false, List.take_zero, List.drop_zero]
      constructor
      · rw [List.filter_cons, cf, filter_none hl]; rfl
      · rw [filter_all (p := fun x => !klt x.1 key) fun y hy => by
          rcases List.mem_cons.1 hy with e | e
          · rw [e, cf]; rfl
          · rw [hl y e]; rfl]
def IntT (r : Int) (w : World) (e : Ending) (w' : World) : Prop := e = .returned (.int .i64 r) ∧ Touch Nil w w'
/-- Keys are not too long to be compared. -/
def Short (L : Pairs) : Prop := ∀ p ∈ L, p.1.length ≤ 1000000 ∧ p.2.length ≤ 1000000
theorem BV.len' {w : World} {x : Value} {l : Key} (h : BV w x l) : ∃ ao cap, x = .slice ao l.length cap := by obtain ⟨ao, cap, e, _⟩ := h; exact ⟨ao, cap, e⟩
set_option maxRecDepth 100000 in
set_option maxHeartbeats 2000000 in
theorem rankR_any {w : World} {x kx : Value} {L : Pairs} {key : Key} (h : PL w x L) (hs : Short L) (hn : L.length ≤ 1000000) (hk : BV w kx key) (hkl : key.length ≤ 1000000) :
    Calls Try.prog 42 #[x, kx] w (IntT ((rankF key L : Nat) : Int) w) := by
  obtain ⟨ao, cap, rfl⟩ := h.form
  have HP := Lib.hid h
  have HS := Lib.hid hs
  have HK := Lib.hid hk
  obtain ⟨qa, qc, rfl⟩ := hk.len'
  have HE : ∃ n, L.length = n := ⟨_, rfl⟩
  obtain ⟨n, en⟩ := HE
  rw [en] at HP hn ⊢
  have HN := Lib.hid en
  have HRF := Lib.hid (rankF_eq key L)
  generalize rankF key L = r at *
  have HKL := Lib.hid hkl
  clear h hs hk en hkl
  go_enter Try.func42, Try.ntmps42
  go_wp2_with fail
  go_loopw [5] (fun i wr => ∃ x : Nat, x ≤ n ∧ i = .int .i64 (x : Int) ∧ Hid (∀ j p, j < x → L[j]? = some p → klt p.1 key = true) ∧ Touch Nil w wr) (fun i _ => n - (intOf i).toNat)
  case atStart => exact ⟨0, Nat.zero_le _, rfl, Lib.hid fun j p hj => by omega, Touch.refl _ _⟩
  obtain ⟨x, hx, rfl, HX, hto⟩ := hrel
  have HT := Lib.hid hto
  clear hto
  by_cases hlt : x < n
  · obtain ⟨p, hp⟩ : ∃ p, L[x]? = some p := ⟨L[x]'(by have := HN.out; omega), List.getElem?_eq_getElem _⟩
    obtain ⟨b, off, rfl, hb, f, hc, hf⟩ := (HP.out.keepN HT.out).at hp
    have c0 := hc 0 (by omega)
    rw [Nat.add_zero] at c0
    have hk0 : BV wr (f 0) p.1 := hf 0 (by omega)
    have HC := Lib.hid (compareV_any hk0 (HK.out.keepN HT.out) (by have := (HS.out _ (List.mem_of_getElem? hp)).1; omega) (by have := HKL.out; omega))
    obtain ⟨fa, fc, ef⟩ := hk0.len'
    rw [ef] at c0 HC
    have HP0 := Lib.hid hp
    have hcm : decide (cmpR p.1 key < 0) = klt p.1 key := by unfold klt; rw [decide_eq_decide]; exact cmpR_neg _ _
    have HCM := Lib.hid hcm
    generalize cmpR p.1 key = z at *
    generalize p.1.length = fl at *
    have i1 : (x : Int) < (n : Int) := by omega
    have i2 : (0 : Int) ≤ (x : Int) := by omega
    clear hc hf hk0 ef hp hcm
    cases hz : decide (z < 0) with
    | true =>
      have HZ := Lib.hid hz
      go_wp2_with fail
      refine HC.out.mono ?_
      rintro e w2 ⟨rfl, m, rfl⟩
      go_wp2_with fail
      go_roundw
      case rel => exact ⟨x + 1, by omega, by go_num, Lib.hid fun j q hj e => by
        by_cases ej : j = x
        · subst ej
          rw [HP0.out] at e
          cases e
          rw [← HCM.out, HZ.out]
        · exact HX.out j q (by omega) e, HT.out.drewN m⟩
      case measure => simp [intOf]; omega
    | false =>
      have HR := Lib.hid (HRF.out x (by have := HN.out; omega) HX.out fun q e => by
        rw [HP0.out] at e
        cases e
        rw [← HCM.out, hz])
      go_wp2_with fail
      refine HC.out.mono ?_
      rintro e w2 ⟨rfl, m, rfl⟩
      go_wp2_with fail
      go_ret
      exact ⟨by rw [HR.out]; rfl, HT.out.drewN m⟩
  · obtain rfl : x = n := by omega
    have HR := Lib.hid (HRF.out x (by have := HN.out; omega) HX.out fun p e => by
      have := (List.getElem?_eq_some_iff.1 e).1
      have := HN.out
      omega)
    have t1 : decide (x < x) = false := by simp
    go_wp2_with fail
    go_ret
    exact ⟨by rw [HR.out]; rfl, HT.out⟩
end Go.Proofs.Ytkkpcndpjkebkaa
