/-
  SlotsCalls: for every number of cells and every slice of numbers the law returns true: where an item begins is asked once of each item, ahead of all comparisons.
  No condition beside the statement's own.
-/
import Derived.Test.YtebkpibaaoblbaaCalls2
import Derived.ChangeOld
import Derived.Below
namespace Go.Proofs.Ytebkpibaaoblbaa
open Go.ChangeShapes Go.WideShapes Go.ChangeAt Go.RowKit Go.Deep

theorem Known.keepN {b7 b6 b3 b5 sb : Nat} {ao : Option Addr} {cap : Nat} {l : List Int} {c : Bool} {f : Nat → Nat} {w w' : World} (h : Known b7 b6 b3 b5 sb ao cap l c f w) (ht : Touch Nil w w') : Known b7 b6 b3 b5 sb ao cap l c f w' := by
  have lt : ∀ {b : Nat} {o : Obj}, w.heap[b]? = some o → b < w.heap.size := fun h => (Array.getElem?_eq_some_iff.1 h).1
  exact ⟨(ht.same _ (lt h.late) fun c => c).trans h.late, (ht.same _ (lt h.comp) fun c => c).trans h.comp, (ht.same _ (lt h.nums) fun c => c).trans h.nums, (ht.same _ (lt h.seen) fun c => c).trans h.seen, ht.row h.row fun c => c, h.data.keepN ht⟩

set_option maxRecDepth 100000 in
set_option maxHeartbeats 4000000 in
theorem lawCalls_any (C : Int) (l : List Int) (ao : Option Addr) (cap : Nat) (w : World) (hm : l.length ≤ 9223372036854775807) (hc : SlI w .i64 ao l) :
    Calls Try.prog 6 #[.int .i64 C, .slice ao l.length cap] w fun e w' => e = .returned (.bool true) ∧ Below w.heap.size w w' := by
  have HSL := Lib.hid hc
  have HE : ∃ n, l.length = n := ⟨_, rfl⟩
  obtain ⟨n, en⟩ := HE
  have HN := Lib.hid en
  rw [en] at hm ⊢
  clear hc en
  by_cases h1 : 200 < n
  · have d1 : decide ((200 : Int) < (n : Int)) = true := by simp; omega
    have d1' : decide (200 < n) = true := by simpa using h1
    go_enter Try.func6, Try.ntmps6
    go_wp2_with fail
    refine (awake_any _).mono ?_
    rintro e w' ⟨rfl, ht⟩
    go_wp2_with fail
    go_ret
    exact ⟨rfl, (((Touch.refl Nil w).alloc _).trans ht).below_nil⟩
  have d1 : decide ((200 : Int) < (n : Int)) = false := by simp; omega
  have d1' : decide (200 < n) = false := by simpa using h1
  by_cases h2 : C < 1
  · have d2 : decide (C < 1) = true := by simpa using h2
    go_enter Try.func6, Try.ntmps6
    go_wp2_with fail
    refine (awake_any _).mono ?_
    rintro e w' ⟨rfl, ht⟩
    go_wp2_with fail
    go_ret
    exact ⟨rfl, (((Touch.refl Nil w).alloc _).trans ht).below_nil⟩
  have d2 : decide (C < 1) = false := by simpa using h2
  by_cases h3 : 2000 < C
  · have d3 : decide (2000 < C) = true := by simpa using h3
    go_enter Try.func6, Try.ntmps6
    go_wp2_with fail
    refine (awake_any _).mono ?_
    rintro e w' ⟨rfl, ht⟩
    go_wp2_with fail
    go_ret
    exact ⟨rfl, (((Touch.refl Nil w).alloc _).trans ht).below_nil⟩
  have d3 : decide (2000 < C) = false := by simpa using h3
  by_cases h4 : C < (n : Int)
  · have d4 : decide (C < (n : Int)) = true := by simpa using h4
    go_enter Try.func6, Try.ntmps6
    go_wp2_with fail
    refine (awake_any _).mono ?_
    rintro e w' ⟨rfl, ht⟩
    go_wp2_with fail
    go_ret
    exact ⟨rfl, (((Touch.refl Nil w).alloc _).trans ht).below_nil⟩
  obtain ⟨K, rfl⟩ : ∃ K : Nat, C = (K : Int) := ⟨C.toNat, by omega⟩
  have d4 : decide ((K : Int) < (n : Int)) = false := by simp; omega
  have d4' : decide (K < n) = false := by simp; omega
  have hmk := run_make_row' (P := Try.prog) 27 3 (.int .i64 0) 8 Try.underlying27 infoInt rfl .i64 .i64 n (by omega) (by omega)
  go_enter Try.func6, Try.ntmps6
  go_wp2_with fail
  have hlow : 0 < l.length → ∀ a, ao = some a → a.block < w.heap.size := fun h0 a e => by
    subst e
    obtain ⟨b, off, e, hc⟩ := HSL.out 0 h0
    cases e
    exact World.block_lt_of_cell? w _ hc
  have HG : ∃ W, ((((w.alloc (Obj.cells #[Value.slice ao n cap] 27)).alloc (Obj.cells (madeCells #[Value.int IntKind.i64 0] n) 3)).alloc (Obj.cells #[Value.slice (some ⟨w.heap.size + 1, 0, none⟩) n n] 27)).alloc (Obj.cells #[Value.bool false] 4)).alloc (Obj.cells #[Value.bool false] 4) = W := ⟨_, rfl⟩
  obtain ⟨W, eW⟩ := HG
  have hT : Touch Nil w W := by rw [← eW]; exact (((((Touch.refl Nil w).alloc _).alloc _).alloc _).alloc _).alloc _
  have hsz : W.heap.size = w.heap.size + 1 + 1 + 1 + 1 + 1 := by rw [← eW]; simp
  have HK := Lib.hid (show Known (w.heap.size + 1 + 1 + 1 + 1) (w.heap.size + 1 + 1 + 1) w.heap.size (w.heap.size + 1 + 1) (w.heap.size + 1) ao cap l false (fun j => cnt l 0 (l.getD j 0)) W from by
    refine ⟨?_, ?_, ?_, ?_, ?_, HSL.out.keepN hT⟩
    · rw [← eW]
      have := heap_alloc_new ((((w.alloc (Obj.cells #[Value.slice ao n cap] 27)).alloc (Obj.cells (madeCells #[Value.int IntKind.i64 0] n) 3)).alloc (Obj.cells #[Value.slice (some ⟨w.heap.size + 1, 0, none⟩) n n] 27)).alloc (Obj.cells #[Value.bool false] 4)) (Obj.cells #[Value.bool false] 4)
      simpa using this
    · rw [← eW, blk_alloc_lt _ _ _ (by simp)]
      have := heap_alloc_new (((w.alloc (Obj.cells #[Value.slice ao n cap] 27)).alloc (Obj.cells (madeCells #[Value.int IntKind.i64 0] n) 3)).alloc (Obj.cells #[Value.slice (some ⟨w.heap.size + 1, 0, none⟩) n n] 27)) (Obj.cells #[Value.bool false] 4)
      simpa using this
    · rw [← eW, blk_alloc_lt _ _ _ (by simp; omega), blk_alloc_lt _ _ _ (by simp; omega), blk_alloc_lt _ _ _ (by simp; omega), blk_alloc_lt _ _ _ (by simp)]
      have := heap_alloc_new w (Obj.cells #[Value.slice ao n cap] 27)
      rw [HN.out]; exact this
    · rw [← eW, blk_alloc_lt _ _ _ (by simp), blk_alloc_lt _ _ _ (by simp)]
      have := heap_alloc_new ((w.alloc (Obj.cells #[Value.slice ao n cap] 27)).alloc (Obj.cells (madeCells #[Value.int IntKind.i64 0] n) 3)) (Obj.cells #[Value.slice (some ⟨w.heap.size + 1, 0, none⟩) n n] 27)
      rw [HN.out]; simpa using this
    · have hr := World.rowIs_made (w.alloc (Obj.cells #[Value.slice ao n cap] 27)) (.int .i64 0) n 3
      rw [nblk_alloc] at hr
      rw [HN.out, ← eW]
      exact (((hr.alloc _).alloc _).alloc _).congr fun i _ => by simp [cnt])
  have HA := Lib.hid (show Apart (w.heap.size + 1 + 1 + 1 + 1) (w.heap.size + 1 + 1 + 1) w.heap.size (w.heap.size + 1 + 1) (w.heap.size + 1) ao l.length from
    ⟨by omega, by omega, by omega, by omega, by omega, by omega, by omega, by omega, by omega, fun h0 a e => by have := hlow h0 a e; omega⟩)
  have HSTA := Lib.hid (by
    have := calls_sta (B := w.heap.size + 1 + 1 + 1 + 1 + 1) (cap := cap) HA.out (by rw [HN.out]; omega) (by omega) (by omega) (by omega) (by omega) (by omega) (fun h0 a e => by have := hlow h0 a e; omega)
    rw [HN.out] at this; exact this)
  have HBEF := Lib.hid (by
    have := calls_bef (B := w.heap.size + 1 + 1 + 1 + 1 + 1) (cap := cap) HA.out (by omega) (by omega) (by omega) (by omega) (by omega) (fun h0 a e => by have := hlow h0 a e; omega)
    rw [HN.out] at this; exact this)
  have HAO := Lib.hid (show 0 < n → ∀ b o, ao = some ⟨b, o, none⟩ → b < w.heap.size + 1 + 1 + 1 + 1 + 1 ∧ ¬ CS (w.heap.size + 1 + 1 + 1 + 1) (w.heap.size + 1 + 1 + 1) (w.heap.size + 1) b from fun h0 b o e => by
    have := hlow (by rw [HN.out]; exact h0) _ e
    have hb : b < w.heap.size := this
    exact ⟨by omega, fun c => by rcases c with c | c | c <;> omega⟩)
  have HIT := Lib.hid (show Items W ao n 1 (numV l) from fun h0 => by
    have hsl : SlI W .i64 ao l := HSL.out.keepN hT
    obtain ⟨b, off, e, hc⟩ := hsl 0 (by rw [HN.out]; exact h0)
    refine ⟨b, off, e, World.block_lt_of_cell? W _ hc, fun i hi c hc' => ?_⟩
    obtain ⟨b', off', e', hc2⟩ := hsl i (by rw [HN.out]; exact hi)
    rw [e] at e'
    cases e'
    rw [show off + i * 1 + c = off + i by omega]
    exact hc2)
  have HSW := Lib.hid (show SWO (fun i j => decide (l.getD i 0 < l.getD j 0)) n from
    ⟨fun x y _ _ h => by simp at h ⊢; omega, fun x y z _ _ _ h k => by simp at h k ⊢; omega, fun x y z _ _ _ h k => by simp at h k ⊢; omega⟩)
  have HT := Lib.hid hT
  rw [eW]
  clear hT hlow eW hmk
  refine (layoutN _ _ _ _ (w.heap.size + 1 + 1 + 1 + 1 + 1) K ao n cap (numV l) (fun i => l.getD i 0) (fun i j => decide (l.getD i 0 < l.getD j 0)) _ _ HSTA.out HBEF.out HSW.out HAO.out (by omega) (by omega) (by omega) (fun _ _ => rfl) W (by omega)
    ⟨false, fun _ => rfl, HK.out⟩ HIT.out).mono ?_
  rintro e W1 ⟨b0, ord, rfl, hb0, _, _, _, ⟨c, _, hk1⟩, hT1⟩
  have HK1 := Lib.hid hk1
  have HT1 := Lib.hid (show Touch Nil w W1 from HT.out.trans' hT1 fun b hb c => by rcases c with c | c | c <;> omega)
  clear hk1 hT1 HSTA HBEF HAO HIT HSW HK HT hsz hb0
  have HE : ∃ b, w.heap.size + 1 = b := ⟨_, rfl⟩
  obtain ⟨sb, esb⟩ := HE
  rw [esb] at HK1 HA ⊢
  have HE : ∃ b, sb + 1 = b := ⟨_, rfl⟩
  obtain ⟨b5, eb5⟩ := HE
  rw [eb5] at HK1 HA ⊢
  have HE : ∃ b, b5 + 1 = b := ⟨_, rfl⟩
  obtain ⟨b6, eb6⟩ := HE
  rw [eb6] at HK1 HA ⊢
  have HE : ∃ b, b6 + 1 = b := ⟨_, rfl⟩
  obtain ⟨b7, eb7⟩ := HE
  rw [eb7] at HK1 HA ⊢
  have HE : ∃ b, w.heap.size = b := ⟨_, rfl⟩
  obtain ⟨b3, eb3⟩ := HE
  rw [eb3] at HK1 HA ⊢
  have HB3 := Lib.hid eb3
  clear esb eb5 eb6 eb7 eb3
  have hK : ((K : Int) == (K : Int)) = true := by simp
  go_wp2_with fail
  go_loopw [9] (fun i wr => ∃ x : Nat, x ≤ n ∧ i = .int .i64 (x : Int) ∧ Known b7 b6 b3 b5 sb ao cap l c (fun j => cnt l n (l.getD j 0)) wr ∧ Touch Nil w wr) (fun i _ => n - (intOf i).toNat)
  case atStart => exact ⟨0, Nat.zero_le _, rfl, HK1.out, HT1.out⟩
  obtain ⟨x, hx, rfl, hkn, hto⟩ := hrel
  have HK := Lib.hid hkn
  have HT := Lib.hid hto
  clear hkn hto
  have c3 : wr.cell? ⟨b3, 0, none⟩ = some (.slice ao n cap) := by simp [World.cell?, HK.out.nums, HN.out]
  by_cases hlt : x < n
  · have i1 : (x : Int) < (n : Int) := by omega
    have i2 : (0 : Int) ≤ (x : Int) := by omega
    go_wp2_with fail
    clear c3
    obtain ⟨wo, rfl⟩ : ∃ wo : World, wo = wr := ⟨_, rfl⟩
    go_loopw [10, 11] (fun m k wi => ∃ y : Nat, y ≤ n ∧ k = .int .i64 (y : Int) ∧ m = .int .i64 ((cnt l y (l.getD x 0) : Nat) : Int) ∧ Known b7 b6 b3 b5 sb ao cap l c (fun j => cnt l n (l.getD j 0)) wi ∧ Touch Nil wo wi) (fun _ k _ => n - (intOf k).toNat)
    case atStart => exact ⟨0, Nat.zero_le _, rfl, by simp [cnt], HK.out, Touch.refl _ _⟩
    obtain ⟨y, hy, rfl, rfl, hkn, hto⟩ := hrel
    obtain ⟨wi, rfl⟩ : ∃ wi : World, wi = wr := ⟨_, rfl⟩
    have HKI := Lib.hid hkn
    have HTI := Lib.hid hto
    clear hkn hto
    have c3 : wi.cell? ⟨b3, 0, none⟩ = some (.slice ao n cap) := by simp [World.cell?, HKI.out.nums, HN.out]
    by_cases hly : y < n
    · obtain ⟨ab, aoff, hao, hcy⟩ := HKI.out.data y (by rw [HN.out]; exact hly)
      subst hao
      obtain ⟨ab', aoff', hao, hcx⟩ := HKI.out.data x (by rw [HN.out]; exact hlt)
      cases hao
      have hcs := cnt_succ (l := l) (k := y) (l.getD x 0) (by rw [HN.out]; exact hly)
      have hle := cnt_le l y (l.getD x 0)
      have HE : ∃ v, l.getD y 0 = v := ⟨_, rfl⟩
      obtain ⟨vy, ey⟩ := HE
      rw [ey] at hcy hcs
      have HE : ∃ v, l.getD x 0 = v := ⟨_, rfl⟩
      obtain ⟨vx, ex⟩ := HE
      rw [ex] at hcx hcs hle ⊢
      have HEX := Lib.hid ex
      have HCS := Lib.hid hcs
      have j1 : (y : Int) < (n : Int) := by omega
      have j2 : (0 : Int) ≤ (y : Int) := by omega
      have HE : ∃ v, cnt l y vx = v := ⟨_, rfl⟩
      obtain ⟨m, em⟩ := HE
      rw [em] at HCS hle ⊢
      clear hcs ex ey em
      by_cases hvv : vy = vx
      · have hb : ((vy : Int) == vx) = true := by simp [hvv]
        rw [if_pos hvv] at HCS
        clear hvv
        go_wp2_with (go_quiet (fail))
        go_roundw
        case rel => exact ⟨y + 1, by omega, by go_num, by rw [HCS.out]; rfl, HKI.out.keepN ((Touch.refl Nil wi).drewN _), HTI.out.drewN _⟩
        case measure => simp [intOf]; omega
      · have hb : ((vy : Int) == vx) = false := by simp [hvv]
        rw [if_neg hvv] at HCS
        clear hvv
        go_wp2_with (go_quiet (fail))
        go_roundw
        case rel => exact ⟨y + 1, by omega, by go_num, by rw [HCS.out]; rfl, HKI.out.keepN ((Touch.refl Nil wi).drewN _), HTI.out.drewN _⟩
        case measure => simp [intOf]; omega
    · obtain rfl : y = n := by omega
      have c5 : wi.cell? ⟨b5, 0, none⟩ = some (.slice (some ⟨sb, 0, none⟩) y y) := by simp [World.cell?, HKI.out.seen, HN.out]
      have cs := HKI.out.row.cell (i := x) (by rw [HN.out]; exact hlt)
      have hle := cnt_le l y (l.getD x 0)
      have HE : ∃ v, cnt l y (l.getD x 0) = v := ⟨_, rfl⟩
      obtain ⟨m, em⟩ := HE
      rw [em] at cs hle ⊢
      have HEM := Lib.hid em
      clear em
      have hb : ((m : Int) != (m : Int)) = false := by simp
      go_wp2_with fail
      go_roundw
      case rel => exact ⟨x + 1, by omega, by go_num, HKI.out, HT.out.trans HTI.out⟩
      case measure => simp [intOf]; omega
  · obtain rfl : x = n := by omega
    have c7 : wr.cell? ⟨b7, 0, none⟩ = some (.bool false) := by simp [World.cell?, HK.out.late]
    go_wp2_with fail
    refine (awake_any _).mono ?_
    rintro e w' ⟨rfl, ht⟩
    go_wp2_with fail
    go_ret
    exact ⟨rfl, (HT.out.trans ht).below_nil⟩

set_option maxRecDepth 100000 in
theorem slotsCalls_lifted (os : Os) (started : os.Started) (H : Type) (enc : TypeId × Value → H) :
    ReturnsInHanded {} Try.checked os 6 .any (Rows.slotsCallsSpec.pre6 enc Try.prog Try.f6 Rows.slotsCallsRow.domain false) (Rows.slotsCallsSpec.post enc Try.prog Try.f6 false true false false) := by
  refine returnsInHanded_of_change (C := Try.checked) own started (by kernel_rfl) Try.func6
    (ChangeSpec.witness6 (enc := enc) (C := Try.checked) false ⟨#[], #[.int .i64 0, .slice none 0 0], []⟩ 8 (by kernel_rfl) (by kernel_rfl) (by kernel_rfl) (by kernel_rfl)) ?_
  intro W base args ds gs before hval0 hW _ _
  have hval : ∀ (j : Nat) t v, Try.f6.params[j]? = some t → args[j]? = some v → Value.okWide Try.prog W .any base t v := hval0
  have hW' := hW
  obtain ⟨p, q, hA0, hV, rfl, hfz, hnd⟩ := hW
  have hA : DataW.TrodAll enc Try.prog W 0 (fun _ => true) true Try.f6.params.toList args.toList ds p := hA0
  rw [Try.params6] at hA hval
  obtain ⟨v0, vs0, d0, ds0, p0, q0, hargs, rfl, rfl, h0, r0⟩ := trodAll_cons hA
  obtain ⟨v1, vs1, d1, ds1, p1, q1, rfl, rfl, rfl, h1, r1⟩ := trodAll_cons r0
  obtain ⟨rfl, rfl, rfl⟩ := trodAll_nil r1
  obtain rfl : args = #[v0, v1] := by cases args; simp_all
  obtain ⟨rfl, rfl⟩ := trodVars_none hV
  obtain ⟨cells, rfl, rfl, rfl, w0⟩ := open_int Try.underlying3 (hval 0 3 v0 rfl rfl) h0
  obtain ⟨ao, len, cap, rfl⟩ := okWide_slice Try.underlying27 (hval 1 27 v1 rfl rfl)
  have k1 := h1
  have lt1 : ∀ x ∈ p1, x.block < W.heap.size := by obtain ⟨m, hm⟩ := k1; exact DataW.trod_lt m _ _ _ hm
  obtain ⟨fuel, hf⟩ := h1
  obtain ⟨l, rfl, hm, hsl, _⟩ := open_slI Try.underlying27 Try.underlying3 (by kernel_rfl) hf
  clear hA0 hval0
  refine (lawCalls_any cells l ao cap W (by unfold maxLen at hm; omega) hsl).mono fun e W' ⟨he, bel⟩ => ?_
  subst he
  exact ⟨_, rfl, _, _, _, [], _, [], hW', trodAll_mk1 (shut_bool Try.underlying4 _), (trodAll_cons_mk (shut_int Try.underlying3 w0) (trodAll_cons_mk (Below.trod laidOut (by kernel_rfl) (of_decide_eq_true (by kernel_rfl)) k1 bel lt1) trodAll_mk0)), rfl, bel.frame _, fun h => by cases h⟩

theorem slotsCalls_holds : Rows.SlotsCallsSaid :=
  OpenClaim.holds_of_wide 6 Try.f6 rfl rfl rfl rfl rfl rfl rfl ⟨rfl, rfl, rfl, rfl, rfl⟩ rfl rfl rfl rfl rfl (by kernel_rfl) Try.func6 (by kernel_rfl)
    (of_decide_eq_true (by kernel_rfl)) (by unfold Func.isWrapper; first | (rw [if_pos (by decide +kernel)]; kernel_rfl) | (rw [if_neg (by decide +kernel)]; exact ⟨rfl, rfl⟩))
    (fun os started H enc _ => slotsCalls_lifted os started H enc)
end Go.Proofs.Ytebkpibaaoblbaa
