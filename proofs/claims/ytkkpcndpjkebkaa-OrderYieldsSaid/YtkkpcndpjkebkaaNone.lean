import Derived.Test.YtkkpcndpjkebkaaImgP
import Derived.Test.YtkkpcndpjkebkaaProve
import Derived.Test.YtkkpcndpjkebkaaMapW
import Derived.BigQuiet
import Derived.Laws.ResultCell
import Derived.Laws.Rows
/- A map that is none: what it answers. -/
namespace Go.Proofs.Ytkkpcndpjkebkaa
open Go.ChangeShapes Go.WideShapes Go.ChangeAt Go.RowKit Go.Deep

theorem NoMap.form {w : World} {m : Value} (h : NoMap w m) : ∃ a, m = .pointer a := by rcases h with e | ⟨_, e, _⟩ <;> exact ⟨_, e⟩
theorem NoMap.keepN {w w' : World} {m : Value} (h : NoMap w m) (ht : Touch Nil w w') : NoMap w' m := by
  rcases h with e | ⟨mb, e, hm⟩
  · exact .inl e
  · exact .inr ⟨mb, e, (ht.same mb (lt_of_heap hm) fun c => c).trans hm⟩
theorem NoMap.nil (w : World) : NoMap w (.pointer none) := .inl rfl
theorem nil_tree (w : World) : TreeAt 0 (fun _ => False) w .nil (.pointer none) := rfl
set_option maxHeartbeats 1000000 in
theorem len_none {w : World} {m : Value} (h : NoMap w m) : Calls Try.prog 33 #[m] w fun e w' => e = .returned (.int .i64 0) ∧ w = w' := by
  have HM := Lib.hid (root_none h)
  obtain ⟨ma, rfl⟩ := h.form
  clear h
  go_enter Try.func33, Try.ntmps33
  go_wp2_with fail
  refine HM.out.mono ?_
  rintro e w' ⟨rfl, rfl⟩
  go_wp2_with fail
  refine (sizeOf_any (nil_tree _)).mono ?_
  rintro e w' ⟨rfl, rfl⟩
  go_wp2_with fail
  go_ret
  exact ⟨rfl, rfl⟩
set_option maxHeartbeats 1000000 in
theorem digest_none {w : World} {m : Value} (h : NoMap w m) : Calls Try.prog 28 #[m] w fun e w' => e = .returned (.int .u64 0) ∧ w = w' := by
  have HM := Lib.hid (root_none h)
  obtain ⟨ma, rfl⟩ := h.form
  clear h
  go_enter Try.func28, Try.ntmps28
  go_wp2_with fail
  refine HM.out.mono ?_
  rintro e w' ⟨rfl, rfl⟩
  go_wp2_with fail
  refine (digestOf_any (nil_tree _)).mono ?_
  rintro e w' ⟨rfl, rfl⟩
  go_wp2_with fail
  go_ret
  exact ⟨rfl, rfl⟩
set_option maxHeartbeats 1000000 in
theorem image_none {w : World} {m : Value} (h : NoMap w m) : Calls Try.prog 27 #[m] w fun e w' => e = .returned (.slice none 0 0) ∧ w = w' := by
  have HM := Lib.hid (missing_none h)
  obtain ⟨ma, rfl⟩ := h.form
  clear h
  go_enter Try.func27, Try.ntmps27
  go_wp2_with fail
  refine HM.out.mono ?_
  rintro e w' ⟨rfl, rfl⟩
  go_wp2_with fail
  go_ret
  exact ⟨rfl, rfl⟩
set_option maxHeartbeats 1000000 in
theorem put_none {w : World} {m : Value} (h : NoMap w m) (ka ua : Option Addr) (kl kc ul uc : Nat) : Calls Try.prog 49 #[m, .slice ka kl kc, .slice ua ul uc] w fun e w' => e = .returned (.int .i64 1) ∧ w = w' := by
  have HM := Lib.hid (missing_none h)
  obtain ⟨ma, rfl⟩ := h.form
  clear h
  go_enter Try.func49, Try.ntmps49
  go_wp2_with fail
  refine HM.out.mono ?_
  rintro e w' ⟨rfl, rfl⟩
  go_wp2_with fail
  go_ret
  exact ⟨rfl, rfl⟩
set_option maxHeartbeats 1000000 in
theorem drop_none {w : World} {m : Value} (h : NoMap w m) (ka : Option Addr) (kl kc : Nat) : Calls Try.prog 25 #[m, .slice ka kl kc] w fun e w' => e = .returned (.int .i64 1) ∧ w = w' := by
  have HM := Lib.hid (missing_none h)
  obtain ⟨ma, rfl⟩ := h.form
  clear h
  go_enter Try.func25, Try.ntmps25
  go_wp2_with fail
  refine HM.out.mono ?_
  rintro e w' ⟨rfl, rfl⟩
  go_wp2_with fail
  go_ret
  exact ⟨rfl, rfl⟩
set_option maxHeartbeats 1000000 in
theorem cut_none {w : World} {m : Value} (h : NoMap w m) (ka : Option Addr) (kl kc : Nat) : Calls Try.prog 43 #[m, .slice ka kl kc] w fun e w' => e = .returned (.tuple #[.pointer none, .pointer none]) ∧ w = w' := by
  have HM := Lib.hid (missing_none h)
  obtain ⟨ma, rfl⟩ := h.form
  clear h
  go_enter Try.func43, Try.ntmps43
  go_wp2_with fail
  refine HM.out.mono ?_
  rintro e w' ⟨rfl, rfl⟩
  go_wp2_with fail
  ((try simp only [Exit.inBlock, Exit.then]); refine bodyPost_ret (results_tmp2 rfl _ _ _) rfl ?_)
  exact ⟨rfl, rfl⟩
set_option maxHeartbeats 1000000 in
theorem part_none {w : World} {m : Value} (h : NoMap w m) (ka ua : Option Addr) (kl kc ul uc : Nat) (bo : Bool) : Calls Try.prog 83 #[m, .slice ka kl kc, .slice ua ul uc, .bool bo] w fun e w' => e = .returned (.pointer none) ∧ w = w' := by
  have HM := Lib.hid (missing_none h)
  obtain ⟨ma, rfl⟩ := h.form
  clear h
  go_enter Try.func83, Try.ntmps83
  go_wp2_with fail
  refine HM.out.mono ?_
  rintro e w' ⟨rfl, rfl⟩
  go_wp2_with fail
  go_ret
  exact ⟨rfl, rfl⟩
set_option maxHeartbeats 1000000 in
theorem spanDigest_none {w : World} {m : Value} (h : NoMap w m) (ka ua : Option Addr) (kl kc ul uc : Nat) (bo : Bool) : Calls Try.prog 32 #[m, .slice ka kl kc, .slice ua ul uc, .bool bo] w fun e w' => e = .returned (.tuple #[.int .i64 0, .int .u64 0]) ∧ w = w' := by
  have HM := Lib.hid (part_none h ka ua kl kc ul uc bo)
  obtain ⟨ma, rfl⟩ := h.form
  clear h
  go_enter Try.func32, Try.ntmps32
  go_wp2_with fail
  refine HM.out.mono ?_
  rintro e w' ⟨rfl, rfl⟩
  go_wp2_with fail
  refine (len_none (NoMap.nil _)).mono ?_
  rintro e w' ⟨rfl, rfl⟩
  go_wp2_with fail
  refine (digest_none (NoMap.nil _)).mono ?_
  rintro e w' ⟨rfl, rfl⟩
  go_wp2_with fail
  ((try simp only [Exit.inBlock, Exit.then]); refine bodyPost_ret (results_tmp2 rfl _ _ _) rfl ?_)
  exact ⟨rfl, rfl⟩
theorem find_nil {w : World} {kx : Value} {key : Key} (hk : BV w kx key) : Calls Try.prog 73 #[.pointer none, kx] w fun e w' => e = .returned (.pointer none) ∧ w = w' :=
  (find_any (nil_tree w) List.Pairwise.nil hk).mono fun e w' ⟨v, he, hf, hw⟩ => by
    rcases hf with ⟨hv, _⟩ | ⟨_, _, _, _, _, _, _, _, _, hm⟩
    · exact ⟨by rw [he, hv], hw⟩
    · simp [Tree.toL] at hm
set_option maxHeartbeats 1000000 in
theorem get_none {w : World} {m : Value} (h : NoMap w m) {ka : Option Addr} {kl kc : Nat} {key : Key} (hk : BV w (.slice ka kl kc) key) : Calls Try.prog 52 #[m, .slice ka kl kc] w fun e w' => e = .returned (.tuple #[.slice none 0 0, .int .i64 3]) ∧ w = w' := by
  have HM := Lib.hid (root_none h)
  have HK := Lib.hid hk
  clear hk
  obtain ⟨ma, rfl⟩ := h.form
  clear h
  go_enter Try.func52, Try.ntmps52
  go_wp2_with fail
  refine HM.out.mono ?_
  rintro e w' ⟨rfl, rfl⟩
  go_wp2_with fail
  refine (find_nil HK.out).mono ?_
  rintro e w' ⟨rfl, rfl⟩
  go_wp2_with fail
  ((try simp only [Exit.inBlock, Exit.then]); refine bodyPost_ret (results_tmp2 rfl _ _ _) rfl ?_)
  exact ⟨rfl, rfl⟩
theorem at_nil (w : World) (n : Int) : Calls Try.prog 99 #[.pointer none, .int .i64 n] w fun e w' => e = .returned (.pointer none) ∧ w = w' := by
  go_enter Try.func99, Try.ntmps99
  go_wp2_with fail
  go_loopg [0, 1] 0 (fun j v i wr => v = .pointer none ∧ i = .int .i64 n ∧ w = wr)
  case atStart => exact ⟨rfl, rfl, rfl⟩
  obtain ⟨rfl, rfl, rfl⟩ := hrel
  go_wp2_with fail
  go_ret
  exact ⟨rfl, rfl⟩
theorem rank_nil (w : World) (ka : Option Addr) (kl kc : Nat) : Calls Try.prog 100 #[.pointer none, .slice ka kl kc] w fun e w' => e = .returned (.int .i64 0) ∧ w = w' := by
  go_enter Try.func100, Try.ntmps100
  go_wp2_with fail
  go_loopg [0, 5] 0 (fun j v i wr => v = .pointer none ∧ i = .int .i64 0 ∧ w = wr)
  case atStart => exact ⟨rfl, rfl, rfl⟩
  obtain ⟨rfl, rfl, rfl⟩ := hrel
  go_wp2_with fail
  go_ret
  exact ⟨rfl, rfl⟩
set_option maxHeartbeats 1000000 in
theorem rank_none {w : World} {m : Value} (h : NoMap w m) (ka : Option Addr) (kl kc : Nat) : Calls Try.prog 54 #[m, .slice ka kl kc] w fun e w' => e = .returned (.int .i64 0) ∧ w = w' := by
  have HM := Lib.hid (root_none h)
  obtain ⟨ma, rfl⟩ := h.form
  clear h
  go_enter Try.func54, Try.ntmps54
  go_wp2_with fail
  refine HM.out.mono ?_
  rintro e w' ⟨rfl, rfl⟩
  go_wp2_with fail
  refine (rank_nil _ _ _ _).mono ?_
  rintro e w' ⟨rfl, rfl⟩
  go_wp2_with fail
  go_ret
  exact ⟨rfl, rfl⟩
set_option maxHeartbeats 1000000 in
theorem at_none {w : World} {m : Value} (h : NoMap w m) (n : Int) : Calls Try.prog 53 #[m, .int .i64 n] w fun e w' => e = .returned (.tuple #[.agg #[.slice none 0 0, .slice none 0 0], .int .i64 3]) ∧ Touch Nil w w' := by
  have HM := Lib.hid (root_none (h.keepN ((Touch.refl Nil w).alloc (.cells #[.slice none 0 0, .slice none 0 0] 45))))
  obtain ⟨ma, rfl⟩ := h.form
  clear h
  go_enter Try.func53, Try.ntmps53
  go_wp2_with fail
  refine HM.out.mono ?_
  rintro e w' ⟨rfl, rfl⟩
  go_wp2_with fail
  refine (at_nil _ _).mono ?_
  rintro e w' ⟨rfl, rfl⟩
  go_wp2_with fail
  ((try simp only [Exit.inBlock, Exit.then]); refine bodyPost_ret (v := .tuple #[.agg #[.slice none 0 0, .slice none 0 0], .int .i64 3]) ?_ rfl ⟨rfl, (Touch.refl Nil w).alloc _⟩)
  rw [results_cell_tmp rfl]
  have hl := run_loadVar_row (P := Try.prog) (w.alloc (.cells #[.slice none 0 0, .slice none 0 0] 45)) w.heap.size 45 45 #[.slice none 0 0, .slice none 0 0] (0, 0) _ (heap_alloc_new _ _) Try.underlying45 (by kernel_rfl) (by kernel_rfl)
  simp only [Array.getD]
  simp [asAddr, Result.andThen, hl]
theorem gatherN_nil (w : World) : Calls Try.prog 66 #[.pointer none, .slice none 0 0, .func (.func 68) #[] #[]] w fun e w' => e = .returned (.slice none 0 0) ∧ w = w' := by
  go_enter Try.func66, Try.ntmps66
  go_wp2_with fail
  go_loopg [0, 1] 0 (fun j n g wr => n = .pointer none ∧ g = .slice none 0 0 ∧ w = wr)
  case atStart => exact ⟨rfl, rfl, rfl⟩
  obtain ⟨rfl, rfl, rfl⟩ := hrel
  go_wp2_with fail
  go_ret
  exact ⟨rfl, rfl⟩
set_option maxHeartbeats 1000000 in
theorem nodes_none {w : World} {m : Value} (h : NoMap w m) : Calls Try.prog 20 #[m] w fun e w' => e = .returned (.slice none 0 0) ∧ w = w' := by
  have HM := Lib.hid (root_none h)
  obtain ⟨ma, rfl⟩ := h.form
  clear h
  go_enter Try.func20, Try.ntmps20
  go_wp2_with fail
  refine HM.out.mono ?_
  rintro e w' ⟨rfl, rfl⟩
  go_wp2_with fail
  refine (gatherN_nil _).mono ?_
  rintro e w' ⟨rfl, rfl⟩
  go_wp2_with fail
  go_ret
  exact ⟨rfl, rfl⟩
set_option maxHeartbeats 1000000 in
theorem prove_none {w : World} {m : Value} (h : NoMap w m) (ka : Option Addr) (kl kc : Nat) : Calls Try.prog 36 #[m, .slice ka kl kc] w fun e w' => e = .returned (.slice none 0 0) ∧ w = w' := by
  have HM := Lib.hid (root_none h)
  obtain ⟨ma, rfl⟩ := h.form
  clear h
  go_enter Try.func36, Try.ntmps36
  go_wp2_with fail
  refine HM.out.mono ?_
  rintro e w' ⟨rfl, rfl⟩
  go_wp2_with fail
  go_loopg [5, 6] 0 (fun j x n wr => x = .slice none 0 0 ∧ n = .pointer none ∧ w = wr)
  case atStart => exact ⟨rfl, rfl, rfl⟩
  obtain ⟨rfl, rfl, rfl⟩ := hrel
  go_wp2_with fail
  go_ret
  exact ⟨rfl, rfl⟩
theorem kin_l {w : World} {m : Value} (h : NoMap w m) (bo : Option Addr) : Calls Try.prog 45 #[m, .pointer bo] w fun e w' => e = .returned (.bool false) ∧ ∃ k, w' = w.drewN k := by
  have HM := Lib.hid (fun w' (ht : Touch Nil w w') => missing_none (h.keepN ht))
  obtain ⟨ma, rfl⟩ := h.form
  clear h
  go_enter Try.func45, Try.ntmps45
  go_wp2_with fail
  go_quiet (first | (go_at_call_of 72 (Value.pointer ma); refine Calls.quiet_of_same (v := .bool true) ?_; exact (HM.out _ ((Touch.refl Nil w).drewN _)).mono fun _ _ h => ⟨h.1, h.2.symm⟩))
  go_wp2_with fail
  go_ret
  exact ⟨rfl, _, rfl⟩
theorem kin_r {seed : Int} {R : Nat → Prop} {w : World} {mb bb : Nat} {ra : Option Addr} {t : Tree} {m : Value} (h : NoMap w m) (ha : MapAt seed R w mb bb ra t) : Calls Try.prog 45 #[.pointer (some ⟨mb, 0, none⟩), m] w fun e w' => e = .returned (.bool false) ∧ ∃ k, w' = w.drewN k := by
  have HM := Lib.hid (fun w' (ht : Touch Nil w w') => missing_none (h.keepN ht))
  have HA := Lib.hid (fun w' (ht : Touch Nil w w') => missing_map (ha.keepN ht))
  obtain ⟨ma, rfl⟩ := h.form
  clear h ha
  go_enter Try.func45, Try.ntmps45
  go_wp2_with fail
  go_quiet (first | (go_at_call_of 72 (Value.pointer (some ⟨mb, 0, none⟩)); refine Calls.quiet_of_same (v := .bool false) ?_; exact (HA.out _ ((Touch.refl Nil w).drewN _)).mono fun _ _ h => ⟨h.1, h.2.symm⟩) | (go_at_call_of 72 (Value.pointer ma); refine Calls.quiet_of_same (v := .bool true) ?_; exact (HM.out _ ((Touch.refl Nil w).drewN _)).mono fun _ _ h => ⟨h.1, h.2.symm⟩))
  go_wp2_with fail
  go_ret
  exact ⟨rfl, _, rfl⟩
theorem kin_maps {seed : Int} {R : Nat → Prop} {w : World} {mb bb : Nat} {ra : Option Addr} {t : Tree} {seed' : Int} {R' : Nat → Prop} {mb' bb' : Nat} {ra' : Option Addr} {t' : Tree} (ha : MapAt seed R w mb bb ra t) (hb : MapAt seed' R' w mb' bb' ra' t') : Calls Try.prog 45 #[.pointer (some ⟨mb, 0, none⟩), .pointer (some ⟨mb', 0, none⟩)] w fun e w' => e = .returned (.bool (seed == seed')) ∧ ∃ k, w' = w.drewN k := by
  have HA := Lib.hid (fun w' (ht : Touch Nil w w') => missing_map (ha.keepN ht))
  have HB := Lib.hid (fun w' (ht : Touch Nil w w') => missing_map (hb.keepN ht))
  have x0 := cells1 ha.top
  have y0 := (cells2 ha.body).1
  have x1 := cells1 hb.top
  have y1 := (cells2 hb.body).1
  clear ha hb
  go_enter Try.func45, Try.ntmps45
  go_wp2_with fail
  go_quiet (first | (go_at_call_of 72 (Value.pointer (some ⟨mb, 0, none⟩)); refine Calls.quiet_of_same (v := .bool false) ?_; exact (HA.out _ ((Touch.refl Nil w).drewN _)).mono fun _ _ h => ⟨h.1, h.2.symm⟩) | (go_at_call_of 72 (Value.pointer (some ⟨mb', 0, none⟩)); refine Calls.quiet_of_same (v := .bool false) ?_; exact (HB.out _ ((Touch.refl Nil w).drewN _)).mono fun _ _ h => ⟨h.1, h.2.symm⟩))
  go_wp2_with fail
  go_ret
  exact ⟨rfl, _, rfl⟩
theorem join_unkin {w : World} {ao bo : Option Addr} (h : ∀ n, Calls Try.prog 45 #[.pointer ao, .pointer bo] (w.drewN n) fun e w' => e = .returned (.bool false) ∧ ∃ k, w' = (w.drewN n).drewN k) : Calls Try.prog 44 #[.pointer ao, .pointer bo] w fun e w' => e = .returned (.tuple #[.pointer none, .int .i64 1]) ∧ ∃ k, w' = w.drewN k := by
  have HK := Lib.hid h
  clear h
  go_enter Try.func44, Try.ntmps44
  go_wp2_with fail
  go_quiet ((go_at_call 45; exact Calls.quiet_of (HK.out _)))
  go_wp2_with fail
  ((try simp only [Exit.inBlock, Exit.then]); refine bodyPost_ret (results_tmp2 rfl _ _ _) rfl ?_)
  exact ⟨rfl, _, rfl⟩
theorem eql_body (w : World) (a : Addr) : (binOp .eql 99 (.pointer (some a)) (.pointer (some a))).run Try.prog w = .ok (.bool true) w := by
  have h : ∃ j, Try.prog.info? 135 = some j := by
    have h : (Try.prog.info? 135).map (fun i => i.size) = some 2 := by kernel_rfl
    cases e : Try.prog.info? 135 with
    | none => rw [e] at h; cases h
    | some j => exact ⟨j, rfl⟩
  obtain ⟨j, hj⟩ := h
  exact run_eql_ptr_same w a Try.underlying99 hj
theorem join_self {seed : Int} {R : Nat → Prop} {w : World} {mb bb : Nat} {ra : Option Addr} {t : Tree} (ha : MapAt seed R w mb bb ra t) : Calls Try.prog 44 #[.pointer (some ⟨mb, 0, none⟩), .pointer (some ⟨mb, 0, none⟩)] w fun e w' => e = .returned (.tuple #[.pointer none, .int .i64 1]) ∧ ∃ k, w' = w.drewN k := by
  have HK := Lib.hid (fun n => kin_maps (ha.keepN ((Touch.refl Nil w).drewN n)) (ha.keepN ((Touch.refl Nil w).drewN n)))
  simp only [beq_self_eq_true] at HK
  have x0 := cells1 ha.top
  have hE : ∀ w', (binOp .eql 99 (.pointer (some ⟨bb, 0, none⟩)) (.pointer (some ⟨bb, 0, none⟩))).run Try.prog w' = .ok (.bool true) w' := fun w' => eql_body w' _
  clear ha
  go_enter Try.func44, Try.ntmps44
  go_wp2_with fail
  go_quiet ((go_at_call 45; exact Calls.quiet_of (HK.out _)))
  go_wp2_with fail
  ((try simp only [Exit.inBlock, Exit.then]); refine bodyPost_ret (results_tmp2 rfl _ _ _) rfl ?_)
  exact ⟨rfl, _, rfl⟩
theorem all_any (w : World) (a : Option Addr) : Calls Try.prog 47 #[.pointer a] w fun e w' => e = .returned (.func (.func 95) #[] #[.pointer (some ⟨w.heap.size, 0, none⟩)]) ∧ w' = w.alloc (.cells #[.pointer a] 24) := by
  go_enter Try.func47, Try.ntmps47
  go_wp2_with fail
  go_ret
  exact ⟨rfl, rfl⟩
theorem each_nil (w : World) (l : Nat) : Calls Try.prog 96 #[.pointer none, .func (.yield l) #[] #[]] w fun e w' => e = .returned (.bool true) ∧ ∃ k, w' = w.drewN k := by
  go_enter Try.func96, Try.ntmps96
  go_wp2_with (go_quiet (fail))
  go_ret
  exact ⟨rfl, _, rfl⟩
theorem neq_yield (w : World) (l : Nat) : (binOp .neq 48 (.func (.yield l) #[] #[]) .nilFunc).run Try.prog w = .ok (.bool true) w := by
  have hu := Try.underlying48
  have h : ∀ d : Nat, (Op.equalIn (d + 1) 48 (.func (.yield l) #[] #[]) .nilFunc).run Try.prog w = .ok false w := fun d => by
    simp [Op.equalIn, run_underlying hu]
  simp only [binOp]
  simp [Op.equal, Op.maxDepth, h 9999]
set_option maxRecDepth 100000 in
set_option maxHeartbeats 2000000 in
theorem all1_none {w : World} {m : Value} {Bt : Nat} (h : NoMap w m) (hb : w.cell? ⟨Bt, 0, none⟩ = some m) (l : Nat) : Calls Try.prog 95 #[.func (.yield l) #[] #[], .pointer (some ⟨Bt, 0, none⟩)] w fun e w' => (∃ v, e = .returned v) ∧ ∃ k, w' = w.drewN k := by
  have HM := Lib.hid (root_none h)
  obtain ⟨ma, rfl⟩ := h.form
  clear h
  have hN := neq_yield w l
  go_enter Try.func95, Try.ntmps95
  go_wp2_with fail
  refine HM.out.mono ?_
  rintro e w' ⟨rfl, rfl⟩
  go_wp2_with fail
  refine (each_nil _ _).mono ?_
  rintro e w' ⟨rfl, k, rfl⟩
  go_wp2_with fail
  go_end0
  exact ⟨⟨_, rfl⟩, _, rfl⟩
end Go.Proofs.Ytkkpcndpjkebkaa
