import Derived.Test.YtkkpcndpjkebkaaStopO
/- The walk over a tree that is left early: in the part ahead of the node. -/
namespace Go.Proofs.Ytkkpcndpjkebkaa
open Go.ChangeShapes Go.WideShapes Go.ChangeAt Go.RowKit Go.Deep
attribute [local go_sem] Oper.semAt_some

set_option maxRecDepth 100000 in
set_option maxHeartbeats 4000000 in
theorem stop_A {seed : Int} {R S : Nat → Prop} {n₀ l stop : Nat} {J : Nat → World → Prop} {tl tr : Tree} {k u : Key} (hR : ∀ b, R b → ¬ S b) (hJ : ∀ i W W', J i W → Touch Nil W W' → J i W') {v : Value} {W : World} (h : TreeAt seed R W (.node tl k u tr) v) (hn : n₀ ≤ W.heap.size) (hIL : ∀ (m : Nat) (v' : Value) (w' : World), Touch Nil W w' → TreeAt seed R w' tl v' → CallsIn Fence.wide m Try.prog 96 #[v', .func (.yield l) #[] #[]] w' (StopPost S J stop w')) (n : Nat) :
    CallsIn Fence.wide n Try.prog 96 #[v, .func (.yield l) #[] #[]] W (StopPost S J stop W) := by
  obtain ⟨b, ib, la, ra, rfl, hnv⟩ := h.node
  have hbB : ¬ S b := hR _ hnv.own
  obtain ⟨_, kv, uv, e1, hibr, hih, hmk, hmu, hok⟩ := hnv.item
  cases e1
  have hibB : ¬ S ib := hR _ hibr
  obtain ⟨x0, _, _, x3, x4⟩ := node_cells hnv.blk
  obtain ⟨y0, y1, _⟩ := item_cells hih
  have HKK := Lib.hid (show ∀ w', Touch S W w' → BV w' kv k ∧ BV w' uv u from fun w' ht => ⟨(hmk.keep ht fun c hc => hR c hc).bv, (hmu.keep ht fun c hc => hR c hc).bv⟩)
  obtain ⟨ka, kc, ek, _, _⟩ := hmk.bv
  obtain ⟨ua, uc, eu, _, _⟩ := hmu.bv
  obtain ⟨kl, ekl⟩ : ∃ kl, k.length = kl := ⟨_, rfl⟩
  obtain ⟨ul, eul⟩ : ∃ ul, u.length = ul := ⟨_, rfl⟩
  rw [ekl] at ek
  rw [eul] at eu
  subst ek
  subst eu
  have HLN := Lib.hid (show k.length ≤ 64 ∧ u.length ≤ 1000 from hok.2)
  have HST := Lib.hid (fun w' (ht : Touch S W w') => show w'.cell? ⟨b, 0, none⟩ = some (.pointer (some ⟨ib, 0, none⟩)) ∧ w'.cell? ⟨b, 3, none⟩ = some (.pointer la) ∧ w'.cell? ⟨b, 4, none⟩ = some (.pointer ra) ∧ w'.cell? ⟨ib, 0, none⟩ = some (.slice ka kl kc) ∧ w'.cell? ⟨ib, 1, none⟩ = some (.slice ua ul uc) from ⟨cell_stepS x0 hbB ht, cell_stepS x3 hbB ht, cell_stepS x4 hbB ht, cell_stepS y0 hibB ht, cell_stepS y1 hibB ht⟩)
  have HNV := Lib.hid (fun w' (ht : Touch S W w') => hnv.keep ht fun c hc => hR c hc)
  have HN := Lib.hid hn
  have HIL := Lib.hid (fun m (w' : World) (ht : Touch Nil W w') => hIL m _ w' ht (hnv.left.keepN ht))
  clear h hnv hih hmk hmu hok hn hIL ekl eul x0 x3 x4 y0 y1
  obtain ⟨x0, x3, x4, y0, y1⟩ := HST.out W (Touch.refl _ _)
  refine callsIn_of_wp Try.func96 rfl trivial ?_ rfl
  simp only [Try.ntmps96, List.size_toArray, List.length_cons, List.length_nil, Nat.reduceAdd, Nat.reduceSub, Array.replicate_succ, Array.replicate_zero, List.push_toArray, List.append_toArray, List.nil_append, List.cons_append]
  gi_wp2
  have hdd : ∀ k : Nat, (Fence.wide.depth.isSome = true → 1 ≤ k) := fun k h => by cases h
  refine wpIn_region_any (by kernel_rfl) ?_
  try (change wpAnyIn _ _ _ _ _ _ _ _ _ (World.drew _))
  refine wpAnyIn_take (i := 0) (v := ?_) rfl rfl (by kernel_rfl) (by kernel_rfl) (by kernel_rfl) (fun _ _ _ h => h) ⟨Or.inl ⟨by rfl, ?_⟩, fun _ => rfl⟩ ?_
  rotate_left 1
  · intro w; go_simp; try with_reducible rfl
  refine wpAnyIn_take (i := 1) (v := ?_) rfl rfl (by kernel_rfl) (by kernel_rfl) (by kernel_rfl) (fun _ _ _ h => h) ⟨Or.inl ⟨by rfl, ?_⟩, fun _ => rfl⟩ ?_
  rotate_left 1
  · intro w; go_simp; try with_reducible rfl
  refine wpAnyIn_take (i := 2) (v := ?_) rfl rfl (by kernel_rfl) (by kernel_rfl) (by kernel_rfl) (fun _ _ _ h => h) ⟨Or.inl ⟨by rfl, ?_⟩, fun _ => rfl⟩ ?_
  rotate_left 1
  · intro w; go_simp; try with_reducible rfl
  refine wpAnyIn_take (i := 3) (v := ?_) rfl rfl (by kernel_rfl) (by kernel_rfl) (by kernel_rfl) (fun _ _ _ h => h) ⟨Or.inl ⟨by rfl, ?_⟩, fun _ => rfl⟩ ?_
  rotate_left 1
  · intro w; go_simp; try with_reducible rfl
  refine wpAnyIn_take (i := 7) (v := ?_) rfl rfl (by kernel_rfl) (by kernel_rfl) (by kernel_rfl) (fun _ _ _ h => h) ⟨Or.inl ⟨by rfl, ?_⟩, fun _ => rfl⟩ ?_
  rotate_left 1
  · intro w; go_simp; try with_reducible rfl
  refine wpAnyIn_ready (rs := [4]) (by kernel_rfl) (by simp) ?_
  refine AllReadyIn.cons rfl (fun K hK => ?_) AllReadyIn.nil
  go_simp
  try (refine hK _ _ ?_; clear hK K)
  refine wpAnyIn_ready (rs := [5]) (by kernel_rfl) (by simp) ?_
  refine AllReadyIn.cons rfl (fun K hK => ?_) AllReadyIn.nil
  go_simp
  try (refine hK _ _ ?_; clear hK K)
  refine wpAnyIn_ready (rs := [6]) (by kernel_rfl) (by simp) ?_
  refine AllReadyIn.cons rfl (fun K hK => ?_) AllReadyIn.nil
  go_simp
  try (refine hK _ _ ?_; clear hK K)
  refine wpAnyIn_ready (rs := [8]) (by kernel_rfl) (by simp) ?_
  refine AllReadyIn.cons rfl (fun K hK => ?_) AllReadyIn.nil
  go_simp
  gi_wp2_with ((refine ⟨trivial, hdd _, ?_⟩; gi_at_call_has 96 (Value.pointer la); refine (HIL.out _ _ (Touch.refl Nil W).drew).mono ?_; rintro e W1 ⟨rfl, hj1, ht1⟩; have hT1 : Touch S W W1 := (Touch.refl Nil W).drew.of_nil.trans ht1; have HJ1 := Lib.hid hj1; obtain ⟨x0, x3, x4, y0, y1⟩ := HST.out W1 hT1; clear hj1 ht1))
  try (refine hK _ _ ?_; clear hK K)
  refine wpAnyIn_take (i := 9) (v := ?_) rfl rfl (by kernel_rfl) (by kernel_rfl) (by kernel_rfl) (fun _ _ _ h => h) ⟨Or.inl ⟨by rfl, ?_⟩, fun _ => rfl⟩ ?_
  rotate_left 1
  · intro w; go_simp; try with_reducible rfl
  refine wpAnyIn_take (i := 10) (v := undef) rfl rfl (by kernel_rfl) (by kernel_rfl) (by kernel_rfl) (fun _ _ _ h => h) ⟨Or.inr ⟨by kernel_rfl, rfl⟩, fun _ => rfl⟩ ?_
  refine wpAnyIn_take (i := 11) (v := undef) rfl rfl (by kernel_rfl) (by kernel_rfl) (by kernel_rfl) (fun _ _ _ h => h) ⟨Or.inr ⟨by kernel_rfl, rfl⟩, fun _ => rfl⟩ ?_
  refine wpAnyIn_take (i := 12) (v := undef) rfl rfl (by kernel_rfl) (by kernel_rfl) (by kernel_rfl) (fun _ _ _ h => h) ⟨Or.inr ⟨by kernel_rfl, rfl⟩, fun _ => rfl⟩ ?_
  refine wpAnyIn_take (i := 13) (v := undef) rfl rfl (by kernel_rfl) (by kernel_rfl) (by kernel_rfl) (fun _ _ _ h => h) ⟨Or.inr ⟨by kernel_rfl, rfl⟩, fun _ => rfl⟩ ?_
  refine wpAnyIn_take (i := 14) (v := undef) rfl rfl (by kernel_rfl) (by kernel_rfl) (by kernel_rfl) (fun _ _ _ h => h) ⟨Or.inr ⟨by kernel_rfl, rfl⟩, fun _ => rfl⟩ ?_
  refine wpAnyIn_take (i := 15) (v := undef) rfl rfl (by kernel_rfl) (by kernel_rfl) (by kernel_rfl) (fun _ _ _ h => h) ⟨Or.inr ⟨by kernel_rfl, rfl⟩, fun _ => rfl⟩ ?_
  refine wpAnyIn_take (i := 16) (v := undef) rfl rfl (by kernel_rfl) (by kernel_rfl) (by kernel_rfl) (fun _ _ _ h => h) ⟨Or.inr ⟨by kernel_rfl, rfl⟩, fun _ => rfl⟩ ?_
  refine wpAnyIn_take (i := 17) (v := undef) rfl rfl (by kernel_rfl) (by kernel_rfl) (by kernel_rfl) (fun _ _ _ h => h) ⟨Or.inr ⟨by kernel_rfl, rfl⟩, fun _ => rfl⟩ ?_
  refine wpAnyIn_take (i := 19) (v := undef) rfl rfl (by kernel_rfl) (by kernel_rfl) (by kernel_rfl) (fun _ _ _ h => h) ⟨Or.inr ⟨by kernel_rfl, rfl⟩, fun _ => rfl⟩ ?_
  refine wpAnyIn_take (i := 20) (v := undef) rfl rfl (by kernel_rfl) (by kernel_rfl) (by kernel_rfl) (fun _ _ _ h => h) ⟨Or.inr ⟨by kernel_rfl, rfl⟩, fun _ => rfl⟩ ?_
  refine wpAnyIn_take (i := 21) (v := undef) rfl rfl (by kernel_rfl) (by kernel_rfl) (by kernel_rfl) (fun _ _ _ h => h) ⟨Or.inr ⟨by kernel_rfl, rfl⟩, fun _ => rfl⟩ ?_
  refine wpAnyIn_take (i := 22) (v := undef) rfl rfl (by kernel_rfl) (by kernel_rfl) (by kernel_rfl) (fun _ _ _ h => h) ⟨Or.inr ⟨by kernel_rfl, rfl⟩, fun _ => rfl⟩ ?_
  refine wpAnyIn_take (i := 23) (v := undef) rfl rfl (by kernel_rfl) (by kernel_rfl) (by kernel_rfl) (fun _ _ _ h => h) ⟨Or.inr ⟨by kernel_rfl, rfl⟩, fun _ => rfl⟩ ?_
  refine wpAnyIn_take (i := 24) (v := undef) rfl rfl (by kernel_rfl) (by kernel_rfl) (by kernel_rfl) (fun _ _ _ h => h) ⟨Or.inr ⟨by kernel_rfl, rfl⟩, fun _ => rfl⟩ ?_
  refine wpAnyIn_take (i := 25) (v := undef) rfl rfl (by kernel_rfl) (by kernel_rfl) (by kernel_rfl) (fun _ _ _ h => h) ⟨Or.inr ⟨by kernel_rfl, rfl⟩, fun _ => rfl⟩ ?_
  refine wpAnyIn_ready (rs := [18]) (by kernel_rfl) (by simp) ?_
  refine AllReadyIn.cons rfl (fun K hK => ?_) AllReadyIn.nil
  go_simp
  first | refine hK _ _ ?_ | refine ⟨trivial, hK _ _ ?_⟩ | refine ⟨fun _ _ => trivial, hK _ _ ?_⟩
  clear hK K
  refine wpAnyIn_ready (rs := [26]) (by kernel_rfl) (by simp) ?_
  refine AllReadyIn.cons rfl (fun K hK => ?_) AllReadyIn.nil
  go_simp
  first | refine hK _ _ ?_ | refine ⟨trivial, hK _ _ ?_⟩ | refine ⟨fun _ _ => trivial, hK _ _ ?_⟩
  clear hK K
  refine wpAnyIn_ready (rs := [27]) (by kernel_rfl) (by simp) ?_
  refine AllReadyIn.cons rfl (fun K hK => ?_) AllReadyIn.nil
  go_simp
  first | refine hK _ _ ?_ | refine ⟨trivial, hK _ _ ?_⟩ | refine ⟨fun _ _ => trivial, hK _ _ ?_⟩
  clear hK K
  refine wpAnyIn_take (i := 28) (v := ?_) rfl rfl (by kernel_rfl) (by kernel_rfl) (by kernel_rfl) (fun _ _ _ h => h) ⟨Or.inl ⟨by rfl, ?_⟩, fun _ => rfl⟩ ?_
  rotate_left 1
  · intro w; go_simp; try with_reducible rfl
  refine wpAnyIn_take (i := 29) (v := ?_) rfl rfl (by kernel_rfl) (by kernel_rfl) (by kernel_rfl) (fun _ _ _ h => h) ⟨Or.inl ⟨by rfl, ?_⟩, fun _ => rfl⟩ ?_
  rotate_left 1
  · intro w; go_simp; try with_reducible rfl
  refine wpAnyIn_take (i := 30) (v := undef) rfl rfl (by kernel_rfl) (by kernel_rfl) (by kernel_rfl) (fun _ _ _ h => h) ⟨Or.inr ⟨by kernel_rfl, rfl⟩, fun _ => rfl⟩ ?_
  refine wpAnyIn_take (i := 31) (v := undef) rfl rfl (by kernel_rfl) (by kernel_rfl) (by kernel_rfl) (fun _ _ _ h => h) ⟨Or.inr ⟨by kernel_rfl, rfl⟩, fun _ => rfl⟩ ?_
  refine wpAnyIn_take (i := 32) (v := undef) rfl rfl (by kernel_rfl) (by kernel_rfl) (by kernel_rfl) (fun _ _ _ h => h) ⟨Or.inr ⟨by kernel_rfl, rfl⟩, fun _ => rfl⟩ ?_
  refine wpAnyIn_take (i := 33) (v := undef) rfl rfl (by kernel_rfl) (by kernel_rfl) (by kernel_rfl) (fun _ _ _ h => h) ⟨Or.inr ⟨by kernel_rfl, rfl⟩, fun _ => rfl⟩ ?_
  refine wpAnyIn_take (i := 34) (v := undef) rfl rfl (by kernel_rfl) (by kernel_rfl) (by kernel_rfl) (fun _ _ _ h => h) ⟨Or.inr ⟨by kernel_rfl, rfl⟩, fun _ => rfl⟩ ?_
  refine wpAnyIn_ready (rs := [35]) (by kernel_rfl) (by simp) ?_
  refine AllReadyIn.cons rfl (fun K hK => ?_) AllReadyIn.nil
  go_simp
  first | refine hK _ _ ?_ | refine ⟨trivial, hK _ _ ?_⟩ | refine ⟨fun _ _ => trivial, hK _ _ ?_⟩
  clear hK K
  refine wpAnyIn_take (i := 36) (v := ?_) rfl rfl (by kernel_rfl) (by kernel_rfl) (by kernel_rfl) (fun _ _ _ h => h) ⟨Or.inl ⟨by rfl, ?_⟩, fun _ => rfl⟩ ?_
  rotate_left 1
  · intro w; go_simp; try with_reducible rfl
  refine wpAnyIn_take (i := 37) (v := ?_) rfl rfl (by kernel_rfl) (by kernel_rfl) (by kernel_rfl) (fun _ _ _ h => h) ⟨Or.inl ⟨by rfl, ?_⟩, fun _ => rfl⟩ ?_
  rotate_left 1
  · intro w; go_simp; try with_reducible rfl
  refine wpAnyIn_take (i := 38) (v := ?_) rfl rfl (by kernel_rfl) (by kernel_rfl) (by kernel_rfl) (fun _ _ _ h => h) ⟨Or.inl ⟨by rfl, ?_⟩, fun _ => rfl⟩ ?_
  rotate_left 1
  · intro w; go_simp; try with_reducible rfl
  refine wpAnyIn_done (by kernel_rfl) ?_ _
  all_goals gi_wp2
  all_goals go_ret
  all_goals exact ⟨rfl, HJ1.out, hT1⟩
end Go.Proofs.Ytkkpcndpjkebkaa
