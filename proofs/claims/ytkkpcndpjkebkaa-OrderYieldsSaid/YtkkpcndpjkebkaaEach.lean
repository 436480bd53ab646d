import Derived.RangeFuncNested
import Derived.RangeFuncBound
import Derived.RangeFuncCalls
import Derived.RangeFuncLeaves
import Derived.Shelf.Abstract
import Derived.Shelf.RegionOpen
import Derived.WalkKit
import Derived.OwnWalkIn
import Derived.TacticsInMore
import Derived.LoopNIn
import Derived.LoopIn
import Derived.Sort.AtCallIn
import Derived.Test.YtkkpcndpjkebkaaNoneR
/- The pairs of a map, one after another. -/
namespace Go.Proofs.Ytkkpcndpjkebkaa
open Go.ChangeShapes Go.WideShapes Go.ChangeAt Go.RowKit Go.Deep
attribute [local go_sem] Oper.semAt_some

/-- What a round must do. (What is handed in lies in memory that is newer than the world in which the walk came to the node.) -/
def RoundOf2 (S : Nat → Prop) (n₀ l : Nat) (J : Nat → World → Prop) (L : Pairs) : Prop :=
  ∀ (m i : Nat) (p : Key × Key) (W0 W : World) (kx ux : Value), L[i]? = some p → J i W0 → Touch Nil W0 W → n₀ ≤ W0.heap.size → OwnB W0.heap.size W kx p.1 → OwnB W0.heap.size W ux p.2 → (∀ b, OwnOf kx b → ¬ OwnOf ux b) →
    YieldAt Fence.wide m Try.prog l #[kx, ux] W fun e W' => e = .returned (.bool true) ∧ J (i + 1) W' ∧ Touch S W W'
/-- What a round must do. -/
def RoundOf (S : Nat → Prop) (n₀ l : Nat) (J : Nat → World → Prop) (L : Pairs) : Prop :=
  ∀ (m i : Nat) (p : Key × Key) (W : World) (kx ux : Value), L[i]? = some p → J i W → n₀ ≤ W.heap.size → OwnB n₀ W kx p.1 → OwnB n₀ W ux p.2 → (∀ b, OwnOf kx b → ¬ OwnOf ux b) →
    YieldAt Fence.wide m Try.prog l #[kx, ux] W fun e W' => e = .returned (.bool true) ∧ J (i + 1) W' ∧ Touch S W W'
def EachPost (S : Nat → Prop) (J : Nat → World → Prop) (i : Nat) (w : World) (e : Ending) (w' : World) : Prop := e = .returned (.bool true) ∧ J i w' ∧ Touch S w w'
theorem cell_stepS {S : Nat → Prop} {w w' : World} {b o : Nat} {x : Value} (h : w.cell? ⟨b, o, none⟩ = some x) (hb : ¬ S b) (ht : Touch S w w') : w'.cell? ⟨b, o, none⟩ = some x := (ht.cell (World.block_lt_of_cell? w _ h) hb o).trans h
set_option maxRecDepth 100000 in
set_option maxHeartbeats 4000000 in
theorem each2_any {seed : Int} {R S : Nat → Prop} {n₀ l : Nat} (hR : ∀ b, R b → ¬ S b) (J : Nat → World → Prop) (hJ : ∀ i W W', J i W → Touch Nil W W' → J i W') (L : Pairs) (hY : RoundOf2 S n₀ l J L) :
    ∀ (t : Tree) (n i : Nat) {v : Value} {W : World}, TreeAt seed R W t v → J i W → n₀ ≤ W.heap.size → (∀ j p, t.toL[j]? = some p → L[i + j]? = some p) →
      CallsIn Fence.wide n Try.prog 96 #[v, .func (.yield l) #[] #[]] W (EachPost S J (i + t.size) W) := by
  intro t
  induction t with
  | nil =>
    intro n i v W h hj hn hL
    obtain rfl : v = .pointer none := h
    exact callsIn_wide.2 ((each_nil W l).mono fun e W' ⟨he, k, hw⟩ => ⟨he, by subst hw; exact hJ _ _ _ hj ((Touch.refl Nil W).drewN k), by subst hw; exact (Touch.refl _ _).drewN k⟩)
  | node tl k u tr ihl ihr =>
    intro n i v W h hj hn hL
    obtain ⟨b, ib, la, ra, rfl, hnv⟩ := h.node
    have hbB : ¬ S b := hR _ hnv.own
    obtain ⟨_, kv, uv, e1, hibr, hih, hmk, hmu, hok⟩ := hnv.item
    cases e1
    have hibB : ¬ S ib := hR _ hibr
    obtain ⟨x0, _, _, x3, x4⟩ := node_cells hnv.blk
    obtain ⟨y0, y1, _⟩ := item_cells hih
    have HKK := Lib.hid (show ∀ w', Touch S W w' → BV w' kv k ∧ BV w' uv u from fun w' ht => ⟨(hmk.keep ht fun c hc => hR c hc).bv, (hmu.keep ht fun c hc => hR c hc).bv⟩)
    obtain ⟨ka, kc, ek, _, _⟩ := hmk.bv
    obtain ⟨ua, uc, eu, _, _⟩ := hmu.bv
    obtain ⟨kl, ekl⟩ : ∃ kl, k.length = kl := ⟨_, rfl⟩
    obtain ⟨ul, eul⟩ : ∃ ul, u.length = ul := ⟨_, rfl⟩
    rw [ekl] at ek
    rw [eul] at eu
    subst ek
    subst eu
    have HLN := Lib.hid (show k.length ≤ 64 ∧ u.length ≤ 1000 from hok.2)
    have HP := Lib.hid (show L[i + tl.size]? = some (k, u) from hL tl.size (k, u) (by
      simp only [Tree.toL]
      rw [List.getElem?_append_right (by rw [← size_toL]; omega), ← size_toL, Nat.sub_self]; rfl))
    have HLL := Lib.hid (show ∀ j p, tl.toL[j]? = some p → L[i + j]? = some p from fun j p hp => hL j p (by
      have hj := (List.getElem?_eq_some_iff.1 hp).1
      simp only [Tree.toL]
      rw [List.getElem?_append_left hj]; exact hp))
    have HLR := Lib.hid (show ∀ j p, tr.toL[j]? = some p → L[i + tl.size + 1 + j]? = some p from fun j p hp => by
      have h := hL (tl.size + 1 + j) p (by
        simp only [Tree.toL]
        rw [List.getElem?_append_right (by rw [← size_toL]; omega), ← size_toL, show tl.size + 1 + j - tl.size = j + 1 by omega, List.getElem?_cons_succ]; exact hp)
      rw [show i + tl.size + 1 + j = i + (tl.size + 1 + j) by omega]; exact h)
    have HST := Lib.hid (fun w' (ht : Touch S W w') => show w'.cell? ⟨b, 0, none⟩ = some (.pointer (some ⟨ib, 0, none⟩)) ∧ w'.cell? ⟨b, 3, none⟩ = some (.pointer la) ∧ w'.cell? ⟨b, 4, none⟩ = some (.pointer ra) ∧ w'.cell? ⟨ib, 0, none⟩ = some (.slice ka kl kc) ∧ w'.cell? ⟨ib, 1, none⟩ = some (.slice ua ul uc) from ⟨cell_stepS x0 hbB ht, cell_stepS x3 hbB ht, cell_stepS x4 hbB ht, cell_stepS y0 hibB ht, cell_stepS y1 hibB ht⟩)
    have HNV := Lib.hid (fun w' (ht : Touch S W w') => hnv.keep ht fun c hc => hR c hc)
    have HIL := Lib.hid (fun m (w' : World) (ht : Touch Nil W w') => ihl m i (hnv.left.keepN ht) (hJ _ _ _ hj ht) (Nat.le_trans hn ht.size) HLL.out)
    have HIR := Lib.hid (@ihr)
    have HN := Lib.hid hn
    have HSZ := Lib.hid (show i + (Tree.node tl k u tr).size = i + tl.size + 1 + tr.size from by simp only [Tree.size]; omega)
    clear h hnv hih hmk hmu hok ihl ihr hj hn hL ekl eul x0 x3 x4 y0 y1
    obtain ⟨x0, x3, x4, y0, y1⟩ := HST.out W (Touch.refl _ _)
    refine callsIn_of_wp Try.func96 rfl trivial ?_ rfl
    simp only [Try.ntmps96, List.size_toArray, List.length_cons, List.length_nil, Nat.reduceAdd, Nat.reduceSub, Array.replicate_succ, Array.replicate_zero, List.push_toArray, List.append_toArray, List.nil_append, List.cons_append]
    gi_wp2
    have hdd : ∀ k : Nat, (Fence.wide.depth.isSome = true → 1 ≤ k) := fun k h => by cases h
    refine wpIn_region_any (by kernel_rfl) ?_
    try (change wpAnyIn _ _ _ _ _ _ _ _ _ (World.drew _))
    refine wpAnyIn_take (i := 0) (v := ?_) rfl rfl (by kernel_rfl) (by kernel_rfl) (by kernel_rfl) (fun _ _ _ h => h) ⟨Or.inl ⟨by kernel_rfl, ?_⟩, fun _ => rfl⟩ ?_
    rotate_left 1
    · intro w; go_simp; try with_reducible rfl
    refine wpAnyIn_take (i := 1) (v := ?_) rfl rfl (by kernel_rfl) (by kernel_rfl) (by kernel_rfl) (fun _ _ _ h => h) ⟨Or.inl ⟨by kernel_rfl, ?_⟩, fun _ => rfl⟩ ?_
    rotate_left 1
    · intro w; go_simp; try with_reducible rfl
    refine wpAnyIn_take (i := 2) (v := ?_) rfl rfl (by kernel_rfl) (by kernel_rfl) (by kernel_rfl) (fun _ _ _ h => h) ⟨Or.inl ⟨by kernel_rfl, ?_⟩, fun _ => rfl⟩ ?_
    rotate_left 1
    · intro w; go_simp; try with_reducible rfl
    refine wpAnyIn_take (i := 3) (v := ?_) rfl rfl (by kernel_rfl) (by kernel_rfl) (by kernel_rfl) (fun _ _ _ h => h) ⟨Or.inl ⟨by kernel_rfl, ?_⟩, fun _ => rfl⟩ ?_
    rotate_left 1
    · intro w; go_simp; try with_reducible rfl
    refine wpAnyIn_take (i := 7) (v := ?_) rfl rfl (by kernel_rfl) (by kernel_rfl) (by kernel_rfl) (fun _ _ _ h => h) ⟨Or.inl ⟨by kernel_rfl, ?_⟩, fun _ => rfl⟩ ?_
    rotate_left 1
    · intro w; go_simp; try with_reducible rfl
    refine wpAnyIn_ready (rs := [4]) (by kernel_rfl) (by simp) ?_
    refine AllReadyIn.cons rfl (fun K hK => ?_) AllReadyIn.nil
    go_simp
    first | refine hK _ _ ?_ | refine ⟨trivial, hK _ _ ?_⟩ | refine ⟨fun _ _ => trivial, hK _ _ ?_⟩ | skip
    try clear hK K
    refine wpAnyIn_ready (rs := [5]) (by kernel_rfl) (by simp) ?_
    refine AllReadyIn.cons rfl (fun K hK => ?_) AllReadyIn.nil
    go_simp
    first | refine hK _ _ ?_ | refine ⟨trivial, hK _ _ ?_⟩ | refine ⟨fun _ _ => trivial, hK _ _ ?_⟩ | skip
    try clear hK K
    refine wpAnyIn_ready (rs := [6]) (by kernel_rfl) (by simp) ?_
    refine AllReadyIn.cons rfl (fun K hK => ?_) AllReadyIn.nil
    go_simp
    first | refine hK _ _ ?_ | refine ⟨trivial, hK _ _ ?_⟩ | refine ⟨fun _ _ => trivial, hK _ _ ?_⟩ | skip
    try clear hK K
    refine wpAnyIn_ready (rs := [8]) (by kernel_rfl) (by simp) ?_
    refine AllReadyIn.cons rfl (fun K hK => ?_) AllReadyIn.nil
    go_simp
    gi_wp2_with ((refine ⟨trivial, hdd _, ?_⟩; gi_at_call_has 96 (Value.pointer la); refine (HIL.out _ _ (Touch.refl Nil W).drew).mono ?_; rintro e W1 ⟨rfl, hj1, ht1⟩; have hT1 : Touch S W W1 := (Touch.refl Nil W).drew.of_nil.trans ht1; have HJ1 := Lib.hid hj1; obtain ⟨x0, x3, x4, y0, y1⟩ := HST.out W1 hT1; clear hj1 ht1))
    first | refine hK _ _ ?_ | refine ⟨trivial, hK _ _ ?_⟩ | refine ⟨fun _ _ => trivial, hK _ _ ?_⟩ | skip
    try clear hK K
    refine wpAnyIn_take (i := 9) (v := ?_) rfl rfl (by kernel_rfl) (by kernel_rfl) (by kernel_rfl) (fun _ _ _ h => h) ⟨Or.inl ⟨by kernel_rfl, ?_⟩, fun _ => rfl⟩ ?_
    rotate_left 1
    · intro w; go_simp; try with_reducible rfl
    refine wpAnyIn_take (i := 10) (v := ?_) rfl rfl (by kernel_rfl) (by kernel_rfl) (by kernel_rfl) (fun _ _ _ h => h) ⟨Or.inl ⟨by kernel_rfl, ?_⟩, fun _ => rfl⟩ ?_
    rotate_left 1
    · intro w; go_simp; try with_reducible rfl
    refine wpAnyIn_take (i := 11) (v := ?_) rfl rfl (by kernel_rfl) (by kernel_rfl) (by kernel_rfl) (fun _ _ _ h => h) ⟨Or.inl ⟨by kernel_rfl, ?_⟩, fun _ => rfl⟩ ?_
    rotate_left 1
    · intro w; go_simp; try with_reducible rfl
    refine wpAnyIn_take (i := 19) (v := ?_) rfl rfl (by kernel_rfl) (by kernel_rfl) (by kernel_rfl) (fun _ _ _ h => h) ⟨Or.inl ⟨by kernel_rfl, ?_⟩, fun _ => rfl⟩ ?_
    rotate_left 1
    · intro w; go_simp; try with_reducible rfl
    refine wpAnyIn_take (i := 12) (v := ?_) rfl rfl (by kernel_rfl) (by kernel_rfl) (by kernel_rfl) (fun _ _ _ h => h) ⟨Or.inl ⟨by kernel_rfl, ?_⟩, fun _ => rfl⟩ ?_
    rotate_left 1
    · intro w; go_simp; try with_reducible rfl
    refine wpAnyIn_take (i := 13) (v := ?_) rfl rfl (by kernel_rfl) (by kernel_rfl) (by kernel_rfl) (fun _ _ _ h => h) ⟨Or.inl ⟨by kernel_rfl, ?_⟩, fun _ => rfl⟩ ?_
    rotate_left 1
    · intro w; go_simp; try with_reducible rfl
    refine wpAnyIn_take (i := 20) (v := ?_) rfl rfl (by kernel_rfl) (by kernel_rfl) (by kernel_rfl) (fun _ _ _ h => h) ⟨Or.inl ⟨by kernel_rfl, ?_⟩, fun _ => rfl⟩ ?_
    rotate_left 1
    · intro w; go_simp; try with_reducible rfl
    refine wpAnyIn_take (i := 21) (v := ?_) rfl rfl (by kernel_rfl) (by kernel_rfl) (by kernel_rfl) (fun _ _ _ h => h) ⟨Or.inl ⟨by kernel_rfl, ?_⟩, fun _ => rfl⟩ ?_
    rotate_left 1
    · intro w; go_simp; try with_reducible rfl
    refine wpAnyIn_ready (rs := [14, 22]) (by kernel_rfl) (by simp) ?_
    refine AllReadyIn.cons rfl (fun K hK => ?_) (AllReadyIn.cons rfl (fun K hK => ?_) AllReadyIn.nil)
    · go_simp
      first | refine hK _ _ ?_ | refine ⟨trivial, hK _ _ ?_⟩ | refine ⟨fun _ _ => trivial, hK _ _ ?_⟩ | skip
      try clear hK K
      refine wpAnyIn_take (i := 15) (v := ?_) rfl rfl (by kernel_rfl) (by kernel_rfl) (by kernel_rfl) (fun _ _ _ h => h) ⟨Or.inl ⟨by kernel_rfl, ?_⟩, fun _ => rfl⟩ ?_
      rotate_left 1
      · intro w; go_simp; try with_reducible rfl
      refine wpAnyIn_take (i := 16) (v := ?_) rfl rfl (by kernel_rfl) (by kernel_rfl) (by kernel_rfl) (fun _ _ _ h => h) ⟨Or.inl ⟨by kernel_rfl, ?_⟩, fun _ => rfl⟩ ?_
      rotate_left 1
      · intro w; go_simp; try with_reducible rfl
      refine wpAnyIn_ready (rs := [17, 22]) (by kernel_rfl) (by simp) ?_
      refine AllReadyIn.cons rfl (fun K hK => ?_) (AllReadyIn.cons rfl (fun K hK => ?_) AllReadyIn.nil)
      · go_simp
        first | refine hK _ _ ?_ | refine ⟨trivial, hK _ _ ?_⟩ | refine ⟨fun _ _ => trivial, hK _ _ ?_⟩ | skip
        try clear hK K
        refine wpAnyIn_ready (rs := [18, 22]) (by kernel_rfl) (by simp) ?_
        refine AllReadyIn.cons rfl (fun K hK => ?_) (AllReadyIn.cons rfl (fun K hK => ?_) AllReadyIn.nil)
        · go_simp
          gi_wp2_with ((refine ⟨trivial, hdd _, ?_⟩; gi_at_call_has 69 (Value.slice ka kl kc); refine (callsIn_wide.2 (bytesClone_any _ k _ (HKK.out _ hT1).1 (by have := HLN.out.1; omega))).mono ?_; rintro e W2 ⟨v2, rfl, h2, ht2⟩; obtain ⟨va2, vl2, vc2, rfl⟩ := h2.form; have hT2 : Touch S W W2 := hT1.trans ht2.of_nil; have H2 := Lib.hid (show OwnB W1.heap.size W2 (.slice va2 vl2 vc2) k from h2); have HN2 := Lib.hid ht2; clear x0 x3 x4 y0 y1 h2 ht2; obtain ⟨x0, x3, x4, y0, y1⟩ := HST.out W2 hT2))
          first | refine hK _ _ ?_ | refine ⟨trivial, hK _ _ ?_⟩ | refine ⟨fun _ _ => trivial, hK _ _ ?_⟩ | skip
          try clear hK K
          refine wpAnyIn_ready (rs := [22]) (by kernel_rfl) (by simp) ?_
          refine AllReadyIn.cons rfl (fun K hK => ?_) AllReadyIn.nil
          go_simp
          first | refine hK _ _ ?_ | refine ⟨trivial, hK _ _ ?_⟩ | refine ⟨fun _ _ => trivial, hK _ _ ?_⟩ | skip
          try clear hK K
          refine wpAnyIn_take (i := 23) (v := ?_) rfl rfl (by kernel_rfl) (by kernel_rfl) (by kernel_rfl) (fun _ _ _ h => h) ⟨Or.inl ⟨by kernel_rfl, ?_⟩, fun _ => rfl⟩ ?_
          rotate_left 1
          · intro w; go_simp; try with_reducible rfl
          refine wpAnyIn_take (i := 24) (v := ?_) rfl rfl (by kernel_rfl) (by kernel_rfl) (by kernel_rfl) (fun _ _ _ h => h) ⟨Or.inl ⟨by kernel_rfl, ?_⟩, fun _ => rfl⟩ ?_
          rotate_left 1
          · intro w; go_simp; try with_reducible rfl
          refine wpAnyIn_ready (rs := [25]) (by kernel_rfl) (by simp) ?_
          refine AllReadyIn.cons rfl (fun K hK => ?_) AllReadyIn.nil
          go_simp
          first | refine hK _ _ ?_ | refine ⟨trivial, hK _ _ ?_⟩ | refine ⟨fun _ _ => trivial, hK _ _ ?_⟩ | skip
          try clear hK K
          refine wpAnyIn_ready (rs := [26]) (by kernel_rfl) (by simp) ?_
          refine AllReadyIn.cons rfl (fun K hK => ?_) AllReadyIn.nil
          go_simp
          gi_wp2_with ((refine ⟨trivial, hdd _, ?_⟩; gi_at_call_has 69 (Value.slice ua ul uc); refine (callsIn_wide.2 (bytesClone_any _ u _ (HKK.out _ hT2).2 (by have := HLN.out.2; omega))).mono ?_; rintro e W3 ⟨v3, rfl, h3, ht3⟩; obtain ⟨va3, vl3, vc3, rfl⟩ := h3.form; have hT3 : Touch S W W3 := hT2.trans ht3.of_nil; have H3 := Lib.hid (show OwnB W1.heap.size W3 (.slice va3 vl3 vc3) u from h3.base HN2.out.size); have HK3 := Lib.hid (show OwnB W1.heap.size W3 (.slice va2 vl2 vc2) k from H2.out.keep ht3 fun _ _ c => c); have HN3 := Lib.hid (HN2.out.trans ht3); have HD3 := Lib.hid (show ∀ b, OwnOf (.slice va2 vl2 vc2) b → ¬ OwnOf (.slice va3 vl3 vc3) b from fun b c1 c2 => (by have e1 := (H2.out.block b c1).2; have e2 := (h3.block b c2).1; omega)); clear x0 x3 x4 y0 y1 h3 ht3; obtain ⟨x0, x3, x4, y0, y1⟩ := HST.out W3 hT3; obtain ⟨fn, tmps, assign, body, hy, hRd⟩ := hY (n - 1) (i + tl.size) (k, u) W1 W3 _ _ HP.out HJ1.out HN3.out (Nat.le_trans HN.out hT1.size) HK3.out H3.out HD3.out))
          first | refine hK _ _ ?_ | refine ⟨trivial, hK _ _ ?_⟩ | refine ⟨fun _ _ => trivial, hK _ _ ?_⟩ | skip
          try clear hK K
          refine wpAnyIn_ready (rs := [27]) (by kernel_rfl) (by simp) ?_
          refine AllReadyIn.cons rfl (fun K hK => ?_) AllReadyIn.nil
          go_simp
          gi_wp2_with (((first | (refine ⟨hdd _, ?_⟩; refine hRd.mono ?_) | (refine ⟨trivial, hdd _, ?_⟩; refine hRd.mono ?_)); clear hRd hy; rintro e W4 ⟨rfl, hj4, ht4⟩; have hT4 : Touch S W W4 := hT3.trans ht4; have HJ4 := Lib.hid hj4; clear x0 x3 x4 y0 y1 hj4 ht4; obtain ⟨x0, x3, x4, y0, y1⟩ := HST.out W4 hT4))
          first | refine hK _ _ ?_ | refine ⟨trivial, hK _ _ ?_⟩ | refine ⟨fun _ _ => trivial, hK _ _ ?_⟩ | skip
          try clear hK K
          refine wpAnyIn_take (i := 28) (v := ?_) rfl rfl (by kernel_rfl) (by kernel_rfl) (by kernel_rfl) (fun _ _ _ h => h) ⟨Or.inl ⟨by kernel_rfl, ?_⟩, fun _ => rfl⟩ ?_
          rotate_left 1
          · intro w; go_simp; try with_reducible rfl
          refine wpAnyIn_take (i := 29) (v := ?_) rfl rfl (by kernel_rfl) (by kernel_rfl) (by kernel_rfl) (fun _ _ _ h => h) ⟨Or.inl ⟨by kernel_rfl, ?_⟩, fun _ => rfl⟩ ?_
          rotate_left 1
          · intro w; go_simp; try with_reducible rfl
          refine wpAnyIn_take (i := 30) (v := ?_) rfl rfl (by kernel_rfl) (by kernel_rfl) (by kernel_rfl) (fun _ _ _ h => h) ⟨Or.inl ⟨by kernel_rfl, ?_⟩, fun _ => rfl⟩ ?_
          rotate_left 1
          · intro w; go_simp; try with_reducible rfl
          refine wpAnyIn_take (i := 34) (v := ?_) rfl rfl (by kernel_rfl) (by kernel_rfl) (by kernel_rfl) (fun _ _ _ h => h) ⟨Or.inl ⟨by kernel_rfl, ?_⟩, fun _ => rfl⟩ ?_
          rotate_left 1
          · intro w; go_simp; try with_reducible rfl
          refine wpAnyIn_take (i := 31) (v := ?_) rfl rfl (by kernel_rfl) (by kernel_rfl) (by kernel_rfl) (fun _ _ _ h => h) ⟨Or.inl ⟨by kernel_rfl, ?_⟩, fun _ => rfl⟩ ?_
          rotate_left 1
          · intro w; go_simp; try with_reducible rfl
          refine wpAnyIn_take (i := 32) (v := ?_) rfl rfl (by kernel_rfl) (by kernel_rfl) (by kernel_rfl) (fun _ _ _ h => h) ⟨Or.inl ⟨by kernel_rfl, ?_⟩, fun _ => rfl⟩ ?_
          rotate_left 1
          · intro w; go_simp; try with_reducible rfl
          refine wpAnyIn_ready (rs := [33]) (by kernel_rfl) (by simp) ?_
          refine AllReadyIn.cons rfl (fun K hK => ?_) AllReadyIn.nil
          go_simp
          first | refine hK _ _ ?_ | refine ⟨trivial, hK _ _ ?_⟩ | refine ⟨fun _ _ => trivial, hK _ _ ?_⟩ | skip
          try clear hK K
          refine wpAnyIn_ready (rs := [35]) (by kernel_rfl) (by simp) ?_
          refine AllReadyIn.cons rfl (fun K hK => ?_) AllReadyIn.nil
          go_simp
          gi_wp2_with ((refine ⟨trivial, hdd _, ?_⟩; gi_at_call_has 96 (Value.pointer ra); refine (HIR.out (n - 1) (i + tl.size + 1) (HNV.out _ hT4).right HJ4.out (Nat.le_trans HN.out hT4.size) HLR.out).mono ?_; rintro e W5 ⟨rfl, hj5, ht5⟩; have HJ5 := Lib.hid hj5; have HT5 := Lib.hid (show Touch S W W5 from hT4.trans ht5); clear hj5 ht5))
          first | refine hK _ _ ?_ | refine ⟨trivial, hK _ _ ?_⟩ | refine ⟨fun _ _ => trivial, hK _ _ ?_⟩ | skip
          try clear hK K
          refine wpAnyIn_take (i := 36) (v := ?_) rfl rfl (by kernel_rfl) (by kernel_rfl) (by kernel_rfl) (fun _ _ _ h => h) ⟨Or.inl ⟨by kernel_rfl, ?_⟩, fun _ => rfl⟩ ?_
          rotate_left 1
          · intro w; go_simp; try with_reducible rfl
          refine wpAnyIn_take (i := 37) (v := ?_) rfl rfl (by kernel_rfl) (by kernel_rfl) (by kernel_rfl) (fun _ _ _ h => h) ⟨Or.inl ⟨by kernel_rfl, ?_⟩, fun _ => rfl⟩ ?_
          rotate_left 1
          · intro w; go_simp; try with_reducible rfl
          refine wpAnyIn_take (i := 38) (v := ?_) rfl rfl (by kernel_rfl) (by kernel_rfl) (by kernel_rfl) (fun _ _ _ h => h) ⟨Or.inl ⟨by kernel_rfl, ?_⟩, fun _ => rfl⟩ ?_
          rotate_left 1
          · intro w; go_simp; try with_reducible rfl
          refine wpAnyIn_done (by kernel_rfl) ?_ _
          gi_wp2
          go_ret
          exact ⟨rfl, by rw [HSZ.out]; exact HJ5.out, HT5.out⟩
        · go_simp
          first | refine hK _ _ ?_ | refine ⟨trivial, hK _ _ ?_⟩ | refine ⟨fun _ _ => trivial, hK _ _ ?_⟩ | skip
          try clear hK K
          refine wpAnyIn_take (i := 23) (v := ?_) rfl rfl (by kernel_rfl) (by kernel_rfl) (by kernel_rfl) (fun _ _ _ h => h) ⟨Or.inl ⟨by kernel_rfl, ?_⟩, fun _ => rfl⟩ ?_
          rotate_left 1
          · intro w; go_simp; try with_reducible rfl
          refine wpAnyIn_take (i := 24) (v := ?_) rfl rfl (by kernel_rfl) (by kernel_rfl) (by kernel_rfl) (fun _ _ _ h => h) ⟨Or.inl ⟨by kernel_rfl, ?_⟩, fun _ => rfl⟩ ?_
          rotate_left 1
          · intro w; go_simp; try with_reducible rfl
          refine wpAnyIn_ready (rs := [18, 25]) (by kernel_rfl) (by simp) ?_
          refine AllReadyIn.cons rfl (fun K hK => ?_) (AllReadyIn.cons rfl (fun K hK => ?_) AllReadyIn.nil)
          · go_simp
            gi_wp2_with ((refine ⟨trivial, hdd _, ?_⟩; gi_at_call_has 69 (Value.slice ka kl kc); refine (callsIn_wide.2 (bytesClone_any _ k _ (HKK.out _ hT1).1 (by have := HLN.out.1; omega))).mono ?_; rintro e W2 ⟨v2, rfl, h2, ht2⟩; obtain ⟨va2, vl2, vc2, rfl⟩ := h2.form; have hT2 : Touch S W W2 := hT1.trans ht2.of_nil; have H2 := Lib.hid (show OwnB W1.heap.size W2 (.slice va2 vl2 vc2) k from h2); have HN2 := Lib.hid ht2; clear x0 x3 x4 y0 y1 h2 ht2; obtain ⟨x0, x3, x4, y0, y1⟩ := HST.out W2 hT2))
            first | refine hK _ _ ?_ | refine ⟨trivial, hK _ _ ?_⟩ | refine ⟨fun _ _ => trivial, hK _ _ ?_⟩ | skip
            try clear hK K
            refine wpAnyIn_ready (rs := [25]) (by kernel_rfl) (by simp) ?_
            refine AllReadyIn.cons rfl (fun K hK => ?_) AllReadyIn.nil
            go_simp
            first | refine hK _ _ ?_ | refine ⟨trivial, hK _ _ ?_⟩ | refine ⟨fun _ _ => trivial, hK _ _ ?_⟩ | skip
            try clear hK K
            refine wpAnyIn_ready (rs := [26]) (by kernel_rfl) (by simp) ?_
            refine AllReadyIn.cons rfl (fun K hK => ?_) AllReadyIn.nil
            go_simp
            gi_wp2_with ((refine ⟨trivial, hdd _, ?_⟩; gi_at_call_has 69 (Value.slice ua ul uc); refine (callsIn_wide.2 (bytesClone_any _ u _ (HKK.out _ hT2).2 (by have := HLN.out.2; omega))).mono ?_; rintro e W3 ⟨v3, rfl, h3, ht3⟩; obtain ⟨va3, vl3, vc3, rfl⟩ := h3.form; have hT3 : Touch S W W3 := hT2.trans ht3.of_nil; have H3 := Lib.hid (show OwnB W1.heap.size W3 (.slice va3 vl3 vc3) u from h3.base HN2.out.size); have HK3 := Lib.hid (show OwnB W1.heap.size W3 (.slice va2 vl2 vc2) k from H2.out.keep ht3 fun _ _ c => c); have HN3 := Lib.hid (HN2.out.trans ht3); have HD3 := Lib.hid (show ∀ b, OwnOf (.slice va2 vl2 vc2) b → ¬ OwnOf (.slice va3 vl3 vc3) b from fun b c1 c2 => (by have e1 := (H2.out.block b c1).2; have e2 := (h3.block b c2).1; omega)); clear x0 x3 x4 y0 y1 h3 ht3; obtain ⟨x0, x3, x4, y0, y1⟩ := HST.out W3 hT3; obtain ⟨fn, tmps, assign, body, hy, hRd⟩ := hY (n - 1) (i + tl.size) (k, u) W1 W3 _ _ HP.out HJ1.out HN3.out (Nat.le_trans HN.out hT1.size) HK3.out H3.out HD3.out))
            first | refine hK _ _ ?_ | refine ⟨trivial, hK _ _ ?_⟩ | refine ⟨fun _ _ => trivial, hK _ _ ?_⟩ | skip
            try clear hK K
            refine wpAnyIn_ready (rs := [27]) (by kernel_rfl) (by simp) ?_
            refine AllReadyIn.cons rfl (fun K hK => ?_) AllReadyIn.nil
            go_simp
            gi_wp2_with (((first | (refine ⟨hdd _, ?_⟩; refine hRd.mono ?_) | (refine ⟨trivial, hdd _, ?_⟩; refine hRd.mono ?_)); clear hRd hy; rintro e W4 ⟨rfl, hj4, ht4⟩; have hT4 : Touch S W W4 := hT3.trans ht4; have HJ4 := Lib.hid hj4; clear x0 x3 x4 y0 y1 hj4 ht4; obtain ⟨x0, x3, x4, y0, y1⟩ := HST.out W4 hT4))
            first | refine hK _ _ ?_ | refine ⟨trivial, hK _ _ ?_⟩ | refine ⟨fun _ _ => trivial, hK _ _ ?_⟩ | skip
            try clear hK K
            refine wpAnyIn_take (i := 28) (v := ?_) rfl rfl (by kernel_rfl) (by kernel_rfl) (by kernel_rfl) (fun _ _ _ h => h) ⟨Or.inl ⟨by kernel_rfl, ?_⟩, fun _ => rfl⟩ ?_
            rotate_left 1
            · intro w; go_simp; try with_reducible rfl
            refine wpAnyIn_take (i := 29) (v := ?_) rfl rfl (by kernel_rfl) (by kernel_rfl) (by kernel_rfl) (fun _ _ _ h => h) ⟨Or.inl ⟨by kernel_rfl, ?_⟩, fun _ => rfl⟩ ?_
            rotate_left 1
            · intro w; go_simp; try with_reducible rfl
            refine wpAnyIn_take (i := 30) (v := ?_) rfl rfl (by kernel_rfl) (by kernel_rfl) (by kernel_rfl) (fun _ _ _ h => h) ⟨Or.inl ⟨by kernel_rfl, ?_⟩, fun _ => rfl⟩ ?_
            rotate_left 1
            · intro w; go_simp; try with_reducible rfl
            refine wpAnyIn_take (i := 34) (v := ?_) rfl rfl (by kernel_rfl) (by kernel_rfl) (by kernel_rfl) (fun _ _ _ h => h) ⟨Or.inl ⟨by kernel_rfl, ?_⟩, fun _ => rfl⟩ ?_
            rotate_left 1
            · intro w; go_simp; try with_reducible rfl
            refine wpAnyIn_take (i := 31) (v := ?_) rfl rfl (by kernel_rfl) (by kernel_rfl) (by kernel_rfl) (fun _ _ _ h => h) ⟨Or.inl ⟨by kernel_rfl, ?_⟩, fun _ => rfl⟩ ?_
            rotate_left 1
            · intro w; go_simp; try with_reducible rfl
            refine wpAnyIn_take (i := 32) (v := ?_) rfl rfl (by kernel_rfl) (by kernel_rfl) (by kernel_rfl) (fun _ _ _ h => h) ⟨Or.inl ⟨by kernel_rfl, ?_⟩, fun _ => rfl⟩ ?_
            rotate_left 1
            · intro w; go_simp; try with_reducible rfl
            refine wpAnyIn_ready (rs := [33]) (by kernel_rfl) (by simp) ?_
            refine AllReadyIn.cons rfl (fun K hK => ?_) AllReadyIn.nil
            go_simp
            first | refine hK _ _ ?_ | refine ⟨trivial, hK _ _ ?_⟩ | refine ⟨fun _ _ => trivial, hK _ _ ?_⟩ | skip
            try clear hK K
            refine wpAnyIn_ready (rs := [35]) (by kernel_rfl) (by simp) ?_
            refine AllReadyIn.cons rfl (fun K hK => ?_) AllReadyIn.nil
            go_simp
            gi_wp2_with ((refine ⟨trivial, hdd _, ?_⟩; gi_at_call_has 96 (Value.pointer ra); refine (HIR.out (n - 1) (i + tl.size + 1) (HNV.out _ hT4).right HJ4.out (Nat.le_trans HN.out hT4.size) HLR.out).mono ?_; rintro e W5 ⟨rfl, hj5, ht5⟩; have HJ5 := Lib.hid hj5; have HT5 := Lib.hid (show Touch S W W5 from hT4.trans ht5); clear hj5 ht5))
            first | refine hK _ _ ?_ | refine ⟨trivial, hK _ _ ?_⟩ | refine ⟨fun _ _ => trivial, hK _ _ ?_⟩ | skip
            try clear hK K
            refine wpAnyIn_take (i := 36) (v := ?_) rfl rfl (by kernel_rfl) (by kernel_rfl) (by kernel_rfl) (fun _ _ _ h => h) ⟨Or.inl ⟨by kernel_rfl, ?_⟩, fun _ => rfl⟩ ?_
            rotate_left 1
            · intro w; go_simp; try with_reducible rfl
            refine wpAnyIn_take (i := 37) (v := ?_) rfl rfl (by kernel_rfl) (by kernel_rfl) (by kernel_rfl) (fun _ _ _ h => h) ⟨Or.inl ⟨by kernel_rfl, ?_⟩, fun _ => rfl⟩ ?_
            rotate_left 1
            · intro w; go_simp; try with_reducible rfl
            refine wpAnyIn_take (i := 38) (v := ?_) rfl rfl (by kernel_rfl) (by kernel_rfl) (by kernel_rfl) (fun _ _ _ h => h) ⟨Or.inl ⟨by kernel_rfl, ?_⟩, fun _ => rfl⟩ ?_
            rotate_left 1
            · intro w; go_simp; try with_reducible rfl
            refine wpAnyIn_done (by kernel_rfl) ?_ _
            gi_wp2
            go_ret
            exact ⟨rfl, by rw [HSZ.out]; exact HJ5.out, HT5.out⟩
          · go_simp
            first | refine hK _ _ ?_ | refine ⟨trivial, hK _ _ ?_⟩ | refine ⟨fun _ _ => trivial, hK _ _ ?_⟩ | skip
            try clear hK K
            refine wpAnyIn_ready (rs := [18]) (by kernel_rfl) (by simp) ?_
            refine AllReadyIn.cons rfl (fun K hK => ?_) AllReadyIn.nil
            go_simp
            gi_wp2_with ((refine ⟨trivial, hdd _, ?_⟩; gi_at_call_has 69 (Value.slice ka kl kc); refine (callsIn_wide.2 (bytesClone_any _ k _ (HKK.out _ hT1).1 (by have := HLN.out.1; omega))).mono ?_; rintro e W2 ⟨v2, rfl, h2, ht2⟩; obtain ⟨va2, vl2, vc2, rfl⟩ := h2.form; have hT2 : Touch S W W2 := hT1.trans ht2.of_nil; have H2 := Lib.hid (show OwnB W1.heap.size W2 (.slice va2 vl2 vc2) k from h2); have HN2 := Lib.hid ht2; clear x0 x3 x4 y0 y1 h2 ht2; obtain ⟨x0, x3, x4, y0, y1⟩ := HST.out W2 hT2))
            first | refine hK _ _ ?_ | refine ⟨trivial, hK _ _ ?_⟩ | refine ⟨fun _ _ => trivial, hK _ _ ?_⟩ | skip
            try clear hK K
            refine wpAnyIn_ready (rs := [26]) (by kernel_rfl) (by simp) ?_
            refine AllReadyIn.cons rfl (fun K hK => ?_) AllReadyIn.nil
            go_simp
            gi_wp2_with ((refine ⟨trivial, hdd _, ?_⟩; gi_at_call_has 69 (Value.slice ua ul uc); refine (callsIn_wide.2 (bytesClone_any _ u _ (HKK.out _ hT2).2 (by have := HLN.out.2; omega))).mono ?_; rintro e W3 ⟨v3, rfl, h3, ht3⟩; obtain ⟨va3, vl3, vc3, rfl⟩ := h3.form; have hT3 : Touch S W W3 := hT2.trans ht3.of_nil; have H3 := Lib.hid (show OwnB W1.heap.size W3 (.slice va3 vl3 vc3) u from h3.base HN2.out.size); have HK3 := Lib.hid (show OwnB W1.heap.size W3 (.slice va2 vl2 vc2) k from H2.out.keep ht3 fun _ _ c => c); have HN3 := Lib.hid (HN2.out.trans ht3); have HD3 := Lib.hid (show ∀ b, OwnOf (.slice va2 vl2 vc2) b → ¬ OwnOf (.slice va3 vl3 vc3) b from fun b c1 c2 => (by have e1 := (H2.out.block b c1).2; have e2 := (h3.block b c2).1; omega)); clear x0 x3 x4 y0 y1 h3 ht3; obtain ⟨x0, x3, x4, y0, y1⟩ := HST.out W3 hT3; obtain ⟨fn, tmps, assign, body, hy, hRd⟩ := hY (n - 1) (i + tl.size) (k, u) W1 W3 _ _ HP.out HJ1.out HN3.out (Nat.le_trans HN.out hT1.size) HK3.out H3.out HD3.out))
            first | refine hK _ _ ?_ | refine ⟨trivial, hK _ _ ?_⟩ | refine ⟨fun _ _ => trivial, hK _ _ ?_⟩ | skip
            try clear hK K
            refine wpAnyIn_ready (rs := [27]) (by kernel_rfl) (by simp) ?_
            refine AllReadyIn.cons rfl (fun K hK => ?_) AllReadyIn.nil
            go_simp
            gi_wp2_with (((first | (refine ⟨hdd _, ?_⟩; refine hRd.mono ?_) | (refine ⟨trivial, hdd _, ?_⟩; refine hRd.mono ?_)); clear hRd hy; rintro e W4 ⟨rfl, hj4, ht4⟩; have hT4 : Touch S W W4 := hT3.trans ht4; have HJ4 := Lib.hid hj4; clear x0 x3 x4 y0 y1 hj4 ht4; obtain ⟨x0, x3, x4, y0, y1⟩ := HST.out W4 hT4))
            first | refine hK _ _ ?_ | refine ⟨trivial, hK _ _ ?_⟩ | refine ⟨fun _ _ => trivial, hK _ _ ?_⟩ | skip
            try clear hK K
            refine wpAnyIn_take (i := 28) (v := ?_) rfl rfl (by kernel_rfl) (by kernel_rfl) (by kernel_rfl) (fun _ _ _ h => h) ⟨Or.inl ⟨by kernel_rfl, ?_⟩, fun _ => rfl⟩ ?_
            rotate_left 1
            · intro w; go_simp; try with_reducible rfl
            refine wpAnyIn_take (i := 29) (v := ?_) rfl rfl (by kernel_rfl) (by kernel_rfl) (by kernel_rfl) (fun _ _ _ h => h) ⟨Or.inl ⟨by kernel_rfl, ?_⟩, fun _ => rfl⟩ ?_
            rotate_left 1
            · intro w; go_simp; try with_reducible rfl
            refine wpAnyIn_take (i := 30) (v := ?_) rfl rfl (by kernel_rfl) (by kernel_rfl) (by kernel_rfl) (fun _ _ _ h => h) ⟨Or.inl ⟨by kernel_rfl, ?_⟩, fun _ => rfl⟩ ?_
            rotate_left 1
            · intro w; go_simp; try with_reducible rfl
            refine wpAnyIn_take (i := 34) (v := ?_) rfl rfl (by kernel_rfl) (by kernel_rfl) (by kernel_rfl) (fun _ _ _ h => h) ⟨Or.inl ⟨by kernel_rfl, ?_⟩, fun _ => rfl⟩ ?_
            rotate_left 1
            · intro w; go_simp; try with_reducible rfl
            refine wpAnyIn_take (i := 31) (v := ?_) rfl rfl (by kernel_rfl) (by kernel_rfl) (by kernel_rfl) (fun _ _ _ h => h) ⟨Or.inl ⟨by kernel_rfl, ?_⟩, fun _ => rfl⟩ ?_
            rotate_left 1
            · intro w; go_simp; try with_reducible rfl
            refine wpAnyIn_take (i := 32) (v := ?_) rfl rfl (by kernel_rfl) (by kernel_rfl) (by kernel_rfl) (fun _ _ _ h => h) ⟨Or.inl ⟨by kernel_rfl, ?_⟩, fun _ => rfl⟩ ?_
            rotate_left 1
            · intro w; go_simp; try with_reducible rfl
            refine wpAnyIn_ready (rs := [33]) (by kernel_rfl) (by simp) ?_
            refine AllReadyIn.cons rfl (fun K hK => ?_) AllReadyIn.nil
            go_simp
            first | refine hK _ _ ?_ | refine ⟨trivial, hK _ _ ?_⟩ | refine ⟨fun _ _ => trivial, hK _ _ ?_⟩ | skip
            try clear hK K
            refine wpAnyIn_ready (rs := [35]) (by kernel_rfl) (by simp) ?_
            refine AllReadyIn.cons rfl (fun K hK => ?_) AllReadyIn.nil
            go_simp
            gi_wp2_with ((refine ⟨trivial, hdd _, ?_⟩; gi_at_call_has 96 (Value.pointer ra); refine (HIR.out (n - 1) (i + tl.size + 1) (HNV.out _ hT4).right HJ4.out (Nat.le_trans HN.out hT4.size) HLR.out).mono ?_; rintro e W5 ⟨rfl, hj5, ht5⟩; have HJ5 := Lib.hid hj5; have HT5 := Lib.hid (show Touch S W W5 from hT4.trans ht5); clear hj5 ht5))
            first | refine hK _ _ ?_ | refine ⟨trivial, hK _ _ ?_⟩ | refine ⟨fun _ _ => trivial, hK _ _ ?_⟩ | skip
            try clear hK K
            refine wpAnyIn_take (i := 36) (v := ?_) rfl rfl (by kernel_rfl) (by kernel_rfl) (by kernel_rfl) (fun _ _ _ h => h) ⟨Or.inl ⟨by kernel_rfl, ?_⟩, fun _ => rfl⟩ ?_
            rotate_left 1
            · intro w; go_simp; try with_reducible rfl
            refine wpAnyIn_take (i := 37) (v := ?_) rfl rfl (by kernel_rfl) (by kernel_rfl) (by kernel_rfl) (fun _ _ _ h => h) ⟨Or.inl ⟨by kernel_rfl, ?_⟩, fun _ => rfl⟩ ?_
            rotate_left 1
            · intro w; go_simp; try with_reducible rfl
            refine wpAnyIn_take (i := 38) (v := ?_) rfl rfl (by kernel_rfl) (by kernel_rfl) (by kernel_rfl) (fun _ _ _ h => h) ⟨Or.inl ⟨by kernel_rfl, ?_⟩, fun _ => rfl⟩ ?_
            rotate_left 1
            · intro w; go_simp; try with_reducible rfl
            refine wpAnyIn_done (by kernel_rfl) ?_ _
            gi_wp2
            go_ret
            exact ⟨rfl, by rw [HSZ.out]; exact HJ5.out, HT5.out⟩
      · go_simp
        first | refine hK _ _ ?_ | refine ⟨trivial, hK _ _ ?_⟩ | refine ⟨fun _ _ => trivial, hK _ _ ?_⟩ | skip
        try clear hK K
        refine wpAnyIn_take (i := 23) (v := ?_) rfl rfl (by kernel_rfl) (by kernel_rfl) (by kernel_rfl) (fun _ _ _ h => h) ⟨Or.inl ⟨by kernel_rfl, ?_⟩, fun _ => rfl⟩ ?_
        rotate_left 1
        · intro w; go_simp; try with_reducible rfl
        refine wpAnyIn_take (i := 24) (v := ?_) rfl rfl (by kernel_rfl) (by kernel_rfl) (by kernel_rfl) (fun _ _ _ h => h) ⟨Or.inl ⟨by kernel_rfl, ?_⟩, fun _ => rfl⟩ ?_
        rotate_left 1
        · intro w; go_simp; try with_reducible rfl
        refine wpAnyIn_ready (rs := [17, 25]) (by kernel_rfl) (by simp) ?_
        refine AllReadyIn.cons rfl (fun K hK => ?_) (AllReadyIn.cons rfl (fun K hK => ?_) AllReadyIn.nil)
        · go_simp
          first | refine hK _ _ ?_ | refine ⟨trivial, hK _ _ ?_⟩ | refine ⟨fun _ _ => trivial, hK _ _ ?_⟩ | skip
          try clear hK K
          refine wpAnyIn_ready (rs := [18, 25]) (by kernel_rfl) (by simp) ?_
          refine AllReadyIn.cons rfl (fun K hK => ?_) (AllReadyIn.cons rfl (fun K hK => ?_) AllReadyIn.nil)
          · go_simp
            gi_wp2_with ((refine ⟨trivial, hdd _, ?_⟩; gi_at_call_has 69 (Value.slice ka kl kc); refine (callsIn_wide.2 (bytesClone_any _ k _ (HKK.out _ hT1).1 (by have := HLN.out.1; omega))).mono ?_; rintro e W2 ⟨v2, rfl, h2, ht2⟩; obtain ⟨va2, vl2, vc2, rfl⟩ := h2.form; have hT2 : Touch S W W2 := hT1.trans ht2.of_nil; have H2 := Lib.hid (show OwnB W1.heap.size W2 (.slice va2 vl2 vc2) k from h2); have HN2 := Lib.hid ht2; clear x0 x3 x4 y0 y1 h2 ht2; obtain ⟨x0, x3, x4, y0, y1⟩ := HST.out W2 hT2))
            first | refine hK _ _ ?_ | refine ⟨trivial, hK _ _ ?_⟩ | refine ⟨fun _ _ => trivial, hK _ _ ?_⟩ | skip
            try clear hK K
            refine wpAnyIn_ready (rs := [25]) (by kernel_rfl) (by simp) ?_
            refine AllReadyIn.cons rfl (fun K hK => ?_) AllReadyIn.nil
            go_simp
            first | refine hK _ _ ?_ | refine ⟨trivial, hK _ _ ?_⟩ | refine ⟨fun _ _ => trivial, hK _ _ ?_⟩ | skip
            try clear hK K
            refine wpAnyIn_ready (rs := [26]) (by kernel_rfl) (by simp) ?_
            refine AllReadyIn.cons rfl (fun K hK => ?_) AllReadyIn.nil
            go_simp
            gi_wp2_with ((refine ⟨trivial, hdd _, ?_⟩; gi_at_call_has 69 (Value.slice ua ul uc); refine (callsIn_wide.2 (bytesClone_any _ u _ (HKK.out _ hT2).2 (by have := HLN.out.2; omega))).mono ?_; rintro e W3 ⟨v3, rfl, h3, ht3⟩; obtain ⟨va3, vl3, vc3, rfl⟩ := h3.form; have hT3 : Touch S W W3 := hT2.trans ht3.of_nil; have H3 := Lib.hid (show OwnB W1.heap.size W3 (.slice va3 vl3 vc3) u from h3.base HN2.out.size); have HK3 := Lib.hid (show OwnB W1.heap.size W3 (.slice va2 vl2 vc2) k from H2.out.keep ht3 fun _ _ c => c); have HN3 := Lib.hid (HN2.out.trans ht3); have HD3 := Lib.hid (show ∀ b, OwnOf (.slice va2 vl2 vc2) b → ¬ OwnOf (.slice va3 vl3 vc3) b from fun b c1 c2 => (by have e1 := (H2.out.block b c1).2; have e2 := (h3.block b c2).1; omega)); clear x0 x3 x4 y0 y1 h3 ht3; obtain ⟨x0, x3, x4, y0, y1⟩ := HST.out W3 hT3; obtain ⟨fn, tmps, assign, body, hy, hRd⟩ := hY (n - 1) (i + tl.size) (k, u) W1 W3 _ _ HP.out HJ1.out HN3.out (Nat.le_trans HN.out hT1.size) HK3.out H3.out HD3.out))
            first | refine hK _ _ ?_ | refine ⟨trivial, hK _ _ ?_⟩ | refine ⟨fun _ _ => trivial, hK _ _ ?_⟩ | skip
            try clear hK K
            refine wpAnyIn_ready (rs := [27]) (by kernel_rfl) (by simp) ?_
            refine AllReadyIn.cons rfl (fun K hK => ?_) AllReadyIn.nil
            go_simp
            gi_wp2_with (((first | (refine ⟨hdd _, ?_⟩; refine hRd.mono ?_) | (refine ⟨trivial, hdd _, ?_⟩; refine hRd.mono ?_)); clear hRd hy; rintro e W4 ⟨rfl, hj4, ht4⟩; have hT4 : Touch S W W4 := hT3.trans ht4; have HJ4 := Lib.hid hj4; clear x0 x3 x4 y0 y1 hj4 ht4; obtain ⟨x0, x3, x4, y0, y1⟩ := HST.out W4 hT4))
            first | refine hK _ _ ?_ | refine ⟨trivial, hK _ _ ?_⟩ | refine ⟨fun _ _ => trivial, hK _ _ ?_⟩ | skip
            try clear hK K
            refine wpAnyIn_take (i := 28) (v := ?_) rfl rfl (by kernel_rfl) (by kernel_rfl) (by kernel_rfl) (fun _ _ _ h => h) ⟨Or.inl ⟨by kernel_rfl, ?_⟩, fun _ => rfl⟩ ?_
            rotate_left 1
            · intro w; go_simp; try with_reducible rfl
            refine wpAnyIn_take (i := 29) (v := ?_) rfl rfl (by kernel_rfl) (by kernel_rfl) (by kernel_rfl) (fun _ _ _ h => h) ⟨Or.inl ⟨by kernel_rfl, ?_⟩, fun _ => rfl⟩ ?_
            rotate_left 1
            · intro w; go_simp; try with_reducible rfl
            refine wpAnyIn_take (i := 30) (v := ?_) rfl rfl (by kernel_rfl) (by kernel_rfl) (by kernel_rfl) (fun _ _ _ h => h) ⟨Or.inl ⟨by kernel_rfl, ?_⟩, fun _ => rfl⟩ ?_
            rotate_left 1
            · intro w; go_simp; try with_reducible rfl
            refine wpAnyIn_take (i := 34) (v := ?_) rfl rfl (by kernel_rfl) (by kernel_rfl) (by kernel_rfl) (fun _ _ _ h => h) ⟨Or.inl ⟨by kernel_rfl, ?_⟩, fun _ => rfl⟩ ?_
            rotate_left 1
            · intro w; go_simp; try with_reducible rfl
            refine wpAnyIn_take (i := 31) (v := ?_) rfl rfl (by kernel_rfl) (by kernel_rfl) (by kernel_rfl) (fun _ _ _ h => h) ⟨Or.inl ⟨by kernel_rfl, ?_⟩, fun _ => rfl⟩ ?_
            rotate_left 1
            · intro w; go_simp; try with_reducible rfl
            refine wpAnyIn_take (i := 32) (v := ?_) rfl rfl (by kernel_rfl) (by kernel_rfl) (by kernel_rfl) (fun _ _ _ h => h) ⟨Or.inl ⟨by kernel_rfl, ?_⟩, fun _ => rfl⟩ ?_
            rotate_left 1
            · intro w; go_simp; try with_reducible rfl
            refine wpAnyIn_ready (rs := [33]) (by kernel_rfl) (by simp) ?_
            refine AllReadyIn.cons rfl (fun K hK => ?_) AllReadyIn.nil
            go_simp
            first | refine hK _ _ ?_ | refine ⟨trivial, hK _ _ ?_⟩ | refine ⟨fun _ _ => trivial, hK _ _ ?_⟩ | skip
            try clear hK K
            refine wpAnyIn_ready (rs := [35]) (by kernel_rfl) (by simp) ?_
            refine AllReadyIn.cons rfl (fun K hK => ?_) AllReadyIn.nil
            go_simp
            gi_wp2_with ((refine ⟨trivial, hdd _, ?_⟩; gi_at_call_has 96 (Value.pointer ra); refine (HIR.out (n - 1) (i + tl.size + 1) (HNV.out _ hT4).right HJ4.out (Nat.le_trans HN.out hT4.size) HLR.out).mono ?_; rintro e W5 ⟨rfl, hj5, ht5⟩; have HJ5 := Lib.hid hj5; have HT5 := Lib.hid (show Touch S W W5 from hT4.trans ht5); clear hj5 ht5))
            first | refine hK _ _ ?_ | refine ⟨trivial, hK _ _ ?_⟩ | refine ⟨fun _ _ => trivial, hK _ _ ?_⟩ | skip
            try clear hK K
            refine wpAnyIn_take (i := 36) (v := ?_) rfl rfl (by kernel_rfl) (by kernel_rfl) (by kernel_rfl) (fun _ _ _ h => h) ⟨Or.inl ⟨by kernel_rfl, ?_⟩, fun _ => rfl⟩ ?_
            rotate_left 1
            · intro w; go_simp; try with_reducible rfl
            refine wpAnyIn_take (i := 37) (v := ?_) rfl rfl (by kernel_rfl) (by kernel_rfl) (by kernel_rfl) (fun _ _ _ h => h) ⟨Or.inl ⟨by kernel_rfl, ?_⟩, fun _ => rfl⟩ ?_
            rotate_left 1
            · intro w; go_simp; try with_reducible rfl
            refine wpAnyIn_take (i := 38) (v := ?_) rfl rfl (by kernel_rfl) (by kernel_rfl) (by kernel_rfl) (fun _ _ _ h => h) ⟨Or.inl ⟨by kernel_rfl, ?_⟩, fun _ => rfl⟩ ?_
            rotate_left 1
            · intro w; go_simp; try with_reducible rfl
            refine wpAnyIn_done (by kernel_rfl) ?_ _
            gi_wp2
            go_ret
            exact ⟨rfl, by rw [HSZ.out]; exact HJ5.out, HT5.out⟩
          · go_simp
            first | refine hK _ _ ?_ | refine ⟨trivial, hK _ _ ?_⟩ | refine ⟨fun _ _ => trivial, hK _ _ ?_⟩ | skip
            try clear hK K
            refine wpAnyIn_ready (rs := [18]) (by kernel_rfl) (by simp) ?_
            refine AllReadyIn.cons rfl (fun K hK => ?_) AllReadyIn.nil
            go_simp
            gi_wp2_with ((refine ⟨trivial, hdd _, ?_⟩; gi_at_call_has 69 (Value.slice ka kl kc); refine (callsIn_wide.2 (bytesClone_any _ k _ (HKK.out _ hT1).1 (by have := HLN.out.1; omega))).mono ?_; rintro e W2 ⟨v2, rfl, h2, ht2⟩; obtain ⟨va2, vl2, vc2, rfl⟩ := h2.form; have hT2 : Touch S W W2 := hT1.trans ht2.of_nil; have H2 := Lib.hid (show OwnB W1.heap.size W2 (.slice va2 vl2 vc2) k from h2); have HN2 := Lib.hid ht2; clear x0 x3 x4 y0 y1 h2 ht2; obtain ⟨x0, x3, x4, y0, y1⟩ := HST.out W2 hT2))
            first | refine hK _ _ ?_ | refine ⟨trivial, hK _ _ ?_⟩ | refine ⟨fun _ _ => trivial, hK _ _ ?_⟩ | skip
            try clear hK K
            refine wpAnyIn_ready (rs := [26]) (by kernel_rfl) (by simp) ?_
            refine AllReadyIn.cons rfl (fun K hK => ?_) AllReadyIn.nil
            go_simp
            gi_wp2_with ((refine ⟨trivial, hdd _, ?_⟩; gi_at_call_has 69 (Value.slice ua ul uc); refine (callsIn_wide.2 (bytesClone_any _ u _ (HKK.out _ hT2).2 (by have := HLN.out.2; omega))).mono ?_; rintro e W3 ⟨v3, rfl, h3, ht3⟩; obtain ⟨va3, vl3, vc3, rfl⟩ := h3.form; have hT3 : Touch S W W3 := hT2.trans ht3.of_nil; have H3 := Lib.hid (show OwnB W1.heap.size W3 (.slice va3 vl3 vc3) u from h3.base HN2.out.size); have HK3 := Lib.hid (show OwnB W1.heap.size W3 (.slice va2 vl2 vc2) k from H2.out.keep ht3 fun _ _ c => c); have HN3 := Lib.hid (HN2.out.trans ht3); have HD3 := Lib.hid (show ∀ b, OwnOf (.slice va2 vl2 vc2) b → ¬ OwnOf (.slice va3 vl3 vc3) b from fun b c1 c2 => (by have e1 := (H2.out.block b c1).2; have e2 := (h3.block b c2).1; omega)); clear x0 x3 x4 y0 y1 h3 ht3; obtain ⟨x0, x3, x4, y0, y1⟩ := HST.out W3 hT3; obtain ⟨fn, tmps, assign, body, hy, hRd⟩ := hY (n - 1) (i + tl.size) (k, u) W1 W3 _ _ HP.out HJ1.out HN3.out (Nat.le_trans HN.out hT1.size) HK3.out H3.out HD3.out))
            first | refine hK _ _ ?_ | refine ⟨trivial, hK _ _ ?_⟩ | refine ⟨fun _ _ => trivial, hK _ _ ?_⟩ | skip
            try clear hK K
            refine wpAnyIn_ready (rs := [27]) (by kernel_rfl) (by simp) ?_
            refine AllReadyIn.cons rfl (fun K hK => ?_) AllReadyIn.nil
            go_simp
            gi_wp2_with (((first | (refine ⟨hdd _, ?_⟩; refine hRd.mono ?_) | (refine ⟨trivial, hdd _, ?_⟩; refine hRd.mono ?_)); clear hRd hy; rintro e W4 ⟨rfl, hj4, ht4⟩; have hT4 : Touch S W W4 := hT3.trans ht4; have HJ4 := Lib.hid hj4; clear x0 x3 x4 y0 y1 hj4 ht4; obtain ⟨x0, x3, x4, y0, y1⟩ := HST.out W4 hT4))
            first | refine hK _ _ ?_ | refine ⟨trivial, hK _ _ ?_⟩ | refine ⟨fun _ _ => trivial, hK _ _ ?_⟩ | skip
            try clear hK K
            refine wpAnyIn_take (i := 28) (v := ?_) rfl rfl (by kernel_rfl) (by kernel_rfl) (by kernel_rfl) (fun _ _ _ h => h) ⟨Or.inl ⟨by kernel_rfl, ?_⟩, fun _ => rfl⟩ ?_
            rotate_left 1
            · intro w; go_simp; try with_reducible rfl
            refine wpAnyIn_take (i := 29) (v := ?_) rfl rfl (by kernel_rfl) (by kernel_rfl) (by kernel_rfl) (fun _ _ _ h => h) ⟨Or.inl ⟨by kernel_rfl, ?_⟩, fun _ => rfl⟩ ?_
            rotate_left 1
            · intro w; go_simp; try with_reducible rfl
            refine wpAnyIn_take (i := 30) (v := ?_) rfl rfl (by kernel_rfl) (by kernel_rfl) (by kernel_rfl) (fun _ _ _ h => h) ⟨Or.inl ⟨by kernel_rfl, ?_⟩, fun _ => rfl⟩ ?_
            rotate_left 1
            · intro w; go_simp; try with_reducible rfl
            refine wpAnyIn_take (i := 34) (v := ?_) rfl rfl (by kernel_rfl) (by kernel_rfl) (by kernel_rfl) (fun _ _ _ h => h) ⟨Or.inl ⟨by kernel_rfl, ?_⟩, fun _ => rfl⟩ ?_
            rotate_left 1
            · intro w; go_simp; try with_reducible rfl
            refine wpAnyIn_take (i := 31) (v := ?_) rfl rfl (by kernel_rfl) (by kernel_rfl) (by kernel_rfl) (fun _ _ _ h => h) ⟨Or.inl ⟨by kernel_rfl, ?_⟩, fun _ => rfl⟩ ?_
            rotate_left 1
            · intro w; go_simp; try with_reducible rfl
            refine wpAnyIn_take (i := 32) (v := ?_) rfl rfl (by kernel_rfl) (by kernel_rfl) (by kernel_rfl) (fun _ _ _ h => h) ⟨Or.inl ⟨by kernel_rfl, ?_⟩, fun _ => rfl⟩ ?_
            rotate_left 1
            · intro w; go_simp; try with_reducible rfl
            refine wpAnyIn_ready (rs := [33]) (by kernel_rfl) (by simp) ?_
            refine AllReadyIn.cons rfl (fun K hK => ?_) AllReadyIn.nil
            go_simp
            first | refine hK _ _ ?_ | refine ⟨trivial, hK _ _ ?_⟩ | refine ⟨fun _ _ => trivial, hK _ _ ?_⟩ | skip
            try clear hK K
            refine wpAnyIn_ready (rs := [35]) (by kernel_rfl) (by simp) ?_
            refine AllReadyIn.cons rfl (fun K hK => ?_) AllReadyIn.nil
            go_simp
            gi_wp2_with ((refine ⟨trivial, hdd _, ?_⟩; gi_at_call_has 96 (Value.pointer ra); refine (HIR.out (n - 1) (i + tl.size + 1) (HNV.out _ hT4).right HJ4.out (Nat.le_trans HN.out hT4.size) HLR.out).mono ?_; rintro e W5 ⟨rfl, hj5, ht5⟩; have HJ5 := Lib.hid hj5; have HT5 := Lib.hid (show Touch S W W5 from hT4.trans ht5); clear hj5 ht5))
            first | refine hK _ _ ?_ | refine ⟨trivial, hK _ _ ?_⟩ | refine ⟨fun _ _ => trivial, hK _ _ ?_⟩ | skip
            try clear hK K
            refine wpAnyIn_take (i := 36) (v := ?_) rfl rfl (by kernel_rfl) (by kernel_rfl) (by kernel_rfl) (fun _ _ _ h => h) ⟨Or.inl ⟨by kernel_rfl, ?_⟩, fun _ => rfl⟩ ?_
            rotate_left 1
            · intro w; go_simp; try with_reducible rfl
            refine wpAnyIn_take (i := 37) (v := ?_) rfl rfl (by kernel_rfl) (by kernel_rfl) (by kernel_rfl) (fun _ _ _ h => h) ⟨Or.inl ⟨by kernel_rfl, ?_⟩, fun _ => rfl⟩ ?_
            rotate_left 1
            · intro w; go_simp; try with_reducible rfl
            refine wpAnyIn_take (i := 38) (v := ?_) rfl rfl (by kernel_rfl) (by kernel_rfl) (by kernel_rfl) (fun _ _ _ h => h) ⟨Or.inl ⟨by kernel_rfl, ?_⟩, fun _ => rfl⟩ ?_
            rotate_left 1
            · intro w; go_simp; try with_reducible rfl
            refine wpAnyIn_done (by kernel_rfl) ?_ _
            gi_wp2
            go_ret
            exact ⟨rfl, by rw [HSZ.out]; exact HJ5.out, HT5.out⟩
        · go_simp
          first | refine hK _ _ ?_ | refine ⟨trivial, hK _ _ ?_⟩ | refine ⟨fun _ _ => trivial, hK _ _ ?_⟩ | skip
          try clear hK K
          refine wpAnyIn_ready (rs := [17]) (by kernel_rfl) (by simp) ?_
          refine AllReadyIn.cons rfl (fun K hK => ?_) AllReadyIn.nil
          go_simp
          first | refine hK _ _ ?_ | refine ⟨trivial, hK _ _ ?_⟩ | refine ⟨fun _ _ => trivial, hK _ _ ?_⟩ | skip
          try clear hK K
          refine wpAnyIn_ready (rs := [18]) (by kernel_rfl) (by simp) ?_
          refine AllReadyIn.cons rfl (fun K hK => ?_) AllReadyIn.nil
          go_simp
          gi_wp2_with ((refine ⟨trivial, hdd _, ?_⟩; gi_at_call_has 69 (Value.slice ka kl kc); refine (callsIn_wide.2 (bytesClone_any _ k _ (HKK.out _ hT1).1 (by have := HLN.out.1; omega))).mono ?_; rintro e W2 ⟨v2, rfl, h2, ht2⟩; obtain ⟨va2, vl2, vc2, rfl⟩ := h2.form; have hT2 : Touch S W W2 := hT1.trans ht2.of_nil; have H2 := Lib.hid (show OwnB W1.heap.size W2 (.slice va2 vl2 vc2) k from h2); have HN2 := Lib.hid ht2; clear x0 x3 x4 y0 y1 h2 ht2; obtain ⟨x0, x3, x4, y0, y1⟩ := HST.out W2 hT2))
          first | refine hK _ _ ?_ | refine ⟨trivial, hK _ _ ?_⟩ | refine ⟨fun _ _ => trivial, hK _ _ ?_⟩ | skip
          try clear hK K
          refine wpAnyIn_ready (rs := [26]) (by kernel_rfl) (by simp) ?_
          refine AllReadyIn.cons rfl (fun K hK => ?_) AllReadyIn.nil
          go_simp
          gi_wp2_with ((refine ⟨trivial, hdd _, ?_⟩; gi_at_call_has 69 (Value.slice ua ul uc); refine (callsIn_wide.2 (bytesClone_any _ u _ (HKK.out _ hT2).2 (by have := HLN.out.2; omega))).mono ?_; rintro e W3 ⟨v3, rfl, h3, ht3⟩; obtain ⟨va3, vl3, vc3, rfl⟩ := h3.form; have hT3 : Touch S W W3 := hT2.trans ht3.of_nil; have H3 := Lib.hid (show OwnB W1.heap.size W3 (.slice va3 vl3 vc3) u from h3.base HN2.out.size); have HK3 := Lib.hid (show OwnB W1.heap.size W3 (.slice va2 vl2 vc2) k from H2.out.keep ht3 fun _ _ c => c); have HN3 := Lib.hid (HN2.out.trans ht3); have HD3 := Lib.hid (show ∀ b, OwnOf (.slice va2 vl2 vc2) b → ¬ OwnOf (.slice va3 vl3 vc3) b from fun b c1 c2 => (by have e1 := (H2.out.block b c1).2; have e2 := (h3.block b c2).1; omega)); clear x0 x3 x4 y0 y1 h3 ht3; obtain ⟨x0, x3, x4, y0, y1⟩ := HST.out W3 hT3; obtain ⟨fn, tmps, assign, body, hy, hRd⟩ := hY (n - 1) (i + tl.size) (k, u) W1 W3 _ _ HP.out HJ1.out HN3.out (Nat.le_trans HN.out hT1.size) HK3.out H3.out HD3.out))
          first | refine hK _ _ ?_ | refine ⟨trivial, hK _ _ ?_⟩ | refine ⟨fun _ _ => trivial, hK _ _ ?_⟩ | skip
          try clear hK K
          refine wpAnyIn_ready (rs := [27]) (by kernel_rfl) (by simp) ?_
          refine AllReadyIn.cons rfl (fun K hK => ?_) AllReadyIn.nil
          go_simp
          gi_wp2_with (((first | (refine ⟨hdd _, ?_⟩; refine hRd.mono ?_) | (refine ⟨trivial, hdd _, ?_⟩; refine hRd.mono ?_)); clear hRd hy; rintro e W4 ⟨rfl, hj4, ht4⟩; have hT4 : Touch S W W4 := hT3.trans ht4; have HJ4 := Lib.hid hj4; clear x0 x3 x4 y0 y1 hj4 ht4; obtain ⟨x0, x3, x4, y0, y1⟩ := HST.out W4 hT4))
          first | refine hK _ _ ?_ | refine ⟨trivial, hK _ _ ?_⟩ | refine ⟨fun _ _ => trivial, hK _ _ ?_⟩ | skip
          try clear hK K
          refine wpAnyIn_take (i := 28) (v := ?_) rfl rfl (by kernel_rfl) (by kernel_rfl) (by kernel_rfl) (fun _ _ _ h => h) ⟨Or.inl ⟨by kernel_rfl, ?_⟩, fun _ => rfl⟩ ?_
          rotate_left 1
          · intro w; go_simp; try with_reducible rfl
          refine wpAnyIn_take (i := 29) (v := ?_) rfl rfl (by kernel_rfl) (by kernel_rfl) (by kernel_rfl) (fun _ _ _ h => h) ⟨Or.inl ⟨by kernel_rfl, ?_⟩, fun _ => rfl⟩ ?_
          rotate_left 1
          · intro w; go_simp; try with_reducible rfl
          refine wpAnyIn_take (i := 30) (v := ?_) rfl rfl (by kernel_rfl) (by kernel_rfl) (by kernel_rfl) (fun _ _ _ h => h) ⟨Or.inl ⟨by kernel_rfl, ?_⟩, fun _ => rfl⟩ ?_
          rotate_left 1
          · intro w; go_simp; try with_reducible rfl
          refine wpAnyIn_take (i := 34) (v := ?_) rfl rfl (by kernel_rfl) (by kernel_rfl) (by kernel_rfl) (fun _ _ _ h => h) ⟨Or.inl ⟨by kernel_rfl, ?_⟩, fun _ => rfl⟩ ?_
          rotate_left 1
          · intro w; go_simp; try with_reducible rfl
          refine wpAnyIn_take (i := 31) (v := ?_) rfl rfl (by kernel_rfl) (by kernel_rfl) (by kernel_rfl) (fun _ _ _ h => h) ⟨Or.inl ⟨by kernel_rfl, ?_⟩, fun _ => rfl⟩ ?_
          rotate_left 1
          · intro w; go_simp; try with_reducible rfl
          refine wpAnyIn_take (i := 32) (v := ?_) rfl rfl (by kernel_rfl) (by kernel_rfl) (by kernel_rfl) (fun _ _ _ h => h) ⟨Or.inl ⟨by kernel_rfl, ?_⟩, fun _ => rfl⟩ ?_
          rotate_left 1
          · intro w; go_simp; try with_reducible rfl
          refine wpAnyIn_ready (rs := [33]) (by kernel_rfl) (by simp) ?_
          refine AllReadyIn.cons rfl (fun K hK => ?_) AllReadyIn.nil
          go_simp
          first | refine hK _ _ ?_ | refine ⟨trivial, hK _ _ ?_⟩ | refine ⟨fun _ _ => trivial, hK _ _ ?_⟩ | skip
          try clear hK K
          refine wpAnyIn_ready (rs := [35]) (by kernel_rfl) (by simp) ?_
          refine AllReadyIn.cons rfl (fun K hK => ?_) AllReadyIn.nil
          go_simp
          gi_wp2_with ((refine ⟨trivial, hdd _, ?_⟩; gi_at_call_has 96 (Value.pointer ra); refine (HIR.out (n - 1) (i + tl.size + 1) (HNV.out _ hT4).right HJ4.out (Nat.le_trans HN.out hT4.size) HLR.out).mono ?_; rintro e W5 ⟨rfl, hj5, ht5⟩; have HJ5 := Lib.hid hj5; have HT5 := Lib.hid (show Touch S W W5 from hT4.trans ht5); clear hj5 ht5))
          first | refine hK _ _ ?_ | refine ⟨trivial, hK _ _ ?_⟩ | refine ⟨fun _ _ => trivial, hK _ _ ?_⟩ | skip
          try clear hK K
          refine wpAnyIn_take (i := 36) (v := ?_) rfl rfl (by kernel_rfl) (by kernel_rfl) (by kernel_rfl) (fun _ _ _ h => h) ⟨Or.inl ⟨by kernel_rfl, ?_⟩, fun _ => rfl⟩ ?_
          rotate_left 1
          · intro w; go_simp; try with_reducible rfl
          refine wpAnyIn_take (i := 37) (v := ?_) rfl rfl (by kernel_rfl) (by kernel_rfl) (by kernel_rfl) (fun _ _ _ h => h) ⟨Or.inl ⟨by kernel_rfl, ?_⟩, fun _ => rfl⟩ ?_
          rotate_left 1
          · intro w; go_simp; try with_reducible rfl
          refine wpAnyIn_take (i := 38) (v := ?_) rfl rfl (by kernel_rfl) (by kernel_rfl) (by kernel_rfl) (fun _ _ _ h => h) ⟨Or.inl ⟨by kernel_rfl, ?_⟩, fun _ => rfl⟩ ?_
          rotate_left 1
          · intro w; go_simp; try with_reducible rfl
          refine wpAnyIn_done (by kernel_rfl) ?_ _
          gi_wp2
          go_ret
          exact ⟨rfl, by rw [HSZ.out]; exact HJ5.out, HT5.out⟩
    · go_simp
      first | refine hK _ _ ?_ | refine ⟨trivial, hK _ _ ?_⟩ | refine ⟨fun _ _ => trivial, hK _ _ ?_⟩ | skip
      try clear hK K
      refine wpAnyIn_take (i := 23) (v := ?_) rfl rfl (by kernel_rfl) (by kernel_rfl) (by kernel_rfl) (fun _ _ _ h => h) ⟨Or.inl ⟨by kernel_rfl, ?_⟩, fun _ => rfl⟩ ?_
      rotate_left 1
      · intro w; go_simp; try with_reducible rfl
      refine wpAnyIn_take (i := 24) (v := ?_) rfl rfl (by kernel_rfl) (by kernel_rfl) (by kernel_rfl) (fun _ _ _ h => h) ⟨Or.inl ⟨by kernel_rfl, ?_⟩, fun _ => rfl⟩ ?_
      rotate_left 1
      · intro w; go_simp; try with_reducible rfl
      refine wpAnyIn_ready (rs := [14, 25]) (by kernel_rfl) (by simp) ?_
      refine AllReadyIn.cons rfl (fun K hK => ?_) (AllReadyIn.cons rfl (fun K hK => ?_) AllReadyIn.nil)
      · go_simp
        first | refine hK _ _ ?_ | refine ⟨trivial, hK _ _ ?_⟩ | refine ⟨fun _ _ => trivial, hK _ _ ?_⟩ | skip
        try clear hK K
        refine wpAnyIn_take (i := 15) (v := ?_) rfl rfl (by kernel_rfl) (by kernel_rfl) (by kernel_rfl) (fun _ _ _ h => h) ⟨Or.inl ⟨by kernel_rfl, ?_⟩, fun _ => rfl⟩ ?_
        rotate_left 1
        · intro w; go_simp; try with_reducible rfl
        refine wpAnyIn_take (i := 16) (v := ?_) rfl rfl (by kernel_rfl) (by kernel_rfl) (by kernel_rfl) (fun _ _ _ h => h) ⟨Or.inl ⟨by kernel_rfl, ?_⟩, fun _ => rfl⟩ ?_
        rotate_left 1
        · intro w; go_simp; try with_reducible rfl
        refine wpAnyIn_ready (rs := [17, 25]) (by kernel_rfl) (by simp) ?_
        refine AllReadyIn.cons rfl (fun K hK => ?_) (AllReadyIn.cons rfl (fun K hK => ?_) AllReadyIn.nil)
        · go_simp
          first | refine hK _ _ ?_ | refine ⟨trivial, hK _ _ ?_⟩ | refine ⟨fun _ _ => trivial, hK _ _ ?_⟩ | skip
          try clear hK K
          refine wpAnyIn_ready (rs := [18, 25]) (by kernel_rfl) (by simp) ?_
          refine AllReadyIn.cons rfl (fun K hK => ?_) (AllReadyIn.cons rfl (fun K hK => ?_) AllReadyIn.nil)
          · go_simp
            gi_wp2_with ((refine ⟨trivial, hdd _, ?_⟩; gi_at_call_has 69 (Value.slice ka kl kc); refine (callsIn_wide.2 (bytesClone_any _ k _ (HKK.out _ hT1).1 (by have := HLN.out.1; omega))).mono ?_; rintro e W2 ⟨v2, rfl, h2, ht2⟩; obtain ⟨va2, vl2, vc2, rfl⟩ := h2.form; have hT2 : Touch S W W2 := hT1.trans ht2.of_nil; have H2 := Lib.hid (show OwnB W1.heap.size W2 (.slice va2 vl2 vc2) k from h2); have HN2 := Lib.hid ht2; clear x0 x3 x4 y0 y1 h2 ht2; obtain ⟨x0, x3, x4, y0, y1⟩ := HST.out W2 hT2))
            first | refine hK _ _ ?_ | refine ⟨trivial, hK _ _ ?_⟩ | refine ⟨fun _ _ => trivial, hK _ _ ?_⟩ | skip
            try clear hK K
            refine wpAnyIn_ready (rs := [25]) (by kernel_rfl) (by simp) ?_
            refine AllReadyIn.cons rfl (fun K hK => ?_) AllReadyIn.nil
            go_simp
            first | refine hK _ _ ?_ | refine ⟨trivial, hK _ _ ?_⟩ | refine ⟨fun _ _ => trivial, hK _ _ ?_⟩ | skip
            try clear hK K
            refine wpAnyIn_ready (rs := [26]) (by kernel_rfl) (by simp) ?_
            refine AllReadyIn.cons rfl (fun K hK => ?_) AllReadyIn.nil
            go_simp
            gi_wp2_with ((refine ⟨trivial, hdd _, ?_⟩; gi_at_call_has 69 (Value.slice ua ul uc); refine (callsIn_wide.2 (bytesClone_any _ u _ (HKK.out _ hT2).2 (by have := HLN.out.2; omega))).mono ?_; rintro e W3 ⟨v3, rfl, h3, ht3⟩; obtain ⟨va3, vl3, vc3, rfl⟩ := h3.form; have hT3 : Touch S W W3 := hT2.trans ht3.of_nil; have H3 := Lib.hid (show OwnB W1.heap.size W3 (.slice va3 vl3 vc3) u from h3.base HN2.out.size); have HK3 := Lib.hid (show OwnB W1.heap.size W3 (.slice va2 vl2 vc2) k from H2.out.keep ht3 fun _ _ c => c); have HN3 := Lib.hid (HN2.out.trans ht3); have HD3 := Lib.hid (show ∀ b, OwnOf (.slice va2 vl2 vc2) b → ¬ OwnOf (.slice va3 vl3 vc3) b from fun b c1 c2 => (by have e1 := (H2.out.block b c1).2; have e2 := (h3.block b c2).1; omega)); clear x0 x3 x4 y0 y1 h3 ht3; obtain ⟨x0, x3, x4, y0, y1⟩ := HST.out W3 hT3; obtain ⟨fn, tmps, assign, body, hy, hRd⟩ := hY (n - 1) (i + tl.size) (k, u) W1 W3 _ _ HP.out HJ1.out HN3.out (Nat.le_trans HN.out hT1.size) HK3.out H3.out HD3.out))
            first | refine hK _ _ ?_ | refine ⟨trivial, hK _ _ ?_⟩ | refine ⟨fun _ _ => trivial, hK _ _ ?_⟩ | skip
            try clear hK K
            refine wpAnyIn_ready (rs := [27]) (by kernel_rfl) (by simp) ?_
            refine AllReadyIn.cons rfl (fun K hK => ?_) AllReadyIn.nil
            go_simp
            gi_wp2_with (((first | (refine ⟨hdd _, ?_⟩; refine hRd.mono ?_) | (refine ⟨trivial, hdd _, ?_⟩; refine hRd.mono ?_)); clear hRd hy; rintro e W4 ⟨rfl, hj4, ht4⟩; have hT4 : Touch S W W4 := hT3.trans ht4; have HJ4 := Lib.hid hj4; clear x0 x3 x4 y0 y1 hj4 ht4; obtain ⟨x0, x3, x4, y0, y1⟩ := HST.out W4 hT4))
            first | refine hK _ _ ?_ | refine ⟨trivial, hK _ _ ?_⟩ | refine ⟨fun _ _ => trivial, hK _ _ ?_⟩ | skip
            try clear hK K
            refine wpAnyIn_take (i := 28) (v := ?_) rfl rfl (by kernel_rfl) (by kernel_rfl) (by kernel_rfl) (fun _ _ _ h => h) ⟨Or.inl ⟨by kernel_rfl, ?_⟩, fun _ => rfl⟩ ?_
            rotate_left 1
            · intro w; go_simp; try with_reducible rfl
            refine wpAnyIn_take (i := 29) (v := ?_) rfl rfl (by kernel_rfl) (by kernel_rfl) (by kernel_rfl) (fun _ _ _ h => h) ⟨Or.inl ⟨by kernel_rfl, ?_⟩, fun _ => rfl⟩ ?_
            rotate_left 1
            · intro w; go_simp; try with_reducible rfl
            refine wpAnyIn_take (i := 30) (v := ?_) rfl rfl (by kernel_rfl) (by kernel_rfl) (by kernel_rfl) (fun _ _ _ h => h) ⟨Or.inl ⟨by kernel_rfl, ?_⟩, fun _ => rfl⟩ ?_
            rotate_left 1
            · intro w; go_simp; try with_reducible rfl
            refine wpAnyIn_take (i := 34) (v := ?_) rfl rfl (by kernel_rfl) (by kernel_rfl) (by kernel_rfl) (fun _ _ _ h => h) ⟨Or.inl ⟨by kernel_rfl, ?_⟩, fun _ => rfl⟩ ?_
            rotate_left 1
            · intro w; go_simp; try with_reducible rfl
            refine wpAnyIn_take (i := 31) (v := ?_) rfl rfl (by kernel_rfl) (by kernel_rfl) (by kernel_rfl) (fun _ _ _ h => h) ⟨Or.inl ⟨by kernel_rfl, ?_⟩, fun _ => rfl⟩ ?_
            rotate_left 1
            · intro w; go_simp; try with_reducible rfl
            refine wpAnyIn_take (i := 32) (v := ?_) rfl rfl (by kernel_rfl) (by kernel_rfl) (by kernel_rfl) (fun _ _ _ h => h) ⟨Or.inl ⟨by kernel_rfl, ?_⟩, fun _ => rfl⟩ ?_
            rotate_left 1
            · intro w; go_simp; try with_reducible rfl
            refine wpAnyIn_ready (rs := [33]) (by kernel_rfl) (by simp) ?_
            refine AllReadyIn.cons rfl (fun K hK => ?_) AllReadyIn.nil
            go_simp
            first | refine hK _ _ ?_ | refine ⟨trivial, hK _ _ ?_⟩ | refine ⟨fun _ _ => trivial, hK _ _ ?_⟩ | skip
            try clear hK K
            refine wpAnyIn_ready (rs := [35]) (by kernel_rfl) (by simp) ?_
            refine AllReadyIn.cons rfl (fun K hK => ?_) AllReadyIn.nil
            go_simp
            gi_wp2_with ((refine ⟨trivial, hdd _, ?_⟩; gi_at_call_has 96 (Value.pointer ra); refine (HIR.out (n - 1) (i + tl.size + 1) (HNV.out _ hT4).right HJ4.out (Nat.le_trans HN.out hT4.size) HLR.out).mono ?_; rintro e W5 ⟨rfl, hj5, ht5⟩; have HJ5 := Lib.hid hj5; have HT5 := Lib.hid (show Touch S W W5 from hT4.trans ht5); clear hj5 ht5))
            first | refine hK _ _ ?_ | refine ⟨trivial, hK _ _ ?_⟩ | refine ⟨fun _ _ => trivial, hK _ _ ?_⟩ | skip
            try clear hK K
            refine wpAnyIn_take (i := 36) (v := ?_) rfl rfl (by kernel_rfl) (by kernel_rfl) (by kernel_rfl) (fun _ _ _ h => h) ⟨Or.inl ⟨by kernel_rfl, ?_⟩, fun _ => rfl⟩ ?_
            rotate_left 1
            · intro w; go_simp; try with_reducible rfl
            refine wpAnyIn_take (i := 37) (v := ?_) rfl rfl (by kernel_rfl) (by kernel_rfl) (by kernel_rfl) (fun _ _ _ h => h) ⟨Or.inl ⟨by kernel_rfl, ?_⟩, fun _ => rfl⟩ ?_
            rotate_left 1
            · intro w; go_simp; try with_reducible rfl
            refine wpAnyIn_take (i := 38) (v := ?_) rfl rfl (by kernel_rfl) (by kernel_rfl) (by kernel_rfl) (fun _ _ _ h => h) ⟨Or.inl ⟨by kernel_rfl, ?_⟩, fun _ => rfl⟩ ?_
            rotate_left 1
            · intro w; go_simp; try with_reducible rfl
            refine wpAnyIn_done (by kernel_rfl) ?_ _
            gi_wp2
            go_ret
            exact ⟨rfl, by rw [HSZ.out]; exact HJ5.out, HT5.out⟩
          · go_simp
            first | refine hK _ _ ?_ | refine ⟨trivial, hK _ _ ?_⟩ | refine ⟨fun _ _ => trivial, hK _ _ ?_⟩ | skip
            try clear hK K
            refine wpAnyIn_ready (rs := [18]) (by kernel_rfl) (by simp) ?_
            refine AllReadyIn.cons rfl (fun K hK => ?_) AllReadyIn.nil
            go_simp
            gi_wp2_with ((refine ⟨trivial, hdd _, ?_⟩; gi_at_call_has 69 (Value.slice ka kl kc); refine (callsIn_wide.2 (bytesClone_any _ k _ (HKK.out _ hT1).1 (by have := HLN.out.1; omega))).mono ?_; rintro e W2 ⟨v2, rfl, h2, ht2⟩; obtain ⟨va2, vl2, vc2, rfl⟩ := h2.form; have hT2 : Touch S W W2 := hT1.trans ht2.of_nil; have H2 := Lib.hid (show OwnB W1.heap.size W2 (.slice va2 vl2 vc2) k from h2); have HN2 := Lib.hid ht2; clear x0 x3 x4 y0 y1 h2 ht2; obtain ⟨x0, x3, x4, y0, y1⟩ := HST.out W2 hT2))
            first | refine hK _ _ ?_ | refine ⟨trivial, hK _ _ ?_⟩ | refine ⟨fun _ _ => trivial, hK _ _ ?_⟩ | skip
            try clear hK K
            refine wpAnyIn_ready (rs := [26]) (by kernel_rfl) (by simp) ?_
            refine AllReadyIn.cons rfl (fun K hK => ?_) AllReadyIn.nil
            go_simp
            gi_wp2_with ((refine ⟨trivial, hdd _, ?_⟩; gi_at_call_has 69 (Value.slice ua ul uc); refine (callsIn_wide.2 (bytesClone_any _ u _ (HKK.out _ hT2).2 (by have := HLN.out.2; omega))).mono ?_; rintro e W3 ⟨v3, rfl, h3, ht3⟩; obtain ⟨va3, vl3, vc3, rfl⟩ := h3.form; have hT3 : Touch S W W3 := hT2.trans ht3.of_nil; have H3 := Lib.hid (show OwnB W1.heap.size W3 (.slice va3 vl3 vc3) u from h3.base HN2.out.size); have HK3 := Lib.hid (show OwnB W1.heap.size W3 (.slice va2 vl2 vc2) k from H2.out.keep ht3 fun _ _ c => c); have HN3 := Lib.hid (HN2.out.trans ht3); have HD3 := Lib.hid (show ∀ b, OwnOf (.slice va2 vl2 vc2) b → ¬ OwnOf (.slice va3 vl3 vc3) b from fun b c1 c2 => (by have e1 := (H2.out.block b c1).2; have e2 := (h3.block b c2).1; omega)); clear x0 x3 x4 y0 y1 h3 ht3; obtain ⟨x0, x3, x4, y0, y1⟩ := HST.out W3 hT3; obtain ⟨fn, tmps, assign, body, hy, hRd⟩ := hY (n - 1) (i + tl.size) (k, u) W1 W3 _ _ HP.out HJ1.out HN3.out (Nat.le_trans HN.out hT1.size) HK3.out H3.out HD3.out))
            first | refine hK _ _ ?_ | refine ⟨trivial, hK _ _ ?_⟩ | refine ⟨fun _ _ => trivial, hK _ _ ?_⟩ | skip
            try clear hK K
            refine wpAnyIn_ready (rs := [27]) (by kernel_rfl) (by simp) ?_
            refine AllReadyIn.cons rfl (fun K hK => ?_) AllReadyIn.nil
            go_simp
            gi_wp2_with (((first | (refine ⟨hdd _, ?_⟩; refine hRd.mono ?_) | (refine ⟨trivial, hdd _, ?_⟩; refine hRd.mono ?_)); clear hRd hy; rintro e W4 ⟨rfl, hj4, ht4⟩; have hT4 : Touch S W W4 := hT3.trans ht4; have HJ4 := Lib.hid hj4; clear x0 x3 x4 y0 y1 hj4 ht4; obtain ⟨x0, x3, x4, y0, y1⟩ := HST.out W4 hT4))
            first | refine hK _ _ ?_ | refine ⟨trivial, hK _ _ ?_⟩ | refine ⟨fun _ _ => trivial, hK _ _ ?_⟩ | skip
            try clear hK K
            refine wpAnyIn_take (i := 28) (v := ?_) rfl rfl (by kernel_rfl) (by kernel_rfl) (by kernel_rfl) (fun _ _ _ h => h) ⟨Or.inl ⟨by kernel_rfl, ?_⟩, fun _ => rfl⟩ ?_
            rotate_left 1
            · intro w; go_simp; try with_reducible rfl
            refine wpAnyIn_take (i := 29) (v := ?_) rfl rfl (by kernel_rfl) (by kernel_rfl) (by kernel_rfl) (fun _ _ _ h => h) ⟨Or.inl ⟨by kernel_rfl, ?_⟩, fun _ => rfl⟩ ?_
            rotate_left 1
            · intro w; go_simp; try with_reducible rfl
            refine wpAnyIn_take (i := 30) (v := ?_) rfl rfl (by kernel_rfl) (by kernel_rfl) (by kernel_rfl) (fun _ _ _ h => h) ⟨Or.inl ⟨by kernel_rfl, ?_⟩, fun _ => rfl⟩ ?_
            rotate_left 1
            · intro w; go_simp; try with_reducible rfl
            refine wpAnyIn_take (i := 34) (v := ?_) rfl rfl (by kernel_rfl) (by kernel_rfl) (by kernel_rfl) (fun _ _ _ h => h) ⟨Or.inl ⟨by kernel_rfl, ?_⟩, fun _ => rfl⟩ ?_
            rotate_left 1
            · intro w; go_simp; try with_reducible rfl
            refine wpAnyIn_take (i := 31) (v := ?_) rfl rfl (by kernel_rfl) (by kernel_rfl) (by kernel_rfl) (fun _ _ _ h => h) ⟨Or.inl ⟨by kernel_rfl, ?_⟩, fun _ => rfl⟩ ?_
            rotate_left 1
            · intro w; go_simp; try with_reducible rfl
            refine wpAnyIn_take (i := 32) (v := ?_) rfl rfl (by kernel_rfl) (by kernel_rfl) (by kernel_rfl) (fun _ _ _ h => h) ⟨Or.inl ⟨by kernel_rfl, ?_⟩, fun _ => rfl⟩ ?_
            rotate_left 1
            · intro w; go_simp; try with_reducible rfl
            refine wpAnyIn_ready (rs := [33]) (by kernel_rfl) (by simp) ?_
            refine AllReadyIn.cons rfl (fun K hK => ?_) AllReadyIn.nil
            go_simp
            first | refine hK _ _ ?_ | refine ⟨trivial, hK _ _ ?_⟩ | refine ⟨fun _ _ => trivial, hK _ _ ?_⟩ | skip
            try clear hK K
            refine wpAnyIn_ready (rs := [35]) (by kernel_rfl) (by simp) ?_
            refine AllReadyIn.cons rfl (fun K hK => ?_) AllReadyIn.nil
            go_simp
            gi_wp2_with ((refine ⟨trivial, hdd _, ?_⟩; gi_at_call_has 96 (Value.pointer ra); refine (HIR.out (n - 1) (i + tl.size + 1) (HNV.out _ hT4).right HJ4.out (Nat.le_trans HN.out hT4.size) HLR.out).mono ?_; rintro e W5 ⟨rfl, hj5, ht5⟩; have HJ5 := Lib.hid hj5; have HT5 := Lib.hid (show Touch S W W5 from hT4.trans ht5); clear hj5 ht5))
            first | refine hK _ _ ?_ | refine ⟨trivial, hK _ _ ?_⟩ | refine ⟨fun _ _ => trivial, hK _ _ ?_⟩ | skip
            try clear hK K
            refine wpAnyIn_take (i := 36) (v := ?_) rfl rfl (by kernel_rfl) (by kernel_rfl) (by kernel_rfl) (fun _ _ _ h => h) ⟨Or.inl ⟨by kernel_rfl, ?_⟩, fun _ => rfl⟩ ?_
            rotate_left 1
            · intro w; go_simp; try with_reducible rfl
            refine wpAnyIn_take (i := 37) (v := ?_) rfl rfl (by kernel_rfl) (by kernel_rfl) (by kernel_rfl) (fun _ _ _ h => h) ⟨Or.inl ⟨by kernel_rfl, ?_⟩, fun _ => rfl⟩ ?_
            rotate_left 1
            · intro w; go_simp; try with_reducible rfl
            refine wpAnyIn_take (i := 38) (v := ?_) rfl rfl (by kernel_rfl) (by kernel_rfl) (by kernel_rfl) (fun _ _ _ h => h) ⟨Or.inl ⟨by kernel_rfl, ?_⟩, fun _ => rfl⟩ ?_
            rotate_left 1
            · intro w; go_simp; try with_reducible rfl
            refine wpAnyIn_done (by kernel_rfl) ?_ _
            gi_wp2
            go_ret
            exact ⟨rfl, by rw [HSZ.out]; exact HJ5.out, HT5.out⟩
        · go_simp
          first | refine hK _ _ ?_ | refine ⟨trivial, hK _ _ ?_⟩ | refine ⟨fun _ _ => trivial, hK _ _ ?_⟩ | skip
          try clear hK K
          refine wpAnyIn_ready (rs := [17]) (by kernel_rfl) (by simp) ?_
          refine AllReadyIn.cons rfl (fun K hK => ?_) AllReadyIn.nil
          go_simp
          first | refine hK _ _ ?_ | refine ⟨trivial, hK _ _ ?_⟩ | refine ⟨fun _ _ => trivial, hK _ _ ?_⟩ | skip
          try clear hK K
          refine wpAnyIn_ready (rs := [18]) (by kernel_rfl) (by simp) ?_
          refine AllReadyIn.cons rfl (fun K hK => ?_) AllReadyIn.nil
          go_simp
          gi_wp2_with ((refine ⟨trivial, hdd _, ?_⟩; gi_at_call_has 69 (Value.slice ka kl kc); refine (callsIn_wide.2 (bytesClone_any _ k _ (HKK.out _ hT1).1 (by have := HLN.out.1; omega))).mono ?_; rintro e W2 ⟨v2, rfl, h2, ht2⟩; obtain ⟨va2, vl2, vc2, rfl⟩ := h2.form; have hT2 : Touch S W W2 := hT1.trans ht2.of_nil; have H2 := Lib.hid (show OwnB W1.heap.size W2 (.slice va2 vl2 vc2) k from h2); have HN2 := Lib.hid ht2; clear x0 x3 x4 y0 y1 h2 ht2; obtain ⟨x0, x3, x4, y0, y1⟩ := HST.out W2 hT2))
          first | refine hK _ _ ?_ | refine ⟨trivial, hK _ _ ?_⟩ | refine ⟨fun _ _ => trivial, hK _ _ ?_⟩ | skip
          try clear hK K
          refine wpAnyIn_ready (rs := [26]) (by kernel_rfl) (by simp) ?_
          refine AllReadyIn.cons rfl (fun K hK => ?_) AllReadyIn.nil
          go_simp
          gi_wp2_with ((refine ⟨trivial, hdd _, ?_⟩; gi_at_call_has 69 (Value.slice ua ul uc); refine (callsIn_wide.2 (bytesClone_any _ u _ (HKK.out _ hT2).2 (by have := HLN.out.2; omega))).mono ?_; rintro e W3 ⟨v3, rfl, h3, ht3⟩; obtain ⟨va3, vl3, vc3, rfl⟩ := h3.form; have hT3 : Touch S W W3 := hT2.trans ht3.of_nil; have H3 := Lib.hid (show OwnB W1.heap.size W3 (.slice va3 vl3 vc3) u from h3.base HN2.out.size); have HK3 := Lib.hid (show OwnB W1.heap.size W3 (.slice va2 vl2 vc2) k from H2.out.keep ht3 fun _ _ c => c); have HN3 := Lib.hid (HN2.out.trans ht3); have HD3 := Lib.hid (show ∀ b, OwnOf (.slice va2 vl2 vc2) b → ¬ OwnOf (.slice va3 vl3 vc3) b from fun b c1 c2 => (by have e1 := (H2.out.block b c1).2; have e2 := (h3.block b c2).1; omega)); clear x0 x3 x4 y0 y1 h3 ht3; obtain ⟨x0, x3, x4, y0, y1⟩ := HST.out W3 hT3; obtain ⟨fn, tmps, assign, body, hy, hRd⟩ := hY (n - 1) (i + tl.size) (k, u) W1 W3 _ _ HP.out HJ1.out HN3.out (Nat.le_trans HN.out hT1.size) HK3.out H3.out HD3.out))
          first | refine hK _ _ ?_ | refine ⟨trivial, hK _ _ ?_⟩ | refine ⟨fun _ _ => trivial, hK _ _ ?_⟩ | skip
          try clear hK K
          refine wpAnyIn_ready (rs := [27]) (by kernel_rfl) (by simp) ?_
          refine AllReadyIn.cons rfl (fun K hK => ?_) AllReadyIn.nil
          go_simp
          gi_wp2_with (((first | (refine ⟨hdd _, ?_⟩; refine hRd.mono ?_) | (refine ⟨trivial, hdd _, ?_⟩; refine hRd.mono ?_)); clear hRd hy; rintro e W4 ⟨rfl, hj4, ht4⟩; have hT4 : Touch S W W4 := hT3.trans ht4; have HJ4 := Lib.hid hj4; clear x0 x3 x4 y0 y1 hj4 ht4; obtain ⟨x0, x3, x4, y0, y1⟩ := HST.out W4 hT4))
          first | refine hK _ _ ?_ | refine ⟨trivial, hK _ _ ?_⟩ | refine ⟨fun _ _ => trivial, hK _ _ ?_⟩ | skip
          try clear hK K
          refine wpAnyIn_take (i := 28) (v := ?_) rfl rfl (by kernel_rfl) (by kernel_rfl) (by kernel_rfl) (fun _ _ _ h => h) ⟨Or.inl ⟨by kernel_rfl, ?_⟩, fun _ => rfl⟩ ?_
          rotate_left 1
          · intro w; go_simp; try with_reducible rfl
          refine wpAnyIn_take (i := 29) (v := ?_) rfl rfl (by kernel_rfl) (by kernel_rfl) (by kernel_rfl) (fun _ _ _ h => h) ⟨Or.inl ⟨by kernel_rfl, ?_⟩, fun _ => rfl⟩ ?_
          rotate_left 1
          · intro w; go_simp; try with_reducible rfl
          refine wpAnyIn_take (i := 30) (v := ?_) rfl rfl (by kernel_rfl) (by kernel_rfl) (by kernel_rfl) (fun _ _ _ h => h) ⟨Or.inl ⟨by kernel_rfl, ?_⟩, fun _ => rfl⟩ ?_
          rotate_left 1
          · intro w; go_simp; try with_reducible rfl
          refine wpAnyIn_take (i := 34) (v := ?_) rfl rfl (by kernel_rfl) (by kernel_rfl) (by kernel_rfl) (fun _ _ _ h => h) ⟨Or.inl ⟨by kernel_rfl, ?_⟩, fun _ => rfl⟩ ?_
          rotate_left 1
          · intro w; go_simp; try with_reducible rfl
          refine wpAnyIn_take (i := 31) (v := ?_) rfl rfl (by kernel_rfl) (by kernel_rfl) (by kernel_rfl) (fun _ _ _ h => h) ⟨Or.inl ⟨by kernel_rfl, ?_⟩, fun _ => rfl⟩ ?_
          rotate_left 1
          · intro w; go_simp; try with_reducible rfl
          refine wpAnyIn_take (i := 32) (v := ?_) rfl rfl (by kernel_rfl) (by kernel_rfl) (by kernel_rfl) (fun _ _ _ h => h) ⟨Or.inl ⟨by kernel_rfl, ?_⟩, fun _ => rfl⟩ ?_
          rotate_left 1
          · intro w; go_simp; try with_reducible rfl
          refine wpAnyIn_ready (rs := [33]) (by kernel_rfl) (by simp) ?_
          refine AllReadyIn.cons rfl (fun K hK => ?_) AllReadyIn.nil
          go_simp
          first | refine hK _ _ ?_ | refine ⟨trivial, hK _ _ ?_⟩ | refine ⟨fun _ _ => trivial, hK _ _ ?_⟩ | skip
          try clear hK K
          refine wpAnyIn_ready (rs := [35]) (by kernel_rfl) (by simp) ?_
          refine AllReadyIn.cons rfl (fun K hK => ?_) AllReadyIn.nil
          go_simp
          gi_wp2_with ((refine ⟨trivial, hdd _, ?_⟩; gi_at_call_has 96 (Value.pointer ra); refine (HIR.out (n - 1) (i + tl.size + 1) (HNV.out _ hT4).right HJ4.out (Nat.le_trans HN.out hT4.size) HLR.out).mono ?_; rintro e W5 ⟨rfl, hj5, ht5⟩; have HJ5 := Lib.hid hj5; have HT5 := Lib.hid (show Touch S W W5 from hT4.trans ht5); clear hj5 ht5))
          first | refine hK _ _ ?_ | refine ⟨trivial, hK _ _ ?_⟩ | refine ⟨fun _ _ => trivial, hK _ _ ?_⟩ | skip
          try clear hK K
          refine wpAnyIn_take (i := 36) (v := ?_) rfl rfl (by kernel_rfl) (by kernel_rfl) (by kernel_rfl) (fun _ _ _ h => h) ⟨Or.inl ⟨by kernel_rfl, ?_⟩, fun _ => rfl⟩ ?_
          rotate_left 1
          · intro w; go_simp; try with_reducible rfl
          refine wpAnyIn_take (i := 37) (v := ?_) rfl rfl (by kernel_rfl) (by kernel_rfl) (by kernel_rfl) (fun _ _ _ h => h) ⟨Or.inl ⟨by kernel_rfl, ?_⟩, fun _ => rfl⟩ ?_
          rotate_left 1
          · intro w; go_simp; try with_reducible rfl
          refine wpAnyIn_take (i := 38) (v := ?_) rfl rfl (by kernel_rfl) (by kernel_rfl) (by kernel_rfl) (fun _ _ _ h => h) ⟨Or.inl ⟨by kernel_rfl, ?_⟩, fun _ => rfl⟩ ?_
          rotate_left 1
          · intro w; go_simp; try with_reducible rfl
          refine wpAnyIn_done (by kernel_rfl) ?_ _
          gi_wp2
          go_ret
          exact ⟨rfl, by rw [HSZ.out]; exact HJ5.out, HT5.out⟩
      · go_simp
        first | refine hK _ _ ?_ | refine ⟨trivial, hK _ _ ?_⟩ | refine ⟨fun _ _ => trivial, hK _ _ ?_⟩ | skip
        try clear hK K
        refine wpAnyIn_ready (rs := [14]) (by kernel_rfl) (by simp) ?_
        refine AllReadyIn.cons rfl (fun K hK => ?_) AllReadyIn.nil
        go_simp
        first | refine hK _ _ ?_ | refine ⟨trivial, hK _ _ ?_⟩ | refine ⟨fun _ _ => trivial, hK _ _ ?_⟩ | skip
        try clear hK K
        refine wpAnyIn_take (i := 15) (v := ?_) rfl rfl (by kernel_rfl) (by kernel_rfl) (by kernel_rfl) (fun _ _ _ h => h) ⟨Or.inl ⟨by kernel_rfl, ?_⟩, fun _ => rfl⟩ ?_
        rotate_left 1
        · intro w; go_simp; try with_reducible rfl
        refine wpAnyIn_take (i := 16) (v := ?_) rfl rfl (by kernel_rfl) (by kernel_rfl) (by kernel_rfl) (fun _ _ _ h => h) ⟨Or.inl ⟨by kernel_rfl, ?_⟩, fun _ => rfl⟩ ?_
        rotate_left 1
        · intro w; go_simp; try with_reducible rfl
        refine wpAnyIn_ready (rs := [17]) (by kernel_rfl) (by simp) ?_
        refine AllReadyIn.cons rfl (fun K hK => ?_) AllReadyIn.nil
        go_simp
        first | refine hK _ _ ?_ | refine ⟨trivial, hK _ _ ?_⟩ | refine ⟨fun _ _ => trivial, hK _ _ ?_⟩ | skip
        try clear hK K
        refine wpAnyIn_ready (rs := [18]) (by kernel_rfl) (by simp) ?_
        refine AllReadyIn.cons rfl (fun K hK => ?_) AllReadyIn.nil
        go_simp
        gi_wp2_with ((refine ⟨trivial, hdd _, ?_⟩; gi_at_call_has 69 (Value.slice ka kl kc); refine (callsIn_wide.2 (bytesClone_any _ k _ (HKK.out _ hT1).1 (by have := HLN.out.1; omega))).mono ?_; rintro e W2 ⟨v2, rfl, h2, ht2⟩; obtain ⟨va2, vl2, vc2, rfl⟩ := h2.form; have hT2 : Touch S W W2 := hT1.trans ht2.of_nil; have H2 := Lib.hid (show OwnB W1.heap.size W2 (.slice va2 vl2 vc2) k from h2); have HN2 := Lib.hid ht2; clear x0 x3 x4 y0 y1 h2 ht2; obtain ⟨x0, x3, x4, y0, y1⟩ := HST.out W2 hT2))
        first | refine hK _ _ ?_ | refine ⟨trivial, hK _ _ ?_⟩ | refine ⟨fun _ _ => trivial, hK _ _ ?_⟩ | skip
        try clear hK K
        refine wpAnyIn_ready (rs := [26]) (by kernel_rfl) (by simp) ?_
        refine AllReadyIn.cons rfl (fun K hK => ?_) AllReadyIn.nil
        go_simp
        gi_wp2_with ((refine ⟨trivial, hdd _, ?_⟩; gi_at_call_has 69 (Value.slice ua ul uc); refine (callsIn_wide.2 (bytesClone_any _ u _ (HKK.out _ hT2).2 (by have := HLN.out.2; omega))).mono ?_; rintro e W3 ⟨v3, rfl, h3, ht3⟩; obtain ⟨va3, vl3, vc3, rfl⟩ := h3.form; have hT3 : Touch S W W3 := hT2.trans ht3.of_nil; have H3 := Lib.hid (show OwnB W1.heap.size W3 (.slice va3 vl3 vc3) u from h3.base HN2.out.size); have HK3 := Lib.hid (show OwnB W1.heap.size W3 (.slice va2 vl2 vc2) k from H2.out.keep ht3 fun _ _ c => c); have HN3 := Lib.hid (HN2.out.trans ht3); have HD3 := Lib.hid (show ∀ b, OwnOf (.slice va2 vl2 vc2) b → ¬ OwnOf (.slice va3 vl3 vc3) b from fun b c1 c2 => (by have e1 := (H2.out.block b c1).2; have e2 := (h3.block b c2).1; omega)); clear x0 x3 x4 y0 y1 h3 ht3; obtain ⟨x0, x3, x4, y0, y1⟩ := HST.out W3 hT3; obtain ⟨fn, tmps, assign, body, hy, hRd⟩ := hY (n - 1) (i + tl.size) (k, u) W1 W3 _ _ HP.out HJ1.out HN3.out (Nat.le_trans HN.out hT1.size) HK3.out H3.out HD3.out))
        first | refine hK _ _ ?_ | refine ⟨trivial, hK _ _ ?_⟩ | refine ⟨fun _ _ => trivial, hK _ _ ?_⟩ | skip
        try clear hK K
        refine wpAnyIn_ready (rs := [27]) (by kernel_rfl) (by simp) ?_
        refine AllReadyIn.cons rfl (fun K hK => ?_) AllReadyIn.nil
        go_simp
        gi_wp2_with (((first | (refine ⟨hdd _, ?_⟩; refine hRd.mono ?_) | (refine ⟨trivial, hdd _, ?_⟩; refine hRd.mono ?_)); clear hRd hy; rintro e W4 ⟨rfl, hj4, ht4⟩; have hT4 : Touch S W W4 := hT3.trans ht4; have HJ4 := Lib.hid hj4; clear x0 x3 x4 y0 y1 hj4 ht4; obtain ⟨x0, x3, x4, y0, y1⟩ := HST.out W4 hT4))
        first | refine hK _ _ ?_ | refine ⟨trivial, hK _ _ ?_⟩ | refine ⟨fun _ _ => trivial, hK _ _ ?_⟩ | skip
        try clear hK K
        refine wpAnyIn_take (i := 28) (v := ?_) rfl rfl (by kernel_rfl) (by kernel_rfl) (by kernel_rfl) (fun _ _ _ h => h) ⟨Or.inl ⟨by kernel_rfl, ?_⟩, fun _ => rfl⟩ ?_
        rotate_left 1
        · intro w; go_simp; try with_reducible rfl
        refine wpAnyIn_take (i := 29) (v := ?_) rfl rfl (by kernel_rfl) (by kernel_rfl) (by kernel_rfl) (fun _ _ _ h => h) ⟨Or.inl ⟨by kernel_rfl, ?_⟩, fun _ => rfl⟩ ?_
        rotate_left 1
        · intro w; go_simp; try with_reducible rfl
        refine wpAnyIn_take (i := 30) (v := ?_) rfl rfl (by kernel_rfl) (by kernel_rfl) (by kernel_rfl) (fun _ _ _ h => h) ⟨Or.inl ⟨by kernel_rfl, ?_⟩, fun _ => rfl⟩ ?_
        rotate_left 1
        · intro w; go_simp; try with_reducible rfl
        refine wpAnyIn_take (i := 34) (v := ?_) rfl rfl (by kernel_rfl) (by kernel_rfl) (by kernel_rfl) (fun _ _ _ h => h) ⟨Or.inl ⟨by kernel_rfl, ?_⟩, fun _ => rfl⟩ ?_
        rotate_left 1
        · intro w; go_simp; try with_reducible rfl
        refine wpAnyIn_take (i := 31) (v := ?_) rfl rfl (by kernel_rfl) (by kernel_rfl) (by kernel_rfl) (fun _ _ _ h => h) ⟨Or.inl ⟨by kernel_rfl, ?_⟩, fun _ => rfl⟩ ?_
        rotate_left 1
        · intro w; go_simp; try with_reducible rfl
        refine wpAnyIn_take (i := 32) (v := ?_) rfl rfl (by kernel_rfl) (by kernel_rfl) (by kernel_rfl) (fun _ _ _ h => h) ⟨Or.inl ⟨by kernel_rfl, ?_⟩, fun _ => rfl⟩ ?_
        rotate_left 1
        · intro w; go_simp; try with_reducible rfl
        refine wpAnyIn_ready (rs := [33]) (by kernel_rfl) (by simp) ?_
        refine AllReadyIn.cons rfl (fun K hK => ?_) AllReadyIn.nil
        go_simp
        first | refine hK _ _ ?_ | refine ⟨trivial, hK _ _ ?_⟩ | refine ⟨fun _ _ => trivial, hK _ _ ?_⟩ | skip
        try clear hK K
        refine wpAnyIn_ready (rs := [35]) (by kernel_rfl) (by simp) ?_
        refine AllReadyIn.cons rfl (fun K hK => ?_) AllReadyIn.nil
        go_simp
        gi_wp2_with ((refine ⟨trivial, hdd _, ?_⟩; gi_at_call_has 96 (Value.pointer ra); refine (HIR.out (n - 1) (i + tl.size + 1) (HNV.out _ hT4).right HJ4.out (Nat.le_trans HN.out hT4.size) HLR.out).mono ?_; rintro e W5 ⟨rfl, hj5, ht5⟩; have HJ5 := Lib.hid hj5; have HT5 := Lib.hid (show Touch S W W5 from hT4.trans ht5); clear hj5 ht5))
        first | refine hK _ _ ?_ | refine ⟨trivial, hK _ _ ?_⟩ | refine ⟨fun _ _ => trivial, hK _ _ ?_⟩ | skip
        try clear hK K
        refine wpAnyIn_take (i := 36) (v := ?_) rfl rfl (by kernel_rfl) (by kernel_rfl) (by kernel_rfl) (fun _ _ _ h => h) ⟨Or.inl ⟨by kernel_rfl, ?_⟩, fun _ => rfl⟩ ?_
        rotate_left 1
        · intro w; go_simp; try with_reducible rfl
        refine wpAnyIn_take (i := 37) (v := ?_) rfl rfl (by kernel_rfl) (by kernel_rfl) (by kernel_rfl) (fun _ _ _ h => h) ⟨Or.inl ⟨by kernel_rfl, ?_⟩, fun _ => rfl⟩ ?_
        rotate_left 1
        · intro w; go_simp; try with_reducible rfl
        refine wpAnyIn_take (i := 38) (v := ?_) rfl rfl (by kernel_rfl) (by kernel_rfl) (by kernel_rfl) (fun _ _ _ h => h) ⟨Or.inl ⟨by kernel_rfl, ?_⟩, fun _ => rfl⟩ ?_
        rotate_left 1
        · intro w; go_simp; try with_reducible rfl
        refine wpAnyIn_done (by kernel_rfl) ?_ _
        gi_wp2
        go_ret
        exact ⟨rfl, by rw [HSZ.out]; exact HJ5.out, HT5.out⟩
theorem RoundOf.two {S : Nat → Prop} {n₀ l : Nat} {J : Nat → World → Prop} {L : Pairs} (hJ : ∀ i W W', J i W → Touch Nil W W' → J i W') (h : RoundOf S n₀ l J L) : RoundOf2 S n₀ l J L :=
  fun m i p _ W kx ux hp hj ht hn hk hu hd => h m i p W kx ux hp (hJ _ _ _ hj ht) (Nat.le_trans hn ht.size) (hk.base hn) (hu.base hn) hd
theorem each_any {seed : Int} {R S : Nat → Prop} {n₀ l : Nat} (hR : ∀ b, R b → ¬ S b) (J : Nat → World → Prop) (hJ : ∀ i W W', J i W → Touch Nil W W' → J i W') (L : Pairs) (hY : RoundOf S n₀ l J L) :
    ∀ (t : Tree) (n i : Nat) {v : Value} {W : World}, TreeAt seed R W t v → J i W → n₀ ≤ W.heap.size → (∀ j p, t.toL[j]? = some p → L[i + j]? = some p) →
      CallsIn Fence.wide n Try.prog 96 #[v, .func (.yield l) #[] #[]] W (EachPost S J (i + t.size) W) :=
  each2_any hR J hJ L (hY.two hJ)
end Go.Proofs.Ytkkpcndpjkebkaa
