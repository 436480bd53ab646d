import Derived.Test.YtbckakpgfmcljaaNodeO
/- Trees are split and merged. -/
namespace Go.Proofs.Ytbckakpgfmcljaa
open Go.ChangeShapes Go.WideShapes Go.ChangeAt Go.RowKit Go.Deep

theorem split_size (k : Key) : ∀ t : Tree, (splitT k t).1.size + (splitT k t).2.size = t.size
  | .nil => rfl
  | .node l x v r => by
    have h1 := split_size k l
    have h2 := split_size k r
    by_cases c : klt x k = true
    · simp only [splitT, c, if_true, Tree.size]; omega
    · simp only [splitT, c, Tree.size]; simp only [Bool.false_eq_true, if_false, Tree.size]; omega
theorem merge_size (ab : Key → Key → Bool) (a b : Tree) : (mergeT ab a b).size = a.size + b.size := by
  rw [size_toL, merge_toL, List.length_append, ← size_toL, ← size_toL]

def SplitPost (seed : Int) (R : Nat → Prop) (p : Tree × Tree) (w : World) (e : Ending) (w' : World) : Prop := ∃ a b, e = .returned (.tuple #[a, b]) ∧ TreeAt seed R w' p.1 a ∧ TreeAt seed R w' p.2 b ∧ Touch Nil w w'
set_option maxRecDepth 100000 in
set_option maxHeartbeats 2000000 in
theorem split_any {seed : Int} {R : Nat → Prop} {kx : Value} {key : Key} : ∀ (t : Tree) {w : World} {v : Value}, TreeAt seed R w t v → BV w kx key → (∀ b, w.heap.size ≤ b → R b) → t.size ≤ 1000000000 →
    Calls Try.prog 90 #[v, .int .u64 seed, kx] w (SplitPost seed R (splitT key t) w) := by
  intro t
  induction t with
  | nil =>
    intro w v h hk hR hsz
    obtain rfl : v = _ := h
    obtain ⟨qa, qc, rfl, _, _⟩ := hk
    go_enter Try.func90, Try.ntmps90
    go_wp2_with fail
    go_ret2
    exact ⟨_, _, rfl, rfl, rfl, Touch.refl _ _⟩
  | node l k u r ihl ihr =>
    intro w v h hk hR hsz
    obtain ⟨b, ib, la, ra, rfl, hn⟩ := h.node
    simp only [Tree.size] at hsz
    have IHL := Lib.hid (ihl hn.left hk hR (by omega))
    have IHR := Lib.hid (ihr hn.right hk hR (by omega))
    have HN := Lib.hid hn
    have HR := Lib.hid hR
    have HZL := Lib.hid (split_size key l)
    have HZR := Lib.hid (split_size key r)
    obtain ⟨_, kv, uv, e, _, hih, hmk, _, _⟩ := hn.item
    cases e
    obtain ⟨x0, _, _, x3, x4⟩ := node_cells hn.blk
    obtain ⟨y0, _, _⟩ := item_cells hih
    have HC := Lib.hid (compareP_any hmk.bv hk)
    obtain ⟨ka, kl, kc, rfl⟩ := hmk.1.form
    obtain ⟨qa, qc, rfl, _, _⟩ := hk
    have HE : ∃ ql, key.length = ql := ⟨_, rfl⟩
    obtain ⟨ql, eql⟩ := HE
    rw [eql] at HC IHL IHR ⊢
    have HSP := Lib.hid (show splitT key (.node l k u r) = if klt k key = true then (.node l k u (splitT key r).1, (splitT key r).2) else ((splitT key l).1, .node (splitT key l).2 k u r) from rfl)
    clear ihl ihr hn hih hmk hR eql h
    cases hq : klt k key with
    | true =>
      have HQ := Lib.hid hq
      have hz : decide (Lib.compareBytes k key < 0) = true := hq
      generalize Lib.compareBytes k key = z at *
      clear hq IHL
      go_enter Try.func90, Try.ntmps90
      go_wp2_with fail
      refine HC.out.mono ?_
      rintro e w' ⟨rfl, rfl⟩
      go_wp2_with fail
      refine IHR.out.mono ?_
      rintro e w2 ⟨a2, b2, rfl, ha, hb, ht⟩
      obtain ⟨aa, rfl⟩ := ha.form
      obtain ⟨ba, rfl⟩ := hb.form
      have x3 := cell_step x3 ht
      have HA := Lib.hid ha
      have HB := Lib.hid hb
      have HT := Lib.hid ht
      clear ha hb ht
      go_wp2_with fail
      refine (over_any (HN.out.keepN HT.out).tree (HN.out.left.keepN HT.out) HA.out (fun b hb => HR.out b (Nat.le_trans HT.out.size hb)) (by have := HZR.out; omega)).mono ?_
      rintro e w3 ⟨v3, rfl, h3, ht3⟩
      obtain ⟨va, rfl⟩ := h3.form
      have H3 := Lib.hid (And.intro h3 ht3)
      clear h3 ht3
      go_wp2_with fail
      go_ret2
      refine ⟨_, _, rfl, ?_, ?_, HT.out.trans H3.out.2⟩
      · rw [HSP.out, if_pos HQ.out]; exact H3.out.1
      · rw [HSP.out, if_pos HQ.out]; exact HB.out.keepN H3.out.2
    | false =>
      have HQ := Lib.hid (show ¬ klt k key = true by rw [hq]; decide)
      have hz : decide (Lib.compareBytes k key < 0) = false := hq
      generalize Lib.compareBytes k key = z at *
      clear hq IHR
      go_enter Try.func90, Try.ntmps90
      go_wp2_with fail
      refine HC.out.mono ?_
      rintro e w' ⟨rfl, rfl⟩
      go_wp2_with fail
      refine IHL.out.mono ?_
      rintro e w2 ⟨a2, b2, rfl, ha, hb, ht⟩
      obtain ⟨aa, rfl⟩ := ha.form
      obtain ⟨ba, rfl⟩ := hb.form
      have x4 := cell_step x4 ht
      have HA := Lib.hid ha
      have HB := Lib.hid hb
      have HT := Lib.hid ht
      clear ha hb ht
      go_wp2_with fail
      refine (over_any (HN.out.keepN HT.out).tree HB.out (HN.out.right.keepN HT.out) (fun b hb => HR.out b (Nat.le_trans HT.out.size hb)) (by have := HZL.out; omega)).mono ?_
      rintro e w3 ⟨v3, rfl, h3, ht3⟩
      obtain ⟨va, rfl⟩ := h3.form
      have H3 := Lib.hid (And.intro h3 ht3)
      clear h3 ht3
      go_wp2_with fail
      go_ret2
      refine ⟨_, _, rfl, ?_, ?_, HT.out.trans H3.out.2⟩
      · rw [HSP.out, if_neg HQ.out]; exact HA.out.keepN H3.out.2
      · rw [HSP.out, if_neg HQ.out]; exact H3.out.1

/-- What is known of two cells while a region goes on. -/
abbrev Ld2 (b o : Nat) (x : Value) (b' o' : Nat) (y : Value) (w0 w' : World) : Prop := w'.cell? ⟨b, o, none⟩ = some x ∧ w'.cell? ⟨b', o', none⟩ = some y ∧ Hid (Touch Nil w0 w')
theorem Ld2.step {b o b' o' : Nat} {x y : Value} {w0 w w' : World} (h : Ld2 b o x b' o' y w0 w) (ht : Touch Nil w w') : Ld2 b o x b' o' y w0 w' := ⟨cell_step h.1 ht, cell_step h.2.1 ht, Lib.hid (h.2.2.out.trans ht)⟩

set_option maxRecDepth 100000 in
set_option maxHeartbeats 2000000 in
theorem merge_any {seed : Int} {R : Nat → Prop} : ∀ (n : Nat) (s t : Tree) {w : World} {v v' : Value}, s.size + t.size ≤ n → TreeAt seed R w s v → TreeAt seed R w t v' → (∀ b, w.heap.size ≤ b → R b) → s.size + t.size ≤ 1000000000 →
    Calls Try.prog 94 #[.int .u64 seed, v, v'] w (TreePost seed R (mergeT (abv seed) s t) w) := by
  intro n
  induction n with
  | zero =>
    intro s t w v v' hn h h' hR hsz
    cases s with
    | node l k u r => simp only [Tree.size] at hn; omega
    | nil =>
      obtain rfl : v = _ := h
      have HH := Lib.hid h'
      have HM := Lib.hid (show mergeT (abv seed) .nil t = t by rw [mergeT])
      obtain ⟨a', rfl⟩ := h'.form
      clear h'
      go_enter Try.func94, Try.ntmps94
      go_wp2_with fail
      go_ret
      exact ⟨_, rfl, by rw [HM.out]; exact HH.out, Touch.refl _ _⟩
  | succ n ih =>
    intro s t w v v' hn h h' hR hsz
    cases s with
    | nil =>
      obtain rfl : v = _ := h
      have HH := Lib.hid h'
      have HM := Lib.hid (show mergeT (abv seed) .nil t = t by rw [mergeT])
      obtain ⟨a', rfl⟩ := h'.form
      clear h' ih
      go_enter Try.func94, Try.ntmps94
      go_wp2_with fail
      go_ret
      exact ⟨_, rfl, by rw [HM.out]; exact HH.out, Touch.refl _ _⟩
    | node l x u r =>
      cases t with
      | nil =>
        obtain rfl : v' = _ := h'
        have HM := Lib.hid (show mergeT (abv seed) (.node l x u r) .nil = .node l x u r by rw [mergeT])
        obtain ⟨b, ib, la, ra, rfl, hnv⟩ := h.node
        have HH := Lib.hid hnv
        clear h ih hnv
        go_enter Try.func94, Try.ntmps94
        go_wp2_with fail
        go_ret
        exact ⟨_, rfl, by rw [HM.out]; exact HH.out.tree, Touch.refl _ _⟩
      | node l' y u' r' =>
        obtain ⟨b, ib, la, ra, rfl, hn1⟩ := h.node
        obtain ⟨b', ib', la', ra', rfl, hn2⟩ := h'.node
        have HN1 := Lib.hid hn1
        have HN2 := Lib.hid hn2
        have HR := Lib.hid hR
        obtain ⟨x0, _, _, x3, x4⟩ := node_cells hn1.blk
        obtain ⟨y0, _, _, y3, y4⟩ := node_cells hn2.blk
        have HAB := Lib.hid (fun n => above_any (hn1.item.keepN ((Touch.refl Nil w).drewN n)) (hn2.item.keepN ((Touch.refl Nil w).drewN n)))
        have HM := Lib.hid (show mergeT (abv seed) (.node l x u r) (.node l' y u' r') = if abv seed x y = true then .node l x u (mergeT (abv seed) r (.node l' y u' r')) else .node (mergeT (abv seed) (.node l x u r) l') y u' r' by rw [mergeT])
        have HI1 := Lib.hid (fun w' (ht : Touch Nil w w') => ih r (.node l' y u' r') (w := w') (by simp only [Tree.size] at hn ⊢; omega) (hn1.right.keepN ht) (hn2.tree.keepN ht) (fun b hb => hR b (Nat.le_trans ht.size hb)) (by simp only [Tree.size] at hsz ⊢; omega))
        have HI2 := Lib.hid (fun w' (ht : Touch Nil w w') => ih (.node l x u r) l' (w := w') (by simp only [Tree.size] at hn ⊢; omega) (hn1.tree.keepN ht) (hn2.left.keepN ht) (fun b hb => hR b (Nat.le_trans ht.size hb)) (by simp only [Tree.size] at hsz ⊢; omega))
        have HZ1 := Lib.hid (merge_size (abv seed) r (.node l' y u' r'))
        have HZ2 := Lib.hid (merge_size (abv seed) (.node l x u r) l')
        have HO1 := Lib.hid (fun w' v3 (ht : Touch Nil w w') (h3 : TreeAt seed R w' (mergeT (abv seed) r (.node l' y u' r')) (.pointer v3)) => over_any (hn1.keepN ht).tree (hn1.left.keepN ht) h3 (fun b hb => hR b (Nat.le_trans ht.size hb)) (by rw [HZ1.out]; simp only [Tree.size] at hsz ⊢; omega))
        have HO2 := Lib.hid (fun w' v3 (ht : Touch Nil w w') (h3 : TreeAt seed R w' (mergeT (abv seed) (.node l x u r) l') (.pointer v3)) => over_any (hn2.keepN ht).tree h3 (hn2.right.keepN ht) (fun b hb => hR b (Nat.le_trans ht.size hb)) (by rw [HZ2.out]; simp only [Tree.size] at hsz ⊢; omega))
        clear h h' ih hn hsz hn1 hn2 hR HZ1 HZ2 HN1 HN2 HR
        cases hq : abv seed x y with
        | true =>
          have HQ := Lib.hid (show abv seed x y = true by rw [hq])
          rw [hq] at HAB
          have HST := Lib.hid (fun n => show Ld2 b 3 (.pointer la) b 4 (.pointer ra) w (w.drewN n) from ⟨x3, x4, Lib.hid ((Touch.refl Nil w).drewN n)⟩)
          rw [HM.out, if_pos HQ.out]
          clear hq HM
          go_enter Try.func94, Try.ntmps94
          go_wp2_with fail
          go_quiet ((go_at_call 109; exact Calls.quiet_of (HAB.out _)))
          go_wp2_with fail
          go_region_held3 (fun w' => w'.cell? ⟨b, 3, none⟩ = some (.pointer la) ∧ w'.cell? ⟨b, 4, none⟩ = some (.pointer ra) ∧ Hid (Touch Nil w w'))
            (first | exact (HST.out _).step (Touch.refl Nil _).drew | exact Ld2.step (by assumption) (by assumption))
            (first
              | (go_at_call 94; refine (HI1.out _ (Hid.out (And.right (And.right (by assumption))))).mono ?_; rintro e w3 ⟨v3, rfl, h3, ht3⟩; obtain ⟨va3, rfl⟩ := h3.form; have H3 := Lib.hid h3; clear h3)
              | (go_at_call 105; refine (HO1.out _ _ (Hid.out (And.right (And.right (by assumption)))) H3.out).mono ?_; rintro e w4 ⟨v4, rfl, h4, ht4⟩; obtain ⟨va4, rfl⟩ := h4.form; have H4 := Lib.hid (And.intro h4 (show Touch Nil w w4 from Touch.trans (Hid.out (And.right (And.right (by assumption)))) ht4)); clear h4))
          go_wp2_with fail
          go_ret
          exact ⟨_, rfl, H4.out.1, H4.out.2⟩
        | false =>
          have HQ := Lib.hid (show ¬ abv seed x y = true by rw [hq]; decide)
          rw [hq] at HAB
          have HST := Lib.hid (fun n => show Ld2 b' 3 (.pointer la') b' 4 (.pointer ra') w (w.drewN n) from ⟨y3, y4, Lib.hid ((Touch.refl Nil w).drewN n)⟩)
          rw [HM.out, if_neg HQ.out]
          clear hq HM
          go_enter Try.func94, Try.ntmps94
          go_wp2_with fail
          go_quiet ((go_at_call 109; exact Calls.quiet_of (HAB.out _)))
          go_wp2_with fail
          go_region_held3 (fun w' => w'.cell? ⟨b', 3, none⟩ = some (.pointer la') ∧ w'.cell? ⟨b', 4, none⟩ = some (.pointer ra') ∧ Hid (Touch Nil w w'))
            (first | exact (HST.out _).step (Touch.refl Nil _).drew | exact Ld2.step (by assumption) (by assumption))
            (first
              | (go_at_call 94; refine (HI2.out _ (Hid.out (And.right (And.right (by assumption))))).mono ?_; rintro e w3 ⟨v3, rfl, h3, ht3⟩; obtain ⟨va3, rfl⟩ := h3.form; have H3 := Lib.hid h3; clear h3)
              | (go_at_call 105; refine (HO2.out _ _ (Hid.out (And.right (And.right (by assumption)))) H3.out).mono ?_; rintro e w4 ⟨v4, rfl, h4, ht4⟩; obtain ⟨va4, rfl⟩ := h4.form; have H4 := Lib.hid (And.intro h4 (show Touch Nil w w4 from Touch.trans (Hid.out (And.right (And.right (by assumption)))) ht4)); clear h4))
          go_wp2_with fail
          go_ret
          exact ⟨_, rfl, H4.out.1, H4.out.2⟩
end Go.Proofs.Ytbckakpgfmcljaa
