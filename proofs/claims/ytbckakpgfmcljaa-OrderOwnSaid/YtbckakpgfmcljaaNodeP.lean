import Derived.Test.YtbckakpgfmcljaaNodeS
/- An item is put into a tree; a key is taken out. -/
namespace Go.Proofs.Ytbckakpgfmcljaa
open Go.ChangeShapes Go.WideShapes Go.ChangeAt Go.RowKit Go.Deep

theorem cmp_vals : ∀ a b : Key, Lib.compareBytes a b = -1 ∨ Lib.compareBytes a b = 0 ∨ Lib.compareBytes a b = 1
  | [], [] => by simp [Lib.compareBytes]
  | [], _ :: _ => by simp [Lib.compareBytes]
  | _ :: _, [] => by simp [Lib.compareBytes]
  | a :: l, b :: m => by
    simp only [Lib.compareBytes]
    split
    · simp
    · split
      · simp
      · exact cmp_vals l m
/-- What a comparison says, as the walk asks it. -/
theorem cmp_cases (a b : Key) : (klt a b = true ∧ (Lib.compareBytes a b == (-1 : Int)) = true) ∨ (klt a b = false ∧ klt b a = true ∧ (Lib.compareBytes a b == (-1 : Int)) = false ∧ (Lib.compareBytes a b == (1 : Int)) = true) ∨
    (a = b ∧ (Lib.compareBytes a b == (-1 : Int)) = false ∧ (Lib.compareBytes a b == (1 : Int)) = false) := by
  have hn := cmp_neg a b
  rcases cmp_vals a b with h | h | h
  · exact .inl ⟨by rw [klt_iff]; omega, by rw [h]; decide⟩
  · exact .inr (.inr ⟨cmp_eq0 _ _ h, by rw [h]; decide, by rw [h]; decide⟩)
  · exact .inr (.inl ⟨by rw [← Bool.not_eq_true, klt_iff]; omega, by rw [klt_iff]; omega, by rw [h]; decide, by rw [h]; decide⟩)
theorem ins_size (ab : Key → Key → Bool) (k v : Key) : ∀ t : Tree, (insT ab k v t).size ≤ t.size + 1
  | .nil => by simp [insT, Tree.size]
  | .node l x u r => by
    have h1 := ins_size ab k v l
    have h2 := ins_size ab k v r
    have h3 := split_size k (.node l x u r)
    simp only [insT]
    split
    · simp only [Tree.size] at h3 ⊢; omega
    · split
      · simp only [Tree.size]; omega
      · split
        · simp only [Tree.size]; omega
        · simp only [Tree.size]; omega
theorem del_size (ab : Key → Key → Bool) (k : Key) : ∀ t : Tree, (delT ab k t).size ≤ t.size
  | .nil => by simp [delT]
  | .node l x u r => by
    have h1 := del_size ab k l
    have h2 := del_size ab k r
    have h3 := merge_size ab l r
    simp only [delT]
    split
    · simp only [Tree.size]; omega
    · split
      · simp only [Tree.size]; omega
      · rw [h3]; simp only [Tree.size]; omega

set_option maxRecDepth 100000 in
set_option maxHeartbeats 4000000 in
theorem with_any {seed : Int} {R : Nat → Prop} {k u : Key} {iv : Value} : ∀ (t : Tree) {w : World} {v : Value}, TreeAt seed R w t v → ItemAt seed R w iv k u → (∀ b, w.heap.size ≤ b → R b) → t.size ≤ 100000000 →
    Calls Try.prog 97 #[v, .int .u64 seed, iv] w (TreePost seed R (insT (abv seed) k u t) w) := by
  intro t
  induction t with
  | nil =>
    intro w v h hi hR hsz
    obtain rfl : v = _ := h
    have HI := Lib.hid hi
    have HR := Lib.hid hR
    obtain ⟨jb, kv, uv, rfl, _, hjh, hmk, _, _⟩ := hi
    obtain ⟨y0, _, _⟩ := item_cells hjh
    have HK := Lib.hid hmk.bv
    obtain ⟨ka, kl, kc, rfl⟩ := hmk.1.form
    have HSP := Lib.hid (split_any (seed := seed) (R := R) .nil (v := .pointer none) rfl HK.out hR (by simp [Tree.size]))
    have HIN := Lib.hid (show insT (abv seed) k u .nil = .node .nil k u .nil from rfl)
    clear hjh hmk hR
    go_enter Try.func97, Try.ntmps97
    go_wp2_with fail
    refine HSP.out.mono ?_
    rintro e w2 ⟨a2, b2, rfl, ha, hb, ht⟩
    obtain ⟨aa, rfl⟩ := ha.form
    obtain ⟨ba, rfl⟩ := hb.form
    have HA := Lib.hid ha
    have HB := Lib.hid hb
    have HT := Lib.hid ht
    clear ha hb ht
    go_wp2_with fail
    refine (newNode_any (HI.out.keepN HT.out) HA.out HB.out (fun b hb => HR.out b (Nat.le_trans HT.out.size hb)) (by simp [splitT, Tree.size])).mono ?_
    rintro e w3 ⟨v3, rfl, h3, ht3⟩
    obtain ⟨va, rfl⟩ := h3.form
    have H3 := Lib.hid (And.intro h3 ht3)
    clear h3 ht3
    go_wp2_with fail
    go_ret
    exact ⟨_, rfl, by rw [HIN.out]; exact H3.out.1, HT.out.trans H3.out.2⟩
  | node l x c r ihl ihr =>
    intro w v h hi hR hsz
    obtain ⟨b, ib, la, ra, rfl, hn⟩ := h.node
    have HN := Lib.hid hn
    have HI := Lib.hid hi
    have HR := Lib.hid hR
    have HAB := Lib.hid (above_any hi hn.item)
    have HIL := Lib.hid (fun w' (ht : Touch Nil w w') => ihl (w := w') (hn.left.keepN ht) (hi.keepN ht) (fun b hb => hR b (Nat.le_trans ht.size hb)) (by simp only [Tree.size] at hsz; omega))
    have HIR := Lib.hid (fun w' (ht : Touch Nil w w') => ihr (w := w') (hn.right.keepN ht) (hi.keepN ht) (fun b hb => hR b (Nat.le_trans ht.size hb)) (by simp only [Tree.size] at hsz; omega))
    have HOL := Lib.hid (fun w' v3 (ht : Touch Nil w w') (h3 : TreeAt seed R w' (insT (abv seed) k u l) (.pointer v3)) => over_any (hn.keepN ht).tree h3 (hn.right.keepN ht) (fun b hb => hR b (Nat.le_trans ht.size hb)) (by have := ins_size (abv seed) k u l; simp only [Tree.size] at hsz; omega))
    have HOR := Lib.hid (fun w' v3 (ht : Touch Nil w w') (h3 : TreeAt seed R w' (insT (abv seed) k u r) (.pointer v3)) => over_any (hn.keepN ht).tree (hn.left.keepN ht) h3 (fun b hb => hR b (Nat.le_trans ht.size hb)) (by have := ins_size (abv seed) k u r; simp only [Tree.size] at hsz; omega))
    have HNE := Lib.hid (fun w' (ht : Touch Nil w w') => newNode_any (hi.keepN ht) (hn.left.keepN ht) (hn.right.keepN ht) (fun b hb => hR b (Nat.le_trans ht.size hb)) (by simp only [Tree.size] at hsz; omega))
    obtain ⟨_, nkv, nuv, e, _, hih, hmn, _, _⟩ := hn.item
    cases e
    obtain ⟨jb, kv, uv, rfl, _, hjh, hmk, _, _⟩ := hi
    obtain ⟨x0, _, _, x3, x4⟩ := node_cells hn.blk
    obtain ⟨z0, _, _⟩ := item_cells hih
    obtain ⟨y0, _, _⟩ := item_cells hjh
    have HK := Lib.hid hmk.bv
    have HCM := Lib.hid (fun w' (ht : Touch Nil w w') => compareP_any (hmk.bv.keepN ht) (hmn.bv.keepN ht))
    have HST := Lib.hid (fun w' (ht : Touch Nil w w') => show Ld2 b 3 (.pointer la) b 4 (.pointer ra) w w' from ⟨cell_step x3 ht, cell_step x4 ht, Lib.hid ht⟩)
    obtain ⟨ka, kl, kc, rfl⟩ := hmk.1.form
    obtain ⟨na, nl, nc, rfl⟩ := hmn.1.form
    have HSP := Lib.hid (fun w' (ht : Touch Nil w w') => split_any (seed := seed) (R := R) (.node l x c r) (w := w') (hn.tree.keepN ht) (HK.out.keepN ht) (fun b hb => hR b (Nat.le_trans ht.size hb)) (by omega))
    have HZ := Lib.hid (split_size k (.node l x c r))
    have HIN := Lib.hid (show insT (abv seed) k u (.node l x c r) = if abv seed k x = true then .node (splitT k (.node l x c r)).1 k u (splitT k (.node l x c r)).2 else if klt k x = true then .node (insT (abv seed) k u l) x c r else if klt x k = true then .node l x c (insT (abv seed) k u r) else .node l k u r from rfl)
    clear hih hjh hmk hmn hn ihl ihr hR
    cases hq : abv seed k x with
    | true =>
      rw [hq] at HAB
      have HQ := Lib.hid hq
      clear hq HIL HIR HOL HOR HNE HCM
      go_enter Try.func97, Try.ntmps97
      go_wp2_with fail
      refine HAB.out.mono ?_
      rintro e w' ⟨rfl, n, rfl⟩
      have HT1 := Lib.hid ((Touch.refl Nil w).drewN n)
      generalize w.drewN n = w1 at *
      replace y0 := cell_step y0 HT1.out
      clear x0 x3 x4 z0
      go_wp2_with fail
      refine (HSP.out _ HT1.out).mono ?_
      rintro e w2 ⟨a2, b2, rfl, ha, hb, ht⟩
      obtain ⟨aa, rfl⟩ := ha.form
      obtain ⟨ba, rfl⟩ := hb.form
      have HA := Lib.hid ha
      have HB := Lib.hid hb
      have HT := Lib.hid (HT1.out.trans ht)
      clear ha hb ht
      go_wp2_with fail
      refine (newNode_any (HI.out.keepN HT.out) HA.out HB.out (fun b hb => HR.out b (Nat.le_trans HT.out.size hb)) (by have := HZ.out; omega)).mono ?_
      rintro e w3 ⟨v3, rfl, h3, ht3⟩
      obtain ⟨va, rfl⟩ := h3.form
      have H3 := Lib.hid (And.intro h3 ht3)
      clear h3 ht3
      go_wp2_with fail
      go_ret
      exact ⟨_, rfl, by rw [HIN.out, if_pos HQ.out]; exact H3.out.1, HT.out.trans H3.out.2⟩
    | false =>
      rw [hq] at HAB
      have HQ := Lib.hid (show ¬ abv seed k x = true by rw [hq]; decide)
      rw [HIN.out, if_neg HQ.out]
      clear hq HSP HIN HQ HZ
      rcases cmp_cases k x with ⟨c1, c2⟩ | ⟨c1, c2, c3, c4⟩ | ⟨c1, c2, c3⟩
      · rw [if_pos c1]
        generalize Lib.compareBytes k x = z at *
        clear c1 HIR HOR HNE
        go_enter Try.func97, Try.ntmps97
        go_wp2_with fail
        refine HAB.out.mono ?_
        rintro e w' ⟨rfl, n, rfl⟩
        have HT1 := Lib.hid ((Touch.refl Nil w).drewN n)
        generalize w.drewN n = w1 at *
        replace y0 := cell_step y0 HT1.out
        replace x0 := cell_step x0 HT1.out
        replace z0 := cell_step z0 HT1.out
        clear x3 x4
        go_wp2_with fail
        go_quiet ((go_at_call 91; refine Calls.quiet_of_same (v := .int .i64 z) ?_; exact (HCM.out _ (HT1.out.drewN _)).mono fun _ _ h => ⟨h.1, h.2.symm⟩))
        go_wp2_with fail
        go_region_held3 (fun w' => w'.cell? ⟨b, 3, none⟩ = some (.pointer la) ∧ w'.cell? ⟨b, 4, none⟩ = some (.pointer ra) ∧ Hid (Touch Nil w w'))
          (first | exact HST.out _ ((HT1.out.drewN _).drew) | exact Ld2.step (by assumption) (by assumption))
          (first
            | (go_at_call 97; refine (HIL.out _ (Hid.out (And.right (And.right (by assumption))))).mono ?_; rintro e w3 ⟨v3, rfl, h3, ht3⟩; obtain ⟨va3, rfl⟩ := h3.form; have H3 := Lib.hid h3; clear h3)
            | (go_at_call 105; refine (HOL.out _ _ (Hid.out (And.right (And.right (by assumption)))) H3.out).mono ?_; rintro e w4 ⟨v4, rfl, h4, ht4⟩; obtain ⟨va4, rfl⟩ := h4.form; have H4 := Lib.hid (And.intro h4 (show Touch Nil w w4 from Touch.trans (Hid.out (And.right (And.right (by assumption)))) ht4)); clear h4))
        go_wp2_with fail
        go_ret
        exact ⟨_, rfl, H4.out.1, H4.out.2⟩
      · rw [if_neg (by rw [c1]; decide), if_pos c2]
        generalize Lib.compareBytes k x = z at *
        clear c1 c2 HIL HOL HNE
        go_enter Try.func97, Try.ntmps97
        go_wp2_with fail
        refine HAB.out.mono ?_
        rintro e w' ⟨rfl, n, rfl⟩
        have HT1 := Lib.hid ((Touch.refl Nil w).drewN n)
        generalize w.drewN n = w1 at *
        replace y0 := cell_step y0 HT1.out
        replace x0 := cell_step x0 HT1.out
        replace z0 := cell_step z0 HT1.out
        clear x3 x4
        go_wp2_with fail
        go_quiet ((go_at_call 91; refine Calls.quiet_of_same (v := .int .i64 z) ?_; exact (HCM.out _ (HT1.out.drewN _)).mono fun _ _ h => ⟨h.1, h.2.symm⟩))
        go_wp2_with fail
        go_region_held3 (fun w' => w'.cell? ⟨b, 3, none⟩ = some (.pointer la) ∧ w'.cell? ⟨b, 4, none⟩ = some (.pointer ra) ∧ Hid (Touch Nil w w'))
          (first | exact HST.out _ ((HT1.out.drewN _).drew) | exact Ld2.step (by assumption) (by assumption))
          (first
            | (go_at_call 97; refine (HIR.out _ (Hid.out (And.right (And.right (by assumption))))).mono ?_; rintro e w3 ⟨v3, rfl, h3, ht3⟩; obtain ⟨va3, rfl⟩ := h3.form; have H3 := Lib.hid h3; clear h3)
            | (go_at_call 105; refine (HOR.out _ _ (Hid.out (And.right (And.right (by assumption)))) H3.out).mono ?_; rintro e w4 ⟨v4, rfl, h4, ht4⟩; obtain ⟨va4, rfl⟩ := h4.form; have H4 := Lib.hid (And.intro h4 (show Touch Nil w w4 from Touch.trans (Hid.out (And.right (And.right (by assumption)))) ht4)); clear h4))
        go_wp2_with fail
        go_ret
        exact ⟨_, rfl, H4.out.1, H4.out.2⟩
      · subst c1
        rw [if_neg (by rw [klt_ko.irrefl]; decide), if_neg (by rw [klt_ko.irrefl]; decide)]
        generalize Lib.compareBytes k k = z at *
        clear HIL HOL HIR HOR
        go_enter Try.func97, Try.ntmps97
        go_wp2_with fail
        refine HAB.out.mono ?_
        rintro e w' ⟨rfl, n, rfl⟩
        have HT1 := Lib.hid ((Touch.refl Nil w).drewN n)
        generalize w.drewN n = w1 at *
        replace y0 := cell_step y0 HT1.out
        replace x0 := cell_step x0 HT1.out
        replace z0 := cell_step z0 HT1.out
        clear x3 x4
        go_wp2_with fail
        go_quiet ((go_at_call 91; refine Calls.quiet_of_same (v := .int .i64 z) ?_; exact (HCM.out _ (HT1.out.drewN _)).mono fun _ _ h => ⟨h.1, h.2.symm⟩))
        go_wp2_with fail
        go_region_held3 (fun w' => w'.cell? ⟨b, 3, none⟩ = some (.pointer la) ∧ w'.cell? ⟨b, 4, none⟩ = some (.pointer ra) ∧ Hid (Touch Nil w w'))
          (first | exact HST.out _ ((HT1.out.drewN _).drew) | exact Ld2.step (by assumption) (by assumption))
          (first
            | (go_at_call 110; refine (HNE.out _ (Hid.out (And.right (And.right (by assumption))))).mono ?_; rintro e w4 ⟨v4, rfl, h4, ht4⟩; obtain ⟨va4, rfl⟩ := h4.form; have H4 := Lib.hid (And.intro h4 (show Touch Nil w w4 from Touch.trans (Hid.out (And.right (And.right (by assumption)))) ht4)); clear h4))
        go_wp2_with fail
        go_ret
        exact ⟨_, rfl, H4.out.1, H4.out.2⟩
end Go.Proofs.Ytbckakpgfmcljaa
