import Derived.Test.YtbckakpgfmcljaaNodeP
/- A key is taken out of a tree; the least and the greatest node; ranks. -/
namespace Go.Proofs.Ytbckakpgfmcljaa
open Go.ChangeShapes Go.WideShapes Go.ChangeAt Go.RowKit Go.Deep

set_option maxRecDepth 100000 in
set_option maxHeartbeats 4000000 in
theorem without_any {seed : Int} {R : Nat → Prop} {key : Key} {kx : Value} : ∀ (t : Tree) {w : World} {v : Value}, TreeAt seed R w t v → BV w kx key → (∀ b, w.heap.size ≤ b → R b) → t.size ≤ 100000000 →
    Calls Try.prog 74 #[v, .int .u64 seed, kx] w (TreePost seed R (delT (abv seed) key t) w) := by
  intro t
  induction t with
  | nil =>
    intro w v h hk hR hsz
    obtain rfl : v = _ := h
    obtain ⟨qa, qc, rfl, _, _⟩ := hk
    go_enter Try.func74, Try.ntmps74
    go_wp2_with fail
    go_ret
    exact ⟨_, rfl, rfl, Touch.refl _ _⟩
  | node l x c r ihl ihr =>
    intro w v h hk hR hsz
    obtain ⟨b, ib, la, ra, rfl, hn⟩ := h.node
    have HIL := Lib.hid (fun w' (ht : Touch Nil w w') => ihl (w := w') (hn.left.keepN ht) (hk.keepN ht) (fun b hb => hR b (Nat.le_trans ht.size hb)) (by simp only [Tree.size] at hsz; omega))
    have HIR := Lib.hid (fun w' (ht : Touch Nil w w') => ihr (w := w') (hn.right.keepN ht) (hk.keepN ht) (fun b hb => hR b (Nat.le_trans ht.size hb)) (by simp only [Tree.size] at hsz; omega))
    have HOL := Lib.hid (fun w' v3 (ht : Touch Nil w w') (h3 : TreeAt seed R w' (delT (abv seed) key l) (.pointer v3)) => over_any (hn.keepN ht).tree h3 (hn.right.keepN ht) (fun b hb => hR b (Nat.le_trans ht.size hb)) (by have := del_size (abv seed) key l; simp only [Tree.size] at hsz; omega))
    have HOR := Lib.hid (fun w' v3 (ht : Touch Nil w w') (h3 : TreeAt seed R w' (delT (abv seed) key r) (.pointer v3)) => over_any (hn.keepN ht).tree (hn.left.keepN ht) h3 (fun b hb => hR b (Nat.le_trans ht.size hb)) (by have := del_size (abv seed) key r; simp only [Tree.size] at hsz; omega))
    have HNE := Lib.hid (fun w' (ht : Touch Nil w w') => merge_any _ l r (w := w') (Nat.le_refl _) (hn.left.keepN ht) (hn.right.keepN ht) (fun b hb => hR b (Nat.le_trans ht.size hb)) (by simp only [Tree.size] at hsz; omega))
    obtain ⟨_, nkv, nuv, e, _, hih, hmn, _, _⟩ := hn.item
    cases e
    obtain ⟨x0, _, _, x3, x4⟩ := node_cells hn.blk
    obtain ⟨z0, _, _⟩ := item_cells hih
    have HCM := Lib.hid (compareP_any hk hmn.bv)
    have HST := Lib.hid (fun w' (ht : Touch Nil w w') => show Ld2 b 3 (.pointer la) b 4 (.pointer ra) w w' from ⟨cell_step x3 ht, cell_step x4 ht, Lib.hid ht⟩)
    obtain ⟨qa, qc, rfl, _, _⟩ := hk
    have HE : ∃ ql, key.length = ql := ⟨_, rfl⟩
    obtain ⟨ql, eql⟩ := HE
    simp only [eql] at HCM HIL HIR ⊢
    obtain ⟨na, nl, nc, rfl⟩ := hmn.1.form
    have HIN := Lib.hid (show delT (abv seed) key (.node l x c r) = if klt key x = true then .node (delT (abv seed) key l) x c r else if klt x key = true then .node l x c (delT (abv seed) key r) else mergeT (abv seed) l r from rfl)
    rw [HIN.out]
    clear hih hmn hn ihl ihr hR eql HIN
    rcases cmp_cases key x with ⟨c1, c2⟩ | ⟨c1, c2, c3, c4⟩ | ⟨c1, c2, c3⟩
    · rw [if_pos c1]
      generalize Lib.compareBytes key x = z at *
      clear c1 HIR HOR HNE
      go_enter Try.func74, Try.ntmps74
      go_wp2_with fail
      refine HCM.out.mono ?_
      rintro e w' ⟨rfl, rfl⟩
      go_wp2_with fail
      go_region_held3 (fun w' => w'.cell? ⟨b, 3, none⟩ = some (.pointer la) ∧ w'.cell? ⟨b, 4, none⟩ = some (.pointer ra) ∧ Hid (Touch Nil w w'))
        (first | exact HST.out _ ((Touch.refl Nil w).drew) | exact Ld2.step (by assumption) (by assumption))
        (first
          | (go_at_call 74; refine (HIL.out _ (Hid.out (And.right (And.right (by assumption))))).mono ?_; rintro e w3 ⟨v3, rfl, h3, ht3⟩; obtain ⟨va3, rfl⟩ := h3.form; have H3 := Lib.hid h3; clear h3)
          | (go_at_call 105; refine (HOL.out _ _ (Hid.out (And.right (And.right (by assumption)))) H3.out).mono ?_; rintro e w4 ⟨v4, rfl, h4, ht4⟩; obtain ⟨va4, rfl⟩ := h4.form; have H4 := Lib.hid (And.intro h4 (show Touch Nil w w4 from Touch.trans (Hid.out (And.right (And.right (by assumption)))) ht4)); clear h4))
      go_wp2_with fail
      go_ret
      exact ⟨_, rfl, H4.out.1, H4.out.2⟩
    · rw [if_neg (by rw [c1]; decide), if_pos c2]
      generalize Lib.compareBytes key x = z at *
      clear c1 c2 HIL HOL HNE
      go_enter Try.func74, Try.ntmps74
      go_wp2_with fail
      refine HCM.out.mono ?_
      rintro e w' ⟨rfl, rfl⟩
      go_wp2_with fail
      go_region_held3 (fun w' => w'.cell? ⟨b, 3, none⟩ = some (.pointer la) ∧ w'.cell? ⟨b, 4, none⟩ = some (.pointer ra) ∧ Hid (Touch Nil w w'))
        (first | exact HST.out _ ((Touch.refl Nil w).drew) | exact Ld2.step (by assumption) (by assumption))
        (first
          | (go_at_call 74; refine (HIR.out _ (Hid.out (And.right (And.right (by assumption))))).mono ?_; rintro e w3 ⟨v3, rfl, h3, ht3⟩; obtain ⟨va3, rfl⟩ := h3.form; have H3 := Lib.hid h3; clear h3)
          | (go_at_call 105; refine (HOR.out _ _ (Hid.out (And.right (And.right (by assumption)))) H3.out).mono ?_; rintro e w4 ⟨v4, rfl, h4, ht4⟩; obtain ⟨va4, rfl⟩ := h4.form; have H4 := Lib.hid (And.intro h4 (show Touch Nil w w4 from Touch.trans (Hid.out (And.right (And.right (by assumption)))) ht4)); clear h4))
      go_wp2_with fail
      go_ret
      exact ⟨_, rfl, H4.out.1, H4.out.2⟩
    · subst c1
      rw [if_neg (by rw [klt_ko.irrefl]; decide), if_neg (by rw [klt_ko.irrefl]; decide)]
      generalize Lib.compareBytes key key = z at *
      clear HIL HOL HIR HOR
      go_enter Try.func74, Try.ntmps74
      go_wp2_with fail
      refine HCM.out.mono ?_
      rintro e w' ⟨rfl, rfl⟩
      go_wp2_with fail
      go_region_held3 (fun w' => w'.cell? ⟨b, 3, none⟩ = some (.pointer la) ∧ w'.cell? ⟨b, 4, none⟩ = some (.pointer ra) ∧ Hid (Touch Nil w w'))
        (first | exact HST.out _ ((Touch.refl Nil w).drew) | exact Ld2.step (by assumption) (by assumption))
        (first
          | (go_at_call 94; refine (HNE.out _ (Hid.out (And.right (And.right (by assumption))))).mono ?_; rintro e w4 ⟨v4, rfl, h4, ht4⟩; obtain ⟨va4, rfl⟩ := h4.form; have H4 := Lib.hid (And.intro h4 (show Touch Nil w w4 from Touch.trans (Hid.out (And.right (And.right (by assumption)))) ht4)); clear h4))
      go_wp2_with fail
      go_ret
      exact ⟨_, rfl, H4.out.1, H4.out.2⟩

/-- The node of the least key. -/
def firstT (d : Key) : Tree → Key
  | .nil => d
  | .node l k _ _ => firstT k l
def lastT (d : Key) : Tree → Key
  | .nil => d
  | .node _ k _ r => lastT k r
theorem firstT_spec : ∀ (t : Tree) (d : Key), t ≠ .nil → ∃ u L, t.toL = (firstT d t, u) :: L
  | .nil, _, h => absurd rfl h
  | .node .nil k u r, d, _ => ⟨u, r.toL, rfl⟩
  | .node (.node l k' u' r') k u r, d, _ => by
    obtain ⟨u2, L, e⟩ := firstT_spec (.node l k' u' r') k (by simp)
    exact ⟨u2, L ++ (k, u) :: r.toL, by rw [Tree.toL, e]; simp [firstT]⟩
theorem lastT_spec : ∀ (t : Tree) (d : Key), t ≠ .nil → ∃ u L, t.toL = L ++ [(lastT d t, u)]
  | .nil, _, h => absurd rfl h
  | .node l k u .nil, d, _ => ⟨u, l.toL, by simp [Tree.toL, lastT]⟩
  | .node l k u (.node l' k' u' r'), d, _ => by
    obtain ⟨u2, L, e⟩ := lastT_spec (.node l' k' u' r') k (by simp)
    exact ⟨u2, l.toL ++ (k, u) :: L, by rw [Tree.toL, e]; simp [lastT]⟩
/-- A node with its key. -/
def NodePost (seed : Int) (R : Nat → Prop) (key : Key) (w : World) (e : Ending) (w' : World) : Prop := ∃ b iv la ra l u r, e = .returned (.pointer (some ⟨b, 0, none⟩)) ∧ NodeV seed R w b iv la ra l key u r ∧ w = w'
set_option maxHeartbeats 1000000 in
theorem first_any {seed : Int} {R : Nat → Prop} {w : World} {v : Value} {l r : Tree} {k u : Key} (h : TreeAt seed R w (.node l k u r) v) :
    Calls Try.prog 93 #[v] w (NodePost seed R (firstT [] (.node l k u r)) w) := by
  have HH := Lib.hid h
  obtain ⟨b0, i0, la0, ra0, rfl, hn0⟩ := h.node
  clear hn0
  go_enter Try.func93, Try.ntmps93
  go_wp2_with fail
  go_loopg [0] (Tree.size (.node l k u r)) (fun m n wr => w = wr ∧ ∃ (a : Nat) (l' r' : Tree) (k' u' : Key), n = .pointer (some ⟨a, 0, none⟩) ∧ Hid (TreeAt seed R w (.node l' k' u' r') (.pointer (some ⟨a, 0, none⟩)) ∧ (Tree.node l' k' u' r').size ≤ m ∧ firstT [] (.node l' k' u' r') = firstT [] (.node l k u r)))
  case atStart => exact ⟨rfl, b0, l, r, k, u, rfl, Lib.hid ⟨HH.out, Nat.le_refl _, rfl⟩⟩
  obtain ⟨rfl, a, l', r', k', u', rfl, HX⟩ := hrel
  obtain ⟨b, ib, la, ra, hb, hn⟩ := HX.out.1.node
  injection hb with hb
  injection hb with hb
  injection hb with hb
  subst hb
  obtain ⟨_, _, _, x3, x4⟩ := node_cells hn.blk
  have HN := Lib.hid hn
  clear hn
  cases l' with
  | nil =>
    obtain rfl : la = none := by have h : Value.pointer la = .pointer none := HN.out.left; injection h
    have HF := Lib.hid HX.out.2.2
    go_wp2_with fail
    go_ret
    exact ⟨a, _, _, _, _, _, _, rfl, by rw [← HF.out]; exact HN.out, rfl⟩
  | node l2 k2 u2 r2 =>
    obtain ⟨b2, _, _, _, e2, _⟩ := HN.out.left.node
    injection e2 with e2
    subst e2
    go_wp2_with fail
    go_roundg (Tree.node l2 k2 u2 r2).size
    case measure => have := HX.out.2.1; simp only [Tree.size] at this ⊢; omega
    case rel => exact ⟨rfl, _, l2, r2, k2, u2, rfl, Lib.hid ⟨HN.out.left, Nat.le_refl _, HX.out.2.2⟩⟩
set_option maxHeartbeats 1000000 in
theorem last_any {seed : Int} {R : Nat → Prop} {w : World} {v : Value} {l r : Tree} {k u : Key} (h : TreeAt seed R w (.node l k u r) v) :
    Calls Try.prog 92 #[v] w (NodePost seed R (lastT [] (.node l k u r)) w) := by
  have HH := Lib.hid h
  obtain ⟨b0, i0, la0, ra0, rfl, hn0⟩ := h.node
  clear hn0
  go_enter Try.func92, Try.ntmps92
  go_wp2_with fail
  go_loopg [0] (Tree.size (.node l k u r)) (fun m n wr => w = wr ∧ ∃ (a : Nat) (l' r' : Tree) (k' u' : Key), n = .pointer (some ⟨a, 0, none⟩) ∧ Hid (TreeAt seed R w (.node l' k' u' r') (.pointer (some ⟨a, 0, none⟩)) ∧ (Tree.node l' k' u' r').size ≤ m ∧ lastT [] (.node l' k' u' r') = lastT [] (.node l k u r)))
  case atStart => exact ⟨rfl, b0, l, r, k, u, rfl, Lib.hid ⟨HH.out, Nat.le_refl _, rfl⟩⟩
  obtain ⟨rfl, a, l', r', k', u', rfl, HX⟩ := hrel
  obtain ⟨b, ib, la, ra, hb, hn⟩ := HX.out.1.node
  injection hb with hb
  injection hb with hb
  injection hb with hb
  subst hb
  obtain ⟨_, _, _, x3, x4⟩ := node_cells hn.blk
  have HN := Lib.hid hn
  clear hn
  cases r' with
  | nil =>
    obtain rfl : ra = none := by have h : Value.pointer ra = .pointer none := HN.out.right; injection h
    have HF := Lib.hid HX.out.2.2
    go_wp2_with fail
    go_ret
    exact ⟨a, _, _, _, _, _, _, rfl, by rw [← HF.out]; exact HN.out, rfl⟩
  | node l2 k2 u2 r2 =>
    obtain ⟨b2, _, _, _, e2, _⟩ := HN.out.right.node
    injection e2 with e2
    subst e2
    go_wp2_with fail
    go_roundg (Tree.node l2 k2 u2 r2).size
    case measure => have := HX.out.2.1; simp only [Tree.size] at this ⊢; omega
    case rel => exact ⟨rfl, _, l2, r2, k2, u2, rfl, Lib.hid ⟨HN.out.right, Nat.le_refl _, HX.out.2.2⟩⟩
end Go.Proofs.Ytbckakpgfmcljaa
