import Derived.Test.YtkkpcndpjkebkaaLawP
import Derived.Test.YtkkpcndpjkebkaaNone
/- A map that is cut; two maps that are joined. -/
namespace Go.Proofs.Ytkkpcndpjkebkaa
open Go.ChangeShapes Go.WideShapes Go.ChangeAt Go.RowKit Go.Deep

/-! ### The first and the last node: which block the answer names -/
/-- The block of the first node. -/
def FirstB (seed : Int) (R : Nat → Prop) (w : World) : Tree → Value → Nat → Prop
  | .nil, _, _ => False
  | .node l k u r, v, b => ∃ b0 iv la ra, v = .pointer (some ⟨b0, 0, none⟩) ∧ NodeV seed R w b0 iv la ra l k u r ∧ ((l = .nil ∧ b = b0) ∨ FirstB seed R w l (.pointer la) b)
theorem firstB_ex {seed : Int} {R : Nat → Prop} {w : World} : ∀ (t : Tree) (v : Value), t ≠ .nil → TreeAt seed R w t v → ∃ b, FirstB seed R w t v b
  | .nil, _, h, _ => absurd rfl h
  | .node .nil k u r, v, _, h => by
    obtain ⟨b, ib, la, ra, e, hn⟩ := h.node
    exact ⟨b, b, _, la, ra, e, hn, .inl ⟨rfl, rfl⟩⟩
  | .node (.node l2 k2 u2 r2) k u r, v, _, h => by
    obtain ⟨b, ib, la, ra, e, hn⟩ := h.node
    obtain ⟨c, hc⟩ := firstB_ex (.node l2 k2 u2 r2) (.pointer la) (by simp) hn.left
    exact ⟨c, b, _, la, ra, e, hn, .inr hc⟩
theorem FirstB.keepN {seed : Int} {R : Nat → Prop} {w w' : World} (ht : Touch Nil w w') : ∀ {t : Tree} {v : Value} {b : Nat}, FirstB seed R w t v b → FirstB seed R w' t v b
  | .nil, _, _, h => h
  | .node _ _ _ _, _, _, ⟨b0, iv, la, ra, e, hn, h⟩ => ⟨b0, iv, la, ra, e, hn.keepN ht, h.imp (fun h => h) fun h => FirstB.keepN ht h⟩
theorem FirstB.at {seed : Int} {R : Nat → Prop} {w : World} : ∀ {t : Tree} {v : Value} {b : Nat} (d : Key), FirstB seed R w t v b → ∃ iv la ra l u r, NodeV seed R w b iv la ra l (firstT d t) u r
  | .nil, _, _, _, h => h.elim
  | .node .nil k u r, _, b, d, h => by
    obtain ⟨b0, iv, la, ra, e, hn, h⟩ := h
    rcases h with ⟨_, rfl⟩ | h
    · exact ⟨iv, la, ra, _, _, _, hn⟩
    · exact h.elim
  | .node (.node l2 k2 u2 r2) k u r, _, b, d, h => by
    obtain ⟨b0, iv, la, ra, e, hn, h⟩ := h
    rcases h with ⟨h, _⟩ | h
    · cases h
    · exact FirstB.at k h
set_option maxHeartbeats 1000000 in
theorem first_fix {seed : Int} {R : Nat → Prop} {w : World} {v : Value} {t : Tree} {c : Nat} (h : FirstB seed R w t v c) :
    Calls Try.prog 93 #[v] w fun e w' => e = .returned (.pointer (some ⟨c, 0, none⟩)) ∧ w = w' := by
  cases t with
  | nil => exact h.elim
  | node l k u r =>
  have HH := Lib.hid h
  obtain ⟨b0, i0, la0, ra0, rfl, _, _⟩ := h
  go_enter Try.func93, Try.ntmps93
  go_wp2_with fail
  go_loopg [0] (Tree.size (.node l k u r)) (fun m n wr => w = wr ∧ ∃ (a : Nat) (l' r' : Tree) (k' u' : Key), n = .pointer (some ⟨a, 0, none⟩) ∧ Hid (FirstB seed R w (.node l' k' u' r') (.pointer (some ⟨a, 0, none⟩)) c ∧ (Tree.node l' k' u' r').size ≤ m))
  case atStart => exact ⟨rfl, b0, l, r, k, u, rfl, Lib.hid ⟨HH.out, Nat.le_refl _⟩⟩
  obtain ⟨rfl, a, l', r', k', u', rfl, HX⟩ := hrel
  obtain ⟨b, iv, la, ra, hb, hn, hcase⟩ := HX.out.1
  injection hb with hb
  injection hb with hb
  injection hb with hb
  subst hb
  obtain ⟨_, _, _, x3, x4⟩ := node_cells hn.blk
  have HN := Lib.hid hn
  have HCS := Lib.hid hcase
  clear hn hcase
  cases l' with
  | nil =>
    obtain rfl : la = none := by have h : Value.pointer la = .pointer none := HN.out.left; injection h
    obtain rfl : c = a := HCS.out.elim (fun h => h.2) fun h => h.elim
    go_wp2_with fail
    go_ret
    first | exact ⟨rfl, rfl⟩ | rfl | trivial
  | node l2 k2 u2 r2 =>
    obtain ⟨b2, _, _, _, e2, _⟩ := HN.out.left.node
    injection e2 with e2
    subst e2
    go_wp2_with fail
    go_roundg (Tree.node l2 k2 u2 r2).size
    case measure => have := HX.out.2; simp only [Tree.size] at this ⊢; omega
    case rel => exact ⟨rfl, _, l2, r2, k2, u2, rfl, Lib.hid ⟨HCS.out.elim (fun h => by cases h.1) fun h => h, Nat.le_refl _⟩⟩

/-- The block of the last node. -/
def LastB (seed : Int) (R : Nat → Prop) (w : World) : Tree → Value → Nat → Prop
  | .nil, _, _ => False
  | .node l k u r, v, b => ∃ b0 iv la ra, v = .pointer (some ⟨b0, 0, none⟩) ∧ NodeV seed R w b0 iv la ra l k u r ∧ ((r = .nil ∧ b = b0) ∨ LastB seed R w r (.pointer ra) b)
theorem lastB_ex {seed : Int} {R : Nat → Prop} {w : World} : ∀ (t : Tree) (v : Value), t ≠ .nil → TreeAt seed R w t v → ∃ b, LastB seed R w t v b
  | .nil, _, h, _ => absurd rfl h
  | .node l k u .nil, v, _, h => by
    obtain ⟨b, ib, la, ra, e, hn⟩ := h.node
    exact ⟨b, b, _, la, ra, e, hn, .inl ⟨rfl, rfl⟩⟩
  | .node l k u (.node l2 k2 u2 r2), v, _, h => by
    obtain ⟨b, ib, la, ra, e, hn⟩ := h.node
    obtain ⟨c, hc⟩ := lastB_ex (.node l2 k2 u2 r2) (.pointer ra) (by simp) hn.right
    exact ⟨c, b, _, la, ra, e, hn, .inr hc⟩
theorem LastB.keepN {seed : Int} {R : Nat → Prop} {w w' : World} (ht : Touch Nil w w') : ∀ {t : Tree} {v : Value} {b : Nat}, LastB seed R w t v b → LastB seed R w' t v b
  | .nil, _, _, h => h
  | .node _ _ _ _, _, _, ⟨b0, iv, la, ra, e, hn, h⟩ => ⟨b0, iv, la, ra, e, hn.keepN ht, h.imp (fun h => h) fun h => LastB.keepN ht h⟩
theorem LastB.at {seed : Int} {R : Nat → Prop} {w : World} : ∀ {t : Tree} {v : Value} {b : Nat} (d : Key), LastB seed R w t v b → ∃ iv la ra l u r, NodeV seed R w b iv la ra l (lastT d t) u r
  | .nil, _, _, _, h => h.elim
  | .node l k u .nil, _, b, d, h => by
    obtain ⟨b0, iv, la, ra, e, hn, h⟩ := h
    rcases h with ⟨_, rfl⟩ | h
    · exact ⟨iv, la, ra, _, _, _, hn⟩
    · exact h.elim
  | .node l k u (.node l2 k2 u2 r2), _, b, d, h => by
    obtain ⟨b0, iv, la, ra, e, hn, h⟩ := h
    rcases h with ⟨h, _⟩ | h
    · cases h
    · exact LastB.at k h
set_option maxHeartbeats 1000000 in
theorem last_fix {seed : Int} {R : Nat → Prop} {w : World} {v : Value} {t : Tree} {c : Nat} (h : LastB seed R w t v c) :
    Calls Try.prog 92 #[v] w fun e w' => e = .returned (.pointer (some ⟨c, 0, none⟩)) ∧ w = w' := by
  cases t with
  | nil => exact h.elim
  | node l k u r =>
  have HH := Lib.hid h
  obtain ⟨b0, i0, la0, ra0, rfl, _, _⟩ := h
  go_enter Try.func92, Try.ntmps92
  go_wp2_with fail
  go_loopg [0] (Tree.size (.node l k u r)) (fun m n wr => w = wr ∧ ∃ (a : Nat) (l' r' : Tree) (k' u' : Key), n = .pointer (some ⟨a, 0, none⟩) ∧ Hid (LastB seed R w (.node l' k' u' r') (.pointer (some ⟨a, 0, none⟩)) c ∧ (Tree.node l' k' u' r').size ≤ m))
  case atStart => exact ⟨rfl, b0, l, r, k, u, rfl, Lib.hid ⟨HH.out, Nat.le_refl _⟩⟩
  obtain ⟨rfl, a, l', r', k', u', rfl, HX⟩ := hrel
  obtain ⟨b, iv, la, ra, hb, hn, hcase⟩ := HX.out.1
  injection hb with hb
  injection hb with hb
  injection hb with hb
  subst hb
  obtain ⟨_, _, _, x3, x4⟩ := node_cells hn.blk
  have HN := Lib.hid hn
  have HCS := Lib.hid hcase
  clear hn hcase
  cases r' with
  | nil =>
    obtain rfl : ra = none := by have h : Value.pointer ra = .pointer none := HN.out.right; injection h
    obtain rfl : c = a := HCS.out.elim (fun h => h.2) fun h => h.elim
    go_wp2_with fail
    go_ret
    first | exact ⟨rfl, rfl⟩ | rfl | trivial
  | node l2 k2 u2 r2 =>
    obtain ⟨b2, _, _, _, e2, _⟩ := HN.out.right.node
    injection e2 with e2
    subst e2
    go_wp2_with fail
    go_roundg (Tree.node l2 k2 u2 r2).size
    case measure => have := HX.out.2; simp only [Tree.size] at this ⊢; omega
    case rel => exact ⟨rfl, _, l2, r2, k2, u2, rfl, Lib.hid ⟨HCS.out.elim (fun h => by cases h.1) fun h => h, Nat.le_refl _⟩⟩

/-! ### A cut -/
/-- Two maps that are new, and a map that is empty then. -/
def CutPost (seed : Int) (R : Nat → Prop) (mb bb : Nat) (s u : Tree) (w : World) (e : Ending) (w' : World) : Prop :=
  ∃ ma ba ra mc bc rc R', e = .returned (.tuple #[.pointer (some ⟨ma, 0, none⟩), .pointer (some ⟨mc, 0, none⟩)]) ∧ MapAt seed R' w' ma ba ra s ∧ MapAt seed R' w' mc bc rc u ∧ MapAt seed (fun _ => False) w' mb bb none .nil ∧
    (∀ b, R' b → R b ∨ w.heap.size ≤ b) ∧ (w.heap.size ≤ ma ∧ w.heap.size ≤ ba ∧ w.heap.size ≤ mc ∧ w.heap.size ≤ bc ∧ ma < mc ∧ ba < bc ∧ ma < bc ∧ ba < mc) ∧ Touch (Just bb) w w'
set_option maxRecDepth 100000 in
set_option maxHeartbeats 4000000 in
theorem cut_map {seed : Int} {R : Nat → Prop} {w : World} {mb bb : Nat} {ra : Option Addr} {t : Tree} (h : MapAt seed R w mb bb ra t) {ka : Option Addr} {kl kc : Nat} {key : Key} (hk : BV w (.slice ka kl kc) key) :
    Calls Try.prog 43 #[.pointer (some ⟨mb, 0, none⟩), .slice ka kl kc] w (CutPost seed R mb bb (splitT key t).1 (splitT key t).2 w) := by
  have HH := Lib.hid h
  have HMI := Lib.hid (missing_map h)
  have HS := Lib.hid (split_any (seed := seed) (R := UpO R w) t (h.tree.mono fun b _ hr => .inl hr) hk (fun b hb => .inr hb) (by have := h.size; omega))
  have HO := Lib.hid (show (Srt (splitT key t).1.toL ∧ (splitT key t).1.Heap (abv seed) ∧ (splitT key t).1.size ≤ 100000) ∧ Srt (splitT key t).2.toL ∧ (splitT key t).2.Heap (abv seed) ∧ (splitT key t).2.size ≤ 100000 from by
    have e := split_toL key h.srt
    have g := split_heap key h.srt h.heap
    have z := split_size key t
    have := h.size
    exact ⟨⟨by rw [e.1]; exact h.srt.filter _, g.1, by omega⟩, by rw [e.2]; exact h.srt.filter _, g.2, by omega⟩)
  have HZ := Lib.hid (show ∀ w', Touch Nil w w' → w'.frozen? ⟨bb, 1, none⟩ = false from fun w' ht => by rw [ht.frozen (lt_of_heap h.body) (fun c => c)]; simp [World.frozen?, h.body])
  have x0 := cells1 h.top
  obtain ⟨y0, y1⟩ := cells2 h.body
  generalize splitT key t = p at *
  clear h hk
  go_enter Try.func43, Try.ntmps43
  go_wp2_with fail
  refine HMI.out.mono ?_
  rintro e w' ⟨rfl, rfl⟩
  go_wp2_with fail
  refine HS.out.mono ?_
  rintro e w1 ⟨a, b, rfl, ha, hb, ht1⟩
  obtain ⟨aa, rfl⟩ := ha.form
  obtain ⟨ab, rfl⟩ := hb.form
  have HA := Lib.hid ha
  have HB := Lib.hid hb
  have HT1 := Lib.hid ht1
  have c0 := cell_step x0 ht1
  have c1 := cell_step y0 ht1
  have c2 := cell_step y1 ht1
  have f1 := HZ.out _ ht1
  clear ha hb ht1 x0 y0 y1 HZ HS
  go_wp2_with fail
  have HTS := Lib.hid (show Touch (Just bb) w1 (w1.setCell ⟨bb, 1, none⟩ (.pointer none)) ∧ MapAt seed (fun _ => False) (w1.setCell ⟨bb, 1, none⟩ (.pointer none)) mb bb none .nil from by
    have hr := (HH.out.keepN HT1.out).root (R' := fun _ => False) (ra' := none) (t' := .nil) rfl (fun c => c) (fun c => c) List.Pairwise.nil trivial (by simp [Tree.size])
    exact ⟨hr.2, hr.1⟩)
  obtain ⟨w2, ew2⟩ : ∃ w2, w1.setCell ⟨bb, 1, none⟩ (.pointer none) = w2 := ⟨_, rfl⟩
  rw [ew2] at HTS ⊢
  have HR := Lib.hid (show ∀ b, UpO R w b → ¬ Just bb b from fun b hb c => by
    have c : b = bb := c
    subst c
    exact hb.elim HH.out.rb fun c => by have := lt_of_heap HH.out.body; omega)
  have HSZ := Lib.hid (show w.heap.size ≤ w2.heap.size from Nat.le_trans HT1.out.size HTS.out.1.size)
  have HNA := Lib.hid (newMap_any (R := fun b => UpO R w b ∧ b < w2.heap.size) ((HA.out.keep HTS.out.1 HR.out).mono fun b hb hr => ⟨hr, hb⟩) (fun b hb => hb.2) HO.out.1.1 HO.out.1.2.1 HO.out.1.2.2)
  have HB2 := Lib.hid ((HB.out.keep HTS.out.1 HR.out).mono (R' := fun b => UpO R w b ∧ b < w2.heap.size) fun b hb hr => ⟨hr, hb⟩)
  clear ew2 HA HB c0 c1 c2 f1
  refine HNA.out.mono ?_
  rintro e w3 ⟨ma, ba, ra, rfl, hm3, h1, h2, _, ht3⟩
  have HM3 := Lib.hid hm3
  have HL3 := Lib.hid (And.intro h1 h2)
  have HT3 := Lib.hid ht3
  have HNC := Lib.hid (newMap_any (HB2.out.keepN ht3) (fun b hb => Nat.lt_of_lt_of_le hb.2 ht3.size) HO.out.2.1 HO.out.2.2.1 HO.out.2.2.2)
  clear hm3 h1 h2 ht3
  go_wp2_with fail
  refine HNC.out.mono ?_
  rintro e w4 ⟨mc, bc, rc, rfl, hm4, h1, h2, _, ht4⟩
  have HM4 := Lib.hid hm4
  have HL4 := Lib.hid (And.intro h1 h2)
  have HT4 := Lib.hid ht4
  clear hm4 h1 h2 ht4
  go_wp2_with fail
  ((try simp only [Exit.inBlock, Exit.then]); refine bodyPost_ret (results_tmp2 rfl _ _ _) rfl ?_)
  have l1 := lt_of_heap HM3.out.top
  have l2 := lt_of_heap HM3.out.body
  have a1 := HL3.out.1
  have a2 := HL3.out.2
  have a3 := HL4.out.1
  have a4 := HL4.out.2
  have a5 := HSZ.out
  exact ⟨_, _, _, _, _, _, _, rfl, HM3.out.keepN HT4.out, HM4.out, (HTS.out.2.keepN HT3.out).keepN HT4.out, fun b hb => hb.1, ⟨by omega, by omega, by omega, by omega, by omega, by omega, by omega, by omega⟩, ((HT1.out.of_nil.trans HTS.out.1).trans HT3.out.of_nil).trans HT4.out.of_nil⟩

/-! ### A join -/
theorem eql_bodies {w : World} {ba bc : Nat} {ca cc : Array Value} {ta tc : TypeId} (hne : ba ≠ bc) (ha : w.heap[ba]? = some (.cells ca ta (0, 0))) (hb : w.heap[bc]? = some (.cells cc tc (0, 0))) : (binOp .eql 99 (.pointer (some ⟨ba, 0, none⟩)) (.pointer (some ⟨bc, 0, none⟩))).run Try.prog w = .ok (.bool false) w := by
  have h : ∃ j, Try.prog.info? 135 = some j ∧ j.size = 2 := by
    have h : (Try.prog.info? 135).map (fun i => i.size) = some 2 := by kernel_rfl
    cases e : Try.prog.info? 135 with
    | none => rw [e] at h; cases h
    | some j => rw [e] at h; exact ⟨j, rfl, by simpa using h⟩
  obtain ⟨j, hj, hz⟩ := h
  exact run_eql_ptr_other w Try.underlying99 hj (by omega) (fun e => hne (by cases e; rfl)) ha hb
/-- A map of all, and two maps that are empty then. -/
def JoinPost (seed : Int) (R S : Nat → Prop) (ma ba mc bc : Nat) (t : Tree) (w : World) (e : Ending) (w' : World) : Prop :=
  ∃ mj bj rj R', e = .returned (.tuple #[.pointer (some ⟨mj, 0, none⟩), .int .i64 0]) ∧ MapAt seed R' w' mj bj rj t ∧ MapAt seed (fun _ => False) w' ma ba none .nil ∧ MapAt seed (fun _ => False) w' mc bc none .nil ∧
    (∀ b, R' b → R b ∨ S b ∨ w.heap.size ≤ b) ∧ (w.heap.size ≤ mj ∧ w.heap.size ≤ bj) ∧ Touch (fun b => b = ba ∨ b = bc) w w'
/-- The two roots are taken away. -/
theorem join_mid {seed : Int} {R S : Nat → Prop} {w : World} {ma ba mc bc : Nat} {ra rc : Option Addr} {s u : Tree} (ha : MapAt seed R w ma ba ra s) (hc : MapAt seed S w mc bc rc u) (hne : ba ≠ bc) (hx : ma ≠ bc ∧ mc ≠ ba) (hR : ¬ S ba ∧ ¬ R bc) :
    MapAt seed (fun _ => False) ((w.setCell ⟨ba, 1, none⟩ (.pointer none)).setCell ⟨bc, 1, none⟩ (.pointer none)) ma ba none .nil ∧ MapAt seed (fun _ => False) ((w.setCell ⟨ba, 1, none⟩ (.pointer none)).setCell ⟨bc, 1, none⟩ (.pointer none)) mc bc none .nil ∧
      TreeAt seed R ((w.setCell ⟨ba, 1, none⟩ (.pointer none)).setCell ⟨bc, 1, none⟩ (.pointer none)) s (.pointer ra) ∧ TreeAt seed S ((w.setCell ⟨ba, 1, none⟩ (.pointer none)).setCell ⟨bc, 1, none⟩ (.pointer none)) u (.pointer rc) ∧
      Touch (fun b => b = ba ∨ b = bc) w ((w.setCell ⟨ba, 1, none⟩ (.pointer none)).setCell ⟨bc, 1, none⟩ (.pointer none)) := by
  obtain ⟨h1, t1⟩ := ha.root (R' := fun _ => False) (ra' := none) (t' := .nil) rfl (fun c => c) (fun c => c) List.Pairwise.nil trivial (by simp [Tree.size])
  have hc1 := hc.keep t1 (fun b hb c => hR.1 (by have c : b = ba := c; rw [← c]; exact hb)) (fun c => hx.2 c) (fun c => hne c.symm)
  obtain ⟨h2, t2⟩ := hc1.root (R' := fun _ => False) (ra' := none) (t' := .nil) rfl (fun c => c) (fun c => c) List.Pairwise.nil trivial (by simp [Tree.size])
  have hto : Touch (fun b => b = ba ∨ b = bc) w _ := ((t1.mono fun b _ hb => .inl hb).trans (t2.mono fun b _ hb => .inr hb))
  exact ⟨h1.keep t2 (fun _ c => c.elim) (fun c => hx.1 c) (fun c => hne c), h2, ha.tree.keep hto fun b hb c => c.elim (fun c => ha.rb (by rw [← c]; exact hb)) fun c => hR.2 (by rw [← c]; exact hb), hc.tree.keep hto fun b hb c => c.elim (fun c => hR.1 (by rw [← c]; exact hb)) fun c => hc.rb (by rw [← c]; exact hb), hto⟩
set_option maxRecDepth 100000 in
set_option maxHeartbeats 4000000 in
theorem join_map {seed : Int} {R S : Nat → Prop} {w : World} {ma ba mc bc : Nat} {ra rc : Option Addr} {s u : Tree} (ha : MapAt seed R w ma ba ra s) (hc : MapAt seed S w mc bc rc u) (hne : ba ≠ bc) (hx : ma ≠ bc ∧ mc ≠ ba) (hR : ¬ S ba ∧ ¬ R bc) (hlt : ∀ x ∈ s.toL, ∀ y ∈ u.toL, klt x.1 y.1 = true) (hz : s.size + u.size ≤ 100000) :
    Calls Try.prog 44 #[.pointer (some ⟨ma, 0, none⟩), .pointer (some ⟨mc, 0, none⟩)] w (JoinPost seed R S ma ba mc bc (mergeT (abv seed) s u) w) := by
  have HA := Lib.hid ha
  have HC := Lib.hid hc
  have HK := Lib.hid (fun n => kin_maps (ha.keepN ((Touch.refl Nil w).drewN n)) (hc.keepN ((Touch.refl Nil w).drewN n)))
  simp only [beq_self_eq_true] at HK
  have x0 := cells1 ha.top
  have x1 := cells1 hc.top
  obtain ⟨y0, y1⟩ := cells2 ha.body
  obtain ⟨z0, z1⟩ := cells2 hc.body
  have hE : ∀ n, (binOp .eql 99 (.pointer (some ⟨ba, 0, none⟩)) (.pointer (some ⟨bc, 0, none⟩))).run Try.prog (w.drewN n) = .ok (.bool false) (w.drewN n) := fun n => eql_bodies hne (ha.keepN ((Touch.refl Nil w).drewN n)).body (hc.keepN ((Touch.refl Nil w).drewN n)).body
  have HMS := Lib.hid (show Srt (mergeT (abv seed) s u).toL ∧ (mergeT (abv seed) s u).Heap (abv seed) ∧ (mergeT (abv seed) s u).size ≤ 100000 from
    ⟨by rw [merge_toL]; exact List.pairwise_append.2 ⟨ha.srt, hc.srt, hlt⟩, merge_heap (abv_ko seed) s u ha.heap hc.heap (fun x hx y hy e => by have := hlt x hx y hy; rw [e, klt_ko.irrefl] at this; cases this), by rw [merge_size]; exact hz⟩)
  have HX := Lib.hid hx
  have HNE := Lib.hid hne
  have HRR := Lib.hid hR
  clear ha hc hx hne hR
  go_enter Try.func44, Try.ntmps44
  go_wp2_with fail
  go_quiet ((go_at_call 45; exact Calls.quiet_of (HK.out _)))
  go_wp2_with fail
  obtain ⟨w2, ew2⟩ : ∃ w2, w.drewN nq = w2 := ⟨_, rfl⟩
  have HT2 := Lib.hid (show Touch Nil w w2 from by rw [← ew2]; exact (Touch.refl Nil w).drewN _)
  rw [ew2]
  clear ew2 hE HK
  have x0 := cell_step x0 HT2.out
  have x1 := cell_step x1 HT2.out
  have y0 := cell_step y0 HT2.out
  have y1 := cell_step y1 HT2.out
  have z0 := cell_step z0 HT2.out
  have z1 := cell_step z1 HT2.out
  go_quiet (fail)
  obtain ⟨w3, ew3⟩ : ∃ w3, w2.drewN nq = w3 := ⟨_, rfl⟩
  have HT3 := Lib.hid (show Touch Nil w w3 from by rw [← ew3]; exact HT2.out.drewN _)
  rw [ew3]
  clear ew3 x0 x1 y0 y1 z0 z1 HT2
  have HS1 := Lib.hid (fun w' (ht : Touch Nil w w') => sizeOf_any (HA.out.tree.keepN ht))
  have HS2 := Lib.hid (fun w' (ht : Touch Nil w w') => sizeOf_any (HC.out.tree.keepN ht))
  have HCL := Lib.hid (fun w' (ht : Touch Nil w w') => show (w'.cell? ⟨ma, 0, none⟩ = some (.pointer (some ⟨ba, 0, none⟩)) ∧ w'.cell? ⟨mc, 0, none⟩ = some (.pointer (some ⟨bc, 0, none⟩)) ∧ w'.cell? ⟨ba, 0, none⟩ = some (.int .u64 seed) ∧ w'.cell? ⟨ba, 1, none⟩ = some (.pointer ra) ∧ w'.cell? ⟨bc, 1, none⟩ = some (.pointer rc)) ∧ w'.frozen? ⟨ba, 1, none⟩ = false ∧ w'.frozen? ⟨bc, 1, none⟩ = false from
    ⟨⟨cells1 (HA.out.keepN ht).top, cells1 (HC.out.keepN ht).top, (cells2 (HA.out.keepN ht).body).1, (cells2 (HA.out.keepN ht).body).2, (cells2 (HC.out.keepN ht).body).2⟩, by simp [World.frozen?, (HA.out.keepN ht).body], by simp [World.frozen?, (HC.out.keepN ht).body]⟩)
  have HLT := Lib.hid hlt
  have HZ := Lib.hid hz
  obtain ⟨n1, e1⟩ : ∃ n1, s.size = n1 := ⟨_, rfl⟩
  obtain ⟨n2, e2⟩ : ∃ n2, u.size = n2 := ⟨_, rfl⟩
  rw [e1, e2] at hz
  simp only [e1] at HS1
  simp only [e2] at HS2
  have q1 : decide ((100000 : Int) < (n1 : Int) + (n2 : Int)) = false := by simp; omega
  clear e1 e2 hlt
  have HSU := Lib.hid (And.intro HA HC)
  rcases s with _ | ⟨l, k, v, r⟩
  case' nil =>
    obtain rfl : ra = none := by have h : Value.pointer ra = .pointer none := HA.out.tree; cases h; rfl
    go_wp2_with fail
    go_quiet (fail)
    obtain ⟨w5, ew5⟩ : ∃ w5, w3.drewN nq = w5 := ⟨_, rfl⟩
    have HT5 := Lib.hid (show Touch Nil w w5 from by rw [← ew5]; exact HT3.out.drewN _)
    rw [ew5]
    clear ew5
  case' node =>
    obtain ⟨b1, _, _, _, e1, _⟩ := HA.out.tree.node
    cases e1
    rcases u with _ | ⟨l', k', v', r'⟩
    case' nil =>
      obtain rfl : rc = none := by have h : Value.pointer rc = .pointer none := HC.out.tree; cases h; rfl
      go_wp2_with fail
      go_quiet (fail)
      obtain ⟨w5, ew5⟩ : ∃ w5, w3.drewN nq = w5 := ⟨_, rfl⟩
      have HT5 := Lib.hid (show Touch Nil w w5 from by rw [← ew5]; exact HT3.out.drewN _)
      rw [ew5]
      clear ew5
    case' node =>
      obtain ⟨b2, _, _, _, e2, _⟩ := HC.out.tree.node
      cases e2
      have HKK := Lib.hid (show klt (lastT [] (.node l k v r)) (firstT [] (.node l' k' v' r')) = true from by
        obtain ⟨v1, L1, e1⟩ := lastT_spec (.node l k v r) [] (by simp)
        obtain ⟨v2, L2, e2⟩ := firstT_spec (.node l' k' v' r') [] (by simp)
        exact HLT.out (lastT [] (.node l k v r), v1) (by rw [e1]; exact List.mem_append_right _ (List.mem_singleton.2 rfl)) (firstT [] (.node l' k' v' r'), v2) (by rw [e2]; exact List.mem_cons_self ..))
      obtain ⟨c1, hc1⟩ := lastB_ex _ _ (by simp) (HA.out.keepN HT3.out).tree
      obtain ⟨c2, hc2⟩ := firstB_ex _ _ (by simp) (HC.out.keepN HT3.out).tree
      obtain ⟨_, _, _, _, _, _, hl⟩ := hc1.at []
      obtain ⟨_, _, _, _, _, _, hf⟩ := hc2.at []
      have HLA := Lib.hid (fun n => last_fix (hc1.keepN ((Touch.refl Nil w3).drewN n)))
      have HFI := Lib.hid (fun n => first_fix (hc2.keepN ((Touch.refl Nil w3).drewN n)))
      generalize lastT [] (.node l k v r) = k1 at *
      generalize firstT [] (.node l' k' v' r') = k2 at *
      have l0 := (node_cells hl.blk).1
      have g0 := (node_cells hf.blk).1
      obtain ⟨ib, kx, ux, rfl, _, hib, hbk, _, _⟩ := hl.item
      obtain ⟨jb, mx, vx, rfl, _, hjb, hjk, _, _⟩ := hf.item
      obtain ⟨l1, _, _⟩ := item_cells hib
      obtain ⟨g1, _, _⟩ := item_cells hjb
      obtain ⟨z, ez⟩ : ∃ z, Lib.compareBytes k1 k2 = z := ⟨_, rfl⟩
      have hz1 : decide ((0 : Int) ≤ z) = false := by
        have h := klt_iff.1 HKK.out
        rw [ez] at h
        simp; omega
      have HCM := Lib.hid (fun n => show Calls Try.prog 91 #[kx, mx] (w3.drewN n) fun e w' => e = .returned (.int .i64 z) ∧ w3.drewN n = w' from by rw [← ez]; exact compareP_any (hbk.bv.keepN ((Touch.refl Nil w3).drewN n)) (hjk.bv.keepN ((Touch.refl Nil w3).drewN n)))
      obtain ⟨ka', kn', kc', rfl⟩ := hbk.1.form
      obtain ⟨ma', mn', mc', rfl⟩ := hjk.1.form
      clear ez hc1 hc2 hl hf hib hjb hbk hjk
      go_wp2_with fail
      go_quiet (first
        | (go_at_call 92; refine Calls.quiet_of_same (v := .pointer (some ⟨c1, 0, none⟩)) ?_; exact (HLA.out _).mono fun _ _ h => ⟨h.1, h.2.symm⟩)
        | (go_at_call 93; refine Calls.quiet_of_same (v := .pointer (some ⟨c2, 0, none⟩)) ?_; exact (HFI.out _).mono fun _ _ h => ⟨h.1, h.2.symm⟩)
        | (go_at_call 91; refine Calls.quiet_of_same (v := .int .i64 z) ?_; exact (HCM.out _).mono fun _ _ h => ⟨h.1, h.2.symm⟩))
      obtain ⟨w5, ew5⟩ : ∃ w5, w3.drewN nq = w5 := ⟨_, rfl⟩
      have HT5 := Lib.hid (show Touch Nil w w5 from by rw [← ew5]; exact HT3.out.drewN _)
      rw [ew5]
      clear ew5
  all_goals
    go_wp2_with fail
    refine (HS1.out _ HT5.out).mono ?_
    rintro e w' ⟨rfl, rfl⟩
    go_wp2_with fail
    refine (HS2.out _ HT5.out).mono ?_
    rintro e w' ⟨rfl, rfl⟩
    obtain ⟨⟨x0, x1, y0, y1, z1⟩, f0, f1⟩ := HCL.out _ HT5.out
    go_wp2_with fail
    have hx1 := HX.out.1
    have hx2 := HX.out.2
    have hne := HNE.out
    go_region
    have HFA := Lib.hid (join_mid (HA.out.keepN HT5.out) (HC.out.keepN HT5.out) HNE.out HX.out HRR.out)
    generalize (w'.setCell ⟨ba, 1, none⟩ (.pointer none)).setCell ⟨bc, 1, none⟩ (.pointer none) = w6 at *
    clear x0 x1 y0 y1 z1 f0 f1 hx1 hx2 hne HS1 HS2 HCL
    go_wp2_with fail
    obtain ⟨w7, ew7⟩ : ∃ w7, w6.drew = w7 := ⟨_, rfl⟩
    have HD := Lib.hid (show Touch Nil w6 w7 from by rw [← ew7]; exact (Touch.refl Nil w6).drew)
    have HT7 := Lib.hid (show Touch (fun b => b = ba ∨ b = bc) w w7 from (HT5.out.of_nil.trans HFA.out.2.2.2.2).trans HD.out.of_nil)
    have HF7 := Lib.hid (And.intro (HFA.out.1.keepN HD.out) (HFA.out.2.1.keepN HD.out))
    have HME := Lib.hid (merge_any (R := fun b => (R b ∨ S b) ∨ w7.heap.size ≤ b) _ _ _ (Nat.le_refl _) ((HFA.out.2.2.1.keepN HD.out).mono fun b _ hb => .inl (.inl hb)) ((HFA.out.2.2.2.1.keepN HD.out).mono fun b _ hb => .inl (.inr hb)) (fun b hb => .inr hb) (by have := HZ.out; omega))
    rw [ew7]
    clear ew7 HFA HD
    refine HME.out.mono ?_
    rintro e w8 ⟨v8, rfl, h8, ht8⟩
    obtain ⟨va8, rfl⟩ := h8.form
    have HT8 := Lib.hid ht8
    have HNJ := Lib.hid (newMap_any (R := fun b => ((R b ∨ S b) ∨ w7.heap.size ≤ b) ∧ b < w8.heap.size) (h8.mono fun b hb hr => ⟨hr, hb⟩) (fun b hb => hb.2) HMS.out.1 HMS.out.2.1 HMS.out.2.2)
    clear h8 ht8 HME
    go_wp2_with fail
    refine HNJ.out.mono ?_
    rintro e w9 ⟨mj, bj, rj, rfl, hm9, h1, h2, _, ht9⟩
    have HM9 := Lib.hid hm9
    have HL9 := Lib.hid (And.intro h1 h2)
    have HT9 := Lib.hid (HT8.out.trans ht9)
    clear hm9 h1 h2 ht9
    go_wp2_with fail
    ((try simp only [Exit.inBlock, Exit.then]); refine bodyPost_ret (results_tmp2 rfl _ _ _) rfl ?_)
    have a1 := HL9.out.1
    have a2 := HL9.out.2
    have a3 := HT8.out.size
    have a4 := HT7.out.size
    exact ⟨_, _, _, _, rfl, HM9.out, HF7.out.1.keepN HT9.out, HF7.out.2.keepN HT9.out, fun b hb => hb.1.elim (fun c => c.elim .inl fun c => .inr (.inl c)) fun c => .inr (.inr (by omega)), ⟨by omega, by omega⟩, HT7.out.trans HT9.out.of_nil⟩
end Go.Proofs.Ytkkpcndpjkebkaa
