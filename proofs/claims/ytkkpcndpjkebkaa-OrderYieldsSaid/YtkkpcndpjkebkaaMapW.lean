import Derived.Test.YtkkpcndpjkebkaaMap
/- Pairs are put into a map and taken out. -/
namespace Go.Proofs.Ytkkpcndpjkebkaa
open Go.ChangeShapes Go.WideShapes Go.ChangeAt Go.RowKit Go.Deep

/-- The blocks of R, and those that are new since w. -/
def Up (R : Nat → Prop) (w w' : World) : Nat → Prop := fun b => R b ∨ (w.heap.size ≤ b ∧ b < w'.heap.size)
def UpO (R : Nat → Prop) (w : World) : Nat → Prop := fun b => R b ∨ w.heap.size ≤ b
def PutPost (seed : Int) (R : Nat → Prop) (mb bb : Nat) (t : Tree) (c : Int) (w : World) (e : Ending) (w' : World) : Prop := e = .returned (.int .i64 c) ∧ (∃ ra, MapAt seed (Up R w w') w' mb bb ra t) ∧ Touch (Just bb) w w'
theorem put_end {seed : Int} {R : Nat → Prop} {w w4 : World} {mb bb : Nat} {ra ra' : Option Addr} {t t' : Tree} (h : MapAt seed R w mb bb ra t) (ht : Touch Nil w w4) (h4 : TreeAt seed (UpO R w) w4 t' (.pointer ra')) (hs : Srt t'.toL ∧ t'.Heap (abv seed) ∧ t'.size ≤ 100000) :
    (∃ ra2, MapAt seed (Up R w (w4.setCell ⟨bb, 1, none⟩ (.pointer ra'))) (w4.setCell ⟨bb, 1, none⟩ (.pointer ra')) mb bb ra2 t') ∧ Touch (Just bb) w (w4.setCell ⟨bb, 1, none⟩ (.pointer ra')) := by
  have lm := lt_of_heap h.top
  have lb := lt_of_heap h.body
  have h4' : TreeAt seed (Up R w w4) w4 t' (.pointer ra') := h4.mono fun b hb hr => hr.elim .inl fun hr => .inr ⟨hr, hb⟩
  obtain ⟨hm, hto⟩ := (h.keepN ht).root h4' (fun c => c.elim h.rm fun c => by omega) (fun c => c.elim h.rb fun c => by omega) hs.1 hs.2.1 hs.2.2
  have hz : (w4.setCell ⟨bb, 1, none⟩ (.pointer ra')).heap.size = w4.heap.size := nblk_setCell _ _ _
  exact ⟨⟨_, by unfold Up; rw [hz]; exact hm⟩, ht.of_nil.trans hto⟩
theorem allowB_le {k u : Nat} (h : allowB k u = true) : 1 ≤ k ∧ k ≤ 64 ∧ u ≤ 1000 := of_decide_eq_true h

theorem put_bad {seed : Int} {R : Nat → Prop} {w : World} {mb bb : Nat} {ra : Option Addr} {t : Tree} (h : MapAt seed R w mb bb ra t) (kl ul kc uc : Nat) (ka ua : Option Addr) (hk : kl ≤ 1073741824) (hu : ul ≤ 1073741824) (hb : allowB kl ul = false) :
    Calls Try.prog 49 #[.pointer (some ⟨mb, 0, none⟩), .slice ka kl kc, .slice ua ul uc] w fun e w' => e = .returned (.int .i64 1) ∧ w = w' := by
  have HM := Lib.hid (missing_map h)
  have HA := Lib.hid (allowedP_any kl ul w (by omega) (by omega))
  rw [hb] at HA
  clear h hb
  go_enter Try.func49, Try.ntmps49
  go_wp2_with fail
  refine HM.out.mono ?_
  rintro e w' ⟨rfl, rfl⟩
  go_wp2_with fail
  refine HA.out.mono ?_
  rintro e w' ⟨rfl, rfl⟩
  go_wp2_with fail
  go_ret
  exact ⟨rfl, rfl⟩

set_option maxRecDepth 100000 in
set_option maxHeartbeats 4000000 in
theorem put_map {seed : Int} {R : Nat → Prop} {w : World} {mb bb : Nat} {ra : Option Addr} {t : Tree} (h : MapAt seed R w mb bb ra t) {kx ux : Value} {key u : Key} (hk : BV w kx key) (hu : BV w ux u) (hok : allowB key.length u.length = true) (hsz : t.size < 100000) :
    Calls Try.prog 49 #[.pointer (some ⟨mb, 0, none⟩), kx, ux] w (PutPost seed R mb bb (insT (abv seed) key u t) 0 w) := by
  have HM := Lib.hid (missing_map h)
  have HH := Lib.hid h
  have hlk := allowB_le hok
  have HA := Lib.hid (allowedP_any key.length u.length w (by omega) (by omega))
  rw [hok] at HA
  have HSZ := Lib.hid (sizeOf_any h.tree)
  have hup : ∀ b, w.heap.size ≤ b → UpO R w b := fun b hb => .inr hb
  have HNI := Lib.hid (fun w' (ht : Touch Nil w w') => newItem_any seed (UpO R w) (w := w') (hk.keepN ht) (hu.keepN ht) hlk (fun b hb => hup b (Nat.le_trans ht.size hb)))
  have HWI := Lib.hid (fun w' iv (ht : Touch Nil w w') (hi : ItemAt seed (UpO R w) w' iv key u) => with_any t ((h.tree.mono fun b _ hb => .inl hb).keepN ht) hi (fun b hb => hup b (Nat.le_trans ht.size hb)) (by omega))
  have x0 := cells1 h.top
  obtain ⟨y0, y1⟩ := cells2 h.body
  have z1 : ∀ w', Touch Nil w w' → w'.frozen? ⟨bb, 1, none⟩ = false := fun w' ht => by rw [ht.frozen (lt_of_heap h.body) (fun c => c)]; simp [World.frozen?, h.body]
  have HZ := Lib.hid z1
  have hge : decide ((100000 : Int) ≤ ((t.size : Nat) : Int)) = false := by rw [decide_eq_false_iff_not]; omega
  have hge' : decide (100000 ≤ t.size) = false := by rw [decide_eq_false_iff_not]; omega
  have HINS := Lib.hid (ins_size (abv seed) key u t)
  have HSS := Lib.hid (show Srt (insT (abv seed) key u t).toL ∧ (insT (abv seed) key u t).Heap (abv seed) ∧ (insT (abv seed) key u t).size ≤ 100000 from
    ⟨by rw [ins_toL (abv_ko seed) key u h.srt h.heap]; exact insL_srt key u h.srt, ins_heap (abv_ko seed) key u h.srt h.heap, by have := HINS.out; omega⟩)
  obtain ⟨qa, qc, rfl, _, _⟩ := hk
  obtain ⟨va, vc, rfl, _, _⟩ := hu
  generalize insT (abv seed) key u t = t' at *
  generalize key.length = ql at *
  generalize u.length = vl at *
  generalize t.size = n at *
  clear h hlk hup z1 hok hsz HINS
  go_enter Try.func49, Try.ntmps49
  go_wp2_with fail
  refine HM.out.mono ?_
  rintro e w' ⟨rfl, rfl⟩
  go_wp2_with fail
  refine HA.out.mono ?_
  rintro e w' ⟨rfl, rfl⟩
  go_wp2_with fail
  refine HSZ.out.mono ?_
  rintro e w' ⟨rfl, rfl⟩
  go_wp2_with fail
  go_region_with ((first
    | (go_at_call 98; refine (HNI.out _ (Touch.refl Nil w').drew).mono ?_; rintro e w3 ⟨iv, rfl, h3, ht3⟩; obtain ⟨ib, rfl⟩ := h3.form; have H3 := Lib.hid h3; have b0 := cell_step y0 ((Touch.refl Nil w').drew.trans ht3); have b1 := cell_step y1 ((Touch.refl Nil w').drew.trans ht3); have HT3 := Lib.hid ((Touch.refl Nil w').drew.trans ht3); clear h3 ht3)
    | (go_at_call 97; refine (HWI.out _ _ HT3.out H3.out).mono ?_; rintro e w4 ⟨v4, rfl, h4, ht4⟩; obtain ⟨va4, rfl⟩ := h4.form; have H4 := Lib.hid h4; have c0 := cell_step y0 (HT3.out.trans ht4); have c1 := cell_step y1 (HT3.out.trans ht4); have f1 := HZ.out _ (HT3.out.trans ht4); have HT4 := Lib.hid (HT3.out.trans ht4); clear h4 ht4)))
  all_goals
    go_wp2_with fail
    go_ret
    exact ⟨rfl, put_end HH.out HT4.out H4.out HSS.out⟩

set_option maxHeartbeats 1000000 in
theorem drop_no {seed : Int} {R : Nat → Prop} {w : World} {mb bb : Nat} {ra : Option Addr} {t : Tree} (h : MapAt seed R w mb bb ra t) {kx : Value} {key : Key} (hk : BV w kx key) (hno : ∀ p ∈ t.toL, p.1 ≠ key) :
    Calls Try.prog 25 #[.pointer (some ⟨mb, 0, none⟩), kx] w fun e w' => e = .returned (.int .i64 3) ∧ w = w' := by
  have HM := Lib.hid (missing_map h)
  have HF := Lib.hid (find_any h.tree h.srt hk)
  have HNO := Lib.hid hno
  have x0 := cells1 h.top
  obtain ⟨y0, y1⟩ := cells2 h.body
  obtain ⟨qa, qc, rfl, _, _⟩ := hk
  generalize key.length = ql at *
  clear h hno
  go_enter Try.func25, Try.ntmps25
  go_wp2_with fail
  refine HM.out.mono ?_
  rintro e w' ⟨rfl, rfl⟩
  go_wp2_with fail
  refine HF.out.mono ?_
  rintro e w' ⟨v, rfl, ⟨rfl, _⟩ | ⟨b, iv, la, rb, l, u, r, rfl, _, hmem⟩, rfl⟩
  · go_wp2_with fail
    go_ret
    exact ⟨rfl, rfl⟩
  · exact absurd rfl (HNO.out _ hmem)
set_option maxRecDepth 100000 in
set_option maxHeartbeats 4000000 in
theorem drop_map {seed : Int} {R : Nat → Prop} {w : World} {mb bb : Nat} {ra : Option Addr} {t : Tree} (h : MapAt seed R w mb bb ra t) {kx : Value} {key u : Key} (hk : BV w kx key) (hin : (key, u) ∈ t.toL) :
    Calls Try.prog 25 #[.pointer (some ⟨mb, 0, none⟩), kx] w (PutPost seed R mb bb (delT (abv seed) key t) 0 w) := by
  have HM := Lib.hid (missing_map h)
  have HH := Lib.hid h
  have HF := Lib.hid (find_any h.tree h.srt hk)
  have HIN := Lib.hid hin
  have hup : ∀ b, w.heap.size ≤ b → UpO R w b := fun b hb => .inr hb
  have HWO := Lib.hid (without_any t (h.tree.mono (R' := UpO R w) fun b _ hb => .inl hb) hk hup (by have := h.size; omega))
  have HWO := Lib.hid (fun w' (ht : Touch Nil w w') => without_any t (w := w') ((h.tree.mono (R' := UpO R w) fun b _ hb => .inl hb).keepN ht) (hk.keepN ht) (fun b hb => hup b (Nat.le_trans ht.size hb)) (by have := h.size; omega))
  have x0 := cells1 h.top
  obtain ⟨y0, y1⟩ := cells2 h.body
  have z1 : ∀ w', Touch Nil w w' → w'.frozen? ⟨bb, 1, none⟩ = false := fun w' ht => by rw [ht.frozen (lt_of_heap h.body) (fun c => c)]; simp [World.frozen?, h.body]
  have HZ := Lib.hid z1
  have HSS := Lib.hid (show Srt (delT (abv seed) key t).toL ∧ (delT (abv seed) key t).Heap (abv seed) ∧ (delT (abv seed) key t).size ≤ 100000 from
    ⟨by rw [del_toL key h.srt]; exact delL_srt key h.srt, del_heap (abv_ko seed) key h.srt h.heap, by have := del_size (abv seed) key t; have := h.size; omega⟩)
  obtain ⟨qa, qc, rfl, _, _⟩ := hk
  generalize delT (abv seed) key t = t' at *
  generalize key.length = ql at *
  clear h hup z1 hin
  go_enter Try.func25, Try.ntmps25
  go_wp2_with fail
  refine HM.out.mono ?_
  rintro e w' ⟨rfl, rfl⟩
  go_wp2_with fail
  refine HF.out.mono ?_
  rintro e w' ⟨v, rfl, ⟨rfl, hno⟩ | ⟨b, iv, la, rb, l, u, r, rfl, _, _⟩, rfl⟩
  · exact absurd rfl (hno _ HIN.out)
  · clear HF
    go_wp2_with fail
    go_region_with ((go_at_call 74; refine (HWO.out _ (Touch.refl Nil _).drew).mono ?_; rintro e w4 ⟨v4, rfl, h4, ht4⟩; obtain ⟨va4, rfl⟩ := h4.form; have H4 := Lib.hid h4; have c0 := cell_step y0 ((Touch.refl Nil _).drew.trans ht4); have c1 := cell_step y1 ((Touch.refl Nil _).drew.trans ht4); have f1 := HZ.out _ ((Touch.refl Nil _).drew.trans ht4); have HT4 := Lib.hid ((Touch.refl Nil _).drew.trans ht4); clear h4 ht4))
    all_goals
      go_wp2_with fail
      go_ret
      exact ⟨rfl, put_end HH.out HT4.out H4.out HSS.out⟩
end Go.Proofs.Ytkkpcndpjkebkaa
