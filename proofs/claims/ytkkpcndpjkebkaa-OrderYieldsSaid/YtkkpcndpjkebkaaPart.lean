import Derived.Test.YtkkpcndpjkebkaaLawP
import Derived.Test.YtkkpcndpjkebkaaNone
/- The map of a span. -/
namespace Go.Proofs.Ytkkpcndpjkebkaa
open Go.ChangeShapes Go.WideShapes Go.ChangeAt Go.RowKit Go.Deep

/-- The tree of a span of keys. -/
def partT (bo : Bool) (low high : Key) (t : Tree) : Tree := if bo = true then (splitT high (splitT low t).2).1 else (splitT low t).2
theorem part_ok {seed : Int} {t : Tree} (bo : Bool) (low high : Key) (hs : Srt t.toL) (hh : t.Heap (abv seed)) : Srt (partT bo low high t).toL ∧ (partT bo low high t).Heap (abv seed) ∧ (partT bo low high t).size ≤ t.size := by
  have e1 := (split_toL low hs).2
  have h1 : Srt (splitT low t).2.toL := by rw [e1]; exact List.Pairwise.filter _ hs
  have g1 := (split_heap low hs hh).2
  have z1 := split_size low t
  cases bo with
  | false => exact ⟨h1, g1, by simp only [partT]; simp; omega⟩
  | true =>
    have e2 := (split_toL high h1).1
    refine ⟨by simp only [partT, if_true]; rw [e2]; exact List.Pairwise.filter _ h1, by simp only [partT, if_true]; exact (split_heap high h1 g1).1, ?_⟩
    have z2 := split_size high (splitT low t).2
    simp only [partT, if_true]; omega
theorem part_all (t : Tree) (hs : Srt t.toL) : (partT false [] [] t).toL = t.toL := by
  show (splitT [] t).2.toL = t.toL
  rw [(split_toL [] hs).2]
  exact List.filter_eq_self.2 fun x _ => by cases h : x.1 <;> simp [klt, Lib.compareBytes]
/-- A map that is made out of another one's nodes. -/
def PartPost (seed : Int) (R : Nat → Prop) (t : Tree) (w : World) (e : Ending) (w' : World) : Prop :=
  ∃ mb bb ra R', e = .returned (.pointer (some ⟨mb, 0, none⟩)) ∧ MapAt seed R' w' mb bb ra t ∧ (∀ b, R' b → b < w'.heap.size ∧ (R b ∨ w.heap.size ≤ b)) ∧ Touch Nil w w'
set_option maxRecDepth 100000 in
set_option maxHeartbeats 4000000 in
theorem part_map {seed : Int} {R : Nat → Prop} {w : World} {mb bb : Nat} {ra : Option Addr} {t : Tree} (h : MapAt seed R w mb bb ra t) {la ha : Option Addr} {ll lc hl hc : Nat} {low high : Key} (hlo : BV w (.slice la ll lc) low) (hhi : BV w (.slice ha hl hc) high) (bo : Bool) :
    Calls Try.prog 83 #[.pointer (some ⟨mb, 0, none⟩), .slice la ll lc, .slice ha hl hc, .bool bo] w (PartPost seed R (partT bo low high t) w) := by
  have HMI := Lib.hid (missing_map h)
  have HS1 := Lib.hid (fun w' (ht : Touch Nil w w') => split_any (seed := seed) (R := UpO R w) t ((h.tree.keepN ht).mono fun b _ hr => .inl hr) (hlo.keepN ht) (fun b hb => .inr (Nat.le_trans ht.size hb)) (by have := h.size; omega))
  have HS2 := Lib.hid (fun w' (ht : Touch Nil w w') {v : Value} (hv : TreeAt seed (UpO R w) w' (splitT low t).2 v) => split_any (seed := seed) (R := UpO R w) (splitT low t).2 hv (hhi.keepN ht) (fun b hb => .inr (Nat.le_trans ht.size hb)) (by have := h.size; have := split_size low t; omega))
  have HOK := Lib.hid (part_ok (seed := seed) bo low high h.srt h.heap)
  have HSZ := Lib.hid h.size
  have HST := Lib.hid (fun w' (ht : Touch Nil w w') => show w'.cell? ⟨mb, 0, none⟩ = some (.pointer (some ⟨bb, 0, none⟩)) ∧ w'.cell? ⟨bb, 0, none⟩ = some (.int .u64 seed) ∧ w'.cell? ⟨bb, 1, none⟩ = some (.pointer ra) ∧ Hid (Touch Nil w w') from ⟨cell_step (cells1 h.top) ht, cell_step (cells2 h.body).1 ht, cell_step (cells2 h.body).2 ht, Lib.hid ht⟩)
  clear h hlo hhi
  obtain ⟨x0, x1, x2, _⟩ := HST.out w (Touch.refl _ _)
  go_enter Try.func83, Try.ntmps83
  go_wp2_with fail
  refine HMI.out.mono ?_
  rintro e w' ⟨rfl, rfl⟩
  go_wp2_with fail
  go_region_held3 (fun w' => w'.cell? ⟨mb, 0, none⟩ = some (.pointer (some ⟨bb, 0, none⟩)) ∧ w'.cell? ⟨bb, 0, none⟩ = some (.int .u64 seed) ∧ w'.cell? ⟨bb, 1, none⟩ = some (.pointer ra) ∧ Hid (Touch Nil w w'))
    (first | (with_reducible exact HST.out _ (Touch.refl Nil w).drew) | (with_reducible exact HST.out _ hT3))
    (first
      | (go_at_call 90; refine (HS1.out _ (Touch.refl Nil w).drew).mono ?_; rintro e w3 ⟨a3, b3, rfl, h3a, h3b, ht3⟩; obtain ⟨aa, rfl⟩ := h3a.form; obtain ⟨ba, rfl⟩ := h3b.form; have hT3 : Touch Nil w w3 := (Touch.refl Nil w).drew.trans ht3; have HB3 := Lib.hid h3b; clear h3a h3b ht3))
  rename_i hHeldX
  clear hHeldX
  have HT3 := Lib.hid hT3
  clear x0 x1 x2 hT3
  obtain ⟨x0, x1, x2, _⟩ := HST.out w3 HT3.out
  cases bo with
  | false =>
    have HNM := Lib.hid (newMap_any (R := fun b => UpO R w b ∧ b < w3.heap.size) (HB3.out.mono fun b hb hr => ⟨hr, hb⟩) (fun b hb => hb.2) HOK.out.1 HOK.out.2.1 (Nat.le_trans HOK.out.2.2 HSZ.out))
    go_wp2_with fail
    refine HNM.out.mono ?_
    rintro e w5 ⟨mb5, bb5, ra5, rfl, hm5, _, _, _, ht5⟩
    have HM5 := Lib.hid (And.intro hm5 ht5)
    clear hm5 ht5
    go_wp2_with fail
    go_ret
    exact ⟨_, _, _, _, rfl, HM5.out.1, fun b hb => ⟨Nat.lt_of_lt_of_le hb.2 HM5.out.2.size, hb.1⟩, HT3.out.trans HM5.out.2⟩
  | true =>
    go_wp2_with fail
    refine (HS2.out _ HT3.out HB3.out).mono ?_
    rintro e w4 ⟨a4, b4, rfl, h4a, h4b, ht4⟩
    obtain ⟨aa4, rfl⟩ := h4a.form
    obtain ⟨ba4, rfl⟩ := h4b.form
    have HA4 := Lib.hid h4a
    have HT4 := Lib.hid (HT3.out.trans ht4)
    clear h4a h4b ht4 x0 x1 x2
    obtain ⟨x0, x1, x2, _⟩ := HST.out w4 HT4.out
    have HNM := Lib.hid (newMap_any (R := fun b => UpO R w b ∧ b < w4.heap.size) (HA4.out.mono fun b hb hr => ⟨hr, hb⟩) (fun b hb => hb.2) HOK.out.1 HOK.out.2.1 (Nat.le_trans HOK.out.2.2 HSZ.out))
    go_wp2_with fail
    refine HNM.out.mono ?_
    rintro e w5 ⟨mb5, bb5, ra5, rfl, hm5, _, _, _, ht5⟩
    have HM5 := Lib.hid (And.intro hm5 ht5)
    clear hm5 ht5
    go_wp2_with fail
    go_ret
    exact ⟨_, _, _, _, rfl, HM5.out.1, fun b hb => ⟨Nat.lt_of_lt_of_le hb.2 HM5.out.2.size, hb.1⟩, HT4.out.trans HM5.out.2⟩
end Go.Proofs.Ytkkpcndpjkebkaa
