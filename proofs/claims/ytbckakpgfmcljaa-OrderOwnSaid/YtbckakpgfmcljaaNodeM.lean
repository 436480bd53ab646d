import Derived.Test.YtbckakpgfmcljaaNodeW
import Derived.Deep.RegionHeld3
/- Nodes are made. -/
namespace Go.Proofs.Ytbckakpgfmcljaa
open Go.ChangeShapes Go.WideShapes Go.ChangeAt Go.RowKit Go.Deep

theorem mixed : Try.prog.follows .mixedOrders = true := by kernel_rfl
def TreePost (seed : Int) (R : Nat → Prop) (t : Tree) (w : World) (e : Ending) (w' : World) : Prop := ∃ v, e = .returned v ∧ TreeAt seed R w' t v ∧ Touch Nil w w'
/-- What is known of two cells while a region goes on. -/
abbrev LdS (ib : Nat) (x y : Value) (w0 w' : World) : Prop := w'.cell? ⟨ib, 0, none⟩ = some x ∧ w'.cell? ⟨ib, 1, none⟩ = some y ∧ Hid (Touch Nil w0 w')
theorem cell_step {w w' : World} {b o : Nat} {x : Value} (h : w.cell? ⟨b, o, none⟩ = some x) (ht : Touch Nil w w') : w'.cell? ⟨b, o, none⟩ = some x := (ht.cell (World.block_lt_of_cell? w _ h) (fun c => c) o).trans h
theorem LdS.step {ib : Nat} {x y : Value} {w0 w w' : World} (h : LdS ib x y w0 w) (ht : Touch Nil w w') : LdS ib x y w0 w' := ⟨cell_step h.1 ht, cell_step h.2.1 ht, Lib.hid (h.2.2.out.trans ht)⟩
set_option maxRecDepth 100000 in
set_option maxHeartbeats 2000000 in
theorem newNode_any {seed : Int} {R : Nat → Prop} {w : World} {iv lv rv : Value} {l r : Tree} {k u : Key} (hi : ItemAt seed R w iv k u) (hl : TreeAt seed R w l lv) (hr : TreeAt seed R w r rv) (hR : ∀ b, w.heap.size ≤ b → R b) (hsz : l.size + r.size ≤ 1000000000) :
    Calls Try.prog 110 #[.int .u64 seed, iv, lv, rv] w (TreePost seed R (.node l k u r) w) := by
  have HI := Lib.hid hi
  have HL := Lib.hid hl
  have HR := Lib.hid hr
  have HRR := Lib.hid hR
  obtain ⟨ib, kx, ux, rfl, _, hih, hk, hu, hok⟩ := hi
  obtain ⟨x0, x1, _⟩ := item_cells hih
  have hib := lt_of_heap hih
  obtain ⟨a1, l1, c1, rfl⟩ := hk.1.form
  obtain ⟨a2, l2, c2, rfl⟩ := hu.1.form
  have HK := Lib.hid hk.bv
  have HU := Lib.hid hu.bv
  have HOK := Lib.hid hok
  have HDL := Lib.hid (fun w' (ht : Touch Nil w w') => (digestOf_any (hl.keepN ht)).mono (R' := fun e w'' => e = .returned (.int .u64 ((digT seed l : Nat) : Int)) ∧ w' = w'') fun _ _ h => ⟨h.1, h.2.symm⟩)
  have HDR := Lib.hid (fun w' (ht : Touch Nil w w') => (digestOf_any (hr.keepN ht)).mono (R' := fun e w'' => e = .returned (.int .u64 ((digT seed r : Nat) : Int)) ∧ w' = w'') fun _ _ h => ⟨h.1, h.2.symm⟩)
  have HST := Lib.hid (show LdS ib (.slice a1 l1 c1) (.slice a2 l2 c2) w w from ⟨x0, x1, Lib.hid (Touch.refl _ _)⟩)
  obtain ⟨la, rfl⟩ := hl.form
  obtain ⟨ra, rfl⟩ := hr.form
  have hdl := digT_bd seed l
  have hdr := digT_bd seed r
  have HMK := Lib.hid (show digT seed (.node l k u r) = markN seed (digT seed l) k u (digT seed r) from rfl)
  have HE : ∃ dl, digT seed l = dl := ⟨_, rfl⟩
  obtain ⟨dl, edl⟩ := HE
  have HE : ∃ dr, digT seed r = dr := ⟨_, rfl⟩
  obtain ⟨dr, edr⟩ := HE
  simp only [edl] at HDL HMK hdl
  simp only [edr] at HDR HMK hdr
  clear hl hr hR hih hk hu hok edl edr
  go_enter Try.func110, Try.ntmps110
  go_wp2_with fail
  go_region_held3 (fun w' => w'.cell? ⟨ib, 0, none⟩ = some (.slice a1 l1 c1) ∧ w'.cell? ⟨ib, 1, none⟩ = some (.slice a2 l2 c2) ∧ Hid (Touch Nil w w'))
    (first | exact HST.out.step (Touch.refl Nil w).drew | exact HST.out.step ((Touch.refl Nil w).alloc _).drew)
    (first
      | (go_at_call_of 79 (Value.pointer la); refine (HDL.out _ (Hid.out (And.right (And.right (by assumption))))).mono ?_; rintro e w3 ⟨rfl, rfl⟩)
      | (go_at_call_of 79 (Value.pointer ra); refine (HDR.out _ (Hid.out (And.right (And.right (by assumption))))).mono ?_; rintro e w3 ⟨rfl, rfl⟩))
  all_goals
    go_wp2_with fail
    have HTA := Lib.hid (show Touch Nil w (w.alloc (.cells #[.slice a1 l1 c1, .slice a2 l2 c2, .int .u64 (dl : Int), .int .u64 (dr : Int)] 76)).drew from ((Touch.refl Nil w).alloc _).drew)
    have HSD := Lib.hid (sideDigest_any seed k u (.slice a1 l1 c1) (.slice a2 l2 c2) dl dr _ (HK.out.keepN HTA.out) (HU.out.keepN HTA.out) (by have := HOK.out.2.1; omega) (by have := HOK.out.2.2; omega) hdl hdr)
    generalize (w.alloc (.cells #[.slice a1 l1 c1, .slice a2 l2 c2, .int .u64 (dl : Int), .int .u64 (dr : Int)] 76)).drew = w1 at *
    refine HSD.out.mono ?_
    rintro e w2 ⟨rfl, ht2⟩
    have HT2 := Lib.hid (HTA.out.trans ht2)
    have HSL := Lib.hid (sizeOf_any (HL.out.keepN HT2.out))
    have HSR := Lib.hid (sizeOf_any (HR.out.keepN HT2.out))
    have HSZ := Lib.hid (show (Tree.node l k u r).size = l.size + 1 + r.size from rfl)
    generalize markN seed dl k u dr = d at *
    have HE : ∃ sl, l.size = sl := ⟨_, rfl⟩
    obtain ⟨sl, esl⟩ := HE
    have HE : ∃ sr, r.size = sr := ⟨_, rfl⟩
    obtain ⟨sr, esr⟩ := HE
    rw [esl] at HSL HSZ hsz
    rw [esr] at HSR HSZ hsz
    clear ht2 HSD esl esr x0 x1
    go_wp2_with fail
    refine HSL.out.mono ?_
    rintro e w3 ⟨rfl, rfl⟩
    go_wp2_with fail
    refine HSR.out.mono ?_
    rintro e w4 ⟨rfl, rfl⟩
    go_wp2_with fail
    go_ret
    have hta := (Touch.refl Nil w4).alloc (.cells #[.pointer (some ⟨ib, 0, none⟩), .int .u64 (d : Int), .int .i64 ((sl : Int) + 1 + (sr : Int)), .pointer la, .pointer ra] 127)
    have ht := HT2.out.trans hta
    refine ⟨_, rfl, ⟨w4.heap.size, _, _, _, rfl, HRR.out _ HT2.out.size, ?_, HI.out.keepN ht, HL.out.keepN ht, HR.out.keepN ht⟩, ht⟩
    rw [HMK.out, HSZ.out]
    exact heap_alloc_new _ _
end Go.Proofs.Ytbckakpgfmcljaa
