import Derived.Test.YtkkpcndpjkebkaaNodeD
/- Maps in memory: how they are asked and changed. -/
namespace Go.Proofs.Ytkkpcndpjkebkaa
open Go.ChangeShapes Go.WideShapes Go.ChangeAt Go.RowKit Go.Deep

/-- A map that is none: nil, or the zero value. -/
def NoMap (w : World) (m : Value) : Prop := m = .pointer none ∨ ∃ mb, m = .pointer (some ⟨mb, 0, none⟩) ∧ w.heap[mb]? = some (.cells #[.pointer none] 101 (0, 0))
/-- A map: its blocks, its tree. -/
structure MapAt (seed : Int) (R : Nat → Prop) (w : World) (mb bb : Nat) (ra : Option Addr) (t : Tree) : Prop where
  top : w.heap[mb]? = some (.cells #[.pointer (some ⟨bb, 0, none⟩)] 101 (0, 0))
  body : w.heap[bb]? = some (.cells #[.int .u64 seed, .pointer ra] 135 (0, 0))
  tree : TreeAt seed R w t (.pointer ra)
  rm : ¬ R mb
  rb : ¬ R bb
  srt : Srt t.toL
  heap : t.Heap (abv seed)
  size : t.size ≤ 100000
section
variable {seed : Int} {R S : Nat → Prop} {w w' : World} {mb bb : Nat} {ra : Option Addr} {t : Tree}
theorem cells1 {b t : Nat} {x : Value} (h : w.heap[b]? = some (.cells #[x] t (0, 0))) : w.cell? ⟨b, 0, none⟩ = some x := by simp [World.cell?, h]
theorem cells2 {b t : Nat} {x y : Value} (h : w.heap[b]? = some (.cells #[x, y] t (0, 0))) : w.cell? ⟨b, 0, none⟩ = some x ∧ w.cell? ⟨b, 1, none⟩ = some y := by constructor <;> simp [World.cell?, h]
theorem MapAt.keep (h : MapAt seed R w mb bb ra t) (ht : Touch S w w') (hS : ∀ b, R b → ¬ S b) (h1 : ¬ S mb) (h2 : ¬ S bb) : MapAt seed R w' mb bb ra t :=
  ⟨(ht.same mb (lt_of_heap h.top) h1).trans h.top, (ht.same bb (lt_of_heap h.body) h2).trans h.body, h.tree.keep ht hS, h.rm, h.rb, h.srt, h.heap, h.size⟩
theorem MapAt.keepN (h : MapAt seed R w mb bb ra t) (ht : Touch Nil w w') : MapAt seed R w' mb bb ra t := h.keep ht (fun _ _ c => c) (fun c => c) (fun c => c)
theorem MapAt.ne (h : MapAt seed R w mb bb ra t) : mb ≠ bb := fun e => by
  have := h.top.symm.trans (e ▸ h.body)
  injection this with this
  injection this with _ this
  exact absurd this (by decide)
theorem set_cell2 {b t : Nat} {x y z : Value} (h : w.heap[b]? = some (.cells #[x, y] t (0, 0))) : (w.setCell ⟨b, 1, none⟩ z).heap[b]? = some (.cells #[x, z] t (0, 0)) := by
  have hrow : w.rowIs b t 2 (fun i => if i = 0 then x else y) := ⟨_, h, rfl, fun i hi => by
    have : i = 0 ∨ i = 1 := by omega
    rcases this with rfl | rfl <;> rfl⟩
  exact row_block ((hrow.set 1 z).congr (g := fun i => if i = 0 then x else z) fun i hi => by
    have : i = 0 ∨ i = 1 := by omega
    rcases this with rfl | rfl <;> rfl)
/-- A map that gets another root. -/
theorem MapAt.root {R' : Nat → Prop} {ra' : Option Addr} {t' : Tree} (h : MapAt seed R w mb bb ra t) (ht : TreeAt seed R' w t' (.pointer ra')) (h1 : ¬ R' mb) (h2 : ¬ R' bb) (hs : Srt t'.toL) (hh : t'.Heap (abv seed)) (hz : t'.size ≤ 100000) :
    MapAt seed R' (w.setCell ⟨bb, 1, none⟩ (.pointer ra')) mb bb ra' t' ∧ Touch (Just bb) w (w.setCell ⟨bb, 1, none⟩ (.pointer ra')) := by
  have hto : Touch (Just bb) w (w.setCell ⟨bb, 1, none⟩ (.pointer ra')) := (Touch.refl (Just bb) w).setCell ⟨bb, 1, none⟩ _ fun _ => rfl
  exact ⟨⟨(hto.same mb (lt_of_heap h.top) h.ne).trans h.top, set_cell2 h.body, ht.keep hto fun b hb e => h2 (e ▸ hb), h1, h2, hs, hh, hz⟩, hto⟩
end

theorem missing_none {w : World} {m : Value} (h : NoMap w m) : Calls Try.prog 72 #[m] w fun e w' => e = .returned (.bool true) ∧ w = w' := by
  rcases h with rfl | ⟨mb, rfl, hm⟩
  · go_enter Try.func72, Try.ntmps72
    go_wp2_with fail
    go_ret
    exact ⟨rfl, rfl⟩
  · have x0 := cells1 hm
    clear hm
    go_enter Try.func72, Try.ntmps72
    go_wp2_with fail
    go_ret
    exact ⟨rfl, rfl⟩
theorem missing_map {seed : Int} {R : Nat → Prop} {w : World} {mb bb : Nat} {ra : Option Addr} {t : Tree} (h : MapAt seed R w mb bb ra t) : Calls Try.prog 72 #[.pointer (some ⟨mb, 0, none⟩)] w fun e w' => e = .returned (.bool false) ∧ w = w' := by
  have x0 := cells1 h.top
  clear h
  go_enter Try.func72, Try.ntmps72
  go_wp2_with fail
  go_ret
  exact ⟨rfl, rfl⟩
theorem root_none {w : World} {m : Value} (h : NoMap w m) : Calls Try.prog 67 #[m] w fun e w' => e = .returned (.pointer none) ∧ w = w' := by
  have HM := Lib.hid (missing_none h)
  obtain ⟨a, rfl⟩ : ∃ a, m = .pointer a := by rcases h with e | ⟨_, e, _⟩ <;> exact ⟨_, e⟩
  clear h
  go_enter Try.func67, Try.ntmps67
  go_wp2_with fail
  refine HM.out.mono ?_
  rintro e w' ⟨rfl, rfl⟩
  go_wp2_with fail
  go_ret
  exact ⟨rfl, rfl⟩
theorem root_map {seed : Int} {R : Nat → Prop} {w : World} {mb bb : Nat} {ra : Option Addr} {t : Tree} (h : MapAt seed R w mb bb ra t) : Calls Try.prog 67 #[.pointer (some ⟨mb, 0, none⟩)] w fun e w' => e = .returned (.pointer ra) ∧ w = w' := by
  have HM := Lib.hid (missing_map h)
  have x0 := cells1 h.top
  have y1 := (cells2 h.body).2
  clear h
  go_enter Try.func67, Try.ntmps67
  go_wp2_with fail
  refine HM.out.mono ?_
  rintro e w' ⟨rfl, rfl⟩
  go_wp2_with fail
  go_ret
  exact ⟨rfl, rfl⟩

/-- A new map of a tree. -/
def NewPost (seed : Int) (R : Nat → Prop) (t : Tree) (w : World) (e : Ending) (w' : World) : Prop := ∃ mb bb ra, e = .returned (.pointer (some ⟨mb, 0, none⟩)) ∧ MapAt seed R w' mb bb ra t ∧ w.heap.size ≤ mb ∧ w.heap.size ≤ bb ∧ mb ≠ bb ∧ Touch Nil w w'
set_option maxHeartbeats 1000000 in
theorem newMap_any {seed : Int} {R : Nat → Prop} {w : World} {v : Value} {t : Tree} (h : TreeAt seed R w t v) (hR : ∀ b, R b → b < w.heap.size) (hs : Srt t.toL) (hh : t.Heap (abv seed)) (hz : t.size ≤ 100000) :
    Calls Try.prog 60 #[.int .u64 seed, v] w (NewPost seed R t w) := by
  have HH := Lib.hid h
  have HR := Lib.hid hR
  have HS := Lib.hid (And.intro hs hh)
  obtain ⟨ra, rfl⟩ := h.form
  clear h hR hs hh
  go_enter Try.func60, Try.ntmps60
  go_wp2_with fail
  go_ret
  have h1 := (Touch.refl Nil w).alloc (.cells #[.int .u64 seed, .pointer ra] 135)
  have h2 := (Touch.refl Nil (w.alloc (.cells #[.int .u64 seed, .pointer ra] 135))).alloc (.cells #[.pointer (some ⟨w.heap.size, 0, none⟩)] 101)
  have hz2 : (w.alloc (.cells #[.int .u64 seed, .pointer ra] 135)).heap.size = w.heap.size + 1 := by simp
  refine ⟨w.heap.size + 1, w.heap.size, ra, by first | rfl | (rw [hz2]), ⟨?_, ?_, HH.out.keepN (h1.trans h2), fun c => by have := HR.out _ c; omega, fun c => by have := HR.out _ c; omega, HS.out.1, HS.out.2, hz⟩, by omega, Nat.le_refl _, by omega, h1.trans h2⟩
  · rw [← hz2]; exact heap_alloc_new _ _
  · exact (h2.same w.heap.size (by rw [hz2]; omega) (fun c => c)).trans (heap_alloc_new _ _)
theorem new_map (seed : Int) (w : World) : Calls Try.prog 15 #[.int .u64 seed] w (NewPost seed (fun _ => False) .nil w) := by
  have HN := Lib.hid (newMap_any (seed := seed) (R := fun _ => False) (w := w) (v := .pointer none) (t := .nil) rfl (fun _ c => c.elim) List.Pairwise.nil trivial (by simp [Tree.size]))
  go_enter Try.func15, Try.ntmps15
  go_wp2_with fail
  refine HN.out.mono ?_
  rintro e w' ⟨mb, bb, ra, rfl, h⟩
  go_wp2_with fail
  go_ret
  exact ⟨mb, bb, ra, rfl, h⟩

set_option maxHeartbeats 1000000 in
theorem len_map {seed : Int} {R : Nat → Prop} {w : World} {mb bb : Nat} {ra : Option Addr} {t : Tree} (h : MapAt seed R w mb bb ra t) : Calls Try.prog 33 #[.pointer (some ⟨mb, 0, none⟩)] w fun e w' => e = .returned (.int .i64 ((t.size : Nat) : Int)) ∧ w = w' := by
  have HM := Lib.hid (root_map h)
  have HS := Lib.hid (sizeOf_any h.tree)
  generalize t.size = n at *
  clear h
  go_enter Try.func33, Try.ntmps33
  go_wp2_with fail
  refine HM.out.mono ?_
  rintro e w' ⟨rfl, rfl⟩
  go_wp2_with fail
  refine HS.out.mono ?_
  rintro e w' ⟨rfl, rfl⟩
  go_wp2_with fail
  go_ret
  exact ⟨rfl, rfl⟩
set_option maxHeartbeats 1000000 in
theorem digest_map {seed : Int} {R : Nat → Prop} {w : World} {mb bb : Nat} {ra : Option Addr} {t : Tree} (h : MapAt seed R w mb bb ra t) : Calls Try.prog 28 #[.pointer (some ⟨mb, 0, none⟩)] w fun e w' => e = .returned (.int .u64 ((digT seed t : Nat) : Int)) ∧ w = w' := by
  have HM := Lib.hid (root_map h)
  have HS := Lib.hid (digestOf_any h.tree)
  generalize digT seed t = n at *
  clear h
  go_enter Try.func28, Try.ntmps28
  go_wp2_with fail
  refine HM.out.mono ?_
  rintro e w' ⟨rfl, rfl⟩
  go_wp2_with fail
  refine HS.out.mono ?_
  rintro e w' ⟨rfl, rfl⟩
  go_wp2_with fail
  go_ret
  exact ⟨rfl, rfl⟩

/-- What is told of a key. -/
def GetPost (key : Key) (L : Pairs) (w : World) (e : Ending) (w' : World) : Prop := ∃ x c, e = .returned (.tuple #[x, .int .i64 c]) ∧ ((c = 3 ∧ x = .slice none 0 0 ∧ ∀ p ∈ L, p.1 ≠ key) ∨ (c = 0 ∧ ∃ u, (key, u) ∈ L ∧ OwnB w.heap.size w' x u)) ∧ Touch Nil w w'
set_option maxHeartbeats 1000000 in
theorem get_map {seed : Int} {R : Nat → Prop} {w : World} {mb bb : Nat} {ra : Option Addr} {t : Tree} (h : MapAt seed R w mb bb ra t) {kx : Value} {key : Key} (hk : BV w kx key) :
    Calls Try.prog 52 #[.pointer (some ⟨mb, 0, none⟩), kx] w (GetPost key t.toL w) := by
  have HM := Lib.hid (root_map h)
  have HF := Lib.hid (find_any h.tree h.srt hk)
  obtain ⟨qa, qc, rfl, _, _⟩ := hk
  have HE : ∃ ql, key.length = ql := ⟨_, rfl⟩
  obtain ⟨ql, eql⟩ := HE
  rw [eql] at HF ⊢
  clear h eql
  go_enter Try.func52, Try.ntmps52
  go_wp2_with fail
  refine HM.out.mono ?_
  rintro e w' ⟨rfl, rfl⟩
  go_wp2_with fail
  refine HF.out.mono ?_
  rintro e w' ⟨v, rfl, ⟨rfl, hno⟩ | ⟨b, iv, la, rb, l, u, r, rfl, hn, hmem⟩, rfl⟩
  · have HNO := Lib.hid hno
    clear hno
    go_wp2_with fail
    go_ret2
    exact ⟨_, _, rfl, .inl ⟨rfl, rfl, HNO.out⟩, Touch.refl _ _⟩
  · obtain ⟨ib, kv, uv, rfl, _, hih, _, hmu, hok⟩ := hn.item
    obtain ⟨x0, _, _⟩ := node_cells hn.blk
    obtain ⟨_, y1, _⟩ := item_cells hih
    have HU := Lib.hid hmu.bv
    have HMEM := Lib.hid hmem
    have HCL := Lib.hid (bytesClone_any _ u w hmu.bv (by have := hok.2.2; omega))
    obtain ⟨ua, ul, uc, rfl⟩ := hmu.1.form
    clear hn hih hmu hmem
    go_wp2_with fail
    refine HCL.out.mono ?_
    rintro e w2 ⟨v2, rfl, ho2, ht2⟩
    obtain ⟨a2, l2, c2, rfl⟩ := ho2.form
    have H2 := Lib.hid (And.intro ho2 ht2)
    clear ho2 ht2
    go_wp2_with fail
    go_ret2
    exact ⟨_, _, rfl, .inr ⟨rfl, u, HMEM.out, H2.out.1⟩, H2.out.2⟩
end Go.Proofs.Ytkkpcndpjkebkaa
