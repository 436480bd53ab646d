import Derived.Test.YticddcnlafbkoaaDoorLay
/- The order of the items by the stable sort: items of 2 cells. -/
namespace Go.Proofs.YticddcnlafbkoaaDoor
open Go.ChangeShapes Go.WideShapes Go.ChangeAt Go.RowKit Go.Deep

/-- An item as it is handed over. -/
def itemP (v : Nat → Nat → Value) (x : Nat) : Value := .agg #[v x 0, v x 1]
/-- What is known at each call of the comparing function: the two boxes, the items, and what the asked function wants. -/
def SeqIP (gb : Nat) (cb : Array Value) (bb bi : Nat) (ao : Option Addr) (n cap : Nat) (v : Nat → Nat → Value) (I : World → Prop) (w : World) : Prop :=
  w.heap[bb]? = some (.cells #[.func (.func gb) #[] cb] 120 (0, 0)) ∧ w.heap[bi]? = some (.cells #[.slice ao n cap] 26 (0, 0)) ∧ Items w ao n 2 v ∧ I w

set_option maxRecDepth 100000 in
set_option maxHeartbeats 4000000 in
theorem seqCmpP (gb : Nat) (cb : Array Value) (bb bi B : Nat) (ao : Option Addr) (n cap : Nat) (v : Nat → Nat → Value) (lt : Nat → Nat → Bool) (I : World → Prop) (S : Nat → Prop)
    (F : Bef gb cb (itemP v) lt n B I S) (hbb : B ≤ bb) (hbi : B ≤ bi) (hao : 0 < n → ∀ b o, ao = some ⟨b, o, none⟩ → b < B ∧ ¬ S b) (x y : Nat) (hx : x < n) (hy : y < n) (hn : n ≤ 1048576)
    (w : World) (h : SeqIP gb cb bb bi ao n cap v I w) :
    Calls Tryd.prog 97 #[.int .i64 x, .int .i64 y, .pointer (some ⟨bb, 0, none⟩), .pointer (some ⟨bi, 0, none⟩)] w (CmpPost lt x y (SeqIP gb cb bb bi ao n cap v I) S w) := by
  have HF := Lib.hid F
  have HH := Lib.hid h
  have eg := F.enter
  have HCALL := Lib.hid (by have := F.call; simp only [itemP] at this; exact this)
  obtain ⟨k1, k2, hit, hI⟩ := h
  obtain ⟨b, off, rfl, hb, hcell⟩ := hit (by omega)
  have HAO := Lib.hid hao
  have HI := Lib.hid (F.keep _ _ hI (Below.refl B w).drew)
  clear F hit hao hI
  have q1 : w.cell? ⟨bb, 0, none⟩ = some (.func (.func gb) #[] cb) := by simp [World.cell?, k1]
  have q2 : w.cell? ⟨bi, 0, none⟩ = some (.slice (some ⟨b, off, none⟩) n cap) := by simp [World.cell?, k2]
  have HCELL := Lib.hid hcell
  have cx0 := hcell x hx 0 (by omega)
  have cx1 := hcell x hx 1 (by omega)
  have cy0 := hcell y hy 0 (by omega)
  have cy1 := hcell y hy 1 (by omega)
  rw [Nat.add_zero] at cx0 cy0
  clear k1 k2 hcell
  have i1 : (x : Int) < (n : Int) := by omega
  have i2 : (0 : Int) ≤ (x : Int) := by omega
  have i3 : (y : Int) < (n : Int) := by omega
  have i4 : (0 : Int) ≤ (y : Int) := by omega
  have HK := Lib.hid (show ∀ w0 w', SeqIP gb cb bb bi (some ⟨b, off, none⟩) n cap v I w0 → I w' → Touch S w0 w' → SeqIP gb cb bb bi (some ⟨b, off, none⟩) n cap v I w' from fun w w' h hI' ht => by
    obtain ⟨k1, k2, k3, _⟩ := h
    have l1 : bb < w.heap.size := (Array.getElem?_eq_some_iff.1 k1).1
    have l2 : bi < w.heap.size := (Array.getElem?_eq_some_iff.1 k2).1
    exact ⟨(ht.same bb l1 (fun c => by have := HF.out.low _ c; omega)).trans k1, (ht.same bi l2 (fun c => by have := HF.out.low _ c; omega)).trans k2,
      k3.keep (fun hn0 b' o' e l => ht.same b' l (HAO.out hn0 b' o' e).2) ht.size, hI'⟩)
  go_enter Tryd.func97, Tryd.ntmps97
  go_wp2_with fail
  go_still_tail 9, mixed
  change wpList _ _ _ _ _ w.drew
  have HH2 := Lib.hid (HK.out w w.drew HH.out HI.out (Touch.refl _ _).drew)
  have HT := Lib.hid (Touch.refl S w).drew
  clear cx0 cx1 cy0 cy1 q1 q2
  generalize w.drew = w1 at *
  go_wp2_with fail
  refine (HCALL.out _ x y HI.out hx hy).mono ?_
  rintro e w2 ⟨rfl, hI2, hT2⟩
  have HI2 := Lib.hid hI2
  have HT2 := Lib.hid (HT.out.trans hT2)
  have HH3 := Lib.hid (HK.out _ _ HH2.out hI2 hT2)
  clear hI2 hT2 HT HI HH HH2
  by_cases c1 : lt x y = true
  · go_wp2_with fail
    go_ret
    exact ⟨-1, rfl, fun _ => by omega, (fun h => by rw [h] at c1; cases c1), HH3.out, HT2.out⟩
  · have hc1 : lt x y = false := by simpa using c1
    clear c1
    obtain ⟨k1, k2, hit, hI⟩ := HH3.out
    obtain ⟨b', off', e', hb', hcell⟩ := hit (by omega)
    obtain ⟨rfl, rfl⟩ : b = b' ∧ off = off' := by simpa using e'
    have HI := Lib.hid (HF.out.keep _ _ hI (Below.refl B w2).drew)
    have q1 : w2.cell? ⟨bb, 0, none⟩ = some (.func (.func gb) #[] cb) := by simp [World.cell?, k1]
    have q2 : w2.cell? ⟨bi, 0, none⟩ = some (.slice (some ⟨b, off, none⟩) n cap) := by simp [World.cell?, k2]
    have cx0 := hcell x hx 0 (by omega)
    have cx1 := hcell x hx 1 (by omega)
    have cy0 := hcell y hy 0 (by omega)
    have cy1 := hcell y hy 1 (by omega)
    rw [Nat.add_zero] at cx0 cy0
    clear k1 k2 hcell hit e' hI
    go_wp2_with fail
    go_still_tail 9, mixed
    change wpList _ _ _ _ _ w2.drew
    have HH4 := Lib.hid (HK.out w2 w2.drew HH3.out HI.out (Touch.refl _ _).drew)
    have HT4 := Lib.hid (HT2.out.trans (Touch.refl S w2).drew)
    clear cx0 cx1 cy0 cy1 q1 q2 HH3 HT2 hb'
    generalize w2.drew = w3 at *
    go_wp2_with fail
    refine (HCALL.out _ y x HI.out hy hx).mono ?_
    rintro e w4 ⟨rfl, hI5, hT5⟩
    have HT5 := Lib.hid (HT4.out.trans hT5)
    have HH5 := Lib.hid (HK.out _ _ HH4.out hI5 hT5)
    have HC1 := Lib.hid hc1
    clear hI5 hT5 hc1
    by_cases c2 : lt y x = true
    · go_wp2_with fail
      go_ret
      exact ⟨1, rfl, (fun h => by rw [HC1.out] at h; cases h), (fun _ => by omega), HH5.out, HT5.out⟩
    · have hc2 : lt y x = false := by simpa using c2
      clear c2
      go_wp2_with fail
      go_ret
      exact ⟨0, rfl, (fun h => by rw [HC1.out] at h; cases h), (fun _ => by omega), HH5.out, HT5.out⟩

/-- The numbers of the items in their order, in a new row. -/
def OrdPostP (n : Nat) (lt : Nat → Nat → Bool) (I : World → Prop) (S : Nat → Prop) (w : World) (e : Ending) (w' : World) : Prop :=
  ∃ b f, e = .returned (.slice (some ⟨b, 0, none⟩) n n) ∧ w.heap.size ≤ b ∧ Ints w' b n f ∧ PermOn 0 n (fun k => k) f ∧ Sorted lt f 0 n ∧ I w' ∧ Touch S w w'

set_option maxRecDepth 100000 in
set_option maxHeartbeats 4000000 in
theorem sequenceP (gb : Nat) (cb : Array Value) (B : Nat) (ao : Option Addr) (n cap : Nat) (v : Nat → Nat → Value) (lt : Nat → Nat → Bool) (I : World → Prop) (S : Nat → Prop)
    (F : Bef gb cb (itemP v) lt n B I S) (hw : SWO lt n) (hao : 0 < n → ∀ b o, ao = some ⟨b, o, none⟩ → b < B ∧ ¬ S b) (hn : n ≤ 1048576)
    (w : World) (hB : B ≤ w.heap.size) (hI : I w) (hit : Items w ao n 2 v) :
    Calls Tryd.prog 88 #[.slice ao n cap, .func (.func gb) #[] cb] w (OrdPostP n lt I S w) := by
  have HF := Lib.hid F
  have HW := Lib.hid hw
  have HAO := Lib.hid hao
  have HI := Lib.hid hI
  have HIT := Lib.hid hit
  have eg0 : ∀ args w, (callFunc 97 args).run Tryd.prog w = .ok (.enter 97 args) w := fun args w => by simp [go_sem]
  clear F hw hao hI hit
  go_enter Tryd.func88, Tryd.ntmps88
  go_wp2_with fail
  refine (numbers_any n _ hn).mono ?_
  rintro e w1 ⟨blk, rfl, hblk, hf, ht⟩
  have hbs : w.heap.size + 2 ≤ blk := by simpa using hblk
  have ht0 : Touch Nil w ((w.alloc (Obj.cells #[Value.slice ao n cap] 26)).alloc (Obj.cells #[Value.func (Fn.func gb) #[] cb] 120)) := ((Touch.refl _ _).alloc _).alloc _
  have HT := Lib.hid (ht0.trans ht)
  have hI1 : I w1 := HF.out.keep _ _ HI.out (HT.out.below B hB fun _ _ c => c)
  have hk1 : w1.heap[w.heap.size + 1]? = some (.cells #[.func (.func gb) #[] cb] 120 (0, 0)) := (ht.same (w.heap.size + 1) (by simp) (fun c => c)).trans (by
    have := heap_alloc_new (w.alloc (Obj.cells #[Value.slice ao n cap] 26)) (Obj.cells #[Value.func (Fn.func gb) #[] cb] 120)
    simpa using this)
  have hk2 : w1.heap[w.heap.size]? = some (.cells #[.slice ao n cap] 26 (0, 0)) := (ht.same w.heap.size (by simp; omega) (fun c => c)).trans (by
    have := blk_alloc_lt (w.alloc (Obj.cells #[Value.slice ao n cap] 26)) (Obj.cells #[Value.func (Fn.func gb) #[] cb] 120) w.heap.size (by simp)
    rw [this]
    exact heap_alloc_new w _)
  have HSI := Lib.hid (show SeqIP gb cb (w.heap.size + 1) w.heap.size ao n cap v I w1 from ⟨hk1, hk2, HIT.out.keep (fun hn0 b o _ l => HT.out.same b l (fun c => c)) HT.out.size, hI1⟩)
  have HFI := Lib.hid hf
  have HC := Lib.hid (show Cmp 97 #[.pointer (some ⟨w.heap.size + 1, 0, none⟩), .pointer (some ⟨w.heap.size, 0, none⟩)] lt n blk (SeqIP gb cb (w.heap.size + 1) w.heap.size ao n cap v I) S from
    { enter := eg0
      call := fun w' x y hs hx hy => seqCmpP gb cb (w.heap.size + 1) w.heap.size B ao n cap v lt I S HF.out (by omega) (by omega) HAO.out x y hx hy hn w' hs
      keep := fun w' w'' hs ht' => by
        obtain ⟨a1, a2, a3, a4⟩ := hs
        have l1 : w.heap.size + 1 < w'.heap.size := (Array.getElem?_eq_some_iff.1 a1).1
        have l2 : w.heap.size < w'.heap.size := (Array.getElem?_eq_some_iff.1 a2).1
        exact ⟨(ht'.same _ l1 (fun c => by have : w.heap.size + 1 = blk := c; omega)).trans a1, (ht'.same _ l2 (fun c => by have : w.heap.size = blk := c; omega)).trans a2,
          a3.keep (fun hn0 b o e' l => ht'.same b l (fun c => by have : b = blk := c; have := (HAO.out hn0 b o e').1; omega)) ht'.size,
          HF.out.keep _ _ a4 (ht'.below B (by omega) (fun b hb c => by have : b = blk := c; omega))⟩
      apart := fun c => by have := HF.out.low _ c; omega })
  clear hf ht ht0 hI1 hk1 hk2 hblk eg0
  go_wp2_with fail
  refine (sortStable_any 97 #[.pointer (some ⟨w.heap.size + 1, 0, none⟩), .pointer (some ⟨w.heap.size, 0, none⟩)] lt blk n n _ S HC.out HW.out _ HSI.out HFI.out (by omega)).mono ?_
  rintro e w2 ⟨rfl, hs2, ht2, f, hf2, hp2, hso⟩
  have HEND := Lib.hid (show OrdPostP n lt I S w (.returned (.slice (some ⟨blk, 0, none⟩) n n)) w2 from
    ⟨blk, f, rfl, by omega, hf2, hp2, hso, hs2.2.2.2, (HT.out.of_nil (S := S)).trans' ht2 fun b hb c => c.elim (fun c => c) (fun c => by have : b = blk := c; omega)⟩)
  clear hs2 ht2 hf2 hp2 hso
  go_wp2_with fail
  go_ret
  exact HEND.out
end Go.Proofs.YticddcnlafbkoaaDoor
