import Derived.Test.YtkkpcndpjkebkaaRL
import Derived.Test.YtkkpcndpjkebkaaMap
import Derived.Laws.ResultCell
/- Bytes that were handed out are spoiled. -/
namespace Go.Proofs.Ytkkpcndpjkebkaa
open Go.ChangeShapes Go.WideShapes Go.ChangeAt Go.RowKit Go.Deep

/-- Nothing but bytes in blocks from lo on has been written. -/
structure Spl (lo : Nat) (w w' : World) : Prop where
  os : w'.os = w.os
  tape : w'.tape = w.tape
  output : w'.output = w.output
  size : w.heap.size ≤ w'.heap.size
  blk : ∀ b, b < w.heap.size → w'.heap[b]? = w.heap[b]? ∨ (lo ≤ b ∧ ∃ cs cs', w.heap[b]? = some (.cells cs 5 (0, 0)) ∧ w'.heap[b]? = some (.cells cs' 5 (0, 0)) ∧ ∀ (i m : Nat), m < 256 → cs[i]? = some (.int .u8 (m : Int)) → ∃ m' : Nat, m' < 256 ∧ cs'[i]? = some (.int .u8 (m' : Int)))
theorem Spl.refl (lo : Nat) (w : World) : Spl lo w w := ⟨rfl, rfl, rfl, Nat.le_refl _, fun _ _ => .inl rfl⟩
theorem Spl.trans {lo : Nat} {w w' w'' : World} (h : Spl lo w w') (k : Spl lo w' w'') : Spl lo w w'' := by
  refine ⟨k.os.trans h.os, k.tape.trans h.tape, k.output.trans h.output, Nat.le_trans h.size k.size, fun b hb => ?_⟩
  rcases h.blk b hb with e | ⟨hl, cs, cs', e1, e2, e3⟩ <;> rcases k.blk b (Nat.lt_of_lt_of_le hb h.size) with f | ⟨hl', ds, ds', f1, f2, f3⟩
  · exact .inl (f.trans e)
  · exact .inr ⟨hl', ds, ds', e ▸ f1, f2, f3⟩
  · exact .inr ⟨hl, cs, cs', e1, f.trans e2, e3⟩
  · rw [e2] at f1
    injection f1 with f1
    injection f1 with f1 _ _
    subst f1
    refine .inr ⟨hl, cs, ds', e1, f2, fun i m hm h => ?_⟩
    obtain ⟨m', hm', h'⟩ := e3 i m hm h
    exact f3 i m' hm' h'
theorem Spl.touch {lo : Nat} {w w' : World} (h : Spl lo w w') : Touch (From lo) w w' := ⟨h.os, h.tape, h.output, h.size, fun b hb hn => (h.blk b hb).resolve_right fun c => hn c.1⟩
theorem Spl.of_nil {lo : Nat} {w w' : World} (h : Touch Nil w w') : Spl lo w w' := ⟨h.os, h.tape, h.output, h.size, fun b hb => .inl (h.same b hb fun c => c)⟩
theorem Spl.mono {lo lo' : Nat} {w w' : World} (h : Spl lo w w') (hl : lo' ≤ lo) : Spl lo' w w' := ⟨h.os, h.tape, h.output, h.size, fun b hb => (h.blk b hb).imp (fun h => h) fun ⟨h1, h2⟩ => ⟨Nat.le_trans hl h1, h2⟩⟩
/-- Blocks that hold no bytes stay. -/
theorem Spl.other {lo : Nat} {w w' : World} (h : Spl lo w w') {b : Nat} (hb : b < w.heap.size) (hn : ∀ cs, w.heap[b]? ≠ some (.cells cs 5 (0, 0))) : w'.heap[b]? = w.heap[b]? :=
  (h.blk b hb).resolve_right fun ⟨_, cs, _, e, _⟩ => hn cs e
/-- Some bytes that may be written. -/
def S8 (lo : Nat) (w : World) (x : Value) : Prop :=
  ∃ ao n cap, x = .slice ao n cap ∧ n ≤ 1073741824 ∧ (0 < n → ∃ b off cs, ao = some ⟨b, off, none⟩ ∧ lo ≤ b ∧ w.heap[b]? = some (.cells cs 5 (0, 0)) ∧ ∀ i, i < n → ∃ m : Nat, m < 256 ∧ cs[off + i]? = some (.int .u8 (m : Int)))
theorem S8.spl {lo lo' : Nat} {w w' : World} {x : Value} (h : S8 lo w x) (hs : Spl lo' w w') : S8 lo w' x := by
  obtain ⟨ao, n, cap, rfl, hn1, h⟩ := h
  refine ⟨ao, n, cap, rfl, hn1, fun hn => ?_⟩
  obtain ⟨b, off, cs, rfl, hl, hb, hc⟩ := h hn
  rcases hs.blk b (Array.getElem?_eq_some_iff.1 hb).1 with e | ⟨_, ds, ds', e1, e2, e3⟩
  · exact ⟨b, off, cs, rfl, hl, e.trans hb, hc⟩
  · rw [hb] at e1
    injection e1 with e1
    injection e1 with e1 _ _
    subst e1
    exact ⟨b, off, ds', rfl, hl, e2, fun i hi => by obtain ⟨m, hm, h⟩ := hc i hi; exact e3 _ m hm h⟩
theorem S8.form {lo : Nat} {w : World} {x : Value} (h : S8 lo w x) : ∃ ao n cap, x = .slice ao n cap := by obtain ⟨ao, n, cap, e, _⟩ := h; exact ⟨_, _, _, e⟩
theorem S8.mono {lo lo' : Nat} {w : World} {x : Value} (h : S8 lo w x) (hl : lo' ≤ lo) : S8 lo' w x := by
  obtain ⟨ao, n, cap, e, hn1, h⟩ := h
  exact ⟨ao, n, cap, e, hn1, fun hn => by obtain ⟨b, off, cs, e, h1, h2⟩ := h hn; exact ⟨b, off, cs, e, Nat.le_trans hl h1, h2⟩⟩
theorem s8_of {lo : Nat} {w : World} {x : Value} {l : Key} (h : BV w x l) (hm : l.length ≤ 1073741824) (hf : l ≠ [] → ∀ b, OwnOf x b → lo ≤ b ∧ Fr w b) : S8 lo w x := by
  obtain ⟨ao, cap, rfl, h1, h2⟩ := h
  refine ⟨ao, _, cap, rfl, hm, fun hn => ?_⟩
  obtain ⟨b, off, rfl, _⟩ := h2 0 (by simpa using hn)
  obtain ⟨hl, cs, hb⟩ := hf (fun e => by rw [e] at hn; simp at hn) b rfl
  refine ⟨b, off, cs, rfl, hl, hb, fun i hi => ?_⟩
  obtain ⟨b', off', e, hc⟩ := h2 i (by simpa using hi)
  cases e
  rw [ub_getD _ _ hi] at hc
  exact ⟨_, (l.getD i 0).toNat_lt, by simpa [World.cell?, hb] using hc⟩
theorem OwnB.s8 {lo base : Nat} {w : World} {x : Value} {l : Key} (h : OwnB base w x l) (hl : lo ≤ base) (hm : l.length ≤ 1073741824) : S8 lo w x := s8_of h.bv hm fun _ b hb => ⟨Nat.le_trans hl (h.block b hb).1, h.fr hb⟩
theorem FV.s8 {lo : Nat} {w : World} {x : Value} {l : Key} (h : FV w x (.o lo l)) (hm : l.length ≤ 1073741824) : S8 lo w x := s8_of h.1 hm h.2
/-- A byte is written. -/
theorem Spl.set {lo : Nat} {w : World} {b o : Nat} {cs : Array Value} (hl : lo ≤ b) (hb : w.heap[b]? = some (.cells cs 5 (0, 0))) {z : Int} (h0 : 0 ≤ z) (h1 : z < 256) : Spl lo w (w.setCell ⟨b, o, none⟩ (.int .u8 z)) := by
  have hto := (Touch.refl (Just b) w).setCell ⟨b, o, none⟩ (.int .u8 z) (fun _ => rfl)
  refine ⟨hto.os, hto.tape, hto.output, hto.size, fun c hc => ?_⟩
  by_cases e : c = b
  · subst e
    refine .inr ⟨hl, cs, cs.setIfInBounds o (.int .u8 z), hb, by simp [World.setCell, Array.getElem?_modify, hb], fun i m hm h => ?_⟩
    rw [Array.getElem?_setIfInBounds]
    by_cases e : o = i
    · subst e
      have hi : o < cs.size := (Array.getElem?_eq_some_iff.1 h).1
      rw [if_pos rfl, if_pos hi]
      exact ⟨z.toNat, by omega, by rw [Int.toNat_of_nonneg h0]⟩
    · rw [if_neg e]
      exact ⟨m, hm, h⟩
  · exact .inl (hto.same c hc e)
def SpoilP (lo : Nat) (x : Value) (w : World) (e : Ending) (w' : World) : Prop := e = .returned (.tuple #[]) ∧ Spl lo w w' ∧ Touch (OwnOf x) w w'
set_option maxRecDepth 100000 in
set_option maxHeartbeats 1000000 in
theorem spoil_any {lo : Nat} {w : World} {ao : Option Addr} {n cap : Nat} (h : S8 lo w (.slice ao n cap)) :
    Calls Try.prog 55 #[.slice ao n cap] w (SpoilP lo (.slice ao n cap) w) := by
  have HS := Lib.hid h
  have hn : n ≤ 1073741824 := by obtain ⟨_, _, _, e, h1, _⟩ := h; cases e; exact h1
  clear h
  go_enter Try.func55, Try.ntmps55
  go_wp2_with fail
  go_loopw [2] (fun i wr => ∃ y : Nat, y ≤ n ∧ i = .int .i64 (y : Int) ∧ Hid (Spl lo w wr ∧ Touch (OwnOf (.slice ao n cap)) w wr)) (fun i _ => n - (intOf i).toNat)
  case atStart => exact ⟨0, Nat.zero_le _, rfl, Lib.hid ⟨Spl.refl _ _, Touch.refl _ _⟩⟩
  obtain ⟨y, hy, rfl, HW⟩ := hrel
  by_cases hlt : y < n
  · obtain ⟨_, _, _, e, _, hs⟩ := HS.out.spl HW.out.1
    cases e
    obtain ⟨b, off, cs, rfl, hl, hb, hc⟩ := hs (by omega)
    obtain ⟨m, hm, hcm⟩ := hc y hlt
    have c0 : wr.cell? ⟨b, off + y, none⟩ = some (.int .u8 (m : Int)) := by simp [World.cell?, hb, hcm]
    have f0 : wr.frozen? ⟨b, off + y, none⟩ = false := by simp [World.frozen?, hb]
    have HSET := Lib.hid (fun (z : Int) (h0 : 0 ≤ z) (h1 : z < 256) => Spl.set (lo := lo) (w := wr) (b := b) (o := off + y) hl hb h0 h1)
    have i1 : (y : Int) < (n : Int) := by omega
    have i2 : (0 : Int) ≤ (y : Int) := by omega
    clear hs hb hc hcm
    go_wp2_with fail
    go_roundw
    case rel => exact ⟨y + 1, by omega, by go_num, Lib.hid ⟨HW.out.1.trans (HSET.out _ (by go_num) (by go_num)), HW.out.2.setCell _ _ fun _ => rfl⟩⟩
    case measure => simp [intOf]; omega
  · obtain rfl : y = n := by omega
    go_wp2_with fail
    go_end0
    exact ⟨rfl, HW.out.1, HW.out.2⟩
/-- A list whose first two fields are such bytes. -/
def L8 (lo k : Nat) (w : World) (x : Value) (n : Nat) : Prop :=
  ∃ ao cap, x = .slice ao n cap ∧ (0 < n → ∃ b off, ao = some ⟨b, off, none⟩ ∧ b < w.heap.size ∧ (∀ cs, w.heap[b]? ≠ some (.cells cs 5 (0, 0))) ∧ ∀ i, i < n → ∃ kx ux, w.cell? ⟨b, off + i * k, none⟩ = some kx ∧ w.cell? ⟨b, off + i * k + 1, none⟩ = some ux ∧ S8 lo w kx ∧ S8 lo w ux)
theorem L8.spl {lo lo' k n : Nat} {w w' : World} {x : Value} (h : L8 lo k w x n) (hs : Spl lo' w w') : L8 lo k w' x n := by
  obtain ⟨ao, cap, rfl, h⟩ := h
  refine ⟨ao, cap, rfl, fun hn => ?_⟩
  obtain ⟨b, off, rfl, hb, hne, hc⟩ := h hn
  have e := hs.other hb hne
  refine ⟨b, off, rfl, Nat.lt_of_lt_of_le hb hs.size, fun cs => by rw [e]; exact hne cs, fun i hi => ?_⟩
  obtain ⟨kx, ux, h0, h1, h2, h3⟩ := hc i hi
  exact ⟨kx, ux, (World.cell?_of_block (w := w) e).trans h0, (World.cell?_of_block (w := w) e).trans h1, h2.spl hs, h3.spl hs⟩
theorem L8.mono {lo lo' k n : Nat} {w : World} {x : Value} (h : L8 lo k w x n) (hl : lo' ≤ lo) : L8 lo' k w x n := by
  obtain ⟨ao, cap, e, h⟩ := h
  refine ⟨ao, cap, e, fun hn => ?_⟩
  obtain ⟨b, off, e1, h1, h2, h3⟩ := h hn
  refine ⟨b, off, e1, h1, h2, fun i hi => ?_⟩
  obtain ⟨kx, ux, g0, g1, g2, g3⟩ := h3 i hi
  exact ⟨kx, ux, g0, g1, g2.mono hl, g3.mono hl⟩
theorem OL.l8 {α : Type} {T lo base k : Nat} {fld : α → Nat → Fv} {w : World} {x : Value} {L : List α} (h : OL T base k fld w x L) (hT : T ≠ 5) (hk : 1 < k) (f g : α → Key) (h0 : ∀ a, fld a 0 = .o lo (f a)) (h1 : ∀ a, fld a 1 = .o lo (g a)) (hm : ∀ a ∈ L, (f a).length ≤ 1073741824 ∧ (g a).length ≤ 1073741824) : L8 lo k w x L.length := by
  have hrl := h.rl
  obtain ⟨V, hrow, _⟩ := h
  obtain ⟨ao, cap, v, rfl, e1, e2, hit, hf⟩ := hrl
  refine ⟨ao, cap, rfl, fun hn => ?_⟩
  obtain ⟨b, off, rfl, hb, hc⟩ := hit hn
  refine ⟨b, off, rfl, hb, fun cs he => ?_, fun i hi => ?_⟩
  · obtain ⟨_, ⟨e, _⟩ | ⟨g0, cap', cur, e, _, hg, _⟩⟩ := hrow
    · cases e
    · injection e with e _ _
      injection e with e
      injection e with e _ _
      subst e
      rw [he] at hg
      injection hg with hg
      injection hg with _ hg _
      exact hT hg.symm
  · have ha : L[i]? = some L[i] := List.getElem?_eq_getElem hi
    have f0 := hf i _ ha 0 (by omega)
    have f1 := hf i _ ha 1 hk
    rw [h0] at f0
    rw [h1] at f1
    exact ⟨_, _, by have := hc i hi 0 (by omega); rwa [Nat.add_zero] at this, hc i hi 1 hk, f0.s8 (hm _ (List.getElem_mem hi)).1, f1.s8 (hm _ (List.getElem_mem hi)).2⟩
end Go.Proofs.Ytkkpcndpjkebkaa

/- The pair at a place. -/
namespace Go.Proofs.Ytkkpcndpjkebkaa
open Go.ChangeShapes Go.WideShapes Go.ChangeAt Go.RowKit Go.Deep

/-- A node of a tree. -/
def SomeN (seed : Int) (R : Nat → Prop) (w : World) (v : Value) : Prop := ∃ b iv la ra l k u r, v = .pointer (some ⟨b, 0, none⟩) ∧ NodeV seed R w b iv la ra l k u r
set_option maxRecDepth 100000 in
set_option maxHeartbeats 2000000 in
theorem at_any {seed : Int} {R : Nat → Prop} {w : World} {t : Tree} {v : Value} {i : Nat} (h : TreeAt seed R w t v) (hi : i < t.size) (hz : t.size ≤ 100000) :
    Calls Try.prog 99 #[v, .int .i64 (i : Int)] w (fun e w' => ∃ v', e = .returned v' ∧ SomeN seed R w v' ∧ w = w') := by
  have HH := Lib.hid h
  have HZ := Lib.hid hz
  obtain ⟨va, rfl⟩ := h.form
  have HI := Lib.hid hi
  clear h hi hz
  go_enter Try.func99, Try.ntmps99
  go_wp2_with fail
  go_loopg [0, 1] t.size (fun m n j wr => w = wr ∧ ∃ (a : Option Addr) (s : Tree) (y : Nat), n = .pointer a ∧ j = .int .i64 (y : Int) ∧ Hid (TreeAt seed R w s (.pointer a) ∧ s.size ≤ m) ∧ y < s.size ∧ s.size ≤ 100000)
  case atStart => exact ⟨rfl, _, t, i, rfl, rfl, Lib.hid ⟨HH.out, Nat.le_refl _⟩, HI.out, HZ.out⟩
  obtain ⟨rfl, a, s, y, rfl, rfl, HX, hy, hs⟩ := hrel
  cases s with
  | nil => simp [Tree.size] at hy
  | node l k u r =>
    obtain ⟨b, ib, la, ra, hb, hn⟩ := HX.out.1.node
    injection hb with hb
    subst hb
    have HNV := Lib.hid hn
    obtain ⟨x0, x1, x2, x3, x4⟩ := node_cells hn.blk
    have HSL := Lib.hid (sizeOf_any hn.left)
    have HSZ := Lib.hid HX.out.2
    have hy' : y < l.size + 1 + r.size := hy
    have hs' : l.size + 1 + r.size ≤ 100000 := hs
    obtain ⟨ls, els⟩ : ∃ ls, l.size = ls := ⟨_, rfl⟩
    have HLS := Lib.hid els
    rw [els] at HSL hy' hs'
    clear x0 x1 x2 hn els hy hs
    by_cases he : y = ls
    · subst he
      have q1 : ((y : Int) != (y : Int)) = false := by simp
      go_wp2_with fail
      refine HSL.out.mono ?_
      rintro e w' ⟨rfl, rfl⟩
      go_wp2_with fail
      go_ret
      exact ⟨_, rfl, ⟨b, _, la, ra, l, k, u, r, rfl, HNV.out⟩, rfl⟩
    · have q1 : ((y : Int) != (ls : Int)) = true := by simp; omega
      by_cases hlt : y < ls
      · have q2 : decide ((y : Int) < (ls : Int)) = true := by simp; omega
        have q3 : decide (y < ls) = true := by simp; omega
        go_wp2_with fail
        refine HSL.out.mono ?_
        rintro e w' ⟨rfl, rfl⟩
        go_wp2_with fail
        refine HSL.out.mono ?_
        rintro e w' ⟨rfl, rfl⟩
        go_wp2_with fail
        go_roundg l.size
        case measure => have := HSZ.out; simp only [Tree.size] at this; omega
        case rel => exact ⟨rfl, la, l, y, rfl, rfl, Lib.hid ⟨HNV.out.left, Nat.le_refl _⟩, by have := HLS.out; omega, by have := HLS.out; omega⟩
      · have q2 : decide ((y : Int) < (ls : Int)) = false := by simp; omega
        have q3 : decide (y < ls) = false := by simp; omega
        go_wp2_with fail
        refine HSL.out.mono ?_
        rintro e w' ⟨rfl, rfl⟩
        go_wp2_with fail
        refine HSL.out.mono ?_
        rintro e w' ⟨rfl, rfl⟩
        go_wp2_with fail
        refine HSL.out.mono ?_
        rintro e w' ⟨rfl, rfl⟩
        go_wp2_with fail
        go_roundg r.size
        case measure => have := HSZ.out; simp only [Tree.size] at this; omega
        case rel => exact ⟨rfl, ra, r, y - (ls + 1), rfl, by congr 1; omega, Lib.hid ⟨HNV.out.right, Nat.le_refl _⟩, by omega, by omega⟩
/-- What At returns: bytes that are new, in a pair. -/
def AtP (w : World) (e : Ending) (w' : World) : Prop := ∃ kx ux c, e = .returned (.tuple #[.agg #[kx, ux], .int .i64 c]) ∧ S8 w.heap.size w' kx ∧ S8 w.heap.size w' ux ∧ Touch Nil w w'
/-- A new variable for a pair. -/
structure ToldP (g : Nat) (w : World) : Prop where
  blk : w.heap[g]? = some (.cells #[.slice none 0 0, .slice none 0 0] 45 (0, 0))
theorem ToldP.step {g : Nat} {w w' : World} (h : ToldP g w) (ht : Touch Nil w w') : ToldP g w' := ⟨(ht.same g (Array.getElem?_eq_some_iff.1 h.blk).1 (fun c => c)).trans h.blk⟩
theorem ToldP.cells {g : Nat} {w : World} (h : ToldP g w) : w.cell? ⟨g, 0, none⟩ = some (.slice none 0 0) ∧ w.cell? ⟨g, 1, none⟩ = some (.slice none 0 0) ∧ w.frozen? ⟨g, 0, none⟩ = false ∧ w.frozen? ⟨g, 1, none⟩ = false := by
  have e := h.blk
  refine ⟨?_, ?_, ?_, ?_⟩ <;> simp [World.cell?, World.frozen?, e]
theorem stTouch2 {w0 w : World} {g : Nat} {a b : Value} (ht : Touch (Just g) w0 w) : Touch (Just g) w0 ((w.setCell ⟨g, 0, none⟩ a).setCell ⟨g, 1, none⟩ b) := (ht.setCell ⟨g, 0, none⟩ _ fun _ => rfl).setCell ⟨g, 1, none⟩ _ fun _ => rfl
theorem stHeap2 {w : World} {g T : Nat} {x y a b : Value} (h : w.heap[g]? = some (.cells #[x, y] T (0, 0))) : ((w.setCell ⟨g, 0, none⟩ a).setCell ⟨g, 1, none⟩ b).heap[g]? = some (.cells #[a, b] T (0, 0)) := by
  have hrow : w.rowIs g T 2 (fun i => #[x, y].getD i undef) := ⟨_, h, rfl, fun i hi => by
    have : i = 0 ∨ i = 1 := by omega
    rcases this with rfl | rfl <;> rfl⟩
  exact row_block (((hrow.set 0 a).set 1 b).congr (g := fun i => #[a, b].getD i undef) fun i hi => by
    have : i = 0 ∨ i = 1 := by omega
    rcases this with rfl | rfl <;> rfl)
theorem stOwn2 {w : World} {g base : Nat} {v a b : Value} {l : Key} (h : OwnB base w v l) (hg : ToldP g w) : OwnB base ((w.setCell ⟨g, 0, none⟩ a).setCell ⟨g, 1, none⟩ b) v l := by
  refine h.keep (stTouch2 (Touch.refl (Just g) w)) fun k hk hs => ?_
  have hs : k = g := hs
  subst hs
  obtain ⟨cs, z, he⟩ := h.elem hk
  rw [hg.blk] at he
  injection he with he
  injection he with _ he
  exact absurd he (by decide)
set_option maxRecDepth 100000 in
set_option maxHeartbeats 2000000 in
theorem at_map {seed : Int} {R : Nat → Prop} {w : World} {mb bb : Nat} {ra : Option Addr} {t : Tree} (h : MapAt seed R w mb bb ra t) {i : Nat} (hi : i < t.size) :
    Calls Try.prog 53 #[.pointer (some ⟨mb, 0, none⟩), .int .i64 (i : Int)] w (AtP w) := by
  have HM := Lib.hid (fun w' (ht : Touch Nil w w') => root_map (h.keepN ht))
  have HA := Lib.hid (fun w' (ht : Touch Nil w w') => at_any (h.keepN ht).tree hi h.size)
  clear h hi
  go_enter Try.func53, Try.ntmps53
  go_wp2_with fail
  obtain ⟨w1, ew1⟩ : ∃ w1, w.alloc (.cells #[.slice none 0 0, .slice none 0 0] 45) = w1 := ⟨_, rfl⟩
  have HT1 := Lib.hid (show Touch Nil w w1 from by rw [← ew1]; exact (Touch.refl Nil w).alloc _)
  have HG1 := Lib.hid (show ToldP w.heap.size w1 from by rw [← ew1]; exact ⟨heap_alloc_new _ _⟩)
  rw [ew1]
  clear ew1
  refine (HM.out _ HT1.out).mono ?_
  rintro e w' ⟨rfl, rfl⟩
  go_wp2_with fail
  refine (HA.out _ HT1.out).mono ?_
  rintro e w' ⟨v, rfl, ⟨b, iv, la, rb, l, k, u, r, rfl, hn⟩, rfl⟩
  obtain ⟨ib, kv, uv, rfl, _, hih, hmk, hmu, hok⟩ := hn.item
  obtain ⟨x0, _, _⟩ := node_cells hn.blk
  obtain ⟨y0, y1, _⟩ := item_cells hih
  have HCK := Lib.hid (fun w' (ht : Touch Nil w1 w') => bytesClone_any _ k w' (hmk.bv.keepN ht) (by have := hok.2.1; omega))
  have HCU := Lib.hid (fun w' (ht : Touch Nil w1 w') => bytesClone_any _ u w' (hmu.bv.keepN ht) (by have := hok.2.2; omega))
  have HLK := Lib.hid (show k.length ≤ 1073741824 ∧ u.length ≤ 1073741824 from by have := hok.2; omega)
  obtain ⟨ka, kl, kc, rfl⟩ := hmk.1.form
  obtain ⟨ua, ul, uc, rfl⟩ := hmu.1.form
  obtain ⟨g, eg⟩ : ∃ g, w.heap.size = g := ⟨_, rfl⟩
  have HEG := Lib.hid eg
  rw [eg] at HG1
  have hbg : b ≠ g := fun e => by
    have h1 := hn.blk
    rw [e, HG1.out.blk] at h1
    injection h1 with h1
    injection h1 with _ h1 _
    exact absurd h1 (by decide)
  have hig : ib ≠ g := fun e => by
    rw [e, HG1.out.blk] at hih
    injection hih with h1
    injection h1 with _ h1 _
    exact absurd h1 (by decide)
  have HST := Lib.hid (fun w' (ht : Touch (Just g) w1 w') => show w'.cell? ⟨b, 0, none⟩ = some (.pointer (some ⟨ib, 0, none⟩)) ∧ w'.cell? ⟨ib, 0, none⟩ = some (.slice ka kl kc) ∧ w'.cell? ⟨ib, 1, none⟩ = some (.slice ua ul uc) ∧ Hid (Touch (Just g) w1 w') from
    ⟨(ht.cell (World.block_lt_of_cell? w1 _ x0) hbg 0).trans x0, (ht.cell (World.block_lt_of_cell? w1 _ y0) hig 0).trans y0, (ht.cell (World.block_lt_of_cell? w1 _ y1) hig 1).trans y1, Lib.hid ht⟩)
  clear hn hih hmk hmu hok x0 y0 y1 eg
  try rw [HEG.out]
  go_wp2_with fail
  go_region_held3 (fun w' => w'.cell? ⟨b, 0, none⟩ = some (.pointer (some ⟨ib, 0, none⟩)) ∧ w'.cell? ⟨ib, 0, none⟩ = some (.slice ka kl kc) ∧ w'.cell? ⟨ib, 1, none⟩ = some (.slice ua ul uc) ∧ Hid (Touch (Just g) w1 w'))
    (first | (with_reducible exact HST.out _ (Touch.refl (Just g) w1).drew) | (with_reducible exact HST.out _ (stTouch2 hT4.of_nil)) | (with_reducible exact HST.out _ hT4.of_nil) | (with_reducible exact HST.out _ hT3.of_nil))
    (first
      | (go_at_call_of 69 (Value.slice ka kl kc); refine (HCK.out _ (Touch.refl Nil w1).drew).mono ?_; rintro e w3 ⟨v3, rfl, h3, ht3⟩; obtain ⟨va3, vl3, vc3, rfl⟩ := h3.form; have hT3 : Touch Nil w1 w3 := (Touch.refl Nil w1).drew.trans ht3; have H3 := Lib.hid h3; clear h3 ht3)
      | (go_at_call_of 69 (Value.slice ua ul uc); refine (HCU.out _ hT3).mono ?_; rintro e w4 ⟨v4, rfl, h4, ht4⟩; obtain ⟨va4, vl4, vc4, rfl⟩ := h4.form; have hT4 : Touch Nil w1 w4 := hT3.trans ht4; have H4 := Lib.hid h4; have HK4 := Lib.hid (H3.out.keep ht4 (fun _ _ c => c)); have HG4 := Lib.hid (HG1.out.step hT4); obtain ⟨z0, z1, f0, f1⟩ := HG4.out.cells; clear h4 ht4))
  go_wp2_with fail
  have hle : w.heap.size ≤ w1.heap.size := HT1.out.size
  have hg3 : ((w4.setCell ⟨g, 0, none⟩ (.slice va3 vl3 vc3)).setCell ⟨g, 1, none⟩ (.slice va4 vl4 vc4)).heap[g]? = some (.cells #[.slice va3 vl3 vc3, .slice va4 vl4 vc4] 45 (0, 0)) := stHeap2 HG4.out.blk
  have hld : (loadVar 45 ⟨g, 0, none⟩).run Try.prog ((w4.setCell ⟨g, 0, none⟩ (.slice va3 vl3 vc3)).setCell ⟨g, 1, none⟩ (.slice va4 vl4 vc4)) = .ok (.agg #[.slice va3 vl3 vc3, .slice va4 vl4 vc4]) ((w4.setCell ⟨g, 0, none⟩ (.slice va3 vl3 vc3)).setCell ⟨g, 1, none⟩ (.slice va4 vl4 vc4)) :=
    run_loadVar_row _ g 45 45 _ _ _ hg3 Try.underlying45 rfl (by kernel_rfl)
  (try simp only [Exit.inBlock, Exit.then])
  refine bodyPost_ret (v := .tuple #[.agg #[.slice va3 vl3 vc3, .slice va4 vl4 vc4], .int .i64 0]) ?_ rfl ?_
  · rw [results_cell_tmp rfl]
    simp [asAddr, Result.andThen, hld]
  · refine ⟨_, _, _, rfl, (stOwn2 HK4.out HG4.out).s8 (by first | exact hle | (have := HT1.out.size; exact this)) HLK.out.1, (stOwn2 H4.out HG4.out).s8 (Nat.le_trans hle hT3.size) HLK.out.2, ?_⟩
    exact (HT1.out.trans hT4).trans' (stTouch2 (Touch.refl (Just g) w4)) fun b hb hs => by have hs : b = g := hs; have := HEG.out; omega
end Go.Proofs.Ytkkpcndpjkebkaa
