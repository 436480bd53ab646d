import Derived.Test.YtkkpcndpjkebkaaPlayK
import Derived.Test.YtkkpcndpjkebkaaPlayJ
import Derived.Test.YtkkpcndpjkebkaaPlayC
import Derived.Test.YtkkpcndpjkebkaaLoads
import Derived.Laws.ResultCell
/- What OrderPlays does to two maps, kind by kind. -/
namespace Go.Proofs.Ytkkpcndpjkebkaa
open Go.ChangeShapes Go.WideShapes Go.ChangeAt Go.RowKit Go.Deep

/-- Two maps in memory, with the lists of their pairs. -/
structure Bo (seed : Int) (s0 N : Nat) (R S : Nat → Prop) (w : World) (ma ba mc bc : Nat) (ra rc : Option Addr) (t u : Tree) (vx vy : Value) : Prop where
  a : MapAt seed R w ma ba ra t
  c : MapAt seed S w mc bc rc u
  x : PL w vx t.toL
  y : PL w vy u.toL
  ne : ba ≠ bc
  mx : ma ≠ bc ∧ mc ≠ ba
  rs : ¬ S ba ∧ ¬ R bc
  lo : N ≤ ba ∧ N ≤ bc
  lr : (∀ b, R b → b < w.heap.size) ∧ ∀ b, S b → b < w.heap.size
  av : (s0 ≠ ma ∧ s0 ≠ ba ∧ s0 ≠ mc ∧ s0 ≠ bc) ∧ ¬ R s0 ∧ ¬ S s0 ∧ ¬ OwnOf vx s0 ∧ ¬ OwnOf vy s0
  sl : s0 < w.heap.size
theorem Bo.keepN {seed : Int} {s0 N : Nat} {R S : Nat → Prop} {w w' : World} {ma ba mc bc : Nat} {ra rc : Option Addr} {t u : Tree} {x y : Value} (h : Bo seed s0 N R S w ma ba mc bc ra rc t u x y) (ht : Touch Nil w w') : Bo seed s0 N R S w' ma ba mc bc ra rc t u x y :=
  ⟨h.a.keepN ht, h.c.keepN ht, h.x.keepN ht, h.y.keepN ht, h.ne, h.mx, h.rs, h.lo, ⟨fun b hb => Nat.lt_of_lt_of_le (h.lr.1 b hb) ht.size, fun b hb => Nat.lt_of_lt_of_le (h.lr.2 b hb) ht.size⟩, h.av, Nat.lt_of_lt_of_le h.sl ht.size⟩
theorem Bo.swap {seed : Int} {s0 N : Nat} {R S : Nat → Prop} {w : World} {ma ba mc bc : Nat} {ra rc : Option Addr} {t u : Tree} {x y : Value} (h : Bo seed s0 N R S w ma ba mc bc ra rc t u x y) : Bo seed s0 N S R w mc bc ma ba rc ra u t y x :=
  ⟨h.c, h.a, h.y, h.x, fun e => h.ne e.symm, ⟨h.mx.2, h.mx.1⟩, ⟨h.rs.2, h.rs.1⟩, ⟨h.lo.2, h.lo.1⟩, ⟨h.lr.2, h.lr.1⟩, ⟨⟨h.av.1.2.2.1, h.av.1.2.2.2, h.av.1.1, h.av.1.2.1⟩, h.av.2.2.1, h.av.2.1, h.av.2.2.2.2, h.av.2.2.2.1⟩, h.sl⟩
/-- What is left when something was done: both are maps still, and it went as it should. -/
def DoneP (seed : Int) (s0 N m : Nat) (w : World) (e : Ending) (w' : World) : Prop :=
  ∃ R S ma ba mc bc ra rc t u xa xn xc ya yn yc, e = .returned (.agg #[.pointer (some ⟨ma, 0, none⟩), .pointer (some ⟨mc, 0, none⟩), .slice xa xn xc, .slice ya yn yc, .bool true]) ∧ Bo seed s0 N R S w' ma ba mc bc ra rc t u (.slice xa xn xc) (.slice ya yn yc) ∧ t.size + u.size ≤ m ∧ Touch (fun b => N ≤ b ∧ b ≠ s0) w w'
theorem cells5 {w : World} {b t : Nat} {x0 x1 x2 x3 x4 : Value} (h : w.heap[b]? = some (.cells #[x0, x1, x2, x3, x4] t (0, 0))) : w.cell? ⟨b, 0, none⟩ = some x0 ∧ w.cell? ⟨b, 1, none⟩ = some x1 ∧ w.cell? ⟨b, 2, none⟩ = some x2 ∧ w.cell? ⟨b, 3, none⟩ = some x3 ∧ w.cell? ⟨b, 4, none⟩ = some x4 := by
  refine ⟨?_, ?_, ?_, ?_, ?_⟩ <;> simp [World.cell?, h]
theorem froz {w : World} {b t : Nat} {cs : Array Value} (h : w.heap[b]? = some (.cells cs t (0, 0))) (i : Nat) : w.frozen? ⟨b, i, none⟩ = false := by simp [World.frozen?, h]
theorem set5 {w : World} {b t : Nat} {x0 x1 x2 x3 x4 : Value} (h : w.heap[b]? = some (.cells #[x0, x1, x2, x3, x4] t (0, 0))) (v : Value) :
    (w.setCell ⟨b, 0, none⟩ v).heap[b]? = some (.cells #[v, x1, x2, x3, x4] t (0, 0)) ∧ (w.setCell ⟨b, 1, none⟩ v).heap[b]? = some (.cells #[x0, v, x2, x3, x4] t (0, 0)) ∧ (w.setCell ⟨b, 2, none⟩ v).heap[b]? = some (.cells #[x0, x1, v, x3, x4] t (0, 0)) ∧ (w.setCell ⟨b, 3, none⟩ v).heap[b]? = some (.cells #[x0, x1, x2, v, x4] t (0, 0)) ∧ (w.setCell ⟨b, 4, none⟩ v).heap[b]? = some (.cells #[x0, x1, x2, x3, v] t (0, 0)) := by
  refine ⟨?_, ?_, ?_, ?_, ?_⟩ <;> simp [World.setCell, Array.getElem?_modify, h]
/-- A struct is written whole. -/
abbrev put5 (w : World) (b : Nat) (x0 x1 x2 x3 x4 : Value) : World := ((((w.setCell ⟨b, 0, none⟩ x0).setCell ⟨b, 1, none⟩ x1).setCell ⟨b, 2, none⟩ x2).setCell ⟨b, 3, none⟩ x3).setCell ⟨b, 4, none⟩ x4
theorem put5_heap {w : World} {b t : Nat} {y0 y1 y2 y3 y4 : Value} (h : w.heap[b]? = some (.cells #[y0, y1, y2, y3, y4] t (0, 0))) (x0 x1 x2 x3 x4 : Value) : (put5 w b x0 x1 x2 x3 x4).heap[b]? = some (.cells #[x0, x1, x2, x3, x4] t (0, 0)) :=
  (set5 (set5 (set5 (set5 (set5 h x0).1 x1).2.1 x2).2.2.1 x3).2.2.2.1 x4).2.2.2.2
theorem put5_touch {w0 w : World} {S : Nat → Prop} {b : Nat} (h : Touch S w0 w) (hS : b < w0.heap.size → S b) (x0 x1 x2 x3 x4 : Value) : Touch S w0 (put5 w b x0 x1 x2 x3 x4) :=
  ((((h.setCell ⟨b, 0, none⟩ _ hS).setCell ⟨b, 1, none⟩ _ hS).setCell ⟨b, 2, none⟩ _ hS).setCell ⟨b, 3, none⟩ _ hS).setCell ⟨b, 4, none⟩ _ hS
theorem set_other5 {w : World} {b c i t : Nat} {v : Value} {cs : Array Value} (h : w.heap[c]? = some (.cells cs t (0, 0))) (hne : c ≠ b) : (w.setCell ⟨b, i, none⟩ v).heap[c]? = some (.cells cs t (0, 0)) :=
  (((Touch.refl (Just b) w).setCell ⟨b, i, none⟩ v fun _ => rfl).same c (lt_of_heap h) hne).trans h
theorem ret5 {w : World} {b : Nat} {x0 x1 x2 x3 x4 : Value} {fn : Func} {p : Tmp} (hr : fn.results = #[.cell p 28]) {tmps : Array Value} (hp : tmps.getD p undef = .pointer (some ⟨b, 0, none⟩)) (h : w.heap[b]? = some (.cells #[x0, x1, x2, x3, x4] 28 (0, 0))) :
    (results fn tmps).run Try.prog w = .ok (.agg #[x0, x1, x2, x3, x4]) w :=
  results_cell_row hr tmps w b _ _ _ _ hp h Try.underlying28 rfl (by kernel_rfl)
/-- Bytes and maps stay while what is newer is written. -/
theorem Bo.far {seed : Int} {s0 N n0 : Nat} {R S : Nat → Prop} {w w' : World} {ma ba mc bc : Nat} {ra rc : Option Addr} {t u : Tree} {x y : Value} (h : Bo seed s0 N R S w ma ba mc bc ra rc t u x y) (hn : w.heap.size ≤ n0) (ht : Touch (From n0) w w') : Bo seed s0 N R S w' ma ba mc bc ra rc t u x y := by
  have l1 := lt_of_heap h.a.top
  have l2 := lt_of_heap h.a.body
  have l3 := lt_of_heap h.c.top
  have l4 := lt_of_heap h.c.body
  exact ⟨h.a.keep ht (fun b hb hs => by have := h.lr.1 b hb; have hs : n0 ≤ b := hs; omega) (fun hs => by have hs : n0 ≤ ma := hs; omega) (fun hs => by have hs : n0 ≤ ba := hs; omega),
    h.c.keep ht (fun b hb hs => by have := h.lr.2 b hb; have hs : n0 ≤ b := hs; omega) (fun hs => by have hs : n0 ≤ mc := hs; omega) (fun hs => by have hs : n0 ≤ bc := hs; omega),
    RL.keepF h.x hn ht, RL.keepF h.y hn ht, h.ne, h.mx, h.rs, h.lo, ⟨fun b hb => Nat.lt_of_lt_of_le (h.lr.1 b hb) ht.size, fun b hb => Nat.lt_of_lt_of_le (h.lr.2 b hb) ht.size⟩, h.av, Nat.lt_of_lt_of_le h.sl ht.size⟩
theorem set_other5p {w : World} {b c t : Nat} {x0 x1 x2 x3 x4 : Value} {cs cs' : Array Value} {t' : Nat} (_ : (put5 w b x0 x1 x2 x3 x4).heap[b]? = some (.cells cs' t' (0, 0))) (h : w.heap[c]? = some (.cells cs t (0, 0))) (hne : c ≠ b) : (put5 w b x0 x1 x2 x3 x4).heap[c]? = some (.cells cs t (0, 0)) :=
  set_other5 (set_other5 (set_other5 (set_other5 (set_other5 h hne) hne) hne) hne) hne
theorem Touch.of_nil' {S : Nat → Prop} {w w' w'' : World} (h : Touch S w w') (k : Touch Nil w' w'') : Touch S w w'' := h.trans k.of_nil
/-- The end of an arm in which the first map was changed, and its list is new. -/
theorem doneEnd {seed : Int} {s0 N : Nat} {R S : Nat → Prop} {w W3 w4 w5 wf : World} {ma ba mc bc : Nat} {ra rc ra4 : Option Addr} {t u t4 : Tree} {x y : Value} {B3 B5 B6 : Nat} {na : Option Addr} {nn nc m : Nat} {ya : Option Addr} {yn yc : Nat}
    (hy0 : y = .slice ya yn yc) (hne : B3 ≠ B6) (hbo : Bo seed s0 N R S w ma ba mc bc ra rc t u x y) (hwz : w.heap.size = B3) (hlt : B3 < B5 ∧ B5 < B6 ∧ N ≤ B3 ∧ ba < B3 ∧ bc < B3 ∧ ma < B3 ∧ mc < B3) (htw : Touch Nil w W3) (hp3 : Pod w5 B3) (hp6 : Pod w5 B6) (ht45 : Touch (Just ba) W3 w4) (ht5 : Touch Nil w4 w5)
    (hm : MapAt seed (Up R W3 w4) w4 ma ba ra4 t4) (hc : MapAt seed S w4 mc bc rc u) (hz : W3.heap.size ≤ w4.heap.size ∧ B6 < W3.heap.size) (htF : Touch (fun b => b = B3 ∨ b = B6) w5 wf) (hx : (x = .slice na nn nc ∧ PL w x t4.toL) ∨ PO w4.heap.size w5 (.slice na nn nc) t4.toL) (hy : PL w y u.toL) (hty : PL w4 y u.toL) (hsz : t4.size ≤ m) :
    DoneP seed s0 N (m + u.size) w (.returned (.agg #[.pointer (some ⟨ma, 0, none⟩), .pointer (some ⟨mc, 0, none⟩), .slice na nn nc, y, .bool true])) wf := by
  subst hy0
  have hfar : Touch (fun b => B3 ≤ b ∨ b = ba) w wf := ((htw.of_nil.trans (ht45.mono fun b _ hs => .inr hs)).trans ht5.of_nil).trans (htF.mono fun b _ hs => .inl (by rcases hs with rfl | rfl <;> omega))
  have keepL : ∀ {v : Value} {L : Pairs}, PL w v L → PL w4 v L → PL wf v L := by
    intro v L h0 h4
    have h5 := h4.keepN ht5
    -- the list lies below B3
    have e0 := h0
    obtain ⟨ao, cap, f, rfl, g1, g2, g3, g4⟩ := h5
    obtain ⟨ao', cap', f', e, g1', g2', g3', g4'⟩ := e0
    cases e
    refine ⟨ao, cap, f, rfl, g1, g2, fun hh => ?_, fun i a ha c hcc => ?_⟩
    · obtain ⟨b, off, e1, hb, hcl⟩ := g3 hh
      obtain ⟨b', off', e2, hb', _⟩ := g3' hh
      rw [e1] at e2
      cases e2
      exact ⟨b, off, e1, Nat.lt_of_lt_of_le hb htF.size, fun i hi c hcc => (htF.cell hb (fun hs => by rcases hs with rfl | rfl <;> omega) _).trans (hcl i hi c hcc)⟩
    · have hf := g4 i a ha c hcc
      match c, hf with
      | 0, hf => exact BV.keepPod hf htF fun b hs => by rcases hs with rfl | rfl <;> assumption
      | _ + 1, hf => exact BV.keepPod hf htF fun b hs => by rcases hs with rfl | rfl <;> assumption
  have hxf : PL wf (.slice na nn nc) t4.toL := by
    rcases hx with ⟨rfl, h0⟩ | hpo
    · have h4 : PL w4 (.slice na nn nc) t4.toL := PL.keepB (h0.keepN htw) ht45 (by
        have := hbo.a.keepN htw
        exact this.bodyish)
      exact keepL h0 h4
    · exact hpo.keepPod htF fun b hs => by rcases hs with rfl | rfl <;> exact ⟨by omega, by assumption⟩
  have hup : ∀ b, Up R W3 w4 b → b < w4.heap.size ∧ b ≠ B3 ∧ b ≠ B6 := fun b hb => by
    rcases hb with hb | hb
    · have := hbo.lr.1 b hb; omega
    · omega
  have hs5 := ht5.size
  have hsF := htF.size
  have hox : ¬ OwnOf (.slice na nn nc) s0 := by
    rcases hx with ⟨e, _⟩ | hpo
    · rw [← e]; exact hbo.av.2.2.2.1
    · intro c; have := hpo.base' _ c; have := hbo.sl; have := htw.size; omega
  refine ⟨_, S, ma, ba, mc, bc, ra4, rc, t4, u, _, _, _, _, _, _, rfl, ⟨(hm.keepN ht5).keep htF (fun b hb hs => by have := hup b hb; rcases hs with rfl | rfl <;> omega) (fun hs => by rcases hs with hs | hs <;> omega) (fun hs => by rcases hs with hs | hs <;> omega), (hc.keepN ht5).keep htF (fun b hb hs => by have := hbo.lr.2 b hb; rcases hs with rfl | rfl <;> omega) (fun hs => by rcases hs with hs | hs <;> omega) (fun hs => by rcases hs with hs | hs <;> omega), hxf, keepL hy hty, hbo.ne, hbo.mx, ⟨hbo.rs.1, fun c => c.elim hbo.rs.2 fun c => by omega⟩, hbo.lo, ⟨fun b hb => by have := hup b hb; omega, fun b hb => by have := hbo.lr.2 b hb; have := htw.size; omega⟩, ⟨hbo.av.1, fun c => c.elim hbo.av.2.1 fun c => by have := hbo.sl; omega, hbo.av.2.2.1, hox, hbo.av.2.2.2.2⟩, by have := hbo.sl; omega⟩, by omega, hfar.mono fun b _ hs => ?_⟩
  show N ≤ b ∧ b ≠ s0
  have := hbo.lo
  have := hbo.sl
  have hav := hbo.av.1
  rcases hs with hs | hs <;> omega
/-- A list that lay ahead of all this stays. -/
theorem PL.keepDone {w W3 w4 w5 wf : World} {ba B3 B6 : Nat} {v : Value} {L : Pairs} (h0 : PL w v L) (hwz : w.heap.size = B3) (h36 : B3 ≤ B6) (htw : Touch Nil w W3) (ht45 : Touch (Just ba) W3 w4) (hbd : Bodyish W3 ba) (ht5 : Touch Nil w4 w5) (hp3 : Pod w5 B3) (hp6 : Pod w5 B6) (htF : Touch (fun b => b = B3 ∨ b = B6) w5 wf) : PL wf v L := by
  have h5 := (PL.keepB (h0.keepN htw) ht45 hbd).keepN ht5
  have e0 := h0
  obtain ⟨ao, cap, f, rfl, g1, g2, g3, g4⟩ := h5
  obtain ⟨ao', cap', f', e, g1', g2', g3', g4'⟩ := e0
  cases e
  refine ⟨ao, cap, f, rfl, g1, g2, fun hh => ?_, fun i a ha c hcc => ?_⟩
  · obtain ⟨b, off, e1, hb, hcl⟩ := g3 hh
    obtain ⟨b', off', e2, hb', _⟩ := g3' hh
    rw [e1] at e2
    cases e2
    exact ⟨b, off, e1, Nat.lt_of_lt_of_le hb htF.size, fun i hi c hcc => (htF.cell hb (fun hs => by rcases hs with rfl | rfl <;> omega) _).trans (hcl i hi c hcc)⟩
  · have hf := g4 i a ha c hcc
    match c, hf with
    | 0, hf => exact BV.keepPod hf htF fun b hs => by rcases hs with rfl | rfl <;> assumption
    | _ + 1, hf => exact BV.keepPod hf htF fun b hs => by rcases hs with rfl | rfl <;> assumption
/-- Lists stay while bodies of maps are written. -/
theorem BV.keepBS {S : Nat → Prop} {w w' : World} {x : Value} {l : Key} (h : BV w x l) (ht : Touch S w w') (hb : ∀ b, S b → Bodyish w b) : BV w' x l := by
  obtain ⟨ao, cap, rfl, h1, h2⟩ := h
  refine ⟨ao, cap, rfl, h1, h2.keep ht fun a e hp hs => ?_⟩
  obtain ⟨b, off, e', hc⟩ := h2 0 hp
  rw [e] at e'
  cases e'
  rcases (hb b hs).cell hc with ⟨s, e⟩ | ⟨p, e⟩ <;> cases e
theorem PL.keepBS {S : Nat → Prop} {w w' : World} {x : Value} {L : Pairs} (h : PL w x L) (ht : Touch S w w') (hb : ∀ b, S b → Bodyish w b) : PL w' x L := by
  obtain ⟨ao, cap, v, rfl, h1, h2, h3, h4⟩ := h
  refine ⟨ao, cap, v, rfl, h1, h2, fun h0 => ?_, fun i a ha c hc => ?_⟩
  · obtain ⟨b, off, e, hlt, hcl⟩ := h3 h0
    have hne : ¬ S b := fun hs => by
      have hl : L[0]? = some L[0] := List.getElem?_eq_getElem h0
      have h5 : BV w (v 0 0) L[0].1 := h4 0 _ hl 0 (by omega)
      obtain ⟨_, _, e6, _⟩ := h5
      have := hcl 0 h0 0 (by omega)
      rw [e6] at this
      rcases (hb b hs).cell this with ⟨s, e⟩ | ⟨p, e⟩ <;> cases e
    exact ⟨b, off, e, Nat.lt_of_lt_of_le hlt ht.size, fun i hi c hcc => (ht.cell hlt hne _).trans (hcl i hi c hcc)⟩
  · have hf := h4 i a ha c hc
    match c, hf with
    | 0, hf => exact BV.keepBS hf ht hb
    | _ + 1, hf => exact BV.keepBS hf ht hb
theorem PL.keepAt {B : Nat} {w w' : World} {x : Value} {L : Pairs} (h : PL w x L) (hr : ∀ b, OwnOf x b → b ≠ B) (hp : Pod w B) (ht : Touch (Just B) w w') : PL w' x L := by
  obtain ⟨ao, cap, v, rfl, h1, h2, h3, h4⟩ := h
  refine ⟨ao, cap, v, rfl, h1, h2, fun h0 => ?_, fun i a ha c hc => ?_⟩
  · obtain ⟨b, off, e, hlt, hcl⟩ := h3 h0
    subst e
    exact ⟨b, off, rfl, Nat.lt_of_lt_of_le hlt ht.size, fun i hi c hcc => (ht.cell hlt (fun hs => hr b rfl hs) _).trans (hcl i hi c hcc)⟩
  · have hf := h4 i a ha c hc
    match c, hf with
    | 0, hf => exact BV.keepPod hf ht fun b hs => by have hs : b = B := hs; rw [hs]; exact hp
    | _ + 1, hf => exact BV.keepPod hf ht fun b hs => by have hs : b = B := hs; rw [hs]; exact hp
/-- What a join that does not fit leaves: all as it was. -/
def JoinB (ma mc : Nat) (x y : Value) (w : World) (e : Ending) (w' : World) : Prop := e = .returned (.agg #[.pointer (some ⟨ma, 0, none⟩), .pointer (some ⟨mc, 0, none⟩), x, y, .bool true]) ∧ Touch (From w.heap.size) w w'
/-- What a join that fits leaves. -/
def JoinG (seed : Int) (R S : Nat → Prop) (ma ba bc : Nat) (j : Tree) (w : World) (e : Ending) (w' : World) : Prop :=
  ∃ mj bj rj R' va vl vc, e = .returned (.agg #[.pointer (some ⟨mj, 0, none⟩), .pointer (some ⟨ma, 0, none⟩), .slice va vl vc, .slice none 0 0, .bool true]) ∧ MapAt seed R' w' mj bj rj j ∧ MapAt seed (fun _ => False) w' ma ba none .nil ∧ PL w' (.slice va vl vc) j.toL ∧ (∀ b, OwnOf (.slice va vl vc) b → w.heap.size ≤ b) ∧ w.heap.size ≤ mj ∧ w.heap.size ≤ bj ∧ (∀ b, R' b → (R b ∨ S b ∨ w.heap.size ≤ b) ∧ b < w'.heap.size) ∧ Touch (fun b => b = ba ∨ b = bc ∨ w.heap.size ≤ b) w w'
theorem cut_ownH {w : World} {ST k : Nat} (hst : Try.prog.underlying ST = some (.slice (Try.prog.elem ST))) (hsz : (Try.prog.info? (Try.prog.elem ST)).map (fun i => i.size) = some k) {ao ao' : Option Addr} {n cap m cap' : Nat} (hm : m ≤ n) (hc : n ≤ cap)
    (h : ∀ W, (Instr.slice ST (.slice ao n cap) none (some (.int .i64 (m : Int))) none).run Try.prog W = .ok (.slice ao' m cap') W) : ∀ b, OwnOf (.slice ao' m cap') b → OwnOf (.slice ao n cap) b := by
  have e := h w
  rw [run_slice_h _ _ _ _ _ hst _ _ (by omega) (by omega), size_of hsz] at e
  simp only [Result.andThen, sliced, Int.toNat_natCast, Nat.sub_zero] at e
  injection e with e _
  injection e with e _ _
  intro b hb
  clear h
  cases ao with
  | none =>
    have he : ao' = none := by rw [← e]; simp
    subst he
    simp [OwnOf, Value.ownBlock] at hb
  | some a =>
    obtain ⟨a0, a1, a2⟩ := a
    have he : ∃ o p, ao' = some ⟨a0, o, p⟩ := by
      rw [← e]
      simp only [Option.map_some, Addr.add]
      repeat' split
      all_goals first | exact ⟨_, _, rfl⟩ | (split <;> exact ⟨_, _, rfl⟩)
    obtain ⟨o, p, rfl⟩ := he
    exact hb
theorem cut_ownL {w : World} {ST k : Nat} (hst : Try.prog.underlying ST = some (.slice (Try.prog.elem ST))) (hsz : (Try.prog.info? (Try.prog.elem ST)).map (fun i => i.size) = some k) {ao ao' : Option Addr} {n cap m r cap' : Nat} (hm : m ≤ n) (hc : n ≤ cap)
    (h : ∀ W, (Instr.slice ST (.slice ao n cap) (some (.int .i64 (m : Int))) none none).run Try.prog W = .ok (.slice ao' r cap') W) : ∀ b, OwnOf (.slice ao' r cap') b → OwnOf (.slice ao n cap) b := by
  have e := h w
  rw [run_slice_l _ _ _ _ _ hst _ _ (by omega) (by omega), size_of hsz] at e
  simp only [Result.andThen, sliced, Int.toNat_natCast] at e
  injection e with e _
  injection e with e _ _
  intro b hb
  clear h
  cases ao with
  | none =>
    have he : ao' = none := by rw [← e]; simp
    subst he
    simp [OwnOf, Value.ownBlock] at hb
  | some a =>
    obtain ⟨a0, a1, a2⟩ := a
    have he : ∃ o p, ao' = some ⟨a0, o, p⟩ := by
      rw [← e]
      simp only [Option.map_some, Addr.add]
      repeat' split
      all_goals first | exact ⟨_, _, rfl⟩ | (split <;> exact ⟨_, _, rfl⟩)
    obtain ⟨o, p, rfl⟩ := he
    exact hb
/-! ### Arms -/
set_option maxRecDepth 100000 in
set_option maxHeartbeats 4000000 in
/-- A join that does not fit. -/
theorem joinedF_bad {seed : Int} {s0 N : Nat} {R S : Nat → Prop} {w : World} {ma ba mc bc : Nat} {ra rc : Option Addr} {t u : Tree} {xa ya : Option Addr} {xn xc yn yc : Nat} (h : Bo seed s0 N R S w ma ba mc bc ra rc t u (.slice xa xn xc) (.slice ya yn yc)) (hN : N ≤ w.heap.size) (hsz : t.size + u.size ≤ 1000) (hf : fitsB t.toL u.toL = false) :
    Calls Try.prog 62 #[.agg #[.pointer (some ⟨ma, 0, none⟩), .pointer (some ⟨mc, 0, none⟩), .slice xa xn xc, .slice ya yn yc, .bool true], .bool false] w (JoinB ma mc (.slice xa xn xc) (.slice ya yn yc) w) := by
  obtain ⟨W1, e1⟩ : ∃ W1, w.alloc (.cells #[.pointer (some ⟨ma, 0, none⟩), .pointer (some ⟨mc, 0, none⟩), .slice xa xn xc, .slice ya yn yc, .bool true] 28) = W1 := ⟨_, rfl⟩
  obtain ⟨W3, e3⟩ : ∃ W3, W1.alloc (.cells #[.pointer none, .pointer none, .slice none 0 0, .slice none 0 0, .bool false] 28) = W3 := ⟨_, rfl⟩
  obtain ⟨B3, f3⟩ : ∃ B3, w.heap.size = B3 := ⟨_, rfl⟩
  obtain ⟨B6, f6⟩ : ∃ B6, W1.heap.size = B6 := ⟨_, rfl⟩
  have t1 : Touch Nil w W1 := by rw [← e1]; exact (Touch.refl Nil w).alloc _
  have t3 : Touch Nil W1 W3 := by rw [← e3]; exact (Touch.refl Nil W1).alloc _
  have HTW := Lib.hid (t1.trans t3)
  have z1 : W1.heap[B3]? = some (.cells #[.pointer (some ⟨ma, 0, none⟩), .pointer (some ⟨mc, 0, none⟩), .slice xa xn xc, .slice ya yn yc, .bool true] 28 (0, 0)) := by rw [← e1, ← f3]; exact heap_alloc_new _ _
  have HB6 := Lib.hid (show W3.heap[B6]? = some (.cells #[.pointer none, .pointer none, .slice none 0 0, .slice none 0 0, .bool false] 28 (0, 0)) from by rw [← e3, ← f6]; exact heap_alloc_new _ _)
  have HB3 := Lib.hid ((t3.same B3 (lt_of_heap z1) fun c => c).trans z1)
  have HLT := Lib.hid (show B3 < B6 ∧ N ≤ B3 ∧ ba < B3 ∧ bc < B3 ∧ ma < B3 ∧ mc < B3 from by
    have g1 := lt_of_heap h.a.body
    have g2 := lt_of_heap h.c.body
    have g3 := lt_of_heap h.a.top
    have g4 := lt_of_heap h.c.top
    have g5 := lt_of_heap z1
    omega)
  have HBO := Lib.hid (h.keepN HTW.out)
  have HBW := Lib.hid h
  have HWZ := Lib.hid f3
  have HSZ := Lib.hid hsz
  have HOKA := Lib.hid (treeAt_ok h.a.tree)
  have HOKC := Lib.hid (treeAt_ok h.c.tree)
  have HF := Lib.hid hf
  clear hf
  clear h hsz t1 t3 z1 hN
  obtain ⟨a0, a1, a2, a3, a4⟩ := cells5 HB3.out
  have fz := froz HB3.out
  go_enter Try.func62, Try.ntmps62
  go_wp2_with (go_quiet (fail))
  try clear e1 e3 f3 f6
  clear a0 a1 a2 a3 a4 fz
  have HT4 := Lib.hid (fun k => (Touch.refl Nil W3).drewN k)
  have HFT := Lib.hid (show fitsF t.toL u.toL = 7 from by unfold fitsF; rw [HF.out, if_pos rfl])
  refine (join_bad (HBO.out.a.keepN (HT4.out _)) (HBO.out.c.keepN (HT4.out _)) HBO.out.ne HF.out).mono ?_
  rintro e w5 ⟨rfl, ht5⟩
  have HT5 := Lib.hid ((HT4.out _).trans ht5)
  have HFI := Lib.hid (fitsR_any (HBO.out.keepN HT5.out).x (HBO.out.keepN HT5.out).y (OkL.short HOKA.out) (OkL.short HOKC.out) (by rw [← size_toL]; have := HSZ.out; omega) (by rw [← size_toL]; have := HSZ.out; omega))
  rw [HFT.out] at HFI
  clear ht5
  go_wp2_with fail
  refine HFI.out.mono ?_
  rintro e w6 ⟨rfl, ht6⟩
  have HT6 := Lib.hid (HT5.out.trans ht6)
  have hb3 := (HT6.out.same B3 (lt_of_heap HB3.out) fun c => c).trans HB3.out
  have hb6 := (HT6.out.same B6 (lt_of_heap HB6.out) fun c => c).trans HB6.out
  obtain ⟨a0, a1, a2, a3, a4⟩ := cells5 hb3
  obtain ⟨c0, c1, c2, c3, c4⟩ := cells5 hb6
  have fz3 := froz hb3
  have fz6 := froz hb6
  have hne36 : B3 ≠ B6 := by have := HLT.out; omega
  have HB36 := Lib.hid hb3
  have HB66 := Lib.hid hb6
  clear hb3 hb6 ht6 HFI
  go_wp2_with fail
  (try simp only [Exit.inBlock, Exit.then])
  have h6 := set_other5 (b := B3) (i := 4) (v := .bool true) HB66.out hne36.symm
  refine bodyPost_ret (ret5 rfl rfl (put5_heap h6 (.pointer (some ⟨ma, 0, none⟩)) (.pointer (some ⟨mc, 0, none⟩)) (.slice xa xn xc) (.slice ya yn yc) (.bool true))) rfl ?_
  have hto : Touch (From B3) w (put5 (w6.setCell ⟨B3, 4, none⟩ (.bool true)) B6 (.pointer (some ⟨ma, 0, none⟩)) (.pointer (some ⟨mc, 0, none⟩)) (.slice xa xn xc) (.slice ya yn yc) (.bool true)) :=
    put5_touch (((HTW.out.trans HT6.out).of_nil (S := From B3)).setCell ⟨B3, 4, none⟩ _ fun _ => Nat.le_refl _) (fun _ => show B3 ≤ B6 from by have := HLT.out; omega) _ _ _ _ _
  exact ⟨rfl, by rw [HWZ.out]; exact hto⟩
set_option maxRecDepth 100000 in
set_option maxHeartbeats 4000000 in
/-- A join that fits. -/
theorem joinedF_good {seed : Int} {s0 N : Nat} {R S : Nat → Prop} {w : World} {ma ba mc bc : Nat} {ra rc : Option Addr} {t u : Tree} {xa ya : Option Addr} {xn xc yn yc : Nat} (h : Bo seed s0 N R S w ma ba mc bc ra rc t u (.slice xa xn xc) (.slice ya yn yc)) (hN : N ≤ w.heap.size) (hsz : t.size + u.size ≤ 1000) (hf : fitsB t.toL u.toL = true) :
    Calls Try.prog 62 #[.agg #[.pointer (some ⟨ma, 0, none⟩), .pointer (some ⟨mc, 0, none⟩), .slice xa xn xc, .slice ya yn yc, .bool true], .bool false] w (JoinG seed R S ma ba bc (mergeT (abv seed) t u) w) := by
  obtain ⟨W1, e1⟩ : ∃ W1, w.alloc (.cells #[.pointer (some ⟨ma, 0, none⟩), .pointer (some ⟨mc, 0, none⟩), .slice xa xn xc, .slice ya yn yc, .bool true] 28) = W1 := ⟨_, rfl⟩
  obtain ⟨W3, e3⟩ : ∃ W3, W1.alloc (.cells #[.pointer none, .pointer none, .slice none 0 0, .slice none 0 0, .bool false] 28) = W3 := ⟨_, rfl⟩
  obtain ⟨B3, f3⟩ : ∃ B3, w.heap.size = B3 := ⟨_, rfl⟩
  obtain ⟨B6, f6⟩ : ∃ B6, W1.heap.size = B6 := ⟨_, rfl⟩
  have t1 : Touch Nil w W1 := by rw [← e1]; exact (Touch.refl Nil w).alloc _
  have t3 : Touch Nil W1 W3 := by rw [← e3]; exact (Touch.refl Nil W1).alloc _
  have HTW := Lib.hid (t1.trans t3)
  have z1 : W1.heap[B3]? = some (.cells #[.pointer (some ⟨ma, 0, none⟩), .pointer (some ⟨mc, 0, none⟩), .slice xa xn xc, .slice ya yn yc, .bool true] 28 (0, 0)) := by rw [← e1, ← f3]; exact heap_alloc_new _ _
  have HB6 := Lib.hid (show W3.heap[B6]? = some (.cells #[.pointer none, .pointer none, .slice none 0 0, .slice none 0 0, .bool false] 28 (0, 0)) from by rw [← e3, ← f6]; exact heap_alloc_new _ _)
  have HB3 := Lib.hid ((t3.same B3 (lt_of_heap z1) fun c => c).trans z1)
  have HLT := Lib.hid (show B3 < B6 ∧ N ≤ B3 ∧ ba < B3 ∧ bc < B3 ∧ ma < B3 ∧ mc < B3 from by
    have g1 := lt_of_heap h.a.body
    have g2 := lt_of_heap h.c.body
    have g3 := lt_of_heap h.a.top
    have g4 := lt_of_heap h.c.top
    have g5 := lt_of_heap z1
    omega)
  have HBO := Lib.hid (h.keepN HTW.out)
  have HBW := Lib.hid h
  have HWZ := Lib.hid f3
  have HSZ := Lib.hid hsz
  have HOKA := Lib.hid (treeAt_ok h.a.tree)
  have HOKC := Lib.hid (treeAt_ok h.c.tree)
  have HF := Lib.hid hf
  clear hf
  clear h hsz t1 t3 z1 hN
  obtain ⟨a0, a1, a2, a3, a4⟩ := cells5 HB3.out
  have fz := froz HB3.out
  go_enter Try.func62, Try.ntmps62
  go_wp2_with (go_quiet (fail))
  try clear e1 e3 f3 f6
  clear a0 a1 a2 a3 a4 fz
  have HT4 := Lib.hid (fun k => (Touch.refl Nil W3).drewN k)
  have HFT := Lib.hid (show fitsF t.toL u.toL = 0 from by unfold fitsF; rw [HF.out, if_neg (by decide), if_neg (by rw [← size_toL, ← size_toL]; have := HSZ.out; omega)])
  refine (join_map (HBO.out.a.keepN (HT4.out _)) (HBO.out.c.keepN (HT4.out _)) HBO.out.ne HBO.out.mx HBO.out.rs (fits_all HBO.out.a.srt HBO.out.c.srt HF.out) (by have := HSZ.out; omega)).mono ?_
  rintro e w5 ⟨mj, bj, rj, R', rfl, hmj, hm0, hm1, hR', hlo, ht5⟩
  have hbd : ∀ k b, (b = ba ∨ b = bc) → Bodyish (W3.drewN k) b := fun k b hb => by
    rcases hb with rfl | rfl
    · exact (HBO.out.a.keepN (HT4.out k)).bodyish
    · exact (HBO.out.c.keepN (HT4.out k)).bodyish
  have HX5 := Lib.hid (show PL w5 (.slice xa xn xc) t.toL from PL.keepBS (HBO.out.keepN (HT4.out _)).x ht5 (hbd _))
  have HY5 := Lib.hid (show PL w5 (.slice ya yn yc) u.toL from PL.keepBS (HBO.out.keepN (HT4.out _)).y ht5 (hbd _))
  have HT5 := Lib.hid (show Touch (fun b => b = ba ∨ b = bc) W3 w5 from (HT4.out _).of_nil.trans ht5)
  have HMJ := Lib.hid hmj
  have HMA := Lib.hid hm0
  have HMC := Lib.hid hm1
  have HRJ := Lib.hid hR'
  have HLO := Lib.hid (show W3.heap.size ≤ mj ∧ W3.heap.size ≤ bj from hlo)
  have HFI := Lib.hid (fitsR_any HX5.out HY5.out (OkL.short HOKA.out) (OkL.short HOKC.out) (by rw [← size_toL]; have := HSZ.out; omega) (by rw [← size_toL]; have := HSZ.out; omega))
  rw [HFT.out] at HFI
  clear ht5 hmj hm0 hm1 hR' hlo hbd
  go_wp2_with fail
  refine HFI.out.mono ?_
  rintro e w6 ⟨rfl, ht6⟩
  have HT6 := Lib.hid ht6
  have HX6 := Lib.hid (HX5.out.keepN ht6)
  have HY6 := Lib.hid (HY5.out.keepN ht6)
  clear ht6 HFI HX5 HY5
  go_wp2_with (refine wpList_append_rl rfl (.tmp 48) (.tmp 49) rfl (.agg #[.slice none 0 0, .slice none 0 0]) Try.underlying26 infoPair rfl (by decide) (by decide) (by decide) (.slice none 0 0) (.slice xa xn xc) rfl (OL.nil (base := w6.heap.size)) rfl w6 HX6.out (Touch.refl Nil w6) (Nat.le_refl _) ?p1 (Nat.le_refl _) ?p2)
  case p1 => rw [← size_toL]; simp; have := HSZ.out; omega
  intro v7 w7 ho7 ht7
  have HO7 := Lib.hid (show PO w6.heap.size w7 v7 t.toL from by simpa using ho7.out)
  have HT7 := Lib.hid (show Touch Nil w6 w7 from (Touch.refl Nil w6).trans' ht7.out fun b hb hs => by cases hs)
  obtain ⟨va7, vl7, vc7, rfl⟩ := HO7.out.form3
  clear ho7 ht7
  go_wp2_with (refine wpList_append_rl rfl (.tmp 51) (.tmp 52) rfl (.agg #[.slice none 0 0, .slice none 0 0]) Try.underlying26 infoPair rfl (by decide) (by decide) (by decide) (.slice va7 vl7 vc7) (.slice ya yn yc) rfl HO7.out rfl w6 HY6.out HT7.out (Nat.le_refl _) ?r1 HT7.out.size ?r2)
  case r1 => rw [← size_toL, ← size_toL]; have := HSZ.out; omega
  intro v8 w8 ho8 ht8
  have HO8 := Lib.hid (show PO w6.heap.size w8 v8 (t.toL ++ u.toL) from ho8.out)
  have HT8 := Lib.hid (show Touch Nil w6 w8 from HT7.out.trans' ht8.out fun b hb hs => by have := HO7.out.base' b hs; omega)
  obtain ⟨va8, vl8, vc8, rfl⟩ := HO8.out.form3
  have HT58 := Lib.hid (HT6.out.trans HT8.out)
  have g0 := HLT.out
  have hb3 := (HT58.out.same B3 (Nat.lt_of_lt_of_le (lt_of_heap HB3.out) HT5.out.size) fun c => c).trans ((HT5.out.same B3 (lt_of_heap HB3.out) fun hs => by rcases hs with hs | hs <;> omega).trans HB3.out)
  have hb6 := (HT58.out.same B6 (Nat.lt_of_lt_of_le (lt_of_heap HB6.out) HT5.out.size) fun c => c).trans ((HT5.out.same B6 (lt_of_heap HB6.out) fun hs => by rcases hs with hs | hs <;> omega).trans HB6.out)
  obtain ⟨a0, a1, a2, a3, a4⟩ := cells5 hb3
  obtain ⟨c0, c1, c2, c3, c4⟩ := cells5 hb6
  have fz3 := froz hb3
  have fz6 := froz hb6
  have hne36 : B3 ≠ B6 := by omega
  have HB38 := Lib.hid hb3
  have HB68 := Lib.hid hb6
  have HLA := Lib.hid (len_map (HMA.out.keepN HT58.out))
  have HLC := Lib.hid (len_map (HMC.out.keepN HT58.out))
  have hz0 : (((Tree.nil).size : Nat) : Int) = 0 := rfl
  rw [hz0] at HLA HLC
  clear ho8 ht8 hb3 hb6 hz0 g0
  go_wp2_with fail
  refine HLA.out.mono ?_
  rintro e w' ⟨rfl, rfl⟩
  go_wp2_with fail
  refine HLC.out.mono ?_
  rintro e w' ⟨rfl, rfl⟩
  go_wp2_with fail
  (try simp only [Exit.inBlock, Exit.then])
  have h6 := set_other5 (b := B3) (i := 3) (v := .slice none 0 0) (set_other5 (b := B3) (i := 2) (v := .slice va8 vl8 vc8) (set_other5 (b := B3) (i := 0) (v := .pointer (some ⟨mj, 0, none⟩)) (set_other5 (b := B3) (i := 1) (v := .pointer (some ⟨ma, 0, none⟩)) (set_other5 (b := B3) (i := 4) (v := .bool true) HB68.out hne36.symm) hne36.symm) hne36.symm) hne36.symm) hne36.symm
  refine bodyPost_ret (ret5 rfl rfl (put5_heap h6 (.pointer (some ⟨mj, 0, none⟩)) (.pointer (some ⟨ma, 0, none⟩)) (.slice va8 vl8 vc8) (.slice none 0 0) (.bool true))) rfl ?_
  have htF : Touch (fun b => b = B3 ∨ b = B6) w8 (put5 (((((w8.setCell ⟨B3, 4, none⟩ (.bool true)).setCell ⟨B3, 1, none⟩ (.pointer (some ⟨ma, 0, none⟩))).setCell ⟨B3, 0, none⟩ (.pointer (some ⟨mj, 0, none⟩))).setCell ⟨B3, 2, none⟩ (.slice va8 vl8 vc8)).setCell ⟨B3, 3, none⟩ (.slice none 0 0)) B6 (.pointer (some ⟨mj, 0, none⟩)) (.pointer (some ⟨ma, 0, none⟩)) (.slice va8 vl8 vc8) (.slice none 0 0) (.bool true)) :=
    put5_touch ((((((Touch.refl _ w8).setCell ⟨B3, 4, none⟩ _ fun _ => .inl rfl).setCell ⟨B3, 1, none⟩ _ fun _ => .inl rfl).setCell ⟨B3, 0, none⟩ _ fun _ => .inl rfl).setCell ⟨B3, 2, none⟩ _ fun _ => .inl rfl).setCell ⟨B3, 3, none⟩ _ fun _ => .inl rfl) (fun _ => .inr rfl) _ _ _ _ _
  have hp3 : Pod w8 B3 := ⟨_, _, _, _, _, _, HB38.out, ⟨_, _, _, rfl⟩, ⟨_, _, _, rfl⟩⟩
  have hp6 : Pod w8 B6 := ⟨_, _, _, _, _, _, HB68.out, ⟨_, _, _, rfl⟩, ⟨_, _, _, rfl⟩⟩
  have g1 := HLT.out
  have g2 := HLO.out
  have g3 := lt_of_heap HB6.out
  have g4 := HT58.out.size
  have g5 := htF.size
  have g6 := HT5.out.size
  have g7 := HT6.out.size
  have hxf : PL _ (.slice va8 vl8 vc8) (t.toL ++ u.toL) := HO8.out.keepPod htF fun b hs => by rcases hs with rfl | rfl <;> exact ⟨by omega, by assumption⟩
  rw [← merge_toL (abv seed)] at hxf
  have hto : Touch (From N) w (put5 (((((w8.setCell ⟨B3, 4, none⟩ (.bool true)).setCell ⟨B3, 1, none⟩ (.pointer (some ⟨ma, 0, none⟩))).setCell ⟨B3, 0, none⟩ (.pointer (some ⟨mj, 0, none⟩))).setCell ⟨B3, 2, none⟩ (.slice va8 vl8 vc8)).setCell ⟨B3, 3, none⟩ (.slice none 0 0)) B6 (.pointer (some ⟨mj, 0, none⟩)) (.pointer (some ⟨ma, 0, none⟩)) (.slice va8 vl8 vc8) (.slice none 0 0) (.bool true)) :=
    (((HTW.out.of_nil (S := From N)).trans (HT5.out.mono fun b _ hs => show N ≤ b from by have := HBW.out.lo; rcases hs with rfl | rfl <;> omega)).trans HT58.out.of_nil).trans (htF.mono fun b _ hs => show N ≤ b from by rcases hs with rfl | rfl <;> omega)
  have hmj : MapAt seed (fun b => R' b ∧ b < w5.heap.size) w5 mj bj rj (mergeT (abv seed) t u) := ⟨HMJ.out.top, HMJ.out.body, HMJ.out.tree.mono fun b hb hr => ⟨hr, hb⟩, fun c => HMJ.out.rm c.1, fun c => HMJ.out.rb c.1, HMJ.out.srt, HMJ.out.heap, HMJ.out.size⟩
  have hra : ∀ b, R' b → b ≠ B3 ∧ b ≠ B6 ∧ b ≠ ba := fun b hb => by
    have hw := HWZ.out
    refine ⟨fun e => ?_, fun e => ?_, fun e => ?_⟩ <;> subst e
    · rcases HRJ.out _ hb with hb | hb | hb
      · first | (have := HBW.out.lr.1 _ hb; omega) | (have := HBW.out.lr.2 _ hb; omega)
      · first | (have := HBW.out.lr.2 _ hb; omega) | (have := HBW.out.lr.1 _ hb; omega)
      · have hb : W3.heap.size ≤ _ := hb; omega
    · rcases HRJ.out _ hb with hb | hb | hb
      · first | (have := HBW.out.lr.1 _ hb; omega) | (have := HBW.out.lr.2 _ hb; omega)
      · first | (have := HBW.out.lr.2 _ hb; omega) | (have := HBW.out.lr.1 _ hb; omega)
      · have hb : W3.heap.size ≤ _ := hb; omega
    · have c := HRJ.out _ hb
      exact c.elim (fun c => HBO.out.a.rb c) fun c => c.elim (fun c => HBO.out.rs.1 c) fun c => by have c : W3.heap.size ≤ _ := c; omega
  refine ⟨mj, bj, rj, _, va8, vl8, vc8, rfl, (hmj.keepN HT58.out).keep htF (fun b hb hs => by have := hra b hb.1; rcases hs with rfl | rfl <;> omega) (fun hs => by rcases hs with hs | hs <;> omega) (fun hs => by rcases hs with hs | hs <;> omega), (HMA.out.keepN HT58.out).keep htF (fun _ c => c.elim) (fun hs => by rcases hs with hs | hs <;> omega) (fun hs => by rcases hs with hs | hs <;> omega), hxf, fun b hb => ?_, by have := HWZ.out; omega, by have := HWZ.out; omega, fun b hb => ⟨?_, Nat.lt_of_lt_of_le hb.2 (Nat.le_trans g4 g5)⟩, ?_⟩
  · have := HO8.out.base' b hb
    have := HWZ.out
    omega
  · rcases HRJ.out b hb.1 with c | c | c
    · exact .inl c
    · exact .inr (.inl c)
    · have c : W3.heap.size ≤ b := c
      exact .inr (.inr (by have := HWZ.out; omega))
  · refine (((HTW.out.of_nil (S := fun b => b = ba ∨ b = bc ∨ w.heap.size ≤ b)).trans (HT5.out.mono fun b _ hs => ?_)).trans HT58.out.of_nil).trans (htF.mono fun b _ hs => .inr (.inr (by have := HWZ.out; rcases hs with rfl | rfl <;> omega)))
    rcases hs with hs | hs
    · first | exact .inl hs | exact .inr (.inl hs)
    · first | exact .inl hs | exact .inr (.inl hs)
set_option maxRecDepth 100000 in
set_option maxHeartbeats 4000000 in
/-- A join that does not fit. -/
theorem joinedT_bad {seed : Int} {s0 N : Nat} {R S : Nat → Prop} {w : World} {ma ba mc bc : Nat} {ra rc : Option Addr} {t u : Tree} {xa ya : Option Addr} {xn xc yn yc : Nat} (h : Bo seed s0 N R S w ma ba mc bc ra rc t u (.slice xa xn xc) (.slice ya yn yc)) (hN : N ≤ w.heap.size) (hsz : t.size + u.size ≤ 1000) (hf : fitsB u.toL t.toL = false) :
    Calls Try.prog 62 #[.agg #[.pointer (some ⟨ma, 0, none⟩), .pointer (some ⟨mc, 0, none⟩), .slice xa xn xc, .slice ya yn yc, .bool true], .bool true] w (JoinB ma mc (.slice xa xn xc) (.slice ya yn yc) w) := by
  obtain ⟨W1, e1⟩ : ∃ W1, w.alloc (.cells #[.pointer (some ⟨ma, 0, none⟩), .pointer (some ⟨mc, 0, none⟩), .slice xa xn xc, .slice ya yn yc, .bool true] 28) = W1 := ⟨_, rfl⟩
  obtain ⟨W3, e3⟩ : ∃ W3, W1.alloc (.cells #[.pointer none, .pointer none, .slice none 0 0, .slice none 0 0, .bool false] 28) = W3 := ⟨_, rfl⟩
  obtain ⟨B3, f3⟩ : ∃ B3, w.heap.size = B3 := ⟨_, rfl⟩
  obtain ⟨B6, f6⟩ : ∃ B6, W1.heap.size = B6 := ⟨_, rfl⟩
  have t1 : Touch Nil w W1 := by rw [← e1]; exact (Touch.refl Nil w).alloc _
  have t3 : Touch Nil W1 W3 := by rw [← e3]; exact (Touch.refl Nil W1).alloc _
  have HTW := Lib.hid (t1.trans t3)
  have z1 : W1.heap[B3]? = some (.cells #[.pointer (some ⟨ma, 0, none⟩), .pointer (some ⟨mc, 0, none⟩), .slice xa xn xc, .slice ya yn yc, .bool true] 28 (0, 0)) := by rw [← e1, ← f3]; exact heap_alloc_new _ _
  have HB6 := Lib.hid (show W3.heap[B6]? = some (.cells #[.pointer none, .pointer none, .slice none 0 0, .slice none 0 0, .bool false] 28 (0, 0)) from by rw [← e3, ← f6]; exact heap_alloc_new _ _)
  have HB3 := Lib.hid ((t3.same B3 (lt_of_heap z1) fun c => c).trans z1)
  have HLT := Lib.hid (show B3 < B6 ∧ N ≤ B3 ∧ ba < B3 ∧ bc < B3 ∧ ma < B3 ∧ mc < B3 from by
    have g1 := lt_of_heap h.a.body
    have g2 := lt_of_heap h.c.body
    have g3 := lt_of_heap h.a.top
    have g4 := lt_of_heap h.c.top
    have g5 := lt_of_heap z1
    omega)
  have HBO := Lib.hid (h.keepN HTW.out)
  have HBW := Lib.hid h
  have HWZ := Lib.hid f3
  have HSZ := Lib.hid hsz
  have HOKA := Lib.hid (treeAt_ok h.a.tree)
  have HOKC := Lib.hid (treeAt_ok h.c.tree)
  have HF := Lib.hid hf
  clear hf
  clear h hsz t1 t3 z1 hN
  obtain ⟨a0, a1, a2, a3, a4⟩ := cells5 HB3.out
  have fz := froz HB3.out
  go_enter Try.func62, Try.ntmps62
  go_wp2_with (go_quiet (fail))
  try clear e1 e3 f3 f6
  clear a0 a1 a2 a3 a4 fz
  have HT4 := Lib.hid (fun k => (Touch.refl Nil W3).drewN k)
  have HFT := Lib.hid (show fitsF u.toL t.toL = 7 from by unfold fitsF; rw [HF.out, if_pos rfl])
  refine (join_bad (HBO.out.c.keepN (HT4.out _)) (HBO.out.a.keepN (HT4.out _)) (fun e => HBO.out.ne e.symm) HF.out).mono ?_
  rintro e w5 ⟨rfl, ht5⟩
  have HT5 := Lib.hid ((HT4.out _).trans ht5)
  have HFI := Lib.hid (fitsR_any (HBO.out.keepN HT5.out).y (HBO.out.keepN HT5.out).x (OkL.short HOKC.out) (OkL.short HOKA.out) (by rw [← size_toL]; have := HSZ.out; omega) (by rw [← size_toL]; have := HSZ.out; omega))
  rw [HFT.out] at HFI
  clear ht5
  go_wp2_with fail
  refine HFI.out.mono ?_
  rintro e w6 ⟨rfl, ht6⟩
  have HT6 := Lib.hid (HT5.out.trans ht6)
  have hb3 := (HT6.out.same B3 (lt_of_heap HB3.out) fun c => c).trans HB3.out
  have hb6 := (HT6.out.same B6 (lt_of_heap HB6.out) fun c => c).trans HB6.out
  obtain ⟨a0, a1, a2, a3, a4⟩ := cells5 hb3
  obtain ⟨c0, c1, c2, c3, c4⟩ := cells5 hb6
  have fz3 := froz hb3
  have fz6 := froz hb6
  have hne36 : B3 ≠ B6 := by have := HLT.out; omega
  have HB36 := Lib.hid hb3
  have HB66 := Lib.hid hb6
  clear hb3 hb6 ht6 HFI
  go_wp2_with fail
  (try simp only [Exit.inBlock, Exit.then])
  have h6 := set_other5 (b := B3) (i := 4) (v := .bool true) HB66.out hne36.symm
  refine bodyPost_ret (ret5 rfl rfl (put5_heap h6 (.pointer (some ⟨ma, 0, none⟩)) (.pointer (some ⟨mc, 0, none⟩)) (.slice xa xn xc) (.slice ya yn yc) (.bool true))) rfl ?_
  have hto : Touch (From B3) w (put5 (w6.setCell ⟨B3, 4, none⟩ (.bool true)) B6 (.pointer (some ⟨ma, 0, none⟩)) (.pointer (some ⟨mc, 0, none⟩)) (.slice xa xn xc) (.slice ya yn yc) (.bool true)) :=
    put5_touch (((HTW.out.trans HT6.out).of_nil (S := From B3)).setCell ⟨B3, 4, none⟩ _ fun _ => Nat.le_refl _) (fun _ => show B3 ≤ B6 from by have := HLT.out; omega) _ _ _ _ _
  exact ⟨rfl, by rw [HWZ.out]; exact hto⟩
set_option maxRecDepth 100000 in
set_option maxHeartbeats 4000000 in
/-- A join that fits. -/
theorem joinedT_good {seed : Int} {s0 N : Nat} {R S : Nat → Prop} {w : World} {ma ba mc bc : Nat} {ra rc : Option Addr} {t u : Tree} {xa ya : Option Addr} {xn xc yn yc : Nat} (h : Bo seed s0 N R S w ma ba mc bc ra rc t u (.slice xa xn xc) (.slice ya yn yc)) (hN : N ≤ w.heap.size) (hsz : t.size + u.size ≤ 1000) (hf : fitsB u.toL t.toL = true) :
    Calls Try.prog 62 #[.agg #[.pointer (some ⟨ma, 0, none⟩), .pointer (some ⟨mc, 0, none⟩), .slice xa xn xc, .slice ya yn yc, .bool true], .bool true] w (JoinG seed R S ma ba bc (mergeT (abv seed) u t) w) := by
  obtain ⟨W1, e1⟩ : ∃ W1, w.alloc (.cells #[.pointer (some ⟨ma, 0, none⟩), .pointer (some ⟨mc, 0, none⟩), .slice xa xn xc, .slice ya yn yc, .bool true] 28) = W1 := ⟨_, rfl⟩
  obtain ⟨W3, e3⟩ : ∃ W3, W1.alloc (.cells #[.pointer none, .pointer none, .slice none 0 0, .slice none 0 0, .bool false] 28) = W3 := ⟨_, rfl⟩
  obtain ⟨B3, f3⟩ : ∃ B3, w.heap.size = B3 := ⟨_, rfl⟩
  obtain ⟨B6, f6⟩ : ∃ B6, W1.heap.size = B6 := ⟨_, rfl⟩
  have t1 : Touch Nil w W1 := by rw [← e1]; exact (Touch.refl Nil w).alloc _
  have t3 : Touch Nil W1 W3 := by rw [← e3]; exact (Touch.refl Nil W1).alloc _
  have HTW := Lib.hid (t1.trans t3)
  have z1 : W1.heap[B3]? = some (.cells #[.pointer (some ⟨ma, 0, none⟩), .pointer (some ⟨mc, 0, none⟩), .slice xa xn xc, .slice ya yn yc, .bool true] 28 (0, 0)) := by rw [← e1, ← f3]; exact heap_alloc_new _ _
  have HB6 := Lib.hid (show W3.heap[B6]? = some (.cells #[.pointer none, .pointer none, .slice none 0 0, .slice none 0 0, .bool false] 28 (0, 0)) from by rw [← e3, ← f6]; exact heap_alloc_new _ _)
  have HB3 := Lib.hid ((t3.same B3 (lt_of_heap z1) fun c => c).trans z1)
  have HLT := Lib.hid (show B3 < B6 ∧ N ≤ B3 ∧ ba < B3 ∧ bc < B3 ∧ ma < B3 ∧ mc < B3 from by
    have g1 := lt_of_heap h.a.body
    have g2 := lt_of_heap h.c.body
    have g3 := lt_of_heap h.a.top
    have g4 := lt_of_heap h.c.top
    have g5 := lt_of_heap z1
    omega)
  have HBO := Lib.hid (h.keepN HTW.out)
  have HBW := Lib.hid h
  have HWZ := Lib.hid f3
  have HSZ := Lib.hid hsz
  have HOKA := Lib.hid (treeAt_ok h.a.tree)
  have HOKC := Lib.hid (treeAt_ok h.c.tree)
  have HF := Lib.hid hf
  clear hf
  clear h hsz t1 t3 z1 hN
  obtain ⟨a0, a1, a2, a3, a4⟩ := cells5 HB3.out
  have fz := froz HB3.out
  go_enter Try.func62, Try.ntmps62
  go_wp2_with (go_quiet (fail))
  try clear e1 e3 f3 f6
  clear a0 a1 a2 a3 a4 fz
  have HT4 := Lib.hid (fun k => (Touch.refl Nil W3).drewN k)
  have HFT := Lib.hid (show fitsF u.toL t.toL = 0 from by unfold fitsF; rw [HF.out, if_neg (by decide), if_neg (by rw [← size_toL, ← size_toL]; have := HSZ.out; omega)])
  refine (join_map (HBO.out.c.keepN (HT4.out _)) (HBO.out.a.keepN (HT4.out _)) (fun e => HBO.out.ne e.symm) ⟨HBO.out.mx.2, HBO.out.mx.1⟩ ⟨HBO.out.rs.2, HBO.out.rs.1⟩ (fits_all HBO.out.c.srt HBO.out.a.srt HF.out) (by have := HSZ.out; omega)).mono ?_
  rintro e w5 ⟨mj, bj, rj, R', rfl, hmj, hm0, hm1, hR', hlo, ht5⟩
  have hbd : ∀ k b, (b = bc ∨ b = ba) → Bodyish (W3.drewN k) b := fun k b hb => by
    rcases hb with rfl | rfl
    · exact (HBO.out.c.keepN (HT4.out k)).bodyish
    · exact (HBO.out.a.keepN (HT4.out k)).bodyish
  have HX5 := Lib.hid (show PL w5 (.slice ya yn yc) u.toL from PL.keepBS (HBO.out.keepN (HT4.out _)).y ht5 (hbd _))
  have HY5 := Lib.hid (show PL w5 (.slice xa xn xc) t.toL from PL.keepBS (HBO.out.keepN (HT4.out _)).x ht5 (hbd _))
  have HT5 := Lib.hid (show Touch (fun b => b = bc ∨ b = ba) W3 w5 from (HT4.out _).of_nil.trans ht5)
  have HMJ := Lib.hid hmj
  have HMA := Lib.hid hm1
  have HMC := Lib.hid hm0
  have HRJ := Lib.hid hR'
  have HLO := Lib.hid (show W3.heap.size ≤ mj ∧ W3.heap.size ≤ bj from hlo)
  have HFI := Lib.hid (fitsR_any HX5.out HY5.out (OkL.short HOKC.out) (OkL.short HOKA.out) (by rw [← size_toL]; have := HSZ.out; omega) (by rw [← size_toL]; have := HSZ.out; omega))
  rw [HFT.out] at HFI
  clear ht5 hmj hm0 hm1 hR' hlo hbd
  go_wp2_with fail
  refine HFI.out.mono ?_
  rintro e w6 ⟨rfl, ht6⟩
  have HT6 := Lib.hid ht6
  have HX6 := Lib.hid (HX5.out.keepN ht6)
  have HY6 := Lib.hid (HY5.out.keepN ht6)
  clear ht6 HFI HX5 HY5
  go_wp2_with (refine wpList_append_rl rfl (.tmp 48) (.tmp 49) rfl (.agg #[.slice none 0 0, .slice none 0 0]) Try.underlying26 infoPair rfl (by decide) (by decide) (by decide) (.slice none 0 0) (.slice ya yn yc) rfl (OL.nil (base := w6.heap.size)) rfl w6 HX6.out (Touch.refl Nil w6) (Nat.le_refl _) ?p1 (Nat.le_refl _) ?p2)
  case p1 => rw [← size_toL]; simp; have := HSZ.out; omega
  intro v7 w7 ho7 ht7
  have HO7 := Lib.hid (show PO w6.heap.size w7 v7 u.toL from by simpa using ho7.out)
  have HT7 := Lib.hid (show Touch Nil w6 w7 from (Touch.refl Nil w6).trans' ht7.out fun b hb hs => by cases hs)
  obtain ⟨va7, vl7, vc7, rfl⟩ := HO7.out.form3
  clear ho7 ht7
  go_wp2_with (refine wpList_append_rl rfl (.tmp 51) (.tmp 52) rfl (.agg #[.slice none 0 0, .slice none 0 0]) Try.underlying26 infoPair rfl (by decide) (by decide) (by decide) (.slice va7 vl7 vc7) (.slice xa xn xc) rfl HO7.out rfl w6 HY6.out HT7.out (Nat.le_refl _) ?r1 HT7.out.size ?r2)
  case r1 => rw [← size_toL, ← size_toL]; have := HSZ.out; omega
  intro v8 w8 ho8 ht8
  have HO8 := Lib.hid (show PO w6.heap.size w8 v8 (u.toL ++ t.toL) from ho8.out)
  have HT8 := Lib.hid (show Touch Nil w6 w8 from HT7.out.trans' ht8.out fun b hb hs => by have := HO7.out.base' b hs; omega)
  obtain ⟨va8, vl8, vc8, rfl⟩ := HO8.out.form3
  have HT58 := Lib.hid (HT6.out.trans HT8.out)
  have g0 := HLT.out
  have hb3 := (HT58.out.same B3 (Nat.lt_of_lt_of_le (lt_of_heap HB3.out) HT5.out.size) fun c => c).trans ((HT5.out.same B3 (lt_of_heap HB3.out) fun hs => by rcases hs with hs | hs <;> omega).trans HB3.out)
  have hb6 := (HT58.out.same B6 (Nat.lt_of_lt_of_le (lt_of_heap HB6.out) HT5.out.size) fun c => c).trans ((HT5.out.same B6 (lt_of_heap HB6.out) fun hs => by rcases hs with hs | hs <;> omega).trans HB6.out)
  obtain ⟨a0, a1, a2, a3, a4⟩ := cells5 hb3
  obtain ⟨c0, c1, c2, c3, c4⟩ := cells5 hb6
  have fz3 := froz hb3
  have fz6 := froz hb6
  have hne36 : B3 ≠ B6 := by omega
  have HB38 := Lib.hid hb3
  have HB68 := Lib.hid hb6
  have HLA := Lib.hid (len_map (HMA.out.keepN HT58.out))
  have HLC := Lib.hid (len_map (HMC.out.keepN HT58.out))
  have hz0 : (((Tree.nil).size : Nat) : Int) = 0 := rfl
  rw [hz0] at HLA HLC
  clear ho8 ht8 hb3 hb6 hz0 g0
  go_wp2_with fail
  refine HLA.out.mono ?_
  rintro e w' ⟨rfl, rfl⟩
  go_wp2_with fail
  refine HLC.out.mono ?_
  rintro e w' ⟨rfl, rfl⟩
  go_wp2_with fail
  (try simp only [Exit.inBlock, Exit.then])
  have h6 := set_other5 (b := B3) (i := 3) (v := .slice none 0 0) (set_other5 (b := B3) (i := 2) (v := .slice va8 vl8 vc8) (set_other5 (b := B3) (i := 0) (v := .pointer (some ⟨mj, 0, none⟩)) (set_other5 (b := B3) (i := 1) (v := .pointer (some ⟨ma, 0, none⟩)) (set_other5 (b := B3) (i := 4) (v := .bool true) HB68.out hne36.symm) hne36.symm) hne36.symm) hne36.symm) hne36.symm
  refine bodyPost_ret (ret5 rfl rfl (put5_heap h6 (.pointer (some ⟨mj, 0, none⟩)) (.pointer (some ⟨ma, 0, none⟩)) (.slice va8 vl8 vc8) (.slice none 0 0) (.bool true))) rfl ?_
  have htF : Touch (fun b => b = B3 ∨ b = B6) w8 (put5 (((((w8.setCell ⟨B3, 4, none⟩ (.bool true)).setCell ⟨B3, 1, none⟩ (.pointer (some ⟨ma, 0, none⟩))).setCell ⟨B3, 0, none⟩ (.pointer (some ⟨mj, 0, none⟩))).setCell ⟨B3, 2, none⟩ (.slice va8 vl8 vc8)).setCell ⟨B3, 3, none⟩ (.slice none 0 0)) B6 (.pointer (some ⟨mj, 0, none⟩)) (.pointer (some ⟨ma, 0, none⟩)) (.slice va8 vl8 vc8) (.slice none 0 0) (.bool true)) :=
    put5_touch ((((((Touch.refl _ w8).setCell ⟨B3, 4, none⟩ _ fun _ => .inl rfl).setCell ⟨B3, 1, none⟩ _ fun _ => .inl rfl).setCell ⟨B3, 0, none⟩ _ fun _ => .inl rfl).setCell ⟨B3, 2, none⟩ _ fun _ => .inl rfl).setCell ⟨B3, 3, none⟩ _ fun _ => .inl rfl) (fun _ => .inr rfl) _ _ _ _ _
  have hp3 : Pod w8 B3 := ⟨_, _, _, _, _, _, HB38.out, ⟨_, _, _, rfl⟩, ⟨_, _, _, rfl⟩⟩
  have hp6 : Pod w8 B6 := ⟨_, _, _, _, _, _, HB68.out, ⟨_, _, _, rfl⟩, ⟨_, _, _, rfl⟩⟩
  have g1 := HLT.out
  have g2 := HLO.out
  have g3 := lt_of_heap HB6.out
  have g4 := HT58.out.size
  have g5 := htF.size
  have g6 := HT5.out.size
  have g7 := HT6.out.size
  have hxf : PL _ (.slice va8 vl8 vc8) (u.toL ++ t.toL) := HO8.out.keepPod htF fun b hs => by rcases hs with rfl | rfl <;> exact ⟨by omega, by assumption⟩
  rw [← merge_toL (abv seed)] at hxf
  have hto : Touch (From N) w (put5 (((((w8.setCell ⟨B3, 4, none⟩ (.bool true)).setCell ⟨B3, 1, none⟩ (.pointer (some ⟨ma, 0, none⟩))).setCell ⟨B3, 0, none⟩ (.pointer (some ⟨mj, 0, none⟩))).setCell ⟨B3, 2, none⟩ (.slice va8 vl8 vc8)).setCell ⟨B3, 3, none⟩ (.slice none 0 0)) B6 (.pointer (some ⟨mj, 0, none⟩)) (.pointer (some ⟨ma, 0, none⟩)) (.slice va8 vl8 vc8) (.slice none 0 0) (.bool true)) :=
    (((HTW.out.of_nil (S := From N)).trans (HT5.out.mono fun b _ hs => show N ≤ b from by have := HBW.out.lo; rcases hs with rfl | rfl <;> omega)).trans HT58.out.of_nil).trans (htF.mono fun b _ hs => show N ≤ b from by rcases hs with rfl | rfl <;> omega)
  have hmj : MapAt seed (fun b => R' b ∧ b < w5.heap.size) w5 mj bj rj (mergeT (abv seed) u t) := ⟨HMJ.out.top, HMJ.out.body, HMJ.out.tree.mono fun b hb hr => ⟨hr, hb⟩, fun c => HMJ.out.rm c.1, fun c => HMJ.out.rb c.1, HMJ.out.srt, HMJ.out.heap, HMJ.out.size⟩
  have hra : ∀ b, R' b → b ≠ B3 ∧ b ≠ B6 ∧ b ≠ ba := fun b hb => by
    have hw := HWZ.out
    refine ⟨fun e => ?_, fun e => ?_, fun e => ?_⟩ <;> subst e
    · rcases HRJ.out _ hb with hb | hb | hb
      · first | (have := HBW.out.lr.1 _ hb; omega) | (have := HBW.out.lr.2 _ hb; omega)
      · first | (have := HBW.out.lr.2 _ hb; omega) | (have := HBW.out.lr.1 _ hb; omega)
      · have hb : W3.heap.size ≤ _ := hb; omega
    · rcases HRJ.out _ hb with hb | hb | hb
      · first | (have := HBW.out.lr.1 _ hb; omega) | (have := HBW.out.lr.2 _ hb; omega)
      · first | (have := HBW.out.lr.2 _ hb; omega) | (have := HBW.out.lr.1 _ hb; omega)
      · have hb : W3.heap.size ≤ _ := hb; omega
    · have c := HRJ.out _ hb
      exact c.elim (fun c => HBO.out.rs.1 c) fun c => c.elim (fun c => HBO.out.a.rb c) fun c => by have c : W3.heap.size ≤ _ := c; omega
  refine ⟨mj, bj, rj, _, va8, vl8, vc8, rfl, (hmj.keepN HT58.out).keep htF (fun b hb hs => by have := hra b hb.1; rcases hs with rfl | rfl <;> omega) (fun hs => by rcases hs with hs | hs <;> omega) (fun hs => by rcases hs with hs | hs <;> omega), (HMA.out.keepN HT58.out).keep htF (fun _ c => c.elim) (fun hs => by rcases hs with hs | hs <;> omega) (fun hs => by rcases hs with hs | hs <;> omega), hxf, fun b hb => ?_, by have := HWZ.out; omega, by have := HWZ.out; omega, fun b hb => ⟨?_, Nat.lt_of_lt_of_le hb.2 (Nat.le_trans g4 g5)⟩, ?_⟩
  · have := HO8.out.base' b hb
    have := HWZ.out
    omega
  · rcases HRJ.out b hb.1 with c | c | c
    · exact .inr (.inl c)
    · exact .inl c
    · have c : W3.heap.size ≤ b := c
      exact .inr (.inr (by have := HWZ.out; omega))
  · refine (((HTW.out.of_nil (S := fun b => b = ba ∨ b = bc ∨ w.heap.size ≤ b)).trans (HT5.out.mono fun b _ hs => ?_)).trans HT58.out.of_nil).trans (htF.mono fun b _ hs => .inr (.inr (by have := HWZ.out; rcases hs with rfl | rfl <;> omega)))
    rcases hs with hs | hs
    · first | exact .inl hs | exact .inr (.inl hs)
    · first | exact .inl hs | exact .inr (.inl hs)
set_option maxRecDepth 100000 in
set_option maxHeartbeats 4000000 in
/-- Something is asked. -/
theorem doneX_any {seed : Int} {s0 N : Nat} {R S : Nat → Prop} {w : World} {ma ba mc bc : Nat} {ra rc : Option Addr} {t u : Tree} {xa ya : Option Addr} {xn xc yn yc : Nat} (h : Bo seed s0 N R S w ma ba mc bc ra rc t u (.slice xa xn xc) (.slice ya yn yc)) (hN : N ≤ w.heap.size) {ka va ha : Option Addr} {kl kc vl vc hl hc : Nat} {key val high : Key} (hk : BV w (.slice ka kl kc) key) (hv : BV w (.slice va vl vc) val) (hh : BV w (.slice ha hl hc) high) (hkl : key.length ≤ 2000 ∧ val.length ≤ 2000 ∧ high.length ≤ 2000) (bo : Bool) (n : Int) (hn : -9223372036854775808 ≤ n ∧ n ≤ 9223372036854775807) (hsz : t.size + u.size ≤ 1000) (k : Int) (hne : k ≠ 0 ∧ k ≠ 1 ∧ (k < 8 ∨ 13 < k)) :
    Calls Try.prog 17 #[.agg #[.pointer (some ⟨ma, 0, none⟩), .pointer (some ⟨mc, 0, none⟩), .slice xa xn xc, .slice ya yn yc, .bool true], .int .u64 seed, .agg #[.int .i64 k, .slice ka kl kc, .slice va vl vc, .slice ha hl hc, .bool bo, .int .i64 n]] w (DoneP seed s0 N (t.size + u.size + 1) w) := by
  obtain ⟨W1, e1⟩ : ∃ W1, w.alloc (.cells #[.pointer (some ⟨ma, 0, none⟩), .pointer (some ⟨mc, 0, none⟩), .slice xa xn xc, .slice ya yn yc, .bool true] 28) = W1 := ⟨_, rfl⟩
  obtain ⟨W2, e2⟩ : ∃ W2, W1.alloc (.cells #[.int .i64 k, .slice ka kl kc, .slice va vl vc, .slice ha hl hc, .bool bo, .int .i64 n] 31) = W2 := ⟨_, rfl⟩
  obtain ⟨W3, e3⟩ : ∃ W3, W2.alloc (.cells #[.pointer none, .pointer none, .slice none 0 0, .slice none 0 0, .bool false] 28) = W3 := ⟨_, rfl⟩
  obtain ⟨B3, f3⟩ : ∃ B3, w.heap.size = B3 := ⟨_, rfl⟩
  obtain ⟨B5, f5⟩ : ∃ B5, W1.heap.size = B5 := ⟨_, rfl⟩
  obtain ⟨B6, f6⟩ : ∃ B6, W2.heap.size = B6 := ⟨_, rfl⟩
  have t1 : Touch Nil w W1 := by rw [← e1]; exact (Touch.refl Nil w).alloc _
  have t2 : Touch Nil W1 W2 := by rw [← e2]; exact (Touch.refl Nil W1).alloc _
  have t3 : Touch Nil W2 W3 := by rw [← e3]; exact (Touch.refl Nil W2).alloc _
  have HTW := Lib.hid (t1.trans (t2.trans t3))
  have z1 : W1.heap[B3]? = some (.cells #[.pointer (some ⟨ma, 0, none⟩), .pointer (some ⟨mc, 0, none⟩), .slice xa xn xc, .slice ya yn yc, .bool true] 28 (0, 0)) := by rw [← e1, ← f3]; exact heap_alloc_new _ _
  have z2 : W2.heap[B5]? = some (.cells #[.int .i64 k, .slice ka kl kc, .slice va vl vc, .slice ha hl hc, .bool bo, .int .i64 n] 31 (0, 0)) := by rw [← e2, ← f5]; exact heap_alloc_new _ _
  have HB6 := Lib.hid (show W3.heap[B6]? = some (.cells #[.pointer none, .pointer none, .slice none 0 0, .slice none 0 0, .bool false] 28 (0, 0)) from by rw [← e3, ← f6]; exact heap_alloc_new _ _)
  have HB5 := Lib.hid ((t3.same B5 (lt_of_heap z2) fun c => c).trans z2)
  have HB3 := Lib.hid (((t2.trans t3).same B3 (lt_of_heap z1) fun c => c).trans z1)
  have HLT := Lib.hid (show B3 < B5 ∧ B5 < B6 ∧ N ≤ B3 ∧ ba < B3 ∧ bc < B3 ∧ ma < B3 ∧ mc < B3 from by
    have g1 := lt_of_heap h.a.body
    have g2 := lt_of_heap h.c.body
    have g3 := lt_of_heap h.a.top
    have g4 := lt_of_heap h.c.top
    have g5 := lt_of_heap z1
    have g6 := lt_of_heap z2
    omega)
  have HSEQ := Lib.hid (show B5 = w.heap.size + 1 ∧ B6 = w.heap.size + 2 from ⟨by rw [← f5, ← e1, nblk_alloc], by rw [← f6, ← e2, nblk_alloc, ← e1, nblk_alloc]⟩)
  have HBO := Lib.hid (h.keepN HTW.out)
  have HBW := Lib.hid h
  have HWZ := Lib.hid f3
  have HK := Lib.hid (And.intro (hk.keepN HTW.out) (And.intro (hv.keepN HTW.out) (hh.keepN HTW.out)))
  have HKL := Lib.hid hkl
  have HN := Lib.hid hn
  have HSZ := Lib.hid hsz
  have HXN := Lib.hid (show xn = t.size ∧ yn = u.size from ⟨by rw [size_toL]; exact h.x.len, by rw [size_toL]; exact h.y.len⟩)
  have q0 : (k == 0) = false := by simp; omega
  have q1 : (k == 1) = false := by simp; omega
  have q8 : (k == 8) = false := by simp; omega
  have q9 : (k == 9) = false := by simp; omega
  have q10 : (k == 10) = false := by simp; omega
  have q11 : (k == 11) = false := by simp; omega
  have q12 : (k == 12) = false := by simp; omega
  have q13 : (k == 13) = false := by simp; omega
  clear h hk hv hh hkl hn hsz t1 t2 t3 z1 z2 hN
  obtain ⟨a0, a1, a2, a3, a4⟩ := cells5 HB3.out
  obtain ⟨b0, b1, b2, b3, b4, b5⟩ := cells6 HB5.out
  have fz := froz HB3.out
  go_enter Try.func17, Try.ntmps17
  go_wp2_with fail
  try clear e1 e2 e3 f3 f5 f6
  refine (asked_any HBO.out.a HBO.out.x HK.out.1 HK.out.2.2 HKL.out.1 HKL.out.2.2 bo n k HN.out).mono ?_
  rintro e w4 ⟨rfl, ht4⟩
  have HT4 := Lib.hid ht4
  have hb3 := (ht4.same B3 (lt_of_heap HB3.out) fun c => c).trans HB3.out
  have hb6 := (ht4.same B6 (lt_of_heap HB6.out) fun c => c).trans HB6.out
  obtain ⟨a0, a1, a2, a3, a4⟩ := cells5 hb3
  obtain ⟨c0, c1, c2, c3, c4⟩ := cells5 hb6
  have fz3 := froz hb3
  have fz6 := froz hb6
  have hne36 : B3 ≠ B6 := by have := HLT.out; omega
  have HB34 := Lib.hid hb3
  have HB64 := Lib.hid hb6
  clear ht4 hb3 hb6 b0 b1 b2 b3 b4 b5 fz
  go_wp2_with fail
  (try simp only [Exit.inBlock, Exit.then])
  have hfin := put5_heap (set_other5 (b := B3) (i := 4) (v := .bool true) HB64.out hne36.symm) (.pointer (some ⟨ma, 0, none⟩)) (.pointer (some ⟨mc, 0, none⟩)) (.slice xa xn xc) (.slice ya yn yc) (.bool true)
  refine bodyPost_ret (ret5 rfl rfl hfin) rfl ?_
  have hto : Touch (From B3) w (put5 (w4.setCell ⟨B3, 4, none⟩ (.bool true)) B6 (.pointer (some ⟨ma, 0, none⟩)) (.pointer (some ⟨mc, 0, none⟩)) (.slice xa xn xc) (.slice ya yn yc) (.bool true)) :=
    put5_touch (((HTW.out.trans HT4.out).of_nil (S := From B3)).setCell ⟨B3, 4, none⟩ _ fun _ => Nat.le_refl _) (fun _ => show B3 ≤ B6 from by have := HLT.out; omega) _ _ _ _ _
  exact ⟨R, S, ma, ba, mc, bc, ra, rc, t, u, _, _, _, _, _, _, rfl, HBW.out.far (Nat.le_of_eq HWZ.out) hto, Nat.le_succ _, hto.mono fun b _ hs => by have hs : B3 ≤ b := hs; have := HLT.out; have := HBW.out.sl; have := HWZ.out; exact ⟨by omega, by omega⟩⟩
set_option maxRecDepth 100000 in
set_option maxHeartbeats 4000000 in
/-- The two change places. -/
theorem done11_any {seed : Int} {s0 N : Nat} {R S : Nat → Prop} {w : World} {ma ba mc bc : Nat} {ra rc : Option Addr} {t u : Tree} {xa ya : Option Addr} {xn xc yn yc : Nat} (h : Bo seed s0 N R S w ma ba mc bc ra rc t u (.slice xa xn xc) (.slice ya yn yc)) (hN : N ≤ w.heap.size) {ka va ha : Option Addr} {kl kc vl vc hl hc : Nat} {key val high : Key} (hk : BV w (.slice ka kl kc) key) (hv : BV w (.slice va vl vc) val) (hh : BV w (.slice ha hl hc) high) (hkl : key.length ≤ 2000 ∧ val.length ≤ 2000 ∧ high.length ≤ 2000) (bo : Bool) (n : Int) (hn : -9223372036854775808 ≤ n ∧ n ≤ 9223372036854775807) (hsz : t.size + u.size ≤ 1000) :
    Calls Try.prog 17 #[.agg #[.pointer (some ⟨ma, 0, none⟩), .pointer (some ⟨mc, 0, none⟩), .slice xa xn xc, .slice ya yn yc, .bool true], .int .u64 seed, .agg #[.int .i64 11, .slice ka kl kc, .slice va vl vc, .slice ha hl hc, .bool bo, .int .i64 n]] w (DoneP seed s0 N (t.size + u.size + 1) w) := by
  obtain ⟨W1, e1⟩ : ∃ W1, w.alloc (.cells #[.pointer (some ⟨ma, 0, none⟩), .pointer (some ⟨mc, 0, none⟩), .slice xa xn xc, .slice ya yn yc, .bool true] 28) = W1 := ⟨_, rfl⟩
  obtain ⟨W2, e2⟩ : ∃ W2, W1.alloc (.cells #[.int .i64 11, .slice ka kl kc, .slice va vl vc, .slice ha hl hc, .bool bo, .int .i64 n] 31) = W2 := ⟨_, rfl⟩
  obtain ⟨W3, e3⟩ : ∃ W3, W2.alloc (.cells #[.pointer none, .pointer none, .slice none 0 0, .slice none 0 0, .bool false] 28) = W3 := ⟨_, rfl⟩
  obtain ⟨B3, f3⟩ : ∃ B3, w.heap.size = B3 := ⟨_, rfl⟩
  obtain ⟨B5, f5⟩ : ∃ B5, W1.heap.size = B5 := ⟨_, rfl⟩
  obtain ⟨B6, f6⟩ : ∃ B6, W2.heap.size = B6 := ⟨_, rfl⟩
  have t1 : Touch Nil w W1 := by rw [← e1]; exact (Touch.refl Nil w).alloc _
  have t2 : Touch Nil W1 W2 := by rw [← e2]; exact (Touch.refl Nil W1).alloc _
  have t3 : Touch Nil W2 W3 := by rw [← e3]; exact (Touch.refl Nil W2).alloc _
  have HTW := Lib.hid (t1.trans (t2.trans t3))
  have z1 : W1.heap[B3]? = some (.cells #[.pointer (some ⟨ma, 0, none⟩), .pointer (some ⟨mc, 0, none⟩), .slice xa xn xc, .slice ya yn yc, .bool true] 28 (0, 0)) := by rw [← e1, ← f3]; exact heap_alloc_new _ _
  have z2 : W2.heap[B5]? = some (.cells #[.int .i64 11, .slice ka kl kc, .slice va vl vc, .slice ha hl hc, .bool bo, .int .i64 n] 31 (0, 0)) := by rw [← e2, ← f5]; exact heap_alloc_new _ _
  have HB6 := Lib.hid (show W3.heap[B6]? = some (.cells #[.pointer none, .pointer none, .slice none 0 0, .slice none 0 0, .bool false] 28 (0, 0)) from by rw [← e3, ← f6]; exact heap_alloc_new _ _)
  have HB5 := Lib.hid ((t3.same B5 (lt_of_heap z2) fun c => c).trans z2)
  have HB3 := Lib.hid (((t2.trans t3).same B3 (lt_of_heap z1) fun c => c).trans z1)
  have HLT := Lib.hid (show B3 < B5 ∧ B5 < B6 ∧ N ≤ B3 ∧ ba < B3 ∧ bc < B3 ∧ ma < B3 ∧ mc < B3 from by
    have g1 := lt_of_heap h.a.body
    have g2 := lt_of_heap h.c.body
    have g3 := lt_of_heap h.a.top
    have g4 := lt_of_heap h.c.top
    have g5 := lt_of_heap z1
    have g6 := lt_of_heap z2
    omega)
  have HSEQ := Lib.hid (show B5 = w.heap.size + 1 ∧ B6 = w.heap.size + 2 from ⟨by rw [← f5, ← e1, nblk_alloc], by rw [← f6, ← e2, nblk_alloc, ← e1, nblk_alloc]⟩)
  have HBO := Lib.hid (h.keepN HTW.out)
  have HBW := Lib.hid h
  have HWZ := Lib.hid f3
  have HK := Lib.hid (And.intro (hk.keepN HTW.out) (And.intro (hv.keepN HTW.out) (hh.keepN HTW.out)))
  have HKL := Lib.hid hkl
  have HN := Lib.hid hn
  have HSZ := Lib.hid hsz
  have HXN := Lib.hid (show xn = t.size ∧ yn = u.size from ⟨by rw [size_toL]; exact h.x.len, by rw [size_toL]; exact h.y.len⟩)
  clear h hk hv hh hkl hn hsz t1 t2 t3 z1 z2 hN
  obtain ⟨a0, a1, a2, a3, a4⟩ := cells5 HB3.out
  obtain ⟨b0, b1, b2, b3, b4, b5⟩ := cells6 HB5.out
  have fz := froz HB3.out
  obtain ⟨c0, c1, c2, c3, c4⟩ := cells5 HB6.out
  have fz6 := froz HB6.out
  have hne36 : B3 ≠ B6 := by have := HLT.out; omega
  go_enter Try.func17, Try.ntmps17
  go_wp2_with fail
  try clear e1 e2 e3 f3 f5 f6
  (try simp only [Exit.inBlock, Exit.then])
  have hfin := put5_heap (set_other5p (put5_heap HB3.out (.pointer (some ⟨mc, 0, none⟩)) (.pointer (some ⟨ma, 0, none⟩)) (.slice ya yn yc) (.slice xa xn xc) (.bool true)) HB6.out hne36.symm) (.pointer (some ⟨mc, 0, none⟩)) (.pointer (some ⟨ma, 0, none⟩)) (.slice ya yn yc) (.slice xa xn xc) (.bool true)
  refine bodyPost_ret (ret5 rfl rfl hfin) rfl ?_
  have hto : Touch (From B3) w (put5 (put5 W3 B3 (.pointer (some ⟨mc, 0, none⟩)) (.pointer (some ⟨ma, 0, none⟩)) (.slice ya yn yc) (.slice xa xn xc) (.bool true)) B6 (.pointer (some ⟨mc, 0, none⟩)) (.pointer (some ⟨ma, 0, none⟩)) (.slice ya yn yc) (.slice xa xn xc) (.bool true)) :=
    put5_touch (put5_touch (HTW.out.of_nil (S := From B3)) (fun _ => Nat.le_refl _) _ _ _ _ _) (fun _ => show B3 ≤ B6 from by have := HLT.out; omega) _ _ _ _ _
  exact ⟨S, R, mc, bc, ma, ba, rc, ra, u, t, _, _, _, _, _, _, rfl, (HBW.out.far (Nat.le_of_eq HWZ.out) hto).swap, by omega, hto.mono fun b _ hs => by have hs : B3 ≤ b := hs; have := HLT.out; have := HBW.out.sl; have := HWZ.out; exact ⟨by omega, by omega⟩⟩
set_option maxRecDepth 100000 in
set_option maxHeartbeats 4000000 in
/-- The first is loaded from its image. -/
theorem done12_any {seed : Int} {s0 N : Nat} {R S : Nat → Prop} {w : World} {ma ba mc bc : Nat} {ra rc : Option Addr} {t u : Tree} {xa ya : Option Addr} {xn xc yn yc : Nat} (h : Bo seed s0 N R S w ma ba mc bc ra rc t u (.slice xa xn xc) (.slice ya yn yc)) (hN : N ≤ w.heap.size) {ka va ha : Option Addr} {kl kc vl vc hl hc : Nat} {key val high : Key} (hk : BV w (.slice ka kl kc) key) (hv : BV w (.slice va vl vc) val) (hh : BV w (.slice ha hl hc) high) (hkl : key.length ≤ 2000 ∧ val.length ≤ 2000 ∧ high.length ≤ 2000) (bo : Bool) (n : Int) (hn : -9223372036854775808 ≤ n ∧ n ≤ 9223372036854775807) (hsz : t.size + u.size ≤ 1000) :
    Calls Try.prog 17 #[.agg #[.pointer (some ⟨ma, 0, none⟩), .pointer (some ⟨mc, 0, none⟩), .slice xa xn xc, .slice ya yn yc, .bool true], .int .u64 seed, .agg #[.int .i64 12, .slice ka kl kc, .slice va vl vc, .slice ha hl hc, .bool bo, .int .i64 n]] w (DoneP seed s0 N (t.size + u.size + 1) w) := by
  obtain ⟨W1, e1⟩ : ∃ W1, w.alloc (.cells #[.pointer (some ⟨ma, 0, none⟩), .pointer (some ⟨mc, 0, none⟩), .slice xa xn xc, .slice ya yn yc, .bool true] 28) = W1 := ⟨_, rfl⟩
  obtain ⟨W2, e2⟩ : ∃ W2, W1.alloc (.cells #[.int .i64 12, .slice ka kl kc, .slice va vl vc, .slice ha hl hc, .bool bo, .int .i64 n] 31) = W2 := ⟨_, rfl⟩
  obtain ⟨W3, e3⟩ : ∃ W3, W2.alloc (.cells #[.pointer none, .pointer none, .slice none 0 0, .slice none 0 0, .bool false] 28) = W3 := ⟨_, rfl⟩
  obtain ⟨B3, f3⟩ : ∃ B3, w.heap.size = B3 := ⟨_, rfl⟩
  obtain ⟨B5, f5⟩ : ∃ B5, W1.heap.size = B5 := ⟨_, rfl⟩
  obtain ⟨B6, f6⟩ : ∃ B6, W2.heap.size = B6 := ⟨_, rfl⟩
  have t1 : Touch Nil w W1 := by rw [← e1]; exact (Touch.refl Nil w).alloc _
  have t2 : Touch Nil W1 W2 := by rw [← e2]; exact (Touch.refl Nil W1).alloc _
  have t3 : Touch Nil W2 W3 := by rw [← e3]; exact (Touch.refl Nil W2).alloc _
  have HTW := Lib.hid (t1.trans (t2.trans t3))
  have z1 : W1.heap[B3]? = some (.cells #[.pointer (some ⟨ma, 0, none⟩), .pointer (some ⟨mc, 0, none⟩), .slice xa xn xc, .slice ya yn yc, .bool true] 28 (0, 0)) := by rw [← e1, ← f3]; exact heap_alloc_new _ _
  have z2 : W2.heap[B5]? = some (.cells #[.int .i64 12, .slice ka kl kc, .slice va vl vc, .slice ha hl hc, .bool bo, .int .i64 n] 31 (0, 0)) := by rw [← e2, ← f5]; exact heap_alloc_new _ _
  have HB6 := Lib.hid (show W3.heap[B6]? = some (.cells #[.pointer none, .pointer none, .slice none 0 0, .slice none 0 0, .bool false] 28 (0, 0)) from by rw [← e3, ← f6]; exact heap_alloc_new _ _)
  have HB5 := Lib.hid ((t3.same B5 (lt_of_heap z2) fun c => c).trans z2)
  have HB3 := Lib.hid (((t2.trans t3).same B3 (lt_of_heap z1) fun c => c).trans z1)
  have HLT := Lib.hid (show B3 < B5 ∧ B5 < B6 ∧ N ≤ B3 ∧ ba < B3 ∧ bc < B3 ∧ ma < B3 ∧ mc < B3 from by
    have g1 := lt_of_heap h.a.body
    have g2 := lt_of_heap h.c.body
    have g3 := lt_of_heap h.a.top
    have g4 := lt_of_heap h.c.top
    have g5 := lt_of_heap z1
    have g6 := lt_of_heap z2
    omega)
  have HSEQ := Lib.hid (show B5 = w.heap.size + 1 ∧ B6 = w.heap.size + 2 from ⟨by rw [← f5, ← e1, nblk_alloc], by rw [← f6, ← e2, nblk_alloc, ← e1, nblk_alloc]⟩)
  have HBO := Lib.hid (h.keepN HTW.out)
  have HBW := Lib.hid h
  have HWZ := Lib.hid f3
  have HK := Lib.hid (And.intro (hk.keepN HTW.out) (And.intro (hv.keepN HTW.out) (hh.keepN HTW.out)))
  have HKL := Lib.hid hkl
  have HN := Lib.hid hn
  have HSZ := Lib.hid hsz
  have HXN := Lib.hid (show xn = t.size ∧ yn = u.size from ⟨by rw [size_toL]; exact h.x.len, by rw [size_toL]; exact h.y.len⟩)
  clear h hk hv hh hkl hn hsz t1 t2 t3 z1 z2 hN
  obtain ⟨a0, a1, a2, a3, a4⟩ := cells5 HB3.out
  obtain ⟨b0, b1, b2, b3, b4, b5⟩ := cells6 HB5.out
  have fz := froz HB3.out
  go_enter Try.func17, Try.ntmps17
  go_wp2_with fail
  try clear e1 e2 e3 f3 f5 f6
  have HIM := Lib.hid (image_map HBO.out.a)
  have HOKT := Lib.hid (treeAt_okT HBO.out.a.tree)
  have HIL := Lib.hid (imgB_len HOKT.out HBO.out.a.size)
  have HIS := Lib.hid (show loadF seed (imgB t) = some t from loadF_iff.2 ⟨HBO.out.a.srt, HBO.out.a.heap, HOKT.out, HBO.out.a.size, rfl⟩)
  clear a0 a1 a2 a3 a4 b0 b1 b2 b3 b4 b5 fz
  refine HIM.out.mono ?_
  rintro e w4 ⟨ix, rfl, hi, ht4⟩
  obtain ⟨ia, il, ic, rfl⟩ := hi.form
  have HT4 := Lib.hid ht4
  have HLO := Lib.hid (load_any (seed := seed) hi.bc (by have := HIL.out; omega))
  clear hi ht4 HIM
  go_wp2_with fail
  refine HLO.out.mono ?_
  rintro e w5 (⟨h5, rfl, ht5⟩ | ⟨t', R8, mb8, bb8, ra8, h5, rfl, hm8, hmb8, hbb8, hr8, ht5⟩)
  · rw [HIS.out] at h5; cases h5
  obtain rfl : t' = t := by rw [HIS.out] at h5; cases h5; rfl
  have HT5 := Lib.hid (HT4.out.trans ht5)
  have hb3 := (HT5.out.same B3 (lt_of_heap HB3.out) fun c => c).trans HB3.out
  have hb6 := (HT5.out.same B6 (lt_of_heap HB6.out) fun c => c).trans HB6.out
  have HX8 := Lib.hid (show w.heap.size + 3 ≤ mb8 ∧ w.heap.size + 3 ≤ bb8 ∧ ∀ b, R8 b → w.heap.size + 3 ≤ b from by
    have g1 := HT4.out.size
    have g2 := lt_of_heap HB6.out
    have g3 := HLT.out
    have g4 := HWZ.out
    exact ⟨by omega, by omega, fun b hb => by have := hr8 b hb; omega⟩)
  have HM8 := Lib.hid hm8
  obtain ⟨a0, a1, a2, a3, a4⟩ := cells5 hb3
  obtain ⟨c0, c1, c2, c3, c4⟩ := cells5 hb6
  have fz3 := froz hb3
  have fz6 := froz hb6
  have hne36 : B3 ≠ B6 := by have := HLT.out; omega
  have HB35 := Lib.hid hb3
  have HB65 := Lib.hid hb6
  clear hb3 hb6 ht5 hm8 hmb8 hbb8 hr8 h5 HLO
  go_wp2_with fail
  (try simp only [Exit.inBlock, Exit.then])
  have hs4 := (set5 HB35.out (.bool true)).2.2.2.2
  have hs0 := (set5 hs4 (.pointer (some ⟨mb8, 0, none⟩))).1
  have h6 := set_other5 (b := B3) (i := 0) (v := .pointer (some ⟨mb8, 0, none⟩)) (set_other5 (b := B3) (i := 4) (v := .bool true) HB65.out hne36.symm) hne36.symm
  refine bodyPost_ret (ret5 rfl rfl (put5_heap h6 (.pointer (some ⟨mb8, 0, none⟩)) (.pointer (some ⟨mc, 0, none⟩)) (.slice xa xn xc) (.slice ya yn yc) (.bool true))) rfl ?_
  have htF : Touch (fun b => b = B3 ∨ b = B6) w5 (put5 ((w5.setCell ⟨B3, 4, none⟩ (.bool true)).setCell ⟨B3, 0, none⟩ (.pointer (some ⟨mb8, 0, none⟩))) B6 (.pointer (some ⟨mb8, 0, none⟩)) (.pointer (some ⟨mc, 0, none⟩)) (.slice xa xn xc) (.slice ya yn yc) (.bool true)) :=
    put5_touch (((Touch.refl _ w5).setCell ⟨B3, 4, none⟩ _ fun _ => .inl rfl).setCell ⟨B3, 0, none⟩ _ fun _ => .inl rfl) (fun _ => .inr rfl) _ _ _ _ _
  have hto : Touch (From B3) w (put5 ((w5.setCell ⟨B3, 4, none⟩ (.bool true)).setCell ⟨B3, 0, none⟩ (.pointer (some ⟨mb8, 0, none⟩))) B6 (.pointer (some ⟨mb8, 0, none⟩)) (.pointer (some ⟨mc, 0, none⟩)) (.slice xa xn xc) (.slice ya yn yc) (.bool true)) :=
    ((HTW.out.trans HT5.out).of_nil (S := From B3)).trans (htF.mono fun b _ hs => show B3 ≤ b from by have := HLT.out; rcases hs with rfl | rfl <;> omega)
  have hbo := HBW.out.far (Nat.le_of_eq HWZ.out) hto
  have hwz := HWZ.out
  have g1 := HX8.out
  have g2 := HLT.out
  have g3 : B5 = w.heap.size + 1 ∧ B6 = w.heap.size + 2 := HSEQ.out
  have hm9 : MapAt seed (fun b => R8 b ∧ b < w5.heap.size) w5 mb8 bb8 ra8 t' := ⟨HM8.out.top, HM8.out.body, HM8.out.tree.mono fun b hb hr => ⟨hr, hb⟩, fun c => HM8.out.rm c.1, fun c => HM8.out.rb c.1, HM8.out.srt, HM8.out.heap, HM8.out.size⟩
  refine ⟨_, S, mb8, bb8, mc, bc, ra8, rc, t', u, _, _, _, _, _, _, rfl, ⟨hm9.keep htF (fun b hb hs => by have := g1.2.2 b hb.1; rcases hs with rfl | rfl <;> omega) (fun hs => by rcases hs with hs | hs <;> omega) (fun hs => by rcases hs with hs | hs <;> omega), hbo.c, hbo.x, hbo.y, by omega, ⟨by omega, by omega⟩, ⟨fun c => by have := HBW.out.lr.2 _ c; omega, fun c => by have := g1.2.2 _ c.1; omega⟩, ⟨by omega, hbo.lo.2⟩, ⟨fun b hb => Nat.lt_of_lt_of_le hb.2 htF.size, hbo.lr.2⟩, ⟨⟨by have := HBW.out.sl; omega, by have := HBW.out.sl; omega, hbo.av.1.2.2⟩, fun c => by have := g1.2.2 _ c.1; have := HBW.out.sl; omega, hbo.av.2.2⟩, hbo.sl⟩, Nat.le_succ _, hto.mono fun b _ hs => by have hs : B3 ≤ b := hs; have := HBW.out.sl; have := HWZ.out; exact ⟨by omega, by omega⟩⟩
set_option maxRecDepth 100000 in
set_option maxHeartbeats 4000000 in
/-- A pair that is not allowed is put in. -/
theorem done0B_any {seed : Int} {s0 N : Nat} {R S : Nat → Prop} {w : World} {ma ba mc bc : Nat} {ra rc : Option Addr} {t u : Tree} {xa ya : Option Addr} {xn xc yn yc : Nat} (h : Bo seed s0 N R S w ma ba mc bc ra rc t u (.slice xa xn xc) (.slice ya yn yc)) (hN : N ≤ w.heap.size) {ka va ha : Option Addr} {kl kc vl vc hl hc : Nat} {key val high : Key} (hk : BV w (.slice ka kl kc) key) (hv : BV w (.slice va vl vc) val) (hh : BV w (.slice ha hl hc) high) (hkl : key.length ≤ 2000 ∧ val.length ≤ 2000 ∧ high.length ≤ 2000) (bo : Bool) (n : Int) (hn : -9223372036854775808 ≤ n ∧ n ≤ 9223372036854775807) (hsz : t.size + u.size ≤ 1000) (hb : allowB key.length val.length = false) :
    Calls Try.prog 17 #[.agg #[.pointer (some ⟨ma, 0, none⟩), .pointer (some ⟨mc, 0, none⟩), .slice xa xn xc, .slice ya yn yc, .bool true], .int .u64 seed, .agg #[.int .i64 0, .slice ka kl kc, .slice va vl vc, .slice ha hl hc, .bool bo, .int .i64 n]] w (DoneP seed s0 N (t.size + u.size + 1) w) := by
  obtain ⟨W1, e1⟩ : ∃ W1, w.alloc (.cells #[.pointer (some ⟨ma, 0, none⟩), .pointer (some ⟨mc, 0, none⟩), .slice xa xn xc, .slice ya yn yc, .bool true] 28) = W1 := ⟨_, rfl⟩
  obtain ⟨W2, e2⟩ : ∃ W2, W1.alloc (.cells #[.int .i64 0, .slice ka kl kc, .slice va vl vc, .slice ha hl hc, .bool bo, .int .i64 n] 31) = W2 := ⟨_, rfl⟩
  obtain ⟨W3, e3⟩ : ∃ W3, W2.alloc (.cells #[.pointer none, .pointer none, .slice none 0 0, .slice none 0 0, .bool false] 28) = W3 := ⟨_, rfl⟩
  obtain ⟨B3, f3⟩ : ∃ B3, w.heap.size = B3 := ⟨_, rfl⟩
  obtain ⟨B5, f5⟩ : ∃ B5, W1.heap.size = B5 := ⟨_, rfl⟩
  obtain ⟨B6, f6⟩ : ∃ B6, W2.heap.size = B6 := ⟨_, rfl⟩
  have t1 : Touch Nil w W1 := by rw [← e1]; exact (Touch.refl Nil w).alloc _
  have t2 : Touch Nil W1 W2 := by rw [← e2]; exact (Touch.refl Nil W1).alloc _
  have t3 : Touch Nil W2 W3 := by rw [← e3]; exact (Touch.refl Nil W2).alloc _
  have HTW := Lib.hid (t1.trans (t2.trans t3))
  have z1 : W1.heap[B3]? = some (.cells #[.pointer (some ⟨ma, 0, none⟩), .pointer (some ⟨mc, 0, none⟩), .slice xa xn xc, .slice ya yn yc, .bool true] 28 (0, 0)) := by rw [← e1, ← f3]; exact heap_alloc_new _ _
  have z2 : W2.heap[B5]? = some (.cells #[.int .i64 0, .slice ka kl kc, .slice va vl vc, .slice ha hl hc, .bool bo, .int .i64 n] 31 (0, 0)) := by rw [← e2, ← f5]; exact heap_alloc_new _ _
  have HB6 := Lib.hid (show W3.heap[B6]? = some (.cells #[.pointer none, .pointer none, .slice none 0 0, .slice none 0 0, .bool false] 28 (0, 0)) from by rw [← e3, ← f6]; exact heap_alloc_new _ _)
  have HB5 := Lib.hid ((t3.same B5 (lt_of_heap z2) fun c => c).trans z2)
  have HB3 := Lib.hid (((t2.trans t3).same B3 (lt_of_heap z1) fun c => c).trans z1)
  have HLT := Lib.hid (show B3 < B5 ∧ B5 < B6 ∧ N ≤ B3 ∧ ba < B3 ∧ bc < B3 ∧ ma < B3 ∧ mc < B3 from by
    have g1 := lt_of_heap h.a.body
    have g2 := lt_of_heap h.c.body
    have g3 := lt_of_heap h.a.top
    have g4 := lt_of_heap h.c.top
    have g5 := lt_of_heap z1
    have g6 := lt_of_heap z2
    omega)
  have HSEQ := Lib.hid (show B5 = w.heap.size + 1 ∧ B6 = w.heap.size + 2 from ⟨by rw [← f5, ← e1, nblk_alloc], by rw [← f6, ← e2, nblk_alloc, ← e1, nblk_alloc]⟩)
  have HBO := Lib.hid (h.keepN HTW.out)
  have HBW := Lib.hid h
  have HWZ := Lib.hid f3
  have HK := Lib.hid (And.intro (hk.keepN HTW.out) (And.intro (hv.keepN HTW.out) (hh.keepN HTW.out)))
  have HKL := Lib.hid hkl
  have HN := Lib.hid hn
  have HSZ := Lib.hid hsz
  have HXN := Lib.hid (show xn = t.size ∧ yn = u.size from ⟨by rw [size_toL]; exact h.x.len, by rw [size_toL]; exact h.y.len⟩)
  have HAB := Lib.hid hb
  clear hb
  clear h hk hv hh hkl hn hsz t1 t2 t3 z1 z2 hN
  obtain ⟨a0, a1, a2, a3, a4⟩ := cells5 HB3.out
  obtain ⟨b0, b1, b2, b3, b4, b5⟩ := cells6 HB5.out
  have fz := froz HB3.out
  go_enter Try.func17, Try.ntmps17
  go_wp2_with fail
  try clear e1 e2 e3 f3 f5 f6
  obtain rfl : kl = key.length := by obtain ⟨_, _, e⟩ := HK.out.1.len'; injection e
  obtain rfl : vl = val.length := by obtain ⟨_, _, e⟩ := HK.out.2.1.len'; injection e
  have HPB := Lib.hid (put_bad HBO.out.a key.length val.length kc vc ka va (by have := HKL.out.1; omega) (by have := HKL.out.2.1; omega) HAB.out)
  have HAL := Lib.hid (fun w => allowedR_any key.length val.length kc vc ka va w (by have := HKL.out.1; omega) (by have := HKL.out.2.1; omega))
  simp only [HAB.out] at HAL
  obtain ⟨c0, c1, c2, c3, c4⟩ := cells5 HB6.out
  have fz6 := froz HB6.out
  have hne36 : B3 ≠ B6 := by have := HLT.out; omega
  refine HPB.out.mono ?_
  rintro e w' ⟨rfl, rfl⟩
  go_wp2_with fail
  refine (HAL.out _).mono ?_
  rintro e w' ⟨rfl, rfl⟩
  go_wp2_with fail
  (try simp only [Exit.inBlock, Exit.then])
  have h6 := set_other5 (b := B3) (i := 4) (v := .bool true) HB6.out hne36.symm
  refine bodyPost_ret (ret5 rfl rfl (put5_heap h6 (.pointer (some ⟨ma, 0, none⟩)) (.pointer (some ⟨mc, 0, none⟩)) (.slice xa xn xc) (.slice ya yn yc) (.bool true))) rfl ?_
  have hto : Touch (From B3) w (put5 (W3.setCell ⟨B3, 4, none⟩ (.bool true)) B6 (.pointer (some ⟨ma, 0, none⟩)) (.pointer (some ⟨mc, 0, none⟩)) (.slice xa xn xc) (.slice ya yn yc) (.bool true)) :=
    put5_touch ((HTW.out.of_nil (S := From B3)).setCell ⟨B3, 4, none⟩ _ fun _ => Nat.le_refl _) (fun _ => show B3 ≤ B6 from by have := HLT.out; omega) _ _ _ _ _
  exact ⟨R, S, ma, ba, mc, bc, ra, rc, t, u, _, _, _, _, _, _, rfl, HBW.out.far (Nat.le_of_eq HWZ.out) hto, Nat.le_succ _, hto.mono fun b _ hs => by have hs : B3 ≤ b := hs; have := HLT.out; have := HBW.out.sl; have := HWZ.out; exact ⟨by omega, by omega⟩⟩
set_option maxRecDepth 100000 in
set_option maxHeartbeats 4000000 in
/-- A pair that is allowed is put in. -/
theorem done0A_any {seed : Int} {s0 N : Nat} {R S : Nat → Prop} {w : World} {ma ba mc bc : Nat} {ra rc : Option Addr} {t u : Tree} {xa ya : Option Addr} {xn xc yn yc : Nat} (h : Bo seed s0 N R S w ma ba mc bc ra rc t u (.slice xa xn xc) (.slice ya yn yc)) (hN : N ≤ w.heap.size) {ka va ha : Option Addr} {kl kc vl vc hl hc : Nat} {key val high : Key} (hk : BV w (.slice ka kl kc) key) (hv : BV w (.slice va vl vc) val) (hh : BV w (.slice ha hl hc) high) (hkl : key.length ≤ 2000 ∧ val.length ≤ 2000 ∧ high.length ≤ 2000) (bo : Bool) (n : Int) (hn : -9223372036854775808 ≤ n ∧ n ≤ 9223372036854775807) (hsz : t.size + u.size ≤ 1000) (hb : allowB key.length val.length = true) :
    Calls Try.prog 17 #[.agg #[.pointer (some ⟨ma, 0, none⟩), .pointer (some ⟨mc, 0, none⟩), .slice xa xn xc, .slice ya yn yc, .bool true], .int .u64 seed, .agg #[.int .i64 0, .slice ka kl kc, .slice va vl vc, .slice ha hl hc, .bool bo, .int .i64 n]] w (DoneP seed s0 N (t.size + u.size + 1) w) := by
  obtain ⟨W1, e1⟩ : ∃ W1, w.alloc (.cells #[.pointer (some ⟨ma, 0, none⟩), .pointer (some ⟨mc, 0, none⟩), .slice xa xn xc, .slice ya yn yc, .bool true] 28) = W1 := ⟨_, rfl⟩
  obtain ⟨W2, e2⟩ : ∃ W2, W1.alloc (.cells #[.int .i64 0, .slice ka kl kc, .slice va vl vc, .slice ha hl hc, .bool bo, .int .i64 n] 31) = W2 := ⟨_, rfl⟩
  obtain ⟨W3, e3⟩ : ∃ W3, W2.alloc (.cells #[.pointer none, .pointer none, .slice none 0 0, .slice none 0 0, .bool false] 28) = W3 := ⟨_, rfl⟩
  obtain ⟨B3, f3⟩ : ∃ B3, w.heap.size = B3 := ⟨_, rfl⟩
  obtain ⟨B5, f5⟩ : ∃ B5, W1.heap.size = B5 := ⟨_, rfl⟩
  obtain ⟨B6, f6⟩ : ∃ B6, W2.heap.size = B6 := ⟨_, rfl⟩
  have t1 : Touch Nil w W1 := by rw [← e1]; exact (Touch.refl Nil w).alloc _
  have t2 : Touch Nil W1 W2 := by rw [← e2]; exact (Touch.refl Nil W1).alloc _
  have t3 : Touch Nil W2 W3 := by rw [← e3]; exact (Touch.refl Nil W2).alloc _
  have HTW := Lib.hid (t1.trans (t2.trans t3))
  have z1 : W1.heap[B3]? = some (.cells #[.pointer (some ⟨ma, 0, none⟩), .pointer (some ⟨mc, 0, none⟩), .slice xa xn xc, .slice ya yn yc, .bool true] 28 (0, 0)) := by rw [← e1, ← f3]; exact heap_alloc_new _ _
  have z2 : W2.heap[B5]? = some (.cells #[.int .i64 0, .slice ka kl kc, .slice va vl vc, .slice ha hl hc, .bool bo, .int .i64 n] 31 (0, 0)) := by rw [← e2, ← f5]; exact heap_alloc_new _ _
  have HB6 := Lib.hid (show W3.heap[B6]? = some (.cells #[.pointer none, .pointer none, .slice none 0 0, .slice none 0 0, .bool false] 28 (0, 0)) from by rw [← e3, ← f6]; exact heap_alloc_new _ _)
  have HB5 := Lib.hid ((t3.same B5 (lt_of_heap z2) fun c => c).trans z2)
  have HB3 := Lib.hid (((t2.trans t3).same B3 (lt_of_heap z1) fun c => c).trans z1)
  have HLT := Lib.hid (show B3 < B5 ∧ B5 < B6 ∧ N ≤ B3 ∧ ba < B3 ∧ bc < B3 ∧ ma < B3 ∧ mc < B3 from by
    have g1 := lt_of_heap h.a.body
    have g2 := lt_of_heap h.c.body
    have g3 := lt_of_heap h.a.top
    have g4 := lt_of_heap h.c.top
    have g5 := lt_of_heap z1
    have g6 := lt_of_heap z2
    omega)
  have HSEQ := Lib.hid (show B5 = w.heap.size + 1 ∧ B6 = w.heap.size + 2 from ⟨by rw [← f5, ← e1, nblk_alloc], by rw [← f6, ← e2, nblk_alloc, ← e1, nblk_alloc]⟩)
  have HBO := Lib.hid (h.keepN HTW.out)
  have HBW := Lib.hid h
  have HWZ := Lib.hid f3
  have HK := Lib.hid (And.intro (hk.keepN HTW.out) (And.intro (hv.keepN HTW.out) (hh.keepN HTW.out)))
  have HKL := Lib.hid hkl
  have HN := Lib.hid hn
  have HSZ := Lib.hid hsz
  have HXN := Lib.hid (show xn = t.size ∧ yn = u.size from ⟨by rw [size_toL]; exact h.x.len, by rw [size_toL]; exact h.y.len⟩)
  have HAB := Lib.hid hb
  clear hb
  clear h hk hv hh hkl hn hsz t1 t2 t3 z1 z2 hN
  obtain ⟨a0, a1, a2, a3, a4⟩ := cells5 HB3.out
  obtain ⟨b0, b1, b2, b3, b4, b5⟩ := cells6 HB5.out
  have fz := froz HB3.out
  go_enter Try.func17, Try.ntmps17
  go_wp2_with fail
  try clear e1 e2 e3 f3 f5 f6
  obtain rfl : kl = key.length := by obtain ⟨_, _, e⟩ := HK.out.1.len'; injection e
  obtain rfl : vl = val.length := by obtain ⟨_, _, e⟩ := HK.out.2.1.len'; injection e
  have HOKT := Lib.hid (treeAt_ok HBO.out.a.tree)
  have HPU := Lib.hid (put_map HBO.out.a HK.out.1 HK.out.2.1 HAB.out (by have := HSZ.out; omega))
  have HAL := Lib.hid (fun w => allowedR_any key.length val.length kc vc ka va w (by have := HKL.out.1; omega) (by have := HKL.out.2.1; omega))
  simp only [HAB.out] at HAL
  have hpi : putF key val t.toL = (insT (abv seed) key val t).toL := by rw [ins_toL (abv_ko seed) key val HBO.out.a.srt HBO.out.a.heap]; exact putF_ins key val HBO.out.a.srt
  have HPI := Lib.hid hpi
  have HTZ := Lib.hid (show (insT (abv seed) key val t).size ≤ t.size + 1 from by rw [size_toL, ins_toL (abv_ko seed) key val HBO.out.a.srt HBO.out.a.heap, size_toL]; exact insL_len _ _ _)
  clear a0 a1 a2 a3 a4 b0 b1 b2 b3 b4 b5 fz hpi
  refine HPU.out.mono ?_
  rintro e w4 ⟨rfl, ⟨ra4, hm4⟩, ht4⟩
  have HM4 := Lib.hid hm4
  have HT4 := Lib.hid ht4
  have HFAR := Lib.hid (show B3 ≠ ba ∧ B5 ≠ ba ∧ B6 ≠ ba from by have := HLT.out; omega)
  have hb3 := (ht4.same B3 (lt_of_heap HB3.out) HFAR.out.1).trans HB3.out
  have hb5 := (ht4.same B5 (lt_of_heap HB5.out) HFAR.out.2.1).trans HB5.out
  have hb6 := (ht4.same B6 (lt_of_heap HB6.out) HFAR.out.2.2).trans HB6.out
  have hX4 : PL w4 (.slice xa xn xc) t.toL := PL.keepB HBO.out.x ht4 HBO.out.a.bodyish
  have hK4 := HK.out.1.keepB ht4 HBO.out.a.bodyish
  have hV4 := HK.out.2.1.keepB ht4 HBO.out.a.bodyish
  have HY4 := Lib.hid (show PL w4 (.slice ya yn yc) u.toL from PL.keepB HBO.out.y ht4 HBO.out.a.bodyish)
  have HC4 := Lib.hid (HBO.out.c.keep ht4 (fun b hb c => HBO.out.rs.1 (by have c : b = ba := c; rw [← c]; exact hb)) (fun c => HBO.out.mx.2 c) (fun c => HBO.out.ne c.symm))
  have HPR := Lib.hid (putRO_any hX4 (OkL.short HOKT.out) (by rw [← size_toL]; have := HSZ.out; omega) hK4 (by have := HKL.out.1; omega) hV4 (by have := HKL.out.2.1; omega))
  obtain ⟨a0, a1, a2, a3, a4⟩ := cells5 hb3
  obtain ⟨b0, b1, b2, b3, b4, b5⟩ := cells6 hb5
  have HB34 := Lib.hid hb3
  have HB64 := Lib.hid hb6
  have HZ34 := Lib.hid (show W3.heap.size ≤ w4.heap.size ∧ B6 < W3.heap.size from ⟨ht4.size, lt_of_heap HB6.out⟩)
  clear hb3 hb5 hb6 hX4 hK4 hV4 hm4 ht4 HPU
  go_wp2_with fail
  refine (HAL.out _).mono ?_
  rintro e w' ⟨rfl, rfl⟩
  go_wp2_with fail
  refine HPR.out.mono ?_
  rintro e w5 ⟨nx, rfl, hpo, ht5⟩
  obtain ⟨na, nn, nc, rfl⟩ := hpo.form3
  have HPO := Lib.hid hpo
  have HT5 := Lib.hid ht5
  have hb3 := (ht5.same B3 (lt_of_heap HB34.out) fun c => c).trans HB34.out
  have hb6 := (ht5.same B6 (lt_of_heap HB64.out) fun c => c).trans HB64.out
  obtain ⟨a0, a1, a2, a3, a4⟩ := cells5 hb3
  obtain ⟨c0, c1, c2, c3, c4⟩ := cells5 hb6
  have fz3 := froz hb3
  have fz6 := froz hb6
  have hne36 : B3 ≠ B6 := by have := HLT.out; omega
  have HB35 := Lib.hid hb3
  have HB65 := Lib.hid hb6
  clear hb3 hb6 hpo ht5 HPR
  go_wp2_with fail
  (try simp only [Exit.inBlock, Exit.then])
  have h6 := set_other5 (b := B3) (i := 4) (v := .bool true) (set_other5 (b := B3) (i := 2) (v := .slice na nn nc) HB65.out hne36.symm) hne36.symm
  refine bodyPost_ret (ret5 rfl rfl (put5_heap h6 (.pointer (some ⟨ma, 0, none⟩)) (.pointer (some ⟨mc, 0, none⟩)) (.slice na nn nc) (.slice ya yn yc) (.bool true))) rfl ?_
  have htF : Touch (fun b => b = B3 ∨ b = B6) w5 (put5 ((w5.setCell ⟨B3, 2, none⟩ (.slice na nn nc)).setCell ⟨B3, 4, none⟩ (.bool true)) B6 (.pointer (some ⟨ma, 0, none⟩)) (.pointer (some ⟨mc, 0, none⟩)) (.slice na nn nc) (.slice ya yn yc) (.bool true)) :=
    put5_touch (((Touch.refl _ w5).setCell ⟨B3, 2, none⟩ _ fun _ => .inl rfl).setCell ⟨B3, 4, none⟩ _ fun _ => .inl rfl) (fun _ => .inr rfl) _ _ _ _ _
  have hend := doneEnd (m := t.size + 1) rfl hne36 HBW.out HWZ.out HLT.out HTW.out ⟨_, _, _, _, _, _, HB35.out, ⟨_, _, _, rfl⟩, ⟨_, _, _, rfl⟩⟩ ⟨_, _, _, _, _, _, HB65.out, ⟨_, _, _, rfl⟩, ⟨_, _, _, rfl⟩⟩ HT4.out HT5.out HM4.out HC4.out HZ34.out htF (.inr (by rw [← HPI.out]; exact HPO.out)) HBW.out.y HY4.out HTZ.out
  rw [show t.size + 1 + u.size = t.size + u.size + 1 by omega] at hend
  exact hend
set_option maxRecDepth 100000 in
set_option maxHeartbeats 4000000 in
/-- A key that is not there is taken out. -/
theorem done1N_any {seed : Int} {s0 N : Nat} {R S : Nat → Prop} {w : World} {ma ba mc bc : Nat} {ra rc : Option Addr} {t u : Tree} {xa ya : Option Addr} {xn xc yn yc : Nat} (h : Bo seed s0 N R S w ma ba mc bc ra rc t u (.slice xa xn xc) (.slice ya yn yc)) (hN : N ≤ w.heap.size) {ka va ha : Option Addr} {kl kc vl vc hl hc : Nat} {key val high : Key} (hk : BV w (.slice ka kl kc) key) (hv : BV w (.slice va vl vc) val) (hh : BV w (.slice ha hl hc) high) (hkl : key.length ≤ 2000 ∧ val.length ≤ 2000 ∧ high.length ≤ 2000) (bo : Bool) (n : Int) (hn : -9223372036854775808 ≤ n ∧ n ≤ 9223372036854775807) (hsz : t.size + u.size ≤ 1000) (hno : hasF key t.toL = false) :
    Calls Try.prog 17 #[.agg #[.pointer (some ⟨ma, 0, none⟩), .pointer (some ⟨mc, 0, none⟩), .slice xa xn xc, .slice ya yn yc, .bool true], .int .u64 seed, .agg #[.int .i64 1, .slice ka kl kc, .slice va vl vc, .slice ha hl hc, .bool bo, .int .i64 n]] w (DoneP seed s0 N (t.size + u.size + 1) w) := by
  obtain ⟨W1, e1⟩ : ∃ W1, w.alloc (.cells #[.pointer (some ⟨ma, 0, none⟩), .pointer (some ⟨mc, 0, none⟩), .slice xa xn xc, .slice ya yn yc, .bool true] 28) = W1 := ⟨_, rfl⟩
  obtain ⟨W2, e2⟩ : ∃ W2, W1.alloc (.cells #[.int .i64 1, .slice ka kl kc, .slice va vl vc, .slice ha hl hc, .bool bo, .int .i64 n] 31) = W2 := ⟨_, rfl⟩
  obtain ⟨W3, e3⟩ : ∃ W3, W2.alloc (.cells #[.pointer none, .pointer none, .slice none 0 0, .slice none 0 0, .bool false] 28) = W3 := ⟨_, rfl⟩
  obtain ⟨B3, f3⟩ : ∃ B3, w.heap.size = B3 := ⟨_, rfl⟩
  obtain ⟨B5, f5⟩ : ∃ B5, W1.heap.size = B5 := ⟨_, rfl⟩
  obtain ⟨B6, f6⟩ : ∃ B6, W2.heap.size = B6 := ⟨_, rfl⟩
  have t1 : Touch Nil w W1 := by rw [← e1]; exact (Touch.refl Nil w).alloc _
  have t2 : Touch Nil W1 W2 := by rw [← e2]; exact (Touch.refl Nil W1).alloc _
  have t3 : Touch Nil W2 W3 := by rw [← e3]; exact (Touch.refl Nil W2).alloc _
  have HTW := Lib.hid (t1.trans (t2.trans t3))
  have z1 : W1.heap[B3]? = some (.cells #[.pointer (some ⟨ma, 0, none⟩), .pointer (some ⟨mc, 0, none⟩), .slice xa xn xc, .slice ya yn yc, .bool true] 28 (0, 0)) := by rw [← e1, ← f3]; exact heap_alloc_new _ _
  have z2 : W2.heap[B5]? = some (.cells #[.int .i64 1, .slice ka kl kc, .slice va vl vc, .slice ha hl hc, .bool bo, .int .i64 n] 31 (0, 0)) := by rw [← e2, ← f5]; exact heap_alloc_new _ _
  have HB6 := Lib.hid (show W3.heap[B6]? = some (.cells #[.pointer none, .pointer none, .slice none 0 0, .slice none 0 0, .bool false] 28 (0, 0)) from by rw [← e3, ← f6]; exact heap_alloc_new _ _)
  have HB5 := Lib.hid ((t3.same B5 (lt_of_heap z2) fun c => c).trans z2)
  have HB3 := Lib.hid (((t2.trans t3).same B3 (lt_of_heap z1) fun c => c).trans z1)
  have HLT := Lib.hid (show B3 < B5 ∧ B5 < B6 ∧ N ≤ B3 ∧ ba < B3 ∧ bc < B3 ∧ ma < B3 ∧ mc < B3 from by
    have g1 := lt_of_heap h.a.body
    have g2 := lt_of_heap h.c.body
    have g3 := lt_of_heap h.a.top
    have g4 := lt_of_heap h.c.top
    have g5 := lt_of_heap z1
    have g6 := lt_of_heap z2
    omega)
  have HSEQ := Lib.hid (show B5 = w.heap.size + 1 ∧ B6 = w.heap.size + 2 from ⟨by rw [← f5, ← e1, nblk_alloc], by rw [← f6, ← e2, nblk_alloc, ← e1, nblk_alloc]⟩)
  have HBO := Lib.hid (h.keepN HTW.out)
  have HBW := Lib.hid h
  have HWZ := Lib.hid f3
  have HK := Lib.hid (And.intro (hk.keepN HTW.out) (And.intro (hv.keepN HTW.out) (hh.keepN HTW.out)))
  have HKL := Lib.hid hkl
  have HN := Lib.hid hn
  have HSZ := Lib.hid hsz
  have HXN := Lib.hid (show xn = t.size ∧ yn = u.size from ⟨by rw [size_toL]; exact h.x.len, by rw [size_toL]; exact h.y.len⟩)
  have HNO := Lib.hid hno
  clear hno
  clear h hk hv hh hkl hn hsz t1 t2 t3 z1 z2 hN
  obtain ⟨a0, a1, a2, a3, a4⟩ := cells5 HB3.out
  obtain ⟨b0, b1, b2, b3, b4, b5⟩ := cells6 HB5.out
  have fz := froz HB3.out
  go_enter Try.func17, Try.ntmps17
  go_wp2_with fail
  try clear e1 e2 e3 f3 f5 f6
  obtain rfl : kl = key.length := by obtain ⟨_, _, e⟩ := HK.out.1.len'; injection e
  have HOKT := Lib.hid (treeAt_ok HBO.out.a.tree)
  have HDN := Lib.hid (drop_no HBO.out.a HK.out.1 (fun p hp e => by
    have := (hasF_iff (key := key) HBO.out.a.srt).2 ⟨p.2, by rw [← e]; exact hp⟩
    rw [HNO.out] at this; cases this))
  have HHA := Lib.hid (fun w' (ht : Touch Nil W3 w') => hasR_any (HBO.out.keepN ht).x (OkL.short HOKT.out) (by rw [← size_toL]; have := HSZ.out; omega) (HK.out.1.keepN ht) (by have := HKL.out.1; omega))
  have HDR := Lib.hid (fun w' (ht : Touch Nil W3 w') => dropR_any (HBO.out.keepN ht).x (OkL.short HOKT.out) (by rw [← size_toL]; have := HSZ.out; omega) (HK.out.1.keepN ht) (by have := HKL.out.1; omega))
  have HDX := Lib.hid (fun w' (ht : Touch Nil W3 w') => dropRO_any (HBO.out.keepN ht).x (OkL.short HOKT.out) (by rw [← size_toL]; have := HSZ.out; omega) (HK.out.1.keepN ht) (by have := HKL.out.1; omega))
  simp only [HNO.out] at HHA
  have HDF := Lib.hid (show dropF key t.toL = t.toL from by unfold dropF; rw [HNO.out, if_neg (by decide)])
  clear HDR
  refine HDN.out.mono ?_
  rintro e w' ⟨rfl, rfl⟩
  go_wp2_with fail
  refine (HHA.out _ (Touch.refl Nil W3)).mono ?_
  rintro e w4 ⟨rfl, ht4⟩
  have HT4 := Lib.hid ht4
  have hb3 := (ht4.same B3 (lt_of_heap HB3.out) fun c => c).trans HB3.out
  have hb5 := (ht4.same B5 (lt_of_heap HB5.out) fun c => c).trans HB5.out
  have hb6 := (ht4.same B6 (lt_of_heap HB6.out) fun c => c).trans HB6.out
  obtain ⟨a0, a1, a2, a3, a4⟩ := cells5 hb3
  obtain ⟨b0, b1, b2, b3, b4, b5⟩ := cells6 hb5
  have HB34 := Lib.hid hb3
  have HB64 := Lib.hid hb6
  have HZ34 := Lib.hid (show W3.heap.size ≤ w4.heap.size ∧ B6 < W3.heap.size from ⟨ht4.size, lt_of_heap HB6.out⟩)
  clear hb3 hb5 hb6 ht4 fz
  go_wp2_with fail
  refine (HDX.out _ HT4.out).mono ?_
  rintro e w5 ⟨nx, rfl, hpo, ht5⟩
  obtain ⟨na, nn, nc, rfl⟩ : ∃ a n c, nx = .slice a n c := by
    rcases hpo with ⟨rfl, h⟩ | h
    · exact ⟨_, _, _, rfl⟩
    · exact h.form3
  have HPO := Lib.hid hpo
  have HT5 := Lib.hid ht5
  have hb3 := (ht5.same B3 (lt_of_heap HB34.out) fun c => c).trans HB34.out
  have hb6 := (ht5.same B6 (lt_of_heap HB64.out) fun c => c).trans HB64.out
  obtain ⟨a0, a1, a2, a3, a4⟩ := cells5 hb3
  obtain ⟨c0, c1, c2, c3, c4⟩ := cells5 hb6
  have fz3 := froz hb3
  have fz6 := froz hb6
  have hne36 : B3 ≠ B6 := by have := HLT.out; omega
  have HB35 := Lib.hid hb3
  have HB65 := Lib.hid hb6
  clear hb3 hb6 hpo ht5 HDX HHA
  go_wp2_with fail
  (try simp only [Exit.inBlock, Exit.then])
  have h6 := set_other5 (b := B3) (i := 4) (v := .bool true) (set_other5 (b := B3) (i := 2) (v := .slice na nn nc) HB65.out hne36.symm) hne36.symm
  refine bodyPost_ret (ret5 rfl rfl (put5_heap h6 (.pointer (some ⟨ma, 0, none⟩)) (.pointer (some ⟨mc, 0, none⟩)) (.slice na nn nc) (.slice ya yn yc) (.bool true))) rfl ?_
  have htF : Touch (fun b => b = B3 ∨ b = B6) w5 (put5 ((w5.setCell ⟨B3, 2, none⟩ (.slice na nn nc)).setCell ⟨B3, 4, none⟩ (.bool true)) B6 (.pointer (some ⟨ma, 0, none⟩)) (.pointer (some ⟨mc, 0, none⟩)) (.slice na nn nc) (.slice ya yn yc) (.bool true)) :=
    put5_touch (((Touch.refl _ w5).setCell ⟨B3, 2, none⟩ _ fun _ => .inl rfl).setCell ⟨B3, 4, none⟩ _ fun _ => .inl rfl) (fun _ => .inr rfl) _ _ _ _ _
  have hm4 : MapAt seed (Up R W3 w4) w4 ma ba ra t := by
    have h := HBO.out.a.keepN HT4.out
    exact ⟨h.top, h.body, h.tree.mono fun b _ hr => .inl hr, fun c => c.elim h.rm fun c => by have := lt_of_heap HBO.out.a.top; omega, fun c => c.elim h.rb fun c => by have := lt_of_heap HBO.out.a.body; omega, h.srt, h.heap, h.size⟩
  have hend := doneEnd (m := t.size + 1) rfl hne36 HBW.out HWZ.out HLT.out HTW.out ⟨_, _, _, _, _, _, HB35.out, ⟨_, _, _, rfl⟩, ⟨_, _, _, rfl⟩⟩ ⟨_, _, _, _, _, _, HB65.out, ⟨_, _, _, rfl⟩, ⟨_, _, _, rfl⟩⟩ (HT4.out.of_nil (S := Just ba)) HT5.out hm4 (HBO.out.c.keepN HT4.out) HZ34.out htF (by
    rcases HPO.out with ⟨e, h⟩ | h
    · exact .inl ⟨e.symm, HBW.out.x⟩
    · rw [HDF.out] at h; exact .inr h) HBW.out.y (HBO.out.keepN HT4.out).y (Nat.le_succ _)
  rw [show t.size + 1 + u.size = t.size + u.size + 1 by omega] at hend
  exact hend
set_option maxRecDepth 100000 in
set_option maxHeartbeats 4000000 in
/-- A key that is there is taken out. -/
theorem done1Y_any {seed : Int} {s0 N : Nat} {R S : Nat → Prop} {w : World} {ma ba mc bc : Nat} {ra rc : Option Addr} {t u : Tree} {xa ya : Option Addr} {xn xc yn yc : Nat} (h : Bo seed s0 N R S w ma ba mc bc ra rc t u (.slice xa xn xc) (.slice ya yn yc)) (hN : N ≤ w.heap.size) {ka va ha : Option Addr} {kl kc vl vc hl hc : Nat} {key val high : Key} (hk : BV w (.slice ka kl kc) key) (hv : BV w (.slice va vl vc) val) (hh : BV w (.slice ha hl hc) high) (hkl : key.length ≤ 2000 ∧ val.length ≤ 2000 ∧ high.length ≤ 2000) (bo : Bool) (n : Int) (hn : -9223372036854775808 ≤ n ∧ n ≤ 9223372036854775807) (hsz : t.size + u.size ≤ 1000) (hin : hasF key t.toL = true) :
    Calls Try.prog 17 #[.agg #[.pointer (some ⟨ma, 0, none⟩), .pointer (some ⟨mc, 0, none⟩), .slice xa xn xc, .slice ya yn yc, .bool true], .int .u64 seed, .agg #[.int .i64 1, .slice ka kl kc, .slice va vl vc, .slice ha hl hc, .bool bo, .int .i64 n]] w (DoneP seed s0 N (t.size + u.size + 1) w) := by
  obtain ⟨W1, e1⟩ : ∃ W1, w.alloc (.cells #[.pointer (some ⟨ma, 0, none⟩), .pointer (some ⟨mc, 0, none⟩), .slice xa xn xc, .slice ya yn yc, .bool true] 28) = W1 := ⟨_, rfl⟩
  obtain ⟨W2, e2⟩ : ∃ W2, W1.alloc (.cells #[.int .i64 1, .slice ka kl kc, .slice va vl vc, .slice ha hl hc, .bool bo, .int .i64 n] 31) = W2 := ⟨_, rfl⟩
  obtain ⟨W3, e3⟩ : ∃ W3, W2.alloc (.cells #[.pointer none, .pointer none, .slice none 0 0, .slice none 0 0, .bool false] 28) = W3 := ⟨_, rfl⟩
  obtain ⟨B3, f3⟩ : ∃ B3, w.heap.size = B3 := ⟨_, rfl⟩
  obtain ⟨B5, f5⟩ : ∃ B5, W1.heap.size = B5 := ⟨_, rfl⟩
  obtain ⟨B6, f6⟩ : ∃ B6, W2.heap.size = B6 := ⟨_, rfl⟩
  have t1 : Touch Nil w W1 := by rw [← e1]; exact (Touch.refl Nil w).alloc _
  have t2 : Touch Nil W1 W2 := by rw [← e2]; exact (Touch.refl Nil W1).alloc _
  have t3 : Touch Nil W2 W3 := by rw [← e3]; exact (Touch.refl Nil W2).alloc _
  have HTW := Lib.hid (t1.trans (t2.trans t3))
  have z1 : W1.heap[B3]? = some (.cells #[.pointer (some ⟨ma, 0, none⟩), .pointer (some ⟨mc, 0, none⟩), .slice xa xn xc, .slice ya yn yc, .bool true] 28 (0, 0)) := by rw [← e1, ← f3]; exact heap_alloc_new _ _
  have z2 : W2.heap[B5]? = some (.cells #[.int .i64 1, .slice ka kl kc, .slice va vl vc, .slice ha hl hc, .bool bo, .int .i64 n] 31 (0, 0)) := by rw [← e2, ← f5]; exact heap_alloc_new _ _
  have HB6 := Lib.hid (show W3.heap[B6]? = some (.cells #[.pointer none, .pointer none, .slice none 0 0, .slice none 0 0, .bool false] 28 (0, 0)) from by rw [← e3, ← f6]; exact heap_alloc_new _ _)
  have HB5 := Lib.hid ((t3.same B5 (lt_of_heap z2) fun c => c).trans z2)
  have HB3 := Lib.hid (((t2.trans t3).same B3 (lt_of_heap z1) fun c => c).trans z1)
  have HLT := Lib.hid (show B3 < B5 ∧ B5 < B6 ∧ N ≤ B3 ∧ ba < B3 ∧ bc < B3 ∧ ma < B3 ∧ mc < B3 from by
    have g1 := lt_of_heap h.a.body
    have g2 := lt_of_heap h.c.body
    have g3 := lt_of_heap h.a.top
    have g4 := lt_of_heap h.c.top
    have g5 := lt_of_heap z1
    have g6 := lt_of_heap z2
    omega)
  have HSEQ := Lib.hid (show B5 = w.heap.size + 1 ∧ B6 = w.heap.size + 2 from ⟨by rw [← f5, ← e1, nblk_alloc], by rw [← f6, ← e2, nblk_alloc, ← e1, nblk_alloc]⟩)
  have HBO := Lib.hid (h.keepN HTW.out)
  have HBW := Lib.hid h
  have HWZ := Lib.hid f3
  have HK := Lib.hid (And.intro (hk.keepN HTW.out) (And.intro (hv.keepN HTW.out) (hh.keepN HTW.out)))
  have HKL := Lib.hid hkl
  have HN := Lib.hid hn
  have HSZ := Lib.hid hsz
  have HXN := Lib.hid (show xn = t.size ∧ yn = u.size from ⟨by rw [size_toL]; exact h.x.len, by rw [size_toL]; exact h.y.len⟩)
  have HIN := Lib.hid hin
  clear hin
  clear h hk hv hh hkl hn hsz t1 t2 t3 z1 z2 hN
  obtain ⟨a0, a1, a2, a3, a4⟩ := cells5 HB3.out
  obtain ⟨b0, b1, b2, b3, b4, b5⟩ := cells6 HB5.out
  have fz := froz HB3.out
  go_enter Try.func17, Try.ntmps17
  go_wp2_with fail
  try clear e1 e2 e3 f3 f5 f6
  obtain rfl : kl = key.length := by obtain ⟨_, _, e⟩ := HK.out.1.len'; injection e
  have HOKT := Lib.hid (treeAt_ok HBO.out.a.tree)
  obtain ⟨v0, hv0⟩ := (hasF_iff HBO.out.a.srt).1 HIN.out
  have HDM := Lib.hid (drop_map HBO.out.a HK.out.1 hv0)
  have HPI := Lib.hid (show dropF key t.toL = (delT (abv seed) key t).toL from by rw [del_toL key HBO.out.a.srt]; exact dropF_del key HBO.out.a.srt)
  have HTZ := Lib.hid (show (delT (abv seed) key t).size ≤ t.size + 1 from by rw [size_toL, del_toL key HBO.out.a.srt, size_toL]; exact Nat.le_succ_of_le (List.length_filter_le _ _))
  clear a0 a1 a2 a3 a4 b0 b1 b2 b3 b4 b5 fz hv0
  refine HDM.out.mono ?_
  rintro e w4 ⟨rfl, ⟨ra4, hm4⟩, ht4⟩
  have HM4 := Lib.hid hm4
  have HT4 := Lib.hid ht4
  have HFAR := Lib.hid (show B3 ≠ ba ∧ B5 ≠ ba ∧ B6 ≠ ba from by have := HLT.out; omega)
  have hb3 := (ht4.same B3 (lt_of_heap HB3.out) HFAR.out.1).trans HB3.out
  have hb5 := (ht4.same B5 (lt_of_heap HB5.out) HFAR.out.2.1).trans HB5.out
  have hb6 := (ht4.same B6 (lt_of_heap HB6.out) HFAR.out.2.2).trans HB6.out
  have HX4 := Lib.hid (show PL w4 (.slice xa xn xc) t.toL from PL.keepB HBO.out.x ht4 HBO.out.a.bodyish)
  have HK4 := Lib.hid (HK.out.1.keepB ht4 HBO.out.a.bodyish)
  have HY4 := Lib.hid (show PL w4 (.slice ya yn yc) u.toL from PL.keepB HBO.out.y ht4 HBO.out.a.bodyish)
  have HC4 := Lib.hid (HBO.out.c.keep ht4 (fun b hb c => HBO.out.rs.1 (by have c : b = ba := c; rw [← c]; exact hb)) (fun c => HBO.out.mx.2 c) (fun c => HBO.out.ne c.symm))
  have HHA := Lib.hid (hasR_any HX4.out (OkL.short HOKT.out) (by rw [← size_toL]; have := HSZ.out; omega) HK4.out (by have := HKL.out.1; omega))
  have HDX := Lib.hid (fun w' (ht : Touch Nil w4 w') => dropRO_any (HX4.out.keepN ht) (OkL.short HOKT.out) (by rw [← size_toL]; have := HSZ.out; omega) (HK4.out.keepN ht) (by have := HKL.out.1; omega))
  rw [HIN.out] at HHA
  obtain ⟨a0, a1, a2, a3, a4⟩ := cells5 hb3
  obtain ⟨b0, b1, b2, b3, b4, b5⟩ := cells6 hb5
  have HB34 := Lib.hid hb3
  have HB54 := Lib.hid hb5
  have HB64 := Lib.hid hb6
  have HZ34 := Lib.hid (show W3.heap.size ≤ w4.heap.size ∧ B6 < W3.heap.size from ⟨ht4.size, lt_of_heap HB6.out⟩)
  clear hb3 hb5 hb6 hm4 ht4 HDM
  go_wp2_with fail
  refine HHA.out.mono ?_
  rintro e w5 ⟨rfl, ht5⟩
  have HT5 := Lib.hid ht5
  have hb3 := (ht5.same B3 (lt_of_heap HB34.out) fun c => c).trans HB34.out
  have hb5 := (ht5.same B5 (lt_of_heap HB54.out) fun c => c).trans HB54.out
  obtain ⟨a0, a1, a2, a3, a4⟩ := cells5 hb3
  obtain ⟨b0, b1, b2, b3, b4, b5⟩ := cells6 hb5
  clear hb3 hb5 ht5 HHA
  go_wp2_with fail
  refine (HDX.out _ HT5.out).mono ?_
  rintro e w6 ⟨nx, rfl, hpo, ht6⟩
  obtain ⟨na, nn, nc, rfl⟩ : ∃ a n c, nx = .slice a n c := by
    rcases hpo with ⟨rfl, h⟩ | h
    · exact ⟨_, _, _, rfl⟩
    · exact h.form3
  have HT6 := Lib.hid (HT5.out.trans ht6)
  have HPL := Lib.hid (show PO w5.heap.size w6 (.slice na nn nc) (delT (abv seed) key t).toL from by
    rcases hpo with ⟨e, h⟩ | h
    · exfalso
      have hl := h.len
      have h2 := HBW.out.x.len
      obtain ⟨v, hv⟩ := (hasF_iff (key := key) HBO.out.a.srt).1 HIN.out
      rw [HPI.out, del_toL key HBO.out.a.srt] at hl
      have hlt : (delL key t.toL).length < t.toL.length := by
        unfold delL
        exact List.length_filter_lt_length_iff_exists.2 ⟨(key, v), hv, by simp [klt_ko.irrefl]⟩
      omega
    · rw [HPI.out] at h; exact h)
  have HT56 := Lib.hid ht6
  have hb3 := (HT6.out.same B3 (lt_of_heap HB34.out) fun c => c).trans HB34.out
  have hb6 := (HT6.out.same B6 (lt_of_heap HB64.out) fun c => c).trans HB64.out
  obtain ⟨a0, a1, a2, a3, a4⟩ := cells5 hb3
  obtain ⟨c0, c1, c2, c3, c4⟩ := cells5 hb6
  have fz3 := froz hb3
  have fz6 := froz hb6
  have hne36 : B3 ≠ B6 := by have := HLT.out; omega
  have HB36 := Lib.hid hb3
  have HB66 := Lib.hid hb6
  clear hb3 hb6 hpo ht6 HDX b0 b1 b2 b3 b4 b5
  go_wp2_with fail
  (try simp only [Exit.inBlock, Exit.then])
  have h6 := set_other5 (b := B3) (i := 4) (v := .bool true) (set_other5 (b := B3) (i := 2) (v := .slice na nn nc) HB66.out hne36.symm) hne36.symm
  refine bodyPost_ret (ret5 rfl rfl (put5_heap h6 (.pointer (some ⟨ma, 0, none⟩)) (.pointer (some ⟨mc, 0, none⟩)) (.slice na nn nc) (.slice ya yn yc) (.bool true))) rfl ?_
  have htF : Touch (fun b => b = B3 ∨ b = B6) w6 (put5 ((w6.setCell ⟨B3, 2, none⟩ (.slice na nn nc)).setCell ⟨B3, 4, none⟩ (.bool true)) B6 (.pointer (some ⟨ma, 0, none⟩)) (.pointer (some ⟨mc, 0, none⟩)) (.slice na nn nc) (.slice ya yn yc) (.bool true)) :=
    put5_touch (((Touch.refl _ w6).setCell ⟨B3, 2, none⟩ _ fun _ => .inl rfl).setCell ⟨B3, 4, none⟩ _ fun _ => .inl rfl) (fun _ => .inr rfl) _ _ _ _ _
  have hm5 : MapAt seed (Up R W3 w5) w5 ma ba ra4 (delT (abv seed) key t) := by
    have h := HM4.out.keepN HT5.out
    have hs := HT5.out.size
    exact ⟨h.top, h.body, h.tree.mono fun b _ hr => hr.elim .inl fun c => .inr ⟨c.1, by omega⟩, fun c => c.elim HBO.out.a.rm fun c => by have := lt_of_heap HBO.out.a.top; omega, fun c => c.elim HBO.out.a.rb fun c => by have := lt_of_heap HBO.out.a.body; omega, h.srt, h.heap, h.size⟩
  have hend := doneEnd (m := t.size + 1) rfl hne36 HBW.out HWZ.out HLT.out HTW.out ⟨_, _, _, _, _, _, HB36.out, ⟨_, _, _, rfl⟩, ⟨_, _, _, rfl⟩⟩ ⟨_, _, _, _, _, _, HB66.out, ⟨_, _, _, rfl⟩, ⟨_, _, _, rfl⟩⟩ (HT4.out.of_nil' HT5.out) HT56.out hm5 (HC4.out.keepN HT5.out) ⟨Nat.le_trans HZ34.out.1 HT5.out.size, HZ34.out.2⟩ htF (.inr HPL.out) HBW.out.y (HY4.out.keepN HT5.out) HTZ.out
  rw [show t.size + 1 + u.size = t.size + u.size + 1 by omega] at hend
  exact hend
set_option maxRecDepth 100000 in
set_option maxHeartbeats 4000000 in
/-- The first is cut. -/
theorem done8_any {seed : Int} {s0 N : Nat} {R S : Nat → Prop} {w : World} {ma ba mc bc : Nat} {ra rc : Option Addr} {t u : Tree} {xa ya : Option Addr} {xn xc yn yc : Nat} (h : Bo seed s0 N R S w ma ba mc bc ra rc t u (.slice xa xn xc) (.slice ya yn yc)) (hN : N ≤ w.heap.size) {ka va ha : Option Addr} {kl kc vl vc hl hc : Nat} {key val high : Key} (hk : BV w (.slice ka kl kc) key) (hv : BV w (.slice va vl vc) val) (hh : BV w (.slice ha hl hc) high) (hkl : key.length ≤ 2000 ∧ val.length ≤ 2000 ∧ high.length ≤ 2000) (bo : Bool) (n : Int) (hn : -9223372036854775808 ≤ n ∧ n ≤ 9223372036854775807) (hsz : t.size + u.size ≤ 1000) :
    Calls Try.prog 17 #[.agg #[.pointer (some ⟨ma, 0, none⟩), .pointer (some ⟨mc, 0, none⟩), .slice xa xn xc, .slice ya yn yc, .bool true], .int .u64 seed, .agg #[.int .i64 8, .slice ka kl kc, .slice va vl vc, .slice ha hl hc, .bool bo, .int .i64 n]] w (DoneP seed s0 N (t.size + u.size + 1) w) := by
  obtain ⟨W1, e1⟩ : ∃ W1, w.alloc (.cells #[.pointer (some ⟨ma, 0, none⟩), .pointer (some ⟨mc, 0, none⟩), .slice xa xn xc, .slice ya yn yc, .bool true] 28) = W1 := ⟨_, rfl⟩
  obtain ⟨W2, e2⟩ : ∃ W2, W1.alloc (.cells #[.int .i64 8, .slice ka kl kc, .slice va vl vc, .slice ha hl hc, .bool bo, .int .i64 n] 31) = W2 := ⟨_, rfl⟩
  obtain ⟨W3, e3⟩ : ∃ W3, W2.alloc (.cells #[.pointer none, .pointer none, .slice none 0 0, .slice none 0 0, .bool false] 28) = W3 := ⟨_, rfl⟩
  obtain ⟨B3, f3⟩ : ∃ B3, w.heap.size = B3 := ⟨_, rfl⟩
  obtain ⟨B5, f5⟩ : ∃ B5, W1.heap.size = B5 := ⟨_, rfl⟩
  obtain ⟨B6, f6⟩ : ∃ B6, W2.heap.size = B6 := ⟨_, rfl⟩
  have t1 : Touch Nil w W1 := by rw [← e1]; exact (Touch.refl Nil w).alloc _
  have t2 : Touch Nil W1 W2 := by rw [← e2]; exact (Touch.refl Nil W1).alloc _
  have t3 : Touch Nil W2 W3 := by rw [← e3]; exact (Touch.refl Nil W2).alloc _
  have HTW := Lib.hid (t1.trans (t2.trans t3))
  have z1 : W1.heap[B3]? = some (.cells #[.pointer (some ⟨ma, 0, none⟩), .pointer (some ⟨mc, 0, none⟩), .slice xa xn xc, .slice ya yn yc, .bool true] 28 (0, 0)) := by rw [← e1, ← f3]; exact heap_alloc_new _ _
  have z2 : W2.heap[B5]? = some (.cells #[.int .i64 8, .slice ka kl kc, .slice va vl vc, .slice ha hl hc, .bool bo, .int .i64 n] 31 (0, 0)) := by rw [← e2, ← f5]; exact heap_alloc_new _ _
  have HB6 := Lib.hid (show W3.heap[B6]? = some (.cells #[.pointer none, .pointer none, .slice none 0 0, .slice none 0 0, .bool false] 28 (0, 0)) from by rw [← e3, ← f6]; exact heap_alloc_new _ _)
  have HB5 := Lib.hid ((t3.same B5 (lt_of_heap z2) fun c => c).trans z2)
  have HB3 := Lib.hid (((t2.trans t3).same B3 (lt_of_heap z1) fun c => c).trans z1)
  have HLT := Lib.hid (show B3 < B5 ∧ B5 < B6 ∧ N ≤ B3 ∧ ba < B3 ∧ bc < B3 ∧ ma < B3 ∧ mc < B3 from by
    have g1 := lt_of_heap h.a.body
    have g2 := lt_of_heap h.c.body
    have g3 := lt_of_heap h.a.top
    have g4 := lt_of_heap h.c.top
    have g5 := lt_of_heap z1
    have g6 := lt_of_heap z2
    omega)
  have HSEQ := Lib.hid (show B5 = w.heap.size + 1 ∧ B6 = w.heap.size + 2 from ⟨by rw [← f5, ← e1, nblk_alloc], by rw [← f6, ← e2, nblk_alloc, ← e1, nblk_alloc]⟩)
  have HBO := Lib.hid (h.keepN HTW.out)
  have HBW := Lib.hid h
  have HWZ := Lib.hid f3
  have HK := Lib.hid (And.intro (hk.keepN HTW.out) (And.intro (hv.keepN HTW.out) (hh.keepN HTW.out)))
  have HKL := Lib.hid hkl
  have HN := Lib.hid hn
  have HSZ := Lib.hid hsz
  have HXN := Lib.hid (show xn = t.size ∧ yn = u.size from ⟨by rw [size_toL]; exact h.x.len, by rw [size_toL]; exact h.y.len⟩)
  clear h hk hv hh hkl hn hsz t1 t2 t3 z1 z2 hN
  obtain ⟨a0, a1, a2, a3, a4⟩ := cells5 HB3.out
  obtain ⟨b0, b1, b2, b3, b4, b5⟩ := cells6 HB5.out
  have fz := froz HB3.out
  go_enter Try.func17, Try.ntmps17
  go_wp2_with fail
  try clear e1 e2 e3 f3 f5 f6
  have HOKT := Lib.hid (treeAt_ok HBO.out.a.tree)
  have HCU := Lib.hid (cut_map HBO.out.a HK.out.1)
  obtain ⟨ca, cc, hcutH, hxh⟩ := HBW.out.x.cut_h slPair szPair (m := rankF key t.toL) (by rw [HBW.out.x.len]; exact rankF_le _ _)
  obtain ⟨da, dc, hcutL, hxl⟩ := HBW.out.x.cut_l slPair szPair (m := rankF key t.toL) (by rw [HBW.out.x.len]; exact rankF_le _ _)
  have hcap : xn ≤ xc := by obtain ⟨_, _, _, e, h1, _⟩ := HBW.out.x; cases e; exact h1
  have HOX := Lib.hid (show ∀ l q, ¬ OwnOf (.slice ca l q) s0 from fun l q c => HBW.out.av.2.2.2.1 (cut_ownH (w := w) slPair szPair (by rw [HBW.out.x.len]; exact rankF_le _ _) hcap hcutH s0 (by cases ca <;> exact c)))
  have HOY := Lib.hid (show ∀ l q, ¬ OwnOf (.slice da l q) s0 from fun l q c => HBW.out.av.2.2.2.1 (cut_ownL (w := w) slPair szPair (by rw [HBW.out.x.len]; exact rankF_le _ _) hcap hcutL s0 (by cases da <;> exact c)))
  clear hcap
  have HLE := Lib.hid (rankF_le key t.toL)
  rw [(rank_parts key HBO.out.a.srt).1, ← (split_toL key HBO.out.a.srt).1] at hxh
  rw [(rank_parts key HBO.out.a.srt).2, ← (split_toL key HBO.out.a.srt).2] at hxl
  have HXH := Lib.hid hxh
  have HXL := Lib.hid hxl
  have HZS := Lib.hid (show (splitT key t).1.size + (splitT key t).2.size = t.size from by
    rw [size_toL, size_toL, size_toL, (split_toL key HBO.out.a.srt).1, (split_toL key HBO.out.a.srt).2, ← (rank_parts key HBO.out.a.srt).1, ← (rank_parts key HBO.out.a.srt).2, List.length_take, List.length_drop]
    have := HLE.out
    omega)
  have hrx : rankF key t.toL ≤ xn := by rw [HBW.out.x.len]; exact rankF_le _ _
  clear a0 a1 a2 a3 a4 b0 b1 b2 b3 b4 b5 fz hxh hxl
  refine HCU.out.mono ?_
  rintro e w4 ⟨ma', ba', ra', mc', bc', rc', R', rfl, hm1, hm2, hm0, hR', hbl, ht4⟩
  have HM1 := Lib.hid hm1
  have HM2 := Lib.hid hm2
  have HM0 := Lib.hid hm0
  have HX4 := Lib.hid (And.intro hR' hbl)
  have HT4 := Lib.hid ht4
  have HFAR := Lib.hid (show B3 ≠ ba ∧ B5 ≠ ba ∧ B6 ≠ ba from by have := HLT.out; omega)
  have hb3 := (ht4.same B3 (lt_of_heap HB3.out) HFAR.out.1).trans HB3.out
  have hb5 := (ht4.same B5 (lt_of_heap HB5.out) HFAR.out.2.1).trans HB5.out
  have hb6 := (ht4.same B6 (lt_of_heap HB6.out) HFAR.out.2.2).trans HB6.out
  have HRK := Lib.hid (rankR_any (PL.keepB HBO.out.x ht4 HBO.out.a.bodyish) (OkL.short HOKT.out) (by rw [← size_toL]; have := HSZ.out; omega) (HK.out.1.keepB ht4 HBO.out.a.bodyish) (by have := HKL.out.1; omega))
  obtain ⟨a0, a1, a2, a3, a4⟩ := cells5 hb3
  obtain ⟨b0, b1, b2, b3, b4, b5⟩ := cells6 hb5
  have HB34 := Lib.hid hb3
  have HB64 := Lib.hid hb6
  generalize rankF key t.toL = rk at *
  clear hb3 hb5 hb6 hm1 hm2 hm0 hR' hbl ht4 HCU
  go_wp2_with fail
  refine HRK.out.mono ?_
  rintro e w5 ⟨rfl, ht5⟩
  have HT5 := Lib.hid ht5
  have hb3 := (ht5.same B3 (lt_of_heap HB34.out) fun c => c).trans HB34.out
  have hb6 := (ht5.same B6 (lt_of_heap HB64.out) fun c => c).trans HB64.out
  have HLN := Lib.hid (len_map (HM0.out.keepN ht5))
  have hz0 : (((Tree.nil).size : Nat) : Int) = 0 := rfl
  rw [hz0] at HLN
  obtain ⟨a0, a1, a2, a3, a4⟩ := cells5 hb3
  obtain ⟨c0, c1, c2, c3, c4⟩ := cells5 hb6
  have fz3 := froz hb3
  have fz6 := froz hb6
  have hne36 : B3 ≠ B6 := by have := HLT.out; omega
  have HB35 := Lib.hid hb3
  have HB65 := Lib.hid hb6
  clear hb3 hb6 ht5 HRK hz0 b0 b1 b2 b3 b4 b5
  go_wp2_with fail
  refine HLN.out.mono ?_
  rintro e w' ⟨rfl, rfl⟩
  go_wp2_with fail
  (try simp only [Exit.inBlock, Exit.then])
  have h6 := set_other5 (b := B3) (i := 2) (v := .slice ca rk cc) (set_other5 (b := B3) (i := 3) (v := .slice da (xn - rk) dc) (set_other5 (b := B3) (i := 1) (v := .pointer (some ⟨mc', 0, none⟩)) (set_other5 (b := B3) (i := 0) (v := .pointer (some ⟨ma', 0, none⟩)) (set_other5 (b := B3) (i := 4) (v := .bool true) HB65.out hne36.symm) hne36.symm) hne36.symm) hne36.symm) hne36.symm
  refine bodyPost_ret (ret5 rfl rfl (put5_heap h6 (.pointer (some ⟨ma', 0, none⟩)) (.pointer (some ⟨mc', 0, none⟩)) (.slice ca rk cc) (.slice da (xn - rk) dc) (.bool true))) rfl ?_
  have htF : Touch (fun b => b = B3 ∨ b = B6) w5 (put5 (((((w5.setCell ⟨B3, 4, none⟩ (.bool true)).setCell ⟨B3, 0, none⟩ (.pointer (some ⟨ma', 0, none⟩))).setCell ⟨B3, 1, none⟩ (.pointer (some ⟨mc', 0, none⟩))).setCell ⟨B3, 3, none⟩ (.slice da (xn - rk) dc)).setCell ⟨B3, 2, none⟩ (.slice ca rk cc)) B6 (.pointer (some ⟨ma', 0, none⟩)) (.pointer (some ⟨mc', 0, none⟩)) (.slice ca rk cc) (.slice da (xn - rk) dc) (.bool true)) :=
    put5_touch ((((((Touch.refl _ w5).setCell ⟨B3, 4, none⟩ _ fun _ => .inl rfl).setCell ⟨B3, 0, none⟩ _ fun _ => .inl rfl).setCell ⟨B3, 1, none⟩ _ fun _ => .inl rfl).setCell ⟨B3, 3, none⟩ _ fun _ => .inl rfl).setCell ⟨B3, 2, none⟩ _ fun _ => .inl rfl) (fun _ => .inr rfl) _ _ _ _ _
  have hp3 : Pod w5 B3 := ⟨_, _, _, _, _, _, HB35.out, ⟨_, _, _, rfl⟩, ⟨_, _, _, rfl⟩⟩
  have hp6 : Pod w5 B6 := ⟨_, _, _, _, _, _, HB65.out, ⟨_, _, _, rfl⟩, ⟨_, _, _, rfl⟩⟩
  have g1 := HLT.out
  have g2 := HX4.out
  have g3 := lt_of_heap HB6.out
  have g4 := HT5.out.size
  have g5 := htF.size
  have hxf := PL.keepDone HXH.out HWZ.out (by omega) HTW.out HT4.out HBO.out.a.bodyish HT5.out hp3 hp6 htF
  have hyf := PL.keepDone HXL.out HWZ.out (by omega) HTW.out HT4.out HBO.out.a.bodyish HT5.out hp3 hp6 htF
  have hto : Touch (fun b => N ≤ b ∧ b ≠ s0) w (put5 (((((w5.setCell ⟨B3, 4, none⟩ (.bool true)).setCell ⟨B3, 0, none⟩ (.pointer (some ⟨ma', 0, none⟩))).setCell ⟨B3, 1, none⟩ (.pointer (some ⟨mc', 0, none⟩))).setCell ⟨B3, 3, none⟩ (.slice da (xn - rk) dc)).setCell ⟨B3, 2, none⟩ (.slice ca rk cc)) B6 (.pointer (some ⟨ma', 0, none⟩)) (.pointer (some ⟨mc', 0, none⟩)) (.slice ca rk cc) (.slice da (xn - rk) dc) (.bool true)) :=
    (((HTW.out.of_nil (S := fun b => N ≤ b ∧ b ≠ s0)).trans (HT4.out.mono fun b _ hs => show N ≤ b ∧ b ≠ s0 from by have hs : b = ba := hs; have := HBW.out.lo; have := HBW.out.av.1; omega)).trans HT5.out.of_nil).trans (htF.mono fun b _ hs => show N ≤ b ∧ b ≠ s0 from by have := HBW.out.sl; have := HWZ.out; rcases hs with rfl | rfl <;> omega)
  have hra : ∀ b, R' b → b ≠ B3 ∧ b ≠ B6 := fun b hb => by
    rcases g2.1 b hb with hb | hb
    · have := HBW.out.lr.1 b hb; have := HWZ.out; omega
    · omega
  have hma : MapAt seed (fun b => R' b ∧ b < w4.heap.size) w4 ma' ba' ra' (splitT key t).1 := ⟨HM1.out.top, HM1.out.body, HM1.out.tree.mono fun b hb hr => ⟨hr, hb⟩, fun c => HM1.out.rm c.1, fun c => HM1.out.rb c.1, HM1.out.srt, HM1.out.heap, HM1.out.size⟩
  have hmc : MapAt seed (fun b => R' b ∧ b < w4.heap.size) w4 mc' bc' rc' (splitT key t).2 := ⟨HM2.out.top, HM2.out.body, HM2.out.tree.mono fun b hb hr => ⟨hr, hb⟩, fun c => HM2.out.rm c.1, fun c => HM2.out.rb c.1, HM2.out.srt, HM2.out.heap, HM2.out.size⟩
  refine ⟨_, _, ma', ba', mc', bc', ra', rc', (splitT key t).1, (splitT key t).2, _, _, _, _, _, _, rfl, ⟨(hma.keepN HT5.out).keep htF (fun b hb hs => by have := hra b hb.1; rcases hs with rfl | rfl <;> omega) (fun hs => by rcases hs with hs | hs <;> omega) (fun hs => by rcases hs with hs | hs <;> omega), (hmc.keepN HT5.out).keep htF (fun b hb hs => by have := hra b hb.1; rcases hs with rfl | rfl <;> omega) (fun hs => by rcases hs with hs | hs <;> omega) (fun hs => by rcases hs with hs | hs <;> omega), hxf, hyf, by omega, ⟨by omega, by omega⟩, ⟨fun c => HM1.out.rb c.1, fun c => HM2.out.rb c.1⟩, ⟨by omega, by omega⟩, ⟨fun b hb => Nat.lt_of_lt_of_le hb.2 (Nat.le_trans g4 g5), fun b hb => Nat.lt_of_lt_of_le hb.2 (Nat.le_trans g4 g5)⟩, ⟨⟨by have := HBW.out.sl; have := HWZ.out; have := HTW.out.size; omega, by have := HBW.out.sl; have := HWZ.out; have := HTW.out.size; omega, by have := HBW.out.sl; have := HWZ.out; have := HTW.out.size; omega, by have := HBW.out.sl; have := HWZ.out; have := HTW.out.size; omega⟩, fun c => (g2.1 _ c.1).elim HBW.out.av.2.1 fun c => by have := HBW.out.sl; have := HWZ.out; have := HTW.out.size; omega, fun c => (g2.1 _ c.1).elim HBW.out.av.2.1 fun c => by have := HBW.out.sl; have := HWZ.out; have := HTW.out.size; omega, HOX.out _ _, HOY.out _ _⟩, Nat.lt_of_lt_of_le HBW.out.sl hto.size⟩, by have := HZS.out; omega, hto⟩
end Go.Proofs.Ytkkpcndpjkebkaa
