import Derived.Test.YtkkpcndpjkebkaaRL
import Derived.Test.YtkkpcndpjkebkaaMap
import Derived.Deep.DeepCutAuto
import Derived.Laws.Tables
import Derived.Deep.WholeRow
/- The nodes of a map, as they are told. -/
namespace Go.Proofs.Ytkkpcndpjkebkaa
open Go.ChangeShapes Go.WideShapes Go.ChangeAt Go.RowKit Go.Deep

/-- A node that is told. -/
structure NodeC where
  k : Key
  u : Key
  d : Nat
  s : Nat
  l : Int
  r : Int
def nodeF (n : NodeC) : Nat → Fv
  | 0 => .b n.k
  | 1 => .b n.u
  | 2 => .u n.d
  | 3 => .i n.s
  | 4 => .i n.l
  | _ => .i n.r
abbrev NO (base : Nat) (w : World) (x : Value) (L : List NodeC) : Prop := OL 109 base 6 nodeF w x L
abbrev NL (w : World) (x : Value) (L : List NodeC) : Prop := RL 6 nodeF w x L
/-- A node that is told, its bytes in blocks from lo on. -/
def nodeG (lo : Nat) (n : NodeC) : Nat → Fv
  | 0 => .o lo n.k
  | 1 => .o lo n.u
  | 2 => .u n.d
  | 3 => .i n.s
  | 4 => .i n.l
  | _ => .i n.r
theorem nodeG_F {lo : Nat} {n : NodeC} {c : Nat} {w : World} {x : Value} (h : FV w x (nodeG lo n c)) : FV w x (nodeF n c) := by
  match c, h with
  | 0, h => exact h.1
  | 1, h => exact h.1
  | 2, h => exact h
  | 3, h => exact h
  | 4, h => exact h
  | _ + 5, h => exact h
theorem nodeG_K {lo : Nat} (n : NodeC) (c : Nat) : (nodeG lo n c).key = (nodeF n c).key := by
  match c with
  | 0 => rfl
  | 1 => rfl
  | 2 => rfl
  | 3 => rfl
  | 4 => rfl
  | _ + 5 => rfl
abbrev NG (base lo : Nat) (w : World) (x : Value) (L : List NodeC) : Prop := OL 109 base 6 (nodeG lo) w x L
theorem NG.no {base lo : Nat} {w : World} {x : Value} {L : List NodeC} (h : NG base lo w x L) : NO base w x L := by
  obtain ⟨V, h1, h2⟩ := h
  exact ⟨V, h1, fun i a ha c hc => ⟨nodeG_F (h2 i a ha c hc).1, fun l e => (h2 i a ha c hc).2 l (by rw [nodeG_K]; exact e)⟩⟩
theorem infoNode : (Try.prog.info? 109).map (fun i => (i.zero, i.size, i.bytes)) = some (some (.agg #[.slice none 0 0, .slice none 0 0, .int .u64 0, .int .i64 0, .int .i64 0, .int .i64 0]), 6, 80) := by kernel_rfl
/-- Where a child stands, if there is one. -/
def childAt (t : Tree) (at' : Nat) : Int := match t with | .nil => -1 | .node _ _ _ _ => (at' : Int)
def nodeAt (seed : Int) (b : Nat) (l : Tree) (k u : Key) (r : Tree) : NodeC := ⟨k, u, digT seed (.node l k u r), (Tree.node l k u r).size, childAt l (b + 1), childAt r (b + 1 + l.size)⟩
/-- The nodes of a tree, each ahead of those below it, the left ones first; b others stand ahead. -/
def nodesT (seed : Int) : Nat → Tree → List NodeC
  | _, .nil => []
  | b, .node l k u r => nodeAt seed b l k u r :: (nodesT seed (b + 1) l ++ nodesT seed (b + 1 + l.size) r)
theorem nodesT_len (seed : Int) : ∀ (t : Tree) (b : Nat), (nodesT seed b t).length = t.size
  | .nil, _ => rfl
  | .node l k u r, b => by simp only [nodesT, List.length_cons, List.length_append, nodesT_len seed l, nodesT_len seed r, Tree.size]; omega

abbrev LdN (b ib : Nat) (iv x2 x3 y0 y1 : Value) (w0 w' : World) : Prop := w'.cell? ⟨b, 0, none⟩ = some iv ∧ w'.cell? ⟨b, 1, none⟩ = some x2 ∧ w'.cell? ⟨b, 2, none⟩ = some x3 ∧ w'.cell? ⟨ib, 0, none⟩ = some y0 ∧ w'.cell? ⟨ib, 1, none⟩ = some y1 ∧ Hid (Touch Nil w0 w')
theorem LdN.step {b ib : Nat} {iv x2 x3 y0 y1 : Value} {w0 w w' : World} (h : LdN b ib iv x2 x3 y0 y1 w0 w) (ht : Touch Nil w w') : LdN b ib iv x2 x3 y0 y1 w0 w' := ⟨cell_step h.1 ht, cell_step h.2.1 ht, cell_step h.2.2.1 ht, cell_step h.2.2.2.1 ht, cell_step h.2.2.2.2.1 ht, Lib.hid (h.2.2.2.2.2.out.trans ht)⟩

/-- A new variable for a node. -/
abbrev zeroN : Array Value := #[.slice none 0 0, .slice none 0 0, .int .u64 0, .int .i64 0, .int .i64 0, .int .i64 0]
structure ToldN (g : Nat) (w : World) : Prop where
  blk : w.heap[g]? = some (.cells zeroN 109 (0, 0))
theorem ToldN.cells {g : Nat} {w : World} (h : ToldN g w) : (w.cell? ⟨g, 0, none⟩ = some (.slice none 0 0) ∧ w.cell? ⟨g, 1, none⟩ = some (.slice none 0 0) ∧ w.cell? ⟨g, 2, none⟩ = some (.int .u64 0) ∧ w.cell? ⟨g, 3, none⟩ = some (.int .i64 0) ∧ w.cell? ⟨g, 4, none⟩ = some (.int .i64 0) ∧ w.cell? ⟨g, 5, none⟩ = some (.int .i64 0)) ∧
    w.frozen? ⟨g, 0, none⟩ = false ∧ w.frozen? ⟨g, 1, none⟩ = false ∧ w.frozen? ⟨g, 2, none⟩ = false ∧ w.frozen? ⟨g, 3, none⟩ = false ∧ w.frozen? ⟨g, 4, none⟩ = false ∧ w.frozen? ⟨g, 5, none⟩ = false := by
  have e := h.blk
  refine ⟨⟨?_, ?_, ?_, ?_, ?_, ?_⟩, ?_, ?_, ?_, ?_, ?_, ?_⟩ <;> simp [World.cell?, World.frozen?, e]
theorem ToldN.store {g : Nat} {w : World} (h : ToldN g w) (x y z u v q : Value) (g1 : x.oneCell' = true) (g2 : y.oneCell' = true) (g3 : z.oneCell' = true) (g4 : u.oneCell' = true) (g5 : v.oneCell' = true) (g6 : q.oneCell' = true) :
    (Instr.storeAt 109 (.pointer (some ⟨g, 0, none⟩)) (.agg #[x, y, z, u, v, q])).run Try.prog w = .ok () (w.setRow g #[x, y, z, u, v, q]) ∧
    (storeVar 109 ⟨g, 0, none⟩ (.agg #[x, y, z, u, v, q])).run Try.prog w = .ok () (w.setRow g #[x, y, z, u, v, q]) ∧
    (storeCells ⟨g, 0, none⟩ [x, y, z, u, v, q] 0).run Try.prog w = .ok () (w.setRow g #[x, y, z, u, v, q]) := by
  have h1 : (#[x, y, z, u, v, q] : Array Value).all (·.oneCell') = true := by simp [g1, g2, g3, g4, g5, g6]
  have hi : (Try.prog.info? 109).map (·.size) = some (#[x, y, z, u, v, q] : Array Value).size := by kernel_rfl
  have s := run_storeVar_row (P := Try.prog) w g 109 109 zeroN #[x, y, z, u, v, q] h.blk hi rfl h1
  refine ⟨?_, s, ?_⟩
  · simp only [Instr.storeAt, Instr.sureAddr, Sem.run_bind, Sem.run_pure, Result.andThen]
    exact s
  · cases hq : Try.prog.info? 109 with
    | none => rw [hq] at hi; cases hi
    | some i =>
      have hs : 6 = i.size := by rw [hq] at hi; simp at hi; omega
      simpa [storeVar, sizeOf, typeInfo, hq, Value.cells, hs] using s
theorem ToldN.step {g : Nat} {w w' : World} (h : ToldN g w) (ht : Touch Nil w w') : ToldN g w' := ⟨(ht.same g (Array.getElem?_eq_some_iff.1 h.blk).1 (fun c => c)).trans h.blk⟩
theorem told_new {X w' : World} (ht : Touch Nil (X.alloc (.cells zeroN 109)) w') : ToldN X.heap.size w' := ToldN.step ⟨heap_alloc_new X _⟩ ht
theorem told_newD {X w' : World} (ht : Touch Nil (X.alloc (.cells zeroN 109)).drew w') : ToldN X.heap.size w' := ToldN.step (w := (X.alloc (.cells zeroN 109)).drew) ⟨heap_alloc_new X _⟩ ht
theorem stTouch6 {w0 w : World} {g : Nat} {a b c d e f : Value} (ht : Touch Nil w0 w) (hg : w0.heap.size ≤ g) : Touch Nil w0 ((((((w.setCell ⟨g, 0, none⟩ a).setCell ⟨g, 1, none⟩ b).setCell ⟨g, 2, none⟩ c).setCell ⟨g, 3, none⟩ d).setCell ⟨g, 4, none⟩ e).setCell ⟨g, 5, none⟩ f) := by
  have hs : ∀ o, (⟨g, o, none⟩ : Addr).block < w0.heap.size → Nil (⟨g, o, none⟩ : Addr).block := fun o h => by have h : g < w0.heap.size := h; omega
  exact (((((ht.setCell _ _ (hs 0)).setCell _ _ (hs 1)).setCell _ _ (hs 2)).setCell _ _ (hs 3)).setCell _ _ (hs 4)).setCell _ _ (hs 5)
theorem stHeap6 {w : World} {g T : Nat} {x0 x1 x2 x3 x4 x5 a b c d e f : Value} (h : w.heap[g]? = some (.cells #[x0, x1, x2, x3, x4, x5] T (0, 0))) :
    ((((((w.setCell ⟨g, 0, none⟩ a).setCell ⟨g, 1, none⟩ b).setCell ⟨g, 2, none⟩ c).setCell ⟨g, 3, none⟩ d).setCell ⟨g, 4, none⟩ e).setCell ⟨g, 5, none⟩ f).heap[g]? = some (.cells #[a, b, c, d, e, f] T (0, 0)) := by
  have hrow : w.rowIs g T 6 (fun i => #[x0, x1, x2, x3, x4, x5].getD i undef) := ⟨_, h, rfl, fun i hi => by
    have : i = 0 ∨ i = 1 ∨ i = 2 ∨ i = 3 ∨ i = 4 ∨ i = 5 := by omega
    rcases this with rfl | rfl | rfl | rfl | rfl | rfl <;> rfl⟩
  exact row_block (((((((hrow.set 0 a).set 1 b).set 2 c).set 3 d).set 4 e).set 5 f).congr (g := fun i => #[a, b, c, d, e, f].getD i undef) fun i hi => by
    have : i = 0 ∨ i = 1 ∨ i = 2 ∨ i = 3 ∨ i = 4 ∨ i = 5 := by omega
    rcases this with rfl | rfl | rfl | rfl | rfl | rfl <;> rfl)
theorem stOwn6 {w : World} {g base : Nat} {v a b c d e f : Value} {l : Key} (h : OwnB base w v l) (hg : ToldN g w) : OwnB base ((((((w.setCell ⟨g, 0, none⟩ a).setCell ⟨g, 1, none⟩ b).setCell ⟨g, 2, none⟩ c).setCell ⟨g, 3, none⟩ d).setCell ⟨g, 4, none⟩ e).setCell ⟨g, 5, none⟩ f) v l := by
  have hs : ∀ o, (⟨g, o, none⟩ : Addr).block < w.heap.size → Just g (⟨g, o, none⟩ : Addr).block := fun o _ => rfl
  refine h.keep (((((((Touch.refl (Just g) w).setCell _ a (hs 0)).setCell _ b (hs 1)).setCell _ c (hs 2)).setCell _ d (hs 3)).setCell _ e (hs 4)).setCell _ f (hs 5)) fun k hk hs => ?_
  have hs : k = g := hs
  subst hs
  obtain ⟨cs, z, he⟩ := h.elem hk
  rw [hg.blk] at he
  injection he with he
  injection he with _ he
  exact absurd he (by decide)
/-- What the first statement leaves. -/
structure FirstN (w wx : World) (g : Nat) (kx ux : Value) (k u : Key) (d sz : Nat) : Prop where
  blk : wx.heap[g]? = some (.cells #[kx, ux, .int .u64 (d : Int), .int .i64 (sz : Int), .int .i64 (-1), .int .i64 (-1)] 109 (0, 0))
  new : w.heap.size ≤ g
  key : OwnB w.heap.size wx kx k
  val : OwnB w.heap.size wx ux u
theorem finA {w w4 : World} {kx ux : Value} {k u : Key} {d sz : Nat} (hk : OwnB w.heap.size w4 kx k) (hu : OwnB w.heap.size w4 ux u) (ht : Touch Nil w w4) :
    ∃ (g : Nat) (kx' ux' : Value), Value.pointer (some ⟨w4.heap.size, 0, none⟩) = .pointer (some ⟨g, 0, none⟩) ∧ Hid (FirstN w (w4.alloc (.cells #[kx, ux, .int .u64 (d : Int), .int .i64 (sz : Int), .int .i64 (-1), .int .i64 (-1)] 109)) g kx' ux' k u d sz) ∧ Touch Nil w (w4.alloc (.cells #[kx, ux, .int .u64 (d : Int), .int .i64 (sz : Int), .int .i64 (-1), .int .i64 (-1)] 109)) := by
  have hta := (Touch.refl Nil w4).alloc (.cells #[kx, ux, .int .u64 (d : Int), .int .i64 (sz : Int), .int .i64 (-1), .int .i64 (-1)] 109)
  exact ⟨w4.heap.size, kx, ux, rfl, Lib.hid ⟨heap_alloc_new _ _, ht.size, hk.keep hta (fun _ _ c => c), hu.keep hta (fun _ _ c => c)⟩, ht.trans hta⟩
theorem finB {w w4 : World} {g : Nat} {kx ux : Value} {k u : Key} {d sz : Nat} (hg : ToldN g w4) (hle : w.heap.size ≤ g) (hk : OwnB w.heap.size w4 kx k) (hu : OwnB w.heap.size w4 ux u) (ht : Touch Nil w w4) :
    ∃ (g' : Nat) (kx' ux' : Value), Value.pointer (some ⟨g, 0, none⟩) = .pointer (some ⟨g', 0, none⟩) ∧ Hid (FirstN w ((((((w4.setCell ⟨g, 0, none⟩ kx).setCell ⟨g, 1, none⟩ ux).setCell ⟨g, 2, none⟩ (.int .u64 (d : Int))).setCell ⟨g, 3, none⟩ (.int .i64 (sz : Int))).setCell ⟨g, 4, none⟩ (.int .i64 (-1))).setCell ⟨g, 5, none⟩ (.int .i64 (-1))) g' kx' ux' k u d sz) ∧ Touch Nil w ((((((w4.setCell ⟨g, 0, none⟩ kx).setCell ⟨g, 1, none⟩ ux).setCell ⟨g, 2, none⟩ (.int .u64 (d : Int))).setCell ⟨g, 3, none⟩ (.int .i64 (sz : Int))).setCell ⟨g, 4, none⟩ (.int .i64 (-1))).setCell ⟨g, 5, none⟩ (.int .i64 (-1))) :=
  ⟨g, kx, ux, rfl, Lib.hid ⟨stHeap6 hg.blk, hle, stOwn6 hk hg, stOwn6 hu hg⟩, stTouch6 ht hle⟩
/-- A node that is told, as it lies in its variable. -/
structure ToldF (w X : World) (g : Nat) (kx ux : Value) (k u : Key) (d sz : Nat) (lv rv : Int) : Prop where
  blk : X.heap[g]? = some (.cells #[kx, ux, .int .u64 (d : Int), .int .i64 (sz : Int), .int .i64 lv, .int .i64 rv] 109 (0, 0))
  new : w.heap.size ≤ g
  key : OwnB w.heap.size X kx k
  val : OwnB w.heap.size X ux u
  tou : Touch Nil w X
theorem ToldF.keepN {w X X' : World} {g : Nat} {kx ux : Value} {k u : Key} {d sz : Nat} {lv rv : Int} (h : ToldF w X g kx ux k u d sz lv rv) (ht : Touch Nil X X') : ToldF w X' g kx ux k u d sz lv rv :=
  ⟨(ht.same g (Array.getElem?_eq_some_iff.1 h.blk).1 (fun c => c)).trans h.blk, h.new, h.key.keep ht (fun _ _ c => c), h.val.keep ht (fun _ _ c => c), h.tou.trans ht⟩
theorem ToldF.set {w X : World} {g : Nat} {kx ux : Value} {k u : Key} {d sz : Nat} {lv rv : Int} (h : ToldF w X g kx ux k u d sz lv rv) (o : Nat) (z : Int) (lv' rv' : Int) (ho : (o = 4 ∧ lv' = z ∧ rv' = rv) ∨ (o = 5 ∧ lv' = lv ∧ rv' = z)) : ToldF w (X.setCell ⟨g, o, none⟩ (.int .i64 z)) g kx ux k u d sz lv' rv' := by
  have hs : (⟨g, o, none⟩ : Addr).block < X.heap.size → Just g (⟨g, o, none⟩ : Addr).block := fun _ => rfl
  have ht := (Touch.refl (Just g) X).setCell ⟨g, o, none⟩ (.int .i64 z) hs
  have far : ∀ {v : Value} {l : Key}, OwnB w.heap.size X v l → ∀ k, OwnOf v k → ¬ Just g k := fun hv k hk hs => by
    have hs : k = g := hs
    subst hs
    obtain ⟨cs, y, he⟩ := hv.elem hk
    rw [h.blk] at he
    injection he with he
    injection he with _ he
    exact absurd he (by decide)
  have hrow : X.rowIs g 109 6 (fun i => #[kx, ux, .int .u64 (d : Int), .int .i64 (sz : Int), .int .i64 lv, .int .i64 rv].getD i undef) := ⟨_, h.blk, rfl, fun i hi => by
    have : i = 0 ∨ i = 1 ∨ i = 2 ∨ i = 3 ∨ i = 4 ∨ i = 5 := by omega
    rcases this with rfl | rfl | rfl | rfl | rfl | rfl <;> rfl⟩
  refine ⟨row_block ((hrow.set o (.int .i64 z)).congr (g := fun i => #[kx, ux, .int .u64 (d : Int), .int .i64 (sz : Int), .int .i64 lv', .int .i64 rv'].getD i undef) fun i hi => ?_), h.new, h.key.keep ht (far h.key), h.val.keep ht (far h.val), h.tou.setCell _ _ fun hl => ?_⟩
  · have : i = 0 ∨ i = 1 ∨ i = 2 ∨ i = 3 ∨ i = 4 ∨ i = 5 := by omega
    rcases ho with ⟨rfl, rfl, rfl⟩ | ⟨rfl, rfl, rfl⟩ <;> rcases this with rfl | rfl | rfl | rfl | rfl | rfl <;> rfl
  · have hl : g < w.heap.size := hl
    have := h.new
    omega
theorem ToldF.cells {w X : World} {g : Nat} {kx ux : Value} {k u : Key} {d sz : Nat} {lv rv : Int} (h : ToldF w X g kx ux k u d sz lv rv) :
    (X.cell? ⟨g, 0, none⟩ = some kx ∧ X.cell? ⟨g, 1, none⟩ = some ux ∧ X.cell? ⟨g, 2, none⟩ = some (.int .u64 (d : Int)) ∧ X.cell? ⟨g, 3, none⟩ = some (.int .i64 (sz : Int)) ∧ X.cell? ⟨g, 4, none⟩ = some (.int .i64 lv) ∧ X.cell? ⟨g, 5, none⟩ = some (.int .i64 rv)) ∧ X.frozen? ⟨g, 4, none⟩ = false ∧ X.frozen? ⟨g, 5, none⟩ = false := by
  have e := h.blk
  refine ⟨⟨?_, ?_, ?_, ?_, ?_, ?_⟩, ?_, ?_⟩ <;> simp [World.cell?, World.frozen?, e]
/-- The node as an element that is appended. -/
theorem ToldF.us {w X : World} {g base : Nat} {kx ux : Value} {k u : Key} {d sz : Nat} {lv rv : Int} (h : ToldF w X g kx ux k u d sz lv rv) (n : NodeC) (hn : n = ⟨k, u, d, sz, lv, rv⟩) (hlo : base ≤ w.heap.size) (B : Nat) (hB : X.heap.size = B) :
    ∀ j v, ([kx, ux, .int .u64 (d : Int), .int .i64 (sz : Int), .int .i64 lv, .int .i64 rv] : List Value)[j]? = some v → (X.alloc (.cells #[kx, ux, .int .u64 (d : Int), .int .i64 (sz : Int), .int .i64 lv, .int .i64 rv] 109)).cell? ⟨B, j, none⟩ = some v ∧ KF base (X.alloc (.cells #[kx, ux, .int .u64 (d : Int), .int .i64 (sz : Int), .int .i64 lv, .int .i64 rv] 109)) v (nodeG base n j) := by
  subst hn
  subst hB
  have hta := (Touch.refl Nil X).alloc (.cells #[kx, ux, .int .u64 (d : Int), .int .i64 (sz : Int), .int .i64 lv, .int .i64 rv] 109)
  intro j v hj
  refine ⟨by rw [cell_new]; simpa using hj, ?_⟩
  match j, hj with
  | 0, hj => cases hj; exact (KF.ofOwnG h.key hlo).keepN hta
  | 1, hj => cases hj; exact (KF.ofOwnG h.val hlo).keepN hta
  | 2, hj => cases hj; exact ⟨rfl, fun l e => by cases e⟩
  | 3, hj => cases hj; exact ⟨rfl, fun l e => by cases e⟩
  | 4, hj => cases hj; exact ⟨rfl, fun l e => by cases e⟩
  | 5, hj => cases hj; exact ⟨rfl, fun l e => by cases e⟩
def NodesPost (base : Nat) (L : List NodeC) (w : World) (e : Ending) (w' : World) : Prop := ∃ x, e = .returned x ∧ NG base base w' x L ∧ Touch (From base) w w'
set_option maxRecDepth 100000 in
set_option maxHeartbeats 20000000 in
theorem visitN_any {seed : Int} {R : Nat → Prop} {w : World} {b base : Nat} {iv : Value} {la ra : Option Addr} {l r : Tree} {k u : Key} {x : Value} {L : List NodeC} (hn : NodeV seed R w b iv la ra l k u r) (hx : NG base base w x L) (hb : base ≤ w.heap.size) (hL : L.length ≤ 1000000) (hz : (Tree.node l k u r).size ≤ 1000000) :
    Calls Try.prog 68 #[x, .pointer (some ⟨b, 0, none⟩)] w (NodesPost base (L ++ [nodeAt seed L.length l k u r]) w) := by
  have HN := Lib.hid hn
  have HX := Lib.hid hx
  obtain ⟨ib, kv, uv, rfl, _, hih, hmk, hmu, hok⟩ := hn.item
  obtain ⟨x0, x1, x2, x3, x4⟩ := node_cells hn.blk
  obtain ⟨y0, y1, _⟩ := item_cells hih
  have HCK := Lib.hid (fun w' (ht : Touch Nil w w') => bytesClone_any _ k w' (hmk.bv.keepN ht) (by have := hok.2.1; omega))
  have HCU := Lib.hid (fun w' (ht : Touch Nil w w') => bytesClone_any _ u w' (hmu.bv.keepN ht) (by have := hok.2.2; omega))
  obtain ⟨ka, kl, kc, rfl⟩ := hmk.1.form
  obtain ⟨ua, ul, uc, rfl⟩ := hmu.1.form
  obtain ⟨xa, xl, xc, rfl⟩ := hx.form3
  have HLL := Lib.hid (show xl = L.length from by obtain ⟨_, _, e⟩ := hx.form; cases e; rfl)
  have HNA := Lib.hid (show nodeAt seed L.length l k u r = ⟨k, u, digT seed (.node l k u r), (Tree.node l k u r).size, childAt l (L.length + 1), childAt r (L.length + 1 + l.size)⟩ from rfl)
  generalize digT seed (.node l k u r) = d at *
  have HE : ∃ sz, (Tree.node l k u r).size = sz := ⟨_, rfl⟩
  obtain ⟨sz, esz⟩ := HE
  have esz2 : l.size ≤ 1000000 := by simp only [Tree.size] at hz; omega
  have esz2 : l.size ≤ 1000000 := by simp only [Tree.size] at hz; omega
  rw [esz] at x2 HNA hz
  have HST := Lib.hid (fun w' (ht : Touch Nil w w') => show LdN b ib (.pointer (some ⟨ib, 0, none⟩)) (.int .u64 (d : Int)) (.int .i64 (sz : Int)) (.slice ka kl kc) (.slice ua ul uc) w w' from ⟨cell_step x0 ht, cell_step x1 ht, cell_step x2 ht, cell_step y0 ht, cell_step y1 ht, Lib.hid ht⟩)
  clear hn hx hih hmk hmu hok esz
  go_enter Try.func68, Try.ntmps68
  go_upto_region 1 with fail
  go_cut [5] (fun s5 wx => ∃ (g : Nat) (kx ux : Value), s5 = .pointer (some ⟨g, 0, none⟩) ∧ Hid (FirstN w wx g kx ux k u d sz) ∧ Touch Nil w wx)
  case first =>
    go_region_held3 (fun w' => w'.cell? ⟨b, 0, none⟩ = some (.pointer (some ⟨ib, 0, none⟩)) ∧ w'.cell? ⟨b, 1, none⟩ = some (.int .u64 (d : Int)) ∧ w'.cell? ⟨b, 2, none⟩ = some (.int .i64 (sz : Int)) ∧ w'.cell? ⟨ib, 0, none⟩ = some (.slice ka kl kc) ∧ w'.cell? ⟨ib, 1, none⟩ = some (.slice ua ul uc) ∧ Hid (Touch Nil w w'))
      (first | (with_reducible exact HST.out _ (stTouch6 HT4.out HG.out)) | (with_reducible exact HST.out _ (Touch.refl Nil w).drew) | (with_reducible exact HST.out _ ((Touch.refl Nil w).alloc _).drew) | (with_reducible exact HST.out _ hT3) | (with_reducible exact HST.out _ (hT3.alloc _)) | (with_reducible exact HST.out _ HT4.out) | (with_reducible exact HST.out _ (HT4.out.alloc _)))
      (first
        | (go_at_call_of 69 (Value.slice ka kl kc); refine (HCK.out _ (Hid.out (And.right (And.right (And.right (And.right (And.right (by assumption)))))))).mono ?_; rintro e w3 ⟨v3, rfl, h3, ht3⟩; obtain ⟨va3, vl3, vc3, rfl⟩ := h3.form; have hT3 : Touch Nil w w3 := (by first | (with_reducible exact (Touch.refl Nil w).drew.trans ht3) | (with_reducible exact ((Touch.refl Nil w).alloc _).drew.trans ht3)); have H3 := Lib.hid (show OwnB w.heap.size w3 (.slice va3 vl3 vc3) k from by first | (with_reducible exact h3) | exact h3.base (by first | exact Nat.le_refl _ | exact ((Touch.refl Nil w).alloc _).size)); clear h3; (first | ((with_reducible have TN0 := told_newD ht3); have TN := Lib.hid TN0; clear TN0) | skip))
        | (go_at_call_of 69 (Value.slice ua ul uc); refine (HCU.out _ (Hid.out (And.right (And.right (And.right (And.right (And.right (by assumption)))))))).mono ?_; rintro e w4 ⟨v4, rfl, h4, ht4⟩; obtain ⟨va4, vl4, vc4, rfl⟩ := h4.form; have hle3 : w.heap.size ≤ w3.heap.size := hT3.size; have H4 := Lib.hid (show OwnB w.heap.size w4 (.slice va4 vl4 vc4) u from by first | (with_reducible exact h4.base hle3) | (with_reducible refine h4.base ?_; rw [nblk_alloc]; omega)); have HK4 := Lib.hid (show OwnB w.heap.size w4 (.slice va3 vl3 vc3) k from by first | (with_reducible exact H3.out.keep ht4 (fun _ _ c => c)) | (with_reducible exact H3.out.keep (((Touch.refl Nil w3).alloc _).trans ht4) (fun _ _ c => c))); have HT4 := Lib.hid (show Touch Nil w w4 from by first | (with_reducible exact hT3.trans ht4) | (with_reducible exact hT3.trans (((Touch.refl Nil w3).alloc _).trans ht4))); clear h4; (first | ((with_reducible have TN0 := told_new ht4); have TN2 := Lib.hid TN0; have HG := Lib.hid (show w.heap.size ≤ w3.heap.size from hT3.size); obtain ⟨⟨z0, z1, z2, z3, z4, z5⟩, f0, f1, f2, f3, f4, f5⟩ := TN0.cells; clear TN0) | (have TN2 := Lib.hid (TN.out.step ht4); have HG := Lib.hid (Nat.le_refl w.heap.size); obtain ⟨⟨z0, z1, z2, z3, z4, z5⟩, f0, f1, f2, f3, f4, f5⟩ := TN2.out.cells) | skip)))
    all_goals
      clear x0 x1 x2 y0 y1
      (try clear z0 z1 z2 z3 z4 z5 f0 f1 f2 f3 f4 f5)
      go_wp2_with fail
      go_meet
      first
        | (with_reducible exact finB TN2.out HG.out HK4.out H4.out HT4.out)
        | (with_reducible exact finA HK4.out H4.out HT4.out)
  case rest =>
    obtain ⟨g, kx, ux, rfl, HF, hTc⟩ := hcut
    have HTF := Lib.hid (show ToldF w wc g kx ux k u d sz (-1) (-1) from ⟨HF.out.blk, HF.out.new, HF.out.key, HF.out.val, hTc⟩)
    obtain ⟨kxa, kxl, kxc, rfl⟩ := HF.out.key.form
    obtain ⟨uxa, uxl, uxc, rfl⟩ := HF.out.val.form
    have HT := Lib.hid hTc
    have w3 := cell_step x3 hTc
    have w4 := cell_step x4 hTc
    have hxl : xl ≤ 1000000 := by have := HLL.out; omega
    have HSL := Lib.hid (fun w' (ht : Touch Nil w w') => sizeOf_any (HN.out.left.keepN ht))
    obtain ⟨⟨c0, c1, c2, c3, c4, c5⟩, f4, f5⟩ := HTF.out.cells
    have hgn : g ≠ b := by have := HF.out.new; have := lt_of_heap HN.out.blk; omega
    have hLS := esz2
    clear x0 x1 x2 x3 x4 y0 y1 HCK HCU HST hTc HF
    cases l with
    | nil =>
      obtain rfl : la = none := by have h : Value.pointer la = .pointer none := HN.out.left; injection h
      cases r with
      | nil =>
        obtain rfl : ra = none := by have h : Value.pointer ra = .pointer none := HN.out.right; injection h
        have HNA2 := Lib.hid (show nodeAt seed L.length .nil k u .nil = ⟨k, u, d, sz, -1, -1⟩ from HNA.out)
        have HUS := Lib.hid (HTF.out.us (base := base) _ HNA2.out hb wc.heap.size (by first | rfl | exact nblk_setCell _ _ _))
        have HXX := Lib.hid (HX.out.keepN (HTF.out.tou.alloc (.cells #[.slice kxa kxl kxc, .slice uxa uxl uxc, .int .u64 (d : Int), .int .i64 (sz : Int), .int .i64 (-1), .int .i64 (-1)] 109)))
        have HTT := Lib.hid (HTF.out.tou.alloc (.cells #[.slice kxa kxl kxc, .slice uxa uxl uxc, .int .u64 (d : Int), .int .i64 (sz : Int), .int .i64 (-1), .int .i64 (-1)] 109))
        go_wp2_with (refine wpList_append_el rfl (.tmp 55) (.tmp 57) rfl (.agg #[.slice none 0 0, .slice none 0 0, .int .u64 0, .int .i64 0, .int .i64 0, .int .i64 0]) Try.underlying36 infoNode rfl (by decide) (by decide) (by decide) (.slice xa xl xc) rfl HXX.out wc.heap.size 1 rfl [.slice kxa kxl kxc, .slice uxa uxl uxc, .int .u64 (d : Int), .int .i64 (sz : Int), .int .i64 (-1), .int .i64 (-1)] _ rfl HUS.out (by omega) (Nat.le_trans hb HTT.out.size) ?e1)
        intro v9 w9 ho9 ht9
        have HO9 := Lib.hid ho9.out
        have HT9 := Lib.hid (show Touch (From base) w w9 from HTT.out.of_nil.trans (ht9.out.mono fun b _ hs => HXX.out.base' b hs))
        obtain ⟨va9, vl9, vc9, rfl⟩ := HO9.out.form3
        clear ho9 ht9
        go_wp2_with fail
        go_ret
        exact ⟨_, rfl, HO9.out, HT9.out⟩
      | node l2 k2 u2 r2 =>
        obtain ⟨b2, _, _, _, e2, _⟩ := HN.out.right.node
        injection e2 with e2
        subst e2
        have HNA2 := Lib.hid (show nodeAt seed L.length .nil k u (.node l2 k2 u2 r2) = ⟨k, u, d, sz, -1, (xl : Int) + 1⟩ from by rw [HNA.out, HLL.out]; simp [childAt, Tree.size])
        have HTF2 := Lib.hid (HTF.out.set 5 ((xl : Int) + 1) (-1) ((xl : Int) + 1) (.inr ⟨rfl, rfl, rfl⟩))
        have HSL0 := Lib.hid (show Calls Try.prog 70 #[.pointer none] wc (fun e w' => e = .returned (.int .i64 ((0 : Nat) : Int)) ∧ w' = wc) from HSL.out _ HT.out)
        have hz0 : (xl : Int) + 1 + ((0 : Nat) : Int) = (xl : Int) + 1 := by omega
        go_wp2_with fail
        refine HSL0.out.mono ?_
        rintro e w' ⟨rfl, rfl⟩
        have HUS := Lib.hid (HTF2.out.us (base := base) _ HNA2.out hb w'.heap.size (by first | rfl | exact nblk_setCell _ _ _))
        have HXX := Lib.hid (HX.out.keepN (HTF2.out.tou.alloc (.cells #[.slice kxa kxl kxc, .slice uxa uxl uxc, .int .u64 (d : Int), .int .i64 (sz : Int), .int .i64 (-1), .int .i64 ((xl : Int) + 1)] 109)))
        have HTT := Lib.hid (HTF2.out.tou.alloc (.cells #[.slice kxa kxl kxc, .slice uxa uxl uxc, .int .u64 (d : Int), .int .i64 (sz : Int), .int .i64 (-1), .int .i64 ((xl : Int) + 1)] 109))
        go_wp2_with (refine wpList_append_el rfl (.tmp 55) (.tmp 57) rfl (.agg #[.slice none 0 0, .slice none 0 0, .int .u64 0, .int .i64 0, .int .i64 0, .int .i64 0]) Try.underlying36 infoNode rfl (by decide) (by decide) (by decide) (.slice xa xl xc) rfl HXX.out w'.heap.size 1 rfl [.slice kxa kxl kxc, .slice uxa uxl uxc, .int .u64 (d : Int), .int .i64 (sz : Int), .int .i64 (-1), .int .i64 ((xl : Int) + 1)] _ rfl HUS.out (by omega) (Nat.le_trans hb HTT.out.size) ?e2)
        intro v9 w9 ho9 ht9
        have HO9 := Lib.hid ho9.out
        have HT9 := Lib.hid (show Touch (From base) w w9 from HTT.out.of_nil.trans (ht9.out.mono fun b _ hs => HXX.out.base' b hs))
        obtain ⟨va9, vl9, vc9, rfl⟩ := HO9.out.form3
        clear ho9 ht9
        go_wp2_with fail
        go_ret
        exact ⟨_, rfl, HO9.out, HT9.out⟩
    | node l1 k1 u1 r1 =>
      obtain ⟨b1, _, _, _, e1, _⟩ := HN.out.left.node
      injection e1 with e1
      subst e1
      have HTF1 := Lib.hid (HTF.out.set 4 ((xl : Int) + 1) ((xl : Int) + 1) (-1) (.inl ⟨rfl, rfl, rfl⟩))
      have hls : (Tree.node l1 k1 u1 r1).size ≤ 1000000 := hLS
      generalize hsl : (Tree.node l1 k1 u1 r1).size = sl at *
      cases r with
      | nil =>
        obtain rfl : ra = none := by have h : Value.pointer ra = .pointer none := HN.out.right; injection h
        have HNA2 := Lib.hid (show nodeAt seed L.length (.node l1 k1 u1 r1) k u .nil = ⟨k, u, d, sz, (xl : Int) + 1, -1⟩ from by rw [HNA.out, HLL.out]; simp [childAt])
        have HUS := Lib.hid (HTF1.out.us (base := base) _ HNA2.out hb wc.heap.size (by first | rfl | exact nblk_setCell _ _ _))
        have HXX := Lib.hid (HX.out.keepN (HTF1.out.tou.alloc (.cells #[.slice kxa kxl kxc, .slice uxa uxl uxc, .int .u64 (d : Int), .int .i64 (sz : Int), .int .i64 ((xl : Int) + 1), .int .i64 (-1)] 109)))
        have HTT := Lib.hid (HTF1.out.tou.alloc (.cells #[.slice kxa kxl kxc, .slice uxa uxl uxc, .int .u64 (d : Int), .int .i64 (sz : Int), .int .i64 ((xl : Int) + 1), .int .i64 (-1)] 109))
        go_wp2_with (refine wpList_append_el rfl (.tmp 55) (.tmp 57) rfl (.agg #[.slice none 0 0, .slice none 0 0, .int .u64 0, .int .i64 0, .int .i64 0, .int .i64 0]) Try.underlying36 infoNode rfl (by decide) (by decide) (by decide) (.slice xa xl xc) rfl HXX.out wc.heap.size 1 rfl [.slice kxa kxl kxc, .slice uxa uxl uxc, .int .u64 (d : Int), .int .i64 (sz : Int), .int .i64 ((xl : Int) + 1), .int .i64 (-1)] _ rfl HUS.out (by omega) (Nat.le_trans hb HTT.out.size) ?e3)
        intro v9 w9 ho9 ht9
        have HO9 := Lib.hid ho9.out
        have HT9 := Lib.hid (show Touch (From base) w w9 from HTT.out.of_nil.trans (ht9.out.mono fun b _ hs => HXX.out.base' b hs))
        obtain ⟨va9, vl9, vc9, rfl⟩ := HO9.out.form3
        clear ho9 ht9
        go_wp2_with fail
        go_ret
        exact ⟨_, rfl, HO9.out, HT9.out⟩
      | node l2 k2 u2 r2 =>
        obtain ⟨b2, _, _, _, e2, _⟩ := HN.out.right.node
        injection e2 with e2
        subst e2
        have HNA2 := Lib.hid (show nodeAt seed L.length (.node l1 k1 u1 r1) k u (.node l2 k2 u2 r2) = ⟨k, u, d, sz, (xl : Int) + 1, (xl : Int) + 1 + (sl : Int)⟩ from by rw [HNA.out, HLL.out]; simp [childAt])
        go_wp2_with fail
        refine (HSL.out _ HTF1.out.tou).mono ?_
        rintro e w' ⟨rfl, hw'⟩
        obtain ⟨X, eX⟩ : ∃ X, wc.setCell ⟨g, 4, none⟩ (.int .i64 ((xl : Int) + 1)) = X := ⟨_, rfl⟩
        rw [eX] at hw'
        subst hw'
        rw [eX] at HTF1
        have HTF2 := Lib.hid (HTF1.out.set 5 ((xl : Int) + 1 + (sl : Int)) ((xl : Int) + 1) ((xl : Int) + 1 + (sl : Int)) (.inr ⟨rfl, rfl, rfl⟩))
        clear c0 c1 c2 c3 c4 c5 f4 f5 eX
        obtain ⟨⟨c0, c1, c2, c3, c4, c5⟩, f4, f5⟩ := HTF1.out.cells
        have HUS := Lib.hid (HTF2.out.us (base := base) _ HNA2.out hb w'.heap.size (by first | rfl | exact nblk_setCell _ _ _))
        have HXX := Lib.hid (HX.out.keepN (HTF2.out.tou.alloc (.cells #[.slice kxa kxl kxc, .slice uxa uxl uxc, .int .u64 (d : Int), .int .i64 (sz : Int), .int .i64 ((xl : Int) + 1), .int .i64 ((xl : Int) + 1 + (sl : Int))] 109)))
        have HTT := Lib.hid (HTF2.out.tou.alloc (.cells #[.slice kxa kxl kxc, .slice uxa uxl uxc, .int .u64 (d : Int), .int .i64 (sz : Int), .int .i64 ((xl : Int) + 1), .int .i64 ((xl : Int) + 1 + (sl : Int))] 109))
        go_wp2_with (refine wpList_append_el rfl (.tmp 55) (.tmp 57) rfl (.agg #[.slice none 0 0, .slice none 0 0, .int .u64 0, .int .i64 0, .int .i64 0, .int .i64 0]) Try.underlying36 infoNode rfl (by decide) (by decide) (by decide) (.slice xa xl xc) rfl HXX.out w'.heap.size 1 rfl [.slice kxa kxl kxc, .slice uxa uxl uxc, .int .u64 (d : Int), .int .i64 (sz : Int), .int .i64 ((xl : Int) + 1), .int .i64 ((xl : Int) + 1 + (sl : Int))] _ rfl HUS.out (by omega) (Nat.le_trans hb HTT.out.size) ?e4)
        intro v9 w9 ho9 ht9
        have HO9 := Lib.hid ho9.out
        have HT9 := Lib.hid (show Touch (From base) w w9 from HTT.out.of_nil.trans (ht9.out.mono fun b _ hs => HXX.out.base' b hs))
        obtain ⟨va9, vl9, vc9, rfl⟩ := HO9.out.form3
        clear ho9 ht9
        go_wp2_with fail
        go_ret
        exact ⟨_, rfl, HO9.out, HT9.out⟩
end Go.Proofs.Ytkkpcndpjkebkaa
