import Derived.Test.YtbckakpgfmcljaaNodeM
import Derived.LaidEqlPtr
import Derived.Deep.LoopGhost
/- Nodes over other children; the way to a key. -/
namespace Go.Proofs.Ytbckakpgfmcljaa
open Go.ChangeShapes Go.WideShapes Go.ChangeAt Go.RowKit Go.Deep

/-- What a node is, for a walk. -/
structure NodeV (seed : Int) (R : Nat → Prop) (w : World) (b : Nat) (iv : Value) (la ra : Option Addr) (l : Tree) (k u : Key) (r : Tree) : Prop where
  blk : w.heap[b]? = some (.cells #[iv, .int .u64 ((digT seed (.node l k u r) : Nat) : Int), .int .i64 (((Tree.node l k u r).size : Nat) : Int), .pointer la, .pointer ra] 127 (0, 0))
  own : R b
  item : ItemAt seed R w iv k u
  left : TreeAt seed R w l (.pointer la)
  right : TreeAt seed R w r (.pointer ra)
theorem TreeAt.node {seed : Int} {R : Nat → Prop} {w : World} {l r : Tree} {k u : Key} {v : Value} (h : TreeAt seed R w (.node l k u r) v) :
    ∃ b ib la ra, v = .pointer (some ⟨b, 0, none⟩) ∧ NodeV seed R w b (.pointer (some ⟨ib, 0, none⟩)) la ra l k u r := by
  obtain ⟨b, iv, lv, rv, e, hr, hh, hi, hl, hr'⟩ := h
  obtain ⟨ib, rfl⟩ := hi.form
  obtain ⟨la, rfl⟩ := hl.form
  obtain ⟨ra, rfl⟩ := hr'.form
  exact ⟨b, ib, la, ra, e, hh, hr, hi, hl, hr'⟩
theorem NodeV.tree {seed : Int} {R : Nat → Prop} {w : World} {b : Nat} {iv : Value} {la ra : Option Addr} {l r : Tree} {k u : Key} (h : NodeV seed R w b iv la ra l k u r) : TreeAt seed R w (.node l k u r) (.pointer (some ⟨b, 0, none⟩)) :=
  ⟨b, iv, _, _, rfl, h.own, h.blk, h.item, h.left, h.right⟩
theorem NodeV.keep {seed : Int} {R S : Nat → Prop} {w w' : World} {b : Nat} {iv : Value} {la ra : Option Addr} {l r : Tree} {k u : Key} (h : NodeV seed R w b iv la ra l k u r) (ht : Touch S w w') (hS : ∀ b, R b → ¬ S b) : NodeV seed R w' b iv la ra l k u r :=
  ⟨(ht.same b (lt_of_heap h.blk) (hS b h.own)).trans h.blk, h.own, h.item.keep ht hS, h.left.keep ht hS, h.right.keep ht hS⟩
theorem NodeV.keepN {seed : Int} {R : Nat → Prop} {w w' : World} {b : Nat} {iv : Value} {la ra : Option Addr} {l r : Tree} {k u : Key} (h : NodeV seed R w b iv la ra l k u r) (ht : Touch Nil w w') : NodeV seed R w' b iv la ra l k u r := h.keep ht fun _ _ c => c

theorem info_node : ∃ j, Try.prog.info? 127 = some j ∧ j.size ≠ 0 := by
  have h : (Try.prog.info? 127).map (fun i => i.size) = some 5 := by kernel_rfl
  cases e : Try.prog.info? 127 with
  | none => rw [e] at h; cases h
  | some j => rw [e] at h; exact ⟨j, rfl, by simp only [Option.map_some, Option.some.injEq] at h; omega⟩
set_option maxRecDepth 100000 in
/-- Two nodes are held against each other. -/
theorem eql_tree {seed seed' : Int} {R R' : Nat → Prop} {w : World} {t t' : Tree} {la ra : Option Addr} (h : TreeAt seed R w t (.pointer la)) (h' : TreeAt seed' R' w t' (.pointer ra)) :
    (binOp .eql 123 (.pointer la) (.pointer ra)).run Try.prog w = .ok (.bool (decide (la = ra))) w := by
  obtain ⟨j, hj, hz⟩ := info_node
  have hu : Try.prog.underlying 123 = some (.pointer 127) := Try.underlying123
  cases t with
  | nil =>
    have e : Value.pointer la = .pointer none := h
    injection e with e
    subst e
    cases ra with
    | none => rw [run_eql_pointer_nil w _ _ (by rw [hu]; kernel_rfl)]; rfl
    | some b =>
      have hq : ∀ d : Nat, (Op.equalIn (d + 1) 123 (.pointer none) (.pointer (some b))).run Try.prog w = .ok false w := fun d => by simp [Op.equalIn, run_underlying hu]
      simp only [binOp]
      simp [Op.equal, Op.maxDepth, hq 9999]
  | node l k u r =>
    obtain ⟨b, _, _, _, e, _, hb, _⟩ := h
    injection e with e
    subst e
    cases t' with
    | nil =>
      have e : Value.pointer ra = .pointer none := h'
      injection e with e
      subst e
      rw [run_eql_pointer_nil w _ _ (by rw [hu]; kernel_rfl)]; rfl
    | node l' k' u' r' =>
      obtain ⟨b', _, _, _, e, _, hb', _⟩ := h'
      injection e with e
      subst e
      by_cases hbb : b = b'
      · subst hbb
        rw [run_eql_ptr_same w _ hu hj]; simp
      · rw [run_eql_ptr_other w hu hj hz (a := ⟨b, 0, none⟩) (b := ⟨b', 0, none⟩) (by simp [hbb]) hb hb']
        simp [hbb]

set_option maxRecDepth 100000 in
set_option maxHeartbeats 2000000 in
theorem over_any {seed : Int} {R : Nat → Prop} {w : World} {v lv rv : Value} {l r l' r' : Tree} {k u : Key} (h : TreeAt seed R w (.node l k u r) v) (hl : TreeAt seed R w l' lv) (hr : TreeAt seed R w r' rv) (hR : ∀ b, w.heap.size ≤ b → R b) (hsz : l'.size + r'.size ≤ 1000000000) :
    Calls Try.prog 105 #[v, .int .u64 seed, lv, rv] w (TreePost seed R (.node l' k u r') w) := by
  obtain ⟨b, ib, la, ra, rfl, hn⟩ := h.node
  obtain ⟨la', rfl⟩ := hl.form
  obtain ⟨ra', rfl⟩ := hr.form
  obtain ⟨x0, x1, x2, x3, x4⟩ := node_cells hn.blk
  have HNN := Lib.hid (newNode_any hn.item hl hr hR hsz)
  have q1 := eql_tree hl hn.left
  have q2 := eql_tree hr hn.right
  have HS := Lib.hid (show la' = la → ra' = ra → TreeAt seed R w (.node l' k u r') (.pointer (some ⟨b, 0, none⟩)) from fun h1 h2 => by
    subst h1 h2
    rw [hl.same hn.left, hr.same hn.right]
    exact hn.tree)
  clear hl hr hR hn x1 x2
  by_cases h1 : la' = la
  · subst h1
    rw [decide_eq_true rfl] at q1
    by_cases h2 : ra' = ra
    · subst h2
      rw [decide_eq_true rfl] at q2
      have HT := Lib.hid (HS.out rfl rfl)
      clear HS
      go_enter Try.func105, Try.ntmps105
      go_wp2_with fail
      go_ret
      exact ⟨_, rfl, HT.out, Touch.refl _ _⟩
    · rw [decide_eq_false h2] at q2
      clear h2
      go_enter Try.func105, Try.ntmps105
      go_wp2_with fail
      refine HNN.out.mono ?_
      rintro e w' ⟨v, rfl, h⟩
      obtain ⟨va, rfl⟩ := h.1.form
      go_wp2_with fail
      go_ret
      exact ⟨_, rfl, h⟩
  · rw [decide_eq_false h1] at q1
    clear h1
    go_enter Try.func105, Try.ntmps105
    go_wp2_with fail
    refine HNN.out.mono ?_
    rintro e w' ⟨v, rfl, h⟩
    obtain ⟨va, rfl⟩ := h.1.form
    go_wp2_with fail
    go_ret
    exact ⟨_, rfl, h⟩

/-- Where a key leads. -/
theorem towardN_any {seed : Int} {R : Nat → Prop} {w : World} {b : Nat} {iv : Value} {la ra : Option Addr} {l r : Tree} {k u : Key} (hn : NodeV seed R w b iv la ra l k u r) {kx : Value} {key : Key} (hk : BV w kx key) :
    Calls Try.prog 88 #[.pointer (some ⟨b, 0, none⟩), kx] w fun e w' => e = .returned (.pointer (if klt key k = true then la else ra)) ∧ w = w' := by
  obtain ⟨ib, kv, uv, rfl, _, hih, hmk, _, _⟩ := hn.item
  obtain ⟨x0, x1, x2, x3, x4⟩ := node_cells hn.blk
  obtain ⟨y0, _, _⟩ := item_cells hih
  have HC := Lib.hid (compareP_any hk hmk.bv)
  obtain ⟨a1, l1, c1, rfl⟩ := hmk.1.form
  obtain ⟨a2, c2, rfl, _, _⟩ := hk
  cases hq : klt key k with
  | true =>
    have hz : decide (Lib.compareBytes key k < 0) = true := hq
    rw [if_pos rfl]
    generalize Lib.compareBytes key k = z at *
    generalize key.length = ql at *
    clear hn hih hmk x1 x2 hq
    go_enter Try.func88, Try.ntmps88
    go_wp2_with fail
    refine HC.out.mono ?_
    rintro e w' ⟨rfl, rfl⟩
    go_wp2_with fail
    go_ret
    exact ⟨rfl, rfl⟩
  | false =>
    have hz : decide (Lib.compareBytes key k < 0) = false := hq
    rw [if_neg (by decide)]
    generalize Lib.compareBytes key k = z at *
    generalize key.length = ql at *
    clear hn hih hmk x1 x2 hq
    go_enter Try.func88, Try.ntmps88
    go_wp2_with fail
    refine HC.out.mono ?_
    rintro e w' ⟨rfl, rfl⟩
    go_wp2_with fail
    go_ret
    exact ⟨rfl, rfl⟩

/-- The node of a key. -/
def FindT (seed : Int) (R : Nat → Prop) (w : World) (key : Key) (t : Tree) (v : Value) : Prop :=
  (v = .pointer none ∧ ∀ x ∈ t.toL, x.1 ≠ key) ∨ ∃ b iv la ra l u r, v = .pointer (some ⟨b, 0, none⟩) ∧ NodeV seed R w b iv la ra l key u r ∧ (key, u) ∈ t.toL
def FindPost (seed : Int) (R : Nat → Prop) (key : Key) (t : Tree) (w : World) (e : Ending) (w' : World) : Prop := ∃ v, e = .returned v ∧ FindT seed R w key t v ∧ w = w'
set_option maxRecDepth 100000 in
set_option maxHeartbeats 2000000 in
theorem find_any {seed : Int} {R : Nat → Prop} {w : World} {t : Tree} {v kx : Value} {key : Key} (h : TreeAt seed R w t v) (hs : Srt t.toL) (hk : BV w kx key) :
    Calls Try.prog 73 #[v, kx] w (FindPost seed R key t w) := by
  have HK := Lib.hid hk
  have HH := Lib.hid h
  have HSR := Lib.hid hs
  obtain ⟨qa, qc, rfl, _, _⟩ := hk
  have HE : ∃ ql, key.length = ql := ⟨_, rfl⟩
  obtain ⟨ql, eql⟩ := HE
  rw [eql] at HK ⊢
  obtain ⟨va, rfl⟩ := h.form
  clear h hs eql
  go_enter Try.func73, Try.ntmps73
  go_wp2_with fail
  go_loopg [0] t.size (fun m n wr => w = wr ∧ ∃ (a : Option Addr) (s : Tree), n = .pointer a ∧ Hid (TreeAt seed R w s (.pointer a) ∧ Srt s.toL ∧ (∀ x ∈ s.toL, x ∈ t.toL) ∧ (∀ x ∈ t.toL, x.1 = key → x ∈ s.toL) ∧ s.size ≤ m))
  case atStart => exact ⟨rfl, _, t, rfl, Lib.hid ⟨HH.out, HSR.out, fun _ h => h, fun _ h _ => h, Nat.le_refl _⟩⟩
  obtain ⟨rfl, a, s, rfl, HX⟩ := hrel
  cases s with
  | nil =>
    obtain rfl : a = none := by have h : Value.pointer a = .pointer none := HX.out.1; injection h
    go_wp2_with fail
    go_ret
    exact ⟨_, rfl, .inl ⟨rfl, fun x hx e => by have := HX.out.2.2.2.1 x hx e; simp [Tree.toL] at this⟩, rfl⟩
  | node l k u r =>
    obtain ⟨b, ib, la, ra, hb, hn⟩ := HX.out.1.node
    injection hb with hb
    subst hb
    have HNV := Lib.hid hn
    obtain ⟨_, kv, uv, e, _, hih, hmk, _, _⟩ := hn.item
    cases e
    obtain ⟨x0, x1, x2, x3, x4⟩ := node_cells hn.blk
    obtain ⟨y0, _, _⟩ := item_cells hih
    have HEQ := Lib.hid (equalV_any HK.out hmk.bv)
    have HTW := Lib.hid (towardN_any hn HK.out)
    obtain ⟨s1, s2, a1, a2⟩ := srt_node.1 HX.out.2.1
    have HL := Lib.hid (And.intro a1 a2)
    have HS1 := Lib.hid (And.intro s1 s2)
    obtain ⟨ka, kl, kc, rfl⟩ := hmk.1.form
    clear hih hmk x1 x2 a1 a2 s1 s2 hn
    by_cases hkq : key = k
    · subst hkq
      rw [decide_eq_true rfl] at HEQ
      have hmem : (key, u) ∈ t.toL := HX.out.2.2.1 _ (by simp [Tree.toL])
      have HM := Lib.hid hmem
      clear hmem
      go_wp2_with fail
      refine HEQ.out.mono ?_
      rintro e w' ⟨rfl, rfl⟩
      go_wp2_with fail
      go_ret
      exact ⟨_, rfl, .inr ⟨b, _, la, ra, l, u, r, rfl, HNV.out, HM.out⟩, rfl⟩
    · rw [decide_eq_false hkq] at HEQ
      have HKQ := Lib.hid hkq
      clear hkq
      have HE : ∃ c, (if klt key k = true then la else ra) = c := ⟨_, rfl⟩
      obtain ⟨c, ec⟩ := HE
      rw [ec] at HTW
      have HC := Lib.hid ec
      clear ec
      go_wp2_with fail
      refine HEQ.out.mono ?_
      rintro e w' ⟨rfl, rfl⟩
      go_wp2_with fail
      refine HTW.out.mono ?_
      rintro e w' ⟨rfl, rfl⟩
      go_wp2_with fail
      obtain ⟨_, _, hsub, hsup, hsz⟩ := HX.out
      simp only [Tree.size] at hsz
      by_cases hlt : klt key k = true
      · have hc := HC.out
        rw [if_pos hlt] at hc
        subst hc
        have hup : ∀ x ∈ t.toL, x.1 = key → x ∈ l.toL := fun x hx e => by
          have h := hsup x hx e
          simp only [Tree.toL, List.mem_append, List.mem_cons] at h
          rcases h with h | h | h
          · exact h
          · rw [h] at e; exact absurd e.symm HKQ.out
          · have := HL.out.2 x h; rw [e, klt_ko.asym hlt] at this; cases this
        go_roundg l.size
        case measure => omega
        case rel => exact ⟨rfl, _, l, rfl, Lib.hid ⟨HNV.out.left, HS1.out.1, fun x hx => hsub x (by simp [Tree.toL, hx]), hup, Nat.le_refl _⟩⟩
      · have hc := HC.out
        rw [if_neg hlt] at hc
        subst hc
        have hgt : klt k key = true := (klt_false.1 (by simpa using hlt)).resolve_left HKQ.out
        have hup : ∀ x ∈ t.toL, x.1 = key → x ∈ r.toL := fun x hx e => by
          have h := hsup x hx e
          simp only [Tree.toL, List.mem_append, List.mem_cons] at h
          rcases h with h | h | h
          · have := HL.out.1 x h; rw [e, klt_ko.asym hgt] at this; cases this
          · rw [h] at e; exact absurd e.symm HKQ.out
          · exact h
        go_roundg r.size
        case measure => omega
        case rel => exact ⟨rfl, _, r, rfl, Lib.hid ⟨HNV.out.right, HS1.out.2, fun x hx => hsub x (by simp [Tree.toL, hx]), hup, Nat.le_refl _⟩⟩
end Go.Proofs.Ytbckakpgfmcljaa
