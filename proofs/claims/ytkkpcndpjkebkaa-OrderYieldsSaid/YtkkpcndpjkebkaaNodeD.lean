import Derived.Test.YtkkpcndpjkebkaaNode
import Derived.Deep.RegionHeld3
import Derived.LaidEqlPtr
import Derived.Deep.LoopGhost
/- Items and nodes: how they are made and asked. -/
namespace Go.Proofs.Ytkkpcndpjkebkaa
open Go.ChangeShapes Go.WideShapes Go.ChangeAt Go.RowKit Go.Deep

theorem digestOf_any {seed : Int} {R : Nat → Prop} {w : World} {t : Tree} {v : Value} (h : TreeAt seed R w t v) :
    Calls Try.prog 79 #[v] w fun e w' => e = .returned (.int .u64 ((digT seed t : Nat) : Int)) ∧ w' = w := by
  cases t with
  | nil =>
    obtain rfl : v = _ := h
    go_enter Try.func79, Try.ntmps79
    go_wp2_with fail
    go_ret
    exact ⟨rfl, rfl⟩
  | node l k u r =>
    obtain ⟨b, iv, lv, rv, rfl, _, hh, _⟩ := h
    obtain ⟨_, c1, _, _, _⟩ := node_cells hh
    generalize digT seed (.node l k u r) = d at *
    clear hh
    go_enter Try.func79, Try.ntmps79
    go_wp2_with fail
    go_ret
    exact ⟨rfl, rfl⟩
theorem sizeOf_any {seed : Int} {R : Nat → Prop} {w : World} {t : Tree} {v : Value} (h : TreeAt seed R w t v) :
    Calls Try.prog 70 #[v] w fun e w' => e = .returned (.int .i64 ((t.size : Nat) : Int)) ∧ w' = w := by
  cases t with
  | nil =>
    obtain rfl : v = _ := h
    go_enter Try.func70, Try.ntmps70
    go_wp2_with fail
    go_ret
    exact ⟨rfl, rfl⟩
  | node l k u r =>
    obtain ⟨b, iv, lv, rv, rfl, _, hh, _⟩ := h
    obtain ⟨_, _, c2, _, _⟩ := node_cells hh
    generalize Tree.size (.node l k u r) = d at *
    clear hh
    go_enter Try.func70, Try.ntmps70
    go_wp2_with fail
    go_ret
    exact ⟨rfl, rfl⟩

def ItemPost (seed : Int) (R : Nat → Prop) (k u : Key) (w : World) (e : Ending) (w' : World) : Prop := ∃ iv, e = .returned iv ∧ ItemAt seed R w' iv k u ∧ Touch Nil w w'
theorem OwnB.mb {R : Nat → Prop} {base : Nat} {w : World} {v : Value} {l : Key} (h : OwnB base w v l) (hR : ∀ b, base ≤ b → R b) : MB R w v l := ⟨h.base (Nat.zero_le _), fun b hb => hR b (h.block b hb).1⟩
set_option maxRecDepth 100000 in
set_option maxHeartbeats 2000000 in
theorem newItem_any (seed : Int) (R : Nat → Prop) {w : World} {kx ux : Value} {k u : Key} (hk : BV w kx k) (hu : BV w ux u) (hok : okK k u) (hR : ∀ b, w.heap.size ≤ b → R b) :
    Calls Try.prog 98 #[.int .u64 seed, kx, ux] w (ItemPost seed R k u w) := by
  have HK := Lib.hid hk
  have HU := Lib.hid hu
  have HR := Lib.hid hR
  have HOK := Lib.hid hok
  obtain ⟨ka, kc, rfl, _, hks⟩ := hk
  obtain ⟨ua, uc, rfl, _, _⟩ := hu
  have HCO := Lib.hid (fun w' (ht : Touch Nil w w') => by have := coinP_any seed 3 (ub k) ka kc w' (by have := hok.2.1; simp; omega) (hks.keepN ht); rw [ub_length] at this; exact this)
  have HH := Lib.hid (show coin seed 3 (ub k) = hgt seed k from rfl)
  have HE : ∃ kl, k.length = kl := ⟨_, rfl⟩
  obtain ⟨kl, ekl⟩ := HE
  have HE : ∃ ul, u.length = ul := ⟨_, rfl⟩
  obtain ⟨ul, eul⟩ := HE
  rw [ekl] at HK
  rw [eul] at HU
  simp only [ekl] at HCO
  rw [ekl, eul]
  generalize coin seed 3 (ub k) = y at *
  clear hks hR hok ekl eul
  go_enter Try.func98, Try.ntmps98
  go_wp2_with fail
  refine (bytesClone_any _ k w HK.out (by have := HOK.out.2.1; omega)).mono ?_
  rintro e w1 ⟨v1, rfl, ho1, ht1⟩
  obtain ⟨a1, l1, c1, rfl⟩ := ho1.form
  have HO1 := Lib.hid ho1
  have HT1 := Lib.hid ht1
  clear ho1 ht1
  go_wp2_with fail
  refine (bytesClone_any _ u w1 (HU.out.keepN HT1.out) (by have := HOK.out.2.2; omega)).mono ?_
  rintro e w2 ⟨v2, rfl, ho2, ht2⟩
  obtain ⟨a2, l2, c2, rfl⟩ := ho2.form
  have HO2 := Lib.hid ho2
  have HO1 := Lib.hid (HO1.out.keep ht2 (fun _ _ c => c))
  have HT2 := Lib.hid (HT1.out.trans ht2)
  have HW1 := Lib.hid HT1.out.size
  clear ho2 ht2
  go_wp2_with fail
  refine (HCO.out _ HT2.out).mono ?_
  rintro e w3 ⟨rfl, rfl⟩
  go_wp2_with fail
  go_ret
  have hta := (Touch.refl Nil w2).alloc (.cells #[.slice a1 l1 c1, .slice a2 l2 c2, .int .u64 y] 129)
  refine ⟨_, rfl, ⟨w2.heap.size, .slice a1 l1 c1, .slice a2 l2 c2, rfl, HR.out _ HT2.out.size, ?_, ?_, ?_, HOK.out⟩, HT2.out.trans hta⟩
  · rw [← HH.out]; exact heap_alloc_new _ _
  · exact (HO1.out.keep hta (fun _ _ c => c)).mb HR.out
  · exact (HO2.out.keep hta (fun _ _ c => c)).mb fun b hb => HR.out b (by have := HW1.out; omega)

/-- An answer of a function that only reads. -/
def QuB (r : Bool) (w : World) (e : Ending) (w' : World) : Prop := e = .returned (.bool r) ∧ ∃ n, w' = w.drewN n
set_option maxRecDepth 100000 in
set_option maxHeartbeats 2000000 in
theorem above_any {seed : Int} {R R' : Nat → Prop} {w : World} {iv iv' : Value} {k u k' u' : Key} (h : ItemAt seed R w iv k u) (h' : ItemAt seed R' w iv' k' u') :
    Calls Try.prog 109 #[iv, iv'] w (QuB (abv seed k k') w) := by
  obtain ⟨b, kx, ux, rfl, _, hh, h1, _, _⟩ := h
  obtain ⟨b', kx', ux', rfl, _, hh', h1', _, _⟩ := h'
  obtain ⟨x0, _, x2⟩ := item_cells hh
  obtain ⟨y0, _, y2⟩ := item_cells hh'
  have HC := Lib.hid (fun n => compareP_any (w := w.drewN n) (x := kx) (y := kx') (h1.bv.keepN ((Touch.refl Nil w).drewN n)) (h1'.bv.keepN ((Touch.refl Nil w).drewN n)))
  have HR := Lib.hid (show abv seed k k' = (decide (hgt seed k' < hgt seed k) || (decide (hgt seed k = hgt seed k') && decide (Lib.compareBytes k k' < 0))) from rfl)
  obtain ⟨a1, l1, c1, rfl⟩ := h1.1.form
  obtain ⟨a2, l2, c2, rfl⟩ := h1'.1.form
  generalize abv seed k k' = r at *
  generalize hgt seed k = x at *
  generalize hgt seed k' = y at *
  generalize Lib.compareBytes k k' = z at *
  clear hh hh' h1 h1'
  rcases Int.lt_trichotomy y x with o | o | o
  · have hd : decide (y < x) = true := by simpa using o
    go_enter Try.func109, Try.ntmps109
    go_wp2_with fail
    go_quiet (fail)
    go_wp2_with fail
    go_ret
    exact ⟨by rw [HR.out, hd]; rfl, _, rfl⟩
  · have hd : decide (y < x) = false := by simp; omega
    have hq : ((x : Int) == y) = true := by simp; omega
    have HQ := Lib.hid (show decide (x = y) = true by simp; omega)
    have HD := Lib.hid hd
    clear o
    go_enter Try.func109, Try.ntmps109
    go_wp2_with fail
    go_quiet ((go_at_call 91; refine Calls.quiet_of_same (v := .int .i64 z) ?_; exact (HC.out _).mono fun _ _ h => ⟨h.1, h.2.symm⟩))
    go_wp2_with fail
    go_ret
    exact ⟨by rw [HR.out, HD.out, HQ.out]; rfl, _, rfl⟩
  · have hd : decide (y < x) = false := by simp; omega
    have hq : ((x : Int) == y) = false := by simp; omega
    have HQ := Lib.hid (show decide (x = y) = false by simp; omega)
    have HD := Lib.hid hd
    clear o
    go_enter Try.func109, Try.ntmps109
    go_wp2_with fail
    go_quiet (fail)
    go_wp2_with fail
    go_ret
    exact ⟨by rw [HR.out, HD.out, HQ.out]; rfl, _, rfl⟩
end Go.Proofs.Ytkkpcndpjkebkaa

/- Nodes are made. -/
namespace Go.Proofs.Ytkkpcndpjkebkaa
open Go.ChangeShapes Go.WideShapes Go.ChangeAt Go.RowKit Go.Deep

theorem mixed : Try.prog.follows .mixedOrders = true := by kernel_rfl
def TreePost (seed : Int) (R : Nat → Prop) (t : Tree) (w : World) (e : Ending) (w' : World) : Prop := ∃ v, e = .returned v ∧ TreeAt seed R w' t v ∧ Touch Nil w w'
/-- What is known of two cells while a region goes on. -/
abbrev LdS (ib : Nat) (x y : Value) (w0 w' : World) : Prop := w'.cell? ⟨ib, 0, none⟩ = some x ∧ w'.cell? ⟨ib, 1, none⟩ = some y ∧ Hid (Touch Nil w0 w')
theorem cell_step {w w' : World} {b o : Nat} {x : Value} (h : w.cell? ⟨b, o, none⟩ = some x) (ht : Touch Nil w w') : w'.cell? ⟨b, o, none⟩ = some x := (ht.cell (World.block_lt_of_cell? w _ h) (fun c => c) o).trans h
theorem LdS.step {ib : Nat} {x y : Value} {w0 w w' : World} (h : LdS ib x y w0 w) (ht : Touch Nil w w') : LdS ib x y w0 w' := ⟨cell_step h.1 ht, cell_step h.2.1 ht, Lib.hid (h.2.2.out.trans ht)⟩
set_option maxRecDepth 100000 in
set_option maxHeartbeats 2000000 in
theorem newNode_any {seed : Int} {R : Nat → Prop} {w : World} {iv lv rv : Value} {l r : Tree} {k u : Key} (hi : ItemAt seed R w iv k u) (hl : TreeAt seed R w l lv) (hr : TreeAt seed R w r rv) (hR : ∀ b, w.heap.size ≤ b → R b) (hsz : l.size + r.size ≤ 1000000000) :
    Calls Try.prog 110 #[.int .u64 seed, iv, lv, rv] w (TreePost seed R (.node l k u r) w) := by
  have HI := Lib.hid hi
  have HL := Lib.hid hl
  have HR := Lib.hid hr
  have HRR := Lib.hid hR
  obtain ⟨ib, kx, ux, rfl, _, hih, hk, hu, hok⟩ := hi
  obtain ⟨x0, x1, _⟩ := item_cells hih
  have hib := lt_of_heap hih
  obtain ⟨a1, l1, c1, rfl⟩ := hk.1.form
  obtain ⟨a2, l2, c2, rfl⟩ := hu.1.form
  have HK := Lib.hid hk.bv
  have HU := Lib.hid hu.bv
  have HOK := Lib.hid hok
  have HDL := Lib.hid (fun w' (ht : Touch Nil w w') => (digestOf_any (hl.keepN ht)).mono (R' := fun e w'' => e = .returned (.int .u64 ((digT seed l : Nat) : Int)) ∧ w' = w'') fun _ _ h => ⟨h.1, h.2.symm⟩)
  have HDR := Lib.hid (fun w' (ht : Touch Nil w w') => (digestOf_any (hr.keepN ht)).mono (R' := fun e w'' => e = .returned (.int .u64 ((digT seed r : Nat) : Int)) ∧ w' = w'') fun _ _ h => ⟨h.1, h.2.symm⟩)
  have HST := Lib.hid (show LdS ib (.slice a1 l1 c1) (.slice a2 l2 c2) w w from ⟨x0, x1, Lib.hid (Touch.refl _ _)⟩)
  obtain ⟨la, rfl⟩ := hl.form
  obtain ⟨ra, rfl⟩ := hr.form
  have hdl := digT_bd seed l
  have hdr := digT_bd seed r
  have HMK := Lib.hid (show digT seed (.node l k u r) = markN seed (digT seed l) k u (digT seed r) from rfl)
  have HE : ∃ dl, digT seed l = dl := ⟨_, rfl⟩
  obtain ⟨dl, edl⟩ := HE
  have HE : ∃ dr, digT seed r = dr := ⟨_, rfl⟩
  obtain ⟨dr, edr⟩ := HE
  simp only [edl] at HDL HMK hdl
  simp only [edr] at HDR HMK hdr
  clear hl hr hR hih hk hu hok edl edr
  go_enter Try.func110, Try.ntmps110
  go_wp2_with fail
  go_region_held3 (fun w' => w'.cell? ⟨ib, 0, none⟩ = some (.slice a1 l1 c1) ∧ w'.cell? ⟨ib, 1, none⟩ = some (.slice a2 l2 c2) ∧ Hid (Touch Nil w w'))
    (first | exact HST.out.step (Touch.refl Nil w).drew | exact HST.out.step ((Touch.refl Nil w).alloc _).drew)
    (first
      | (go_at_call_of 79 (Value.pointer la); refine (HDL.out _ (Hid.out (And.right (And.right (by assumption))))).mono ?_; rintro e w3 ⟨rfl, rfl⟩)
      | (go_at_call_of 79 (Value.pointer ra); refine (HDR.out _ (Hid.out (And.right (And.right (by assumption))))).mono ?_; rintro e w3 ⟨rfl, rfl⟩))
  all_goals
    go_wp2_with fail
    have HTA := Lib.hid (show Touch Nil w (w.alloc (.cells #[.slice a1 l1 c1, .slice a2 l2 c2, .int .u64 (dl : Int), .int .u64 (dr : Int)] 76)).drew from ((Touch.refl Nil w).alloc _).drew)
    have HSD := Lib.hid (sideDigest_any seed k u (.slice a1 l1 c1) (.slice a2 l2 c2) dl dr _ (HK.out.keepN HTA.out) (HU.out.keepN HTA.out) (by have := HOK.out.2.1; omega) (by have := HOK.out.2.2; omega) hdl hdr)
    generalize (w.alloc (.cells #[.slice a1 l1 c1, .slice a2 l2 c2, .int .u64 (dl : Int), .int .u64 (dr : Int)] 76)).drew = w1 at *
    refine HSD.out.mono ?_
    rintro e w2 ⟨rfl, ht2⟩
    have HT2 := Lib.hid (HTA.out.trans ht2)
    have HSL := Lib.hid (sizeOf_any (HL.out.keepN HT2.out))
    have HSR := Lib.hid (sizeOf_any (HR.out.keepN HT2.out))
    have HSZ := Lib.hid (show (Tree.node l k u r).size = l.size + 1 + r.size from rfl)
    generalize markN seed dl k u dr = d at *
    have HE : ∃ sl, l.size = sl := ⟨_, rfl⟩
    obtain ⟨sl, esl⟩ := HE
    have HE : ∃ sr, r.size = sr := ⟨_, rfl⟩
    obtain ⟨sr, esr⟩ := HE
    rw [esl] at HSL HSZ hsz
    rw [esr] at HSR HSZ hsz
    clear ht2 HSD esl esr x0 x1
    go_wp2_with fail
    refine HSL.out.mono ?_
    rintro e w3 ⟨rfl, rfl⟩
    go_wp2_with fail
    refine HSR.out.mono ?_
    rintro e w4 ⟨rfl, rfl⟩
    go_wp2_with fail
    go_ret
    have hta := (Touch.refl Nil w4).alloc (.cells #[.pointer (some ⟨ib, 0, none⟩), .int .u64 (d : Int), .int .i64 ((sl : Int) + 1 + (sr : Int)), .pointer la, .pointer ra] 127)
    have ht := HT2.out.trans hta
    refine ⟨_, rfl, ⟨w4.heap.size, _, _, _, rfl, HRR.out _ HT2.out.size, ?_, HI.out.keepN ht, HL.out.keepN ht, HR.out.keepN ht⟩, ht⟩
    rw [HMK.out, HSZ.out]
    exact heap_alloc_new _ _
end Go.Proofs.Ytkkpcndpjkebkaa

/- Nodes over other children; the way to a key. -/
namespace Go.Proofs.Ytkkpcndpjkebkaa
open Go.ChangeShapes Go.WideShapes Go.ChangeAt Go.RowKit Go.Deep

/-- What a node is, for a walk. -/
structure NodeV (seed : Int) (R : Nat → Prop) (w : World) (b : Nat) (iv : Value) (la ra : Option Addr) (l : Tree) (k u : Key) (r : Tree) : Prop where
  blk : w.heap[b]? = some (.cells #[iv, .int .u64 ((digT seed (.node l k u r) : Nat) : Int), .int .i64 (((Tree.node l k u r).size : Nat) : Int), .pointer la, .pointer ra] 127 (0, 0))
  own : R b
  item : ItemAt seed R w iv k u
  left : TreeAt seed R w l (.pointer la)
  right : TreeAt seed R w r (.pointer ra)
theorem TreeAt.node {seed : Int} {R : Nat → Prop} {w : World} {l r : Tree} {k u : Key} {v : Value} (h : TreeAt seed R w (.node l k u r) v) :
    ∃ b ib la ra, v = .pointer (some ⟨b, 0, none⟩) ∧ NodeV seed R w b (.pointer (some ⟨ib, 0, none⟩)) la ra l k u r := by
  obtain ⟨b, iv, lv, rv, e, hr, hh, hi, hl, hr'⟩ := h
  obtain ⟨ib, rfl⟩ := hi.form
  obtain ⟨la, rfl⟩ := hl.form
  obtain ⟨ra, rfl⟩ := hr'.form
  exact ⟨b, ib, la, ra, e, hh, hr, hi, hl, hr'⟩
theorem NodeV.tree {seed : Int} {R : Nat → Prop} {w : World} {b : Nat} {iv : Value} {la ra : Option Addr} {l r : Tree} {k u : Key} (h : NodeV seed R w b iv la ra l k u r) : TreeAt seed R w (.node l k u r) (.pointer (some ⟨b, 0, none⟩)) :=
  ⟨b, iv, _, _, rfl, h.own, h.blk, h.item, h.left, h.right⟩
theorem NodeV.keep {seed : Int} {R S : Nat → Prop} {w w' : World} {b : Nat} {iv : Value} {la ra : Option Addr} {l r : Tree} {k u : Key} (h : NodeV seed R w b iv la ra l k u r) (ht : Touch S w w') (hS : ∀ b, R b → ¬ S b) : NodeV seed R w' b iv la ra l k u r :=
  ⟨(ht.same b (lt_of_heap h.blk) (hS b h.own)).trans h.blk, h.own, h.item.keep ht hS, h.left.keep ht hS, h.right.keep ht hS⟩
theorem NodeV.keepN {seed : Int} {R : Nat → Prop} {w w' : World} {b : Nat} {iv : Value} {la ra : Option Addr} {l r : Tree} {k u : Key} (h : NodeV seed R w b iv la ra l k u r) (ht : Touch Nil w w') : NodeV seed R w' b iv la ra l k u r := h.keep ht fun _ _ c => c

theorem info_node : ∃ j, Try.prog.info? 127 = some j ∧ j.size ≠ 0 := by
  have h : (Try.prog.info? 127).map (fun i => i.size) = some 5 := by kernel_rfl
  cases e : Try.prog.info? 127 with
  | none => rw [e] at h; cases h
  | some j => rw [e] at h; exact ⟨j, rfl, by simp only [Option.map_some, Option.some.injEq] at h; omega⟩
set_option maxRecDepth 100000 in
/-- Two nodes are held against each other. -/
theorem eql_tree {seed seed' : Int} {R R' : Nat → Prop} {w : World} {t t' : Tree} {la ra : Option Addr} (h : TreeAt seed R w t (.pointer la)) (h' : TreeAt seed' R' w t' (.pointer ra)) :
    (binOp .eql 123 (.pointer la) (.pointer ra)).run Try.prog w = .ok (.bool (decide (la = ra))) w := by
  obtain ⟨j, hj, hz⟩ := info_node
  have hu : Try.prog.underlying 123 = some (.pointer 127) := Try.underlying123
  cases t with
  | nil =>
    have e : Value.pointer la = .pointer none := h
    injection e with e
    subst e
    cases ra with
    | none => rw [run_eql_pointer_nil w _ _ (by rw [hu]; kernel_rfl)]; rfl
    | some b =>
      have hq : ∀ d : Nat, (Op.equalIn (d + 1) 123 (.pointer none) (.pointer (some b))).run Try.prog w = .ok false w := fun d => by simp [Op.equalIn, run_underlying hu]
      simp only [binOp]
      simp [Op.equal, Op.maxDepth, hq 9999]
  | node l k u r =>
    obtain ⟨b, _, _, _, e, _, hb, _⟩ := h
    injection e with e
    subst e
    cases t' with
    | nil =>
      have e : Value.pointer ra = .pointer none := h'
      injection e with e
      subst e
      rw [run_eql_pointer_nil w _ _ (by rw [hu]; kernel_rfl)]; rfl
    | node l' k' u' r' =>
      obtain ⟨b', _, _, _, e, _, hb', _⟩ := h'
      injection e with e
      subst e
      by_cases hbb : b = b'
      · subst hbb
        rw [run_eql_ptr_same w _ hu hj]; simp
      · rw [run_eql_ptr_other w hu hj hz (a := ⟨b, 0, none⟩) (b := ⟨b', 0, none⟩) (by simp [hbb]) hb hb']
        simp [hbb]

set_option maxRecDepth 100000 in
set_option maxHeartbeats 2000000 in
theorem over_any {seed : Int} {R : Nat → Prop} {w : World} {v lv rv : Value} {l r l' r' : Tree} {k u : Key} (h : TreeAt seed R w (.node l k u r) v) (hl : TreeAt seed R w l' lv) (hr : TreeAt seed R w r' rv) (hR : ∀ b, w.heap.size ≤ b → R b) (hsz : l'.size + r'.size ≤ 1000000000) :
    Calls Try.prog 105 #[v, .int .u64 seed, lv, rv] w (TreePost seed R (.node l' k u r') w) := by
  obtain ⟨b, ib, la, ra, rfl, hn⟩ := h.node
  obtain ⟨la', rfl⟩ := hl.form
  obtain ⟨ra', rfl⟩ := hr.form
  obtain ⟨x0, x1, x2, x3, x4⟩ := node_cells hn.blk
  have HNN := Lib.hid (newNode_any hn.item hl hr hR hsz)
  have q1 := eql_tree hl hn.left
  have q2 := eql_tree hr hn.right
  have HS := Lib.hid (show la' = la → ra' = ra → TreeAt seed R w (.node l' k u r') (.pointer (some ⟨b, 0, none⟩)) from fun h1 h2 => by
    subst h1 h2
    rw [hl.same hn.left, hr.same hn.right]
    exact hn.tree)
  clear hl hr hR hn x1 x2
  by_cases h1 : la' = la
  · subst h1
    rw [decide_eq_true rfl] at q1
    by_cases h2 : ra' = ra
    · subst h2
      rw [decide_eq_true rfl] at q2
      have HT := Lib.hid (HS.out rfl rfl)
      clear HS
      go_enter Try.func105, Try.ntmps105
      go_wp2_with fail
      go_ret
      exact ⟨_, rfl, HT.out, Touch.refl _ _⟩
    · rw [decide_eq_false h2] at q2
      clear h2
      go_enter Try.func105, Try.ntmps105
      go_wp2_with fail
      refine HNN.out.mono ?_
      rintro e w' ⟨v, rfl, h⟩
      obtain ⟨va, rfl⟩ := h.1.form
      go_wp2_with fail
      go_ret
      exact ⟨_, rfl, h⟩
  · rw [decide_eq_false h1] at q1
    clear h1
    go_enter Try.func105, Try.ntmps105
    go_wp2_with fail
    refine HNN.out.mono ?_
    rintro e w' ⟨v, rfl, h⟩
    obtain ⟨va, rfl⟩ := h.1.form
    go_wp2_with fail
    go_ret
    exact ⟨_, rfl, h⟩

/-- Where a key leads. -/
theorem towardN_any {seed : Int} {R : Nat → Prop} {w : World} {b : Nat} {iv : Value} {la ra : Option Addr} {l r : Tree} {k u : Key} (hn : NodeV seed R w b iv la ra l k u r) {kx : Value} {key : Key} (hk : BV w kx key) :
    Calls Try.prog 88 #[.pointer (some ⟨b, 0, none⟩), kx] w fun e w' => e = .returned (.pointer (if klt key k = true then la else ra)) ∧ w = w' := by
  obtain ⟨ib, kv, uv, rfl, _, hih, hmk, _, _⟩ := hn.item
  obtain ⟨x0, x1, x2, x3, x4⟩ := node_cells hn.blk
  obtain ⟨y0, _, _⟩ := item_cells hih
  have HC := Lib.hid (compareP_any hk hmk.bv)
  obtain ⟨a1, l1, c1, rfl⟩ := hmk.1.form
  obtain ⟨a2, c2, rfl, _, _⟩ := hk
  cases hq : klt key k with
  | true =>
    have hz : decide (Lib.compareBytes key k < 0) = true := hq
    rw [if_pos rfl]
    generalize Lib.compareBytes key k = z at *
    generalize key.length = ql at *
    clear hn hih hmk x1 x2 hq
    go_enter Try.func88, Try.ntmps88
    go_wp2_with fail
    refine HC.out.mono ?_
    rintro e w' ⟨rfl, rfl⟩
    go_wp2_with fail
    go_ret
    exact ⟨rfl, rfl⟩
  | false =>
    have hz : decide (Lib.compareBytes key k < 0) = false := hq
    rw [if_neg (by decide)]
    generalize Lib.compareBytes key k = z at *
    generalize key.length = ql at *
    clear hn hih hmk x1 x2 hq
    go_enter Try.func88, Try.ntmps88
    go_wp2_with fail
    refine HC.out.mono ?_
    rintro e w' ⟨rfl, rfl⟩
    go_wp2_with fail
    go_ret
    exact ⟨rfl, rfl⟩

/-- The node of a key. -/
def FindT (seed : Int) (R : Nat → Prop) (w : World) (key : Key) (t : Tree) (v : Value) : Prop :=
  (v = .pointer none ∧ ∀ x ∈ t.toL, x.1 ≠ key) ∨ ∃ b iv la ra l u r, v = .pointer (some ⟨b, 0, none⟩) ∧ NodeV seed R w b iv la ra l key u r ∧ (key, u) ∈ t.toL
def FindPost (seed : Int) (R : Nat → Prop) (key : Key) (t : Tree) (w : World) (e : Ending) (w' : World) : Prop := ∃ v, e = .returned v ∧ FindT seed R w key t v ∧ w = w'
set_option maxRecDepth 100000 in
set_option maxHeartbeats 2000000 in
theorem find_any {seed : Int} {R : Nat → Prop} {w : World} {t : Tree} {v kx : Value} {key : Key} (h : TreeAt seed R w t v) (hs : Srt t.toL) (hk : BV w kx key) :
    Calls Try.prog 73 #[v, kx] w (FindPost seed R key t w) := by
  have HK := Lib.hid hk
  have HH := Lib.hid h
  have HSR := Lib.hid hs
  obtain ⟨qa, qc, rfl, _, _⟩ := hk
  have HE : ∃ ql, key.length = ql := ⟨_, rfl⟩
  obtain ⟨ql, eql⟩ := HE
  rw [eql] at HK ⊢
  obtain ⟨va, rfl⟩ := h.form
  clear h hs eql
  go_enter Try.func73, Try.ntmps73
  go_wp2_with fail
  go_loopg [0] t.size (fun m n wr => w = wr ∧ ∃ (a : Option Addr) (s : Tree), n = .pointer a ∧ Hid (TreeAt seed R w s (.pointer a) ∧ Srt s.toL ∧ (∀ x ∈ s.toL, x ∈ t.toL) ∧ (∀ x ∈ t.toL, x.1 = key → x ∈ s.toL) ∧ s.size ≤ m))
  case atStart => exact ⟨rfl, _, t, rfl, Lib.hid ⟨HH.out, HSR.out, fun _ h => h, fun _ h _ => h, Nat.le_refl _⟩⟩
  obtain ⟨rfl, a, s, rfl, HX⟩ := hrel
  cases s with
  | nil =>
    obtain rfl : a = none := by have h : Value.pointer a = .pointer none := HX.out.1; injection h
    go_wp2_with fail
    go_ret
    exact ⟨_, rfl, .inl ⟨rfl, fun x hx e => by have := HX.out.2.2.2.1 x hx e; simp [Tree.toL] at this⟩, rfl⟩
  | node l k u r =>
    obtain ⟨b, ib, la, ra, hb, hn⟩ := HX.out.1.node
    injection hb with hb
    subst hb
    have HNV := Lib.hid hn
    obtain ⟨_, kv, uv, e, _, hih, hmk, _, _⟩ := hn.item
    cases e
    obtain ⟨x0, x1, x2, x3, x4⟩ := node_cells hn.blk
    obtain ⟨y0, _, _⟩ := item_cells hih
    have HEQ := Lib.hid (equalV_any HK.out hmk.bv)
    have HTW := Lib.hid (towardN_any hn HK.out)
    obtain ⟨s1, s2, a1, a2⟩ := srt_node.1 HX.out.2.1
    have HL := Lib.hid (And.intro a1 a2)
    have HS1 := Lib.hid (And.intro s1 s2)
    obtain ⟨ka, kl, kc, rfl⟩ := hmk.1.form
    clear hih hmk x1 x2 a1 a2 s1 s2 hn
    by_cases hkq : key = k
    · subst hkq
      rw [decide_eq_true rfl] at HEQ
      have hmem : (key, u) ∈ t.toL := HX.out.2.2.1 _ (by simp [Tree.toL])
      have HM := Lib.hid hmem
      clear hmem
      go_wp2_with fail
      refine HEQ.out.mono ?_
      rintro e w' ⟨rfl, rfl⟩
      go_wp2_with fail
      go_ret
      exact ⟨_, rfl, .inr ⟨b, _, la, ra, l, u, r, rfl, HNV.out, HM.out⟩, rfl⟩
    · rw [decide_eq_false hkq] at HEQ
      have HKQ := Lib.hid hkq
      clear hkq
      have HE : ∃ c, (if klt key k = true then la else ra) = c := ⟨_, rfl⟩
      obtain ⟨c, ec⟩ := HE
      rw [ec] at HTW
      have HC := Lib.hid ec
      clear ec
      go_wp2_with fail
      refine HEQ.out.mono ?_
      rintro e w' ⟨rfl, rfl⟩
      go_wp2_with fail
      refine HTW.out.mono ?_
      rintro e w' ⟨rfl, rfl⟩
      go_wp2_with fail
      obtain ⟨_, _, hsub, hsup, hsz⟩ := HX.out
      simp only [Tree.size] at hsz
      by_cases hlt : klt key k = true
      · have hc := HC.out
        rw [if_pos hlt] at hc
        subst hc
        have hup : ∀ x ∈ t.toL, x.1 = key → x ∈ l.toL := fun x hx e => by
          have h := hsup x hx e
          simp only [Tree.toL, List.mem_append, List.mem_cons] at h
          rcases h with h | h | h
          · exact h
          · rw [h] at e; exact absurd e.symm HKQ.out
          · have := HL.out.2 x h; rw [e, klt_ko.asym hlt] at this; cases this
        go_roundg l.size
        case measure => omega
        case rel => exact ⟨rfl, _, l, rfl, Lib.hid ⟨HNV.out.left, HS1.out.1, fun x hx => hsub x (by simp [Tree.toL, hx]), hup, Nat.le_refl _⟩⟩
      · have hc := HC.out
        rw [if_neg hlt] at hc
        subst hc
        have hgt : klt k key = true := (klt_false.1 (by simpa using hlt)).resolve_left HKQ.out
        have hup : ∀ x ∈ t.toL, x.1 = key → x ∈ r.toL := fun x hx e => by
          have h := hsup x hx e
          simp only [Tree.toL, List.mem_append, List.mem_cons] at h
          rcases h with h | h | h
          · have := HL.out.1 x h; rw [e, klt_ko.asym hgt] at this; cases this
          · rw [h] at e; exact absurd e.symm HKQ.out
          · exact h
        go_roundg r.size
        case measure => omega
        case rel => exact ⟨rfl, _, r, rfl, Lib.hid ⟨HNV.out.right, HS1.out.2, fun x hx => hsub x (by simp [Tree.toL, hx]), hup, Nat.le_refl _⟩⟩
end Go.Proofs.Ytkkpcndpjkebkaa

/- Trees are split and merged. -/
namespace Go.Proofs.Ytkkpcndpjkebkaa
open Go.ChangeShapes Go.WideShapes Go.ChangeAt Go.RowKit Go.Deep

theorem split_size (k : Key) : ∀ t : Tree, (splitT k t).1.size + (splitT k t).2.size = t.size
  | .nil => rfl
  | .node l x v r => by
    have h1 := split_size k l
    have h2 := split_size k r
    by_cases c : klt x k = true
    · simp only [splitT, c, if_true, Tree.size]; omega
    · simp only [splitT, c, Tree.size]; simp only [Bool.false_eq_true, if_false, Tree.size]; omega
theorem merge_size (ab : Key → Key → Bool) (a b : Tree) : (mergeT ab a b).size = a.size + b.size := by
  rw [size_toL, merge_toL, List.length_append, ← size_toL, ← size_toL]

def SplitPost (seed : Int) (R : Nat → Prop) (p : Tree × Tree) (w : World) (e : Ending) (w' : World) : Prop := ∃ a b, e = .returned (.tuple #[a, b]) ∧ TreeAt seed R w' p.1 a ∧ TreeAt seed R w' p.2 b ∧ Touch Nil w w'
set_option maxRecDepth 100000 in
set_option maxHeartbeats 2000000 in
theorem split_any {seed : Int} {R : Nat → Prop} {kx : Value} {key : Key} : ∀ (t : Tree) {w : World} {v : Value}, TreeAt seed R w t v → BV w kx key → (∀ b, w.heap.size ≤ b → R b) → t.size ≤ 1000000000 →
    Calls Try.prog 90 #[v, .int .u64 seed, kx] w (SplitPost seed R (splitT key t) w) := by
  intro t
  induction t with
  | nil =>
    intro w v h hk hR hsz
    obtain rfl : v = _ := h
    obtain ⟨qa, qc, rfl, _, _⟩ := hk
    go_enter Try.func90, Try.ntmps90
    go_wp2_with fail
    go_ret2
    exact ⟨_, _, rfl, rfl, rfl, Touch.refl _ _⟩
  | node l k u r ihl ihr =>
    intro w v h hk hR hsz
    obtain ⟨b, ib, la, ra, rfl, hn⟩ := h.node
    simp only [Tree.size] at hsz
    have IHL := Lib.hid (ihl hn.left hk hR (by omega))
    have IHR := Lib.hid (ihr hn.right hk hR (by omega))
    have HN := Lib.hid hn
    have HR := Lib.hid hR
    have HZL := Lib.hid (split_size key l)
    have HZR := Lib.hid (split_size key r)
    obtain ⟨_, kv, uv, e, _, hih, hmk, _, _⟩ := hn.item
    cases e
    obtain ⟨x0, _, _, x3, x4⟩ := node_cells hn.blk
    obtain ⟨y0, _, _⟩ := item_cells hih
    have HC := Lib.hid (compareP_any hmk.bv hk)
    obtain ⟨ka, kl, kc, rfl⟩ := hmk.1.form
    obtain ⟨qa, qc, rfl, _, _⟩ := hk
    have HE : ∃ ql, key.length = ql := ⟨_, rfl⟩
    obtain ⟨ql, eql⟩ := HE
    rw [eql] at HC IHL IHR ⊢
    have HSP := Lib.hid (show splitT key (.node l k u r) = if klt k key = true then (.node l k u (splitT key r).1, (splitT key r).2) else ((splitT key l).1, .node (splitT key l).2 k u r) from rfl)
    clear ihl ihr hn hih hmk hR eql h
    cases hq : klt k key with
    | true =>
      have HQ := Lib.hid hq
      have hz : decide (Lib.compareBytes k key < 0) = true := hq
      generalize Lib.compareBytes k key = z at *
      clear hq IHL
      go_enter Try.func90, Try.ntmps90
      go_wp2_with fail
      refine HC.out.mono ?_
      rintro e w' ⟨rfl, rfl⟩
      go_wp2_with fail
      refine IHR.out.mono ?_
      rintro e w2 ⟨a2, b2, rfl, ha, hb, ht⟩
      obtain ⟨aa, rfl⟩ := ha.form
      obtain ⟨ba, rfl⟩ := hb.form
      have x3 := cell_step x3 ht
      have HA := Lib.hid ha
      have HB := Lib.hid hb
      have HT := Lib.hid ht
      clear ha hb ht
      go_wp2_with fail
      refine (over_any (HN.out.keepN HT.out).tree (HN.out.left.keepN HT.out) HA.out (fun b hb => HR.out b (Nat.le_trans HT.out.size hb)) (by have := HZR.out; omega)).mono ?_
      rintro e w3 ⟨v3, rfl, h3, ht3⟩
      obtain ⟨va, rfl⟩ := h3.form
      have H3 := Lib.hid (And.intro h3 ht3)
      clear h3 ht3
      go_wp2_with fail
      go_ret2
      refine ⟨_, _, rfl, ?_, ?_, HT.out.trans H3.out.2⟩
      · rw [HSP.out, if_pos HQ.out]; exact H3.out.1
      · rw [HSP.out, if_pos HQ.out]; exact HB.out.keepN H3.out.2
    | false =>
      have HQ := Lib.hid (show ¬ klt k key = true by rw [hq]; decide)
      have hz : decide (Lib.compareBytes k key < 0) = false := hq
      generalize Lib.compareBytes k key = z at *
      clear hq IHR
      go_enter Try.func90, Try.ntmps90
      go_wp2_with fail
      refine HC.out.mono ?_
      rintro e w' ⟨rfl, rfl⟩
      go_wp2_with fail
      refine IHL.out.mono ?_
      rintro e w2 ⟨a2, b2, rfl, ha, hb, ht⟩
      obtain ⟨aa, rfl⟩ := ha.form
      obtain ⟨ba, rfl⟩ := hb.form
      have x4 := cell_step x4 ht
      have HA := Lib.hid ha
      have HB := Lib.hid hb
      have HT := Lib.hid ht
      clear ha hb ht
      go_wp2_with fail
      refine (over_any (HN.out.keepN HT.out).tree HB.out (HN.out.right.keepN HT.out) (fun b hb => HR.out b (Nat.le_trans HT.out.size hb)) (by have := HZL.out; omega)).mono ?_
      rintro e w3 ⟨v3, rfl, h3, ht3⟩
      obtain ⟨va, rfl⟩ := h3.form
      have H3 := Lib.hid (And.intro h3 ht3)
      clear h3 ht3
      go_wp2_with fail
      go_ret2
      refine ⟨_, _, rfl, ?_, ?_, HT.out.trans H3.out.2⟩
      · rw [HSP.out, if_neg HQ.out]; exact HA.out.keepN H3.out.2
      · rw [HSP.out, if_neg HQ.out]; exact H3.out.1

/-- What is known of two cells while a region goes on. -/
abbrev Ld2 (b o : Nat) (x : Value) (b' o' : Nat) (y : Value) (w0 w' : World) : Prop := w'.cell? ⟨b, o, none⟩ = some x ∧ w'.cell? ⟨b', o', none⟩ = some y ∧ Hid (Touch Nil w0 w')
theorem Ld2.step {b o b' o' : Nat} {x y : Value} {w0 w w' : World} (h : Ld2 b o x b' o' y w0 w) (ht : Touch Nil w w') : Ld2 b o x b' o' y w0 w' := ⟨cell_step h.1 ht, cell_step h.2.1 ht, Lib.hid (h.2.2.out.trans ht)⟩

set_option maxRecDepth 100000 in
set_option maxHeartbeats 2000000 in
theorem merge_any {seed : Int} {R : Nat → Prop} : ∀ (n : Nat) (s t : Tree) {w : World} {v v' : Value}, s.size + t.size ≤ n → TreeAt seed R w s v → TreeAt seed R w t v' → (∀ b, w.heap.size ≤ b → R b) → s.size + t.size ≤ 1000000000 →
    Calls Try.prog 94 #[.int .u64 seed, v, v'] w (TreePost seed R (mergeT (abv seed) s t) w) := by
  intro n
  induction n with
  | zero =>
    intro s t w v v' hn h h' hR hsz
    cases s with
    | node l k u r => simp only [Tree.size] at hn; omega
    | nil =>
      obtain rfl : v = _ := h
      have HH := Lib.hid h'
      have HM := Lib.hid (show mergeT (abv seed) .nil t = t by rw [mergeT])
      obtain ⟨a', rfl⟩ := h'.form
      clear h'
      go_enter Try.func94, Try.ntmps94
      go_wp2_with fail
      go_ret
      exact ⟨_, rfl, by rw [HM.out]; exact HH.out, Touch.refl _ _⟩
  | succ n ih =>
    intro s t w v v' hn h h' hR hsz
    cases s with
    | nil =>
      obtain rfl : v = _ := h
      have HH := Lib.hid h'
      have HM := Lib.hid (show mergeT (abv seed) .nil t = t by rw [mergeT])
      obtain ⟨a', rfl⟩ := h'.form
      clear h' ih
      go_enter Try.func94, Try.ntmps94
      go_wp2_with fail
      go_ret
      exact ⟨_, rfl, by rw [HM.out]; exact HH.out, Touch.refl _ _⟩
    | node l x u r =>
      cases t with
      | nil =>
        obtain rfl : v' = _ := h'
        have HM := Lib.hid (show mergeT (abv seed) (.node l x u r) .nil = .node l x u r by rw [mergeT])
        obtain ⟨b, ib, la, ra, rfl, hnv⟩ := h.node
        have HH := Lib.hid hnv
        clear h ih hnv
        go_enter Try.func94, Try.ntmps94
        go_wp2_with fail
        go_ret
        exact ⟨_, rfl, by rw [HM.out]; exact HH.out.tree, Touch.refl _ _⟩
      | node l' y u' r' =>
        obtain ⟨b, ib, la, ra, rfl, hn1⟩ := h.node
        obtain ⟨b', ib', la', ra', rfl, hn2⟩ := h'.node
        have HN1 := Lib.hid hn1
        have HN2 := Lib.hid hn2
        have HR := Lib.hid hR
        obtain ⟨x0, _, _, x3, x4⟩ := node_cells hn1.blk
        obtain ⟨y0, _, _, y3, y4⟩ := node_cells hn2.blk
        have HAB := Lib.hid (fun n => above_any (hn1.item.keepN ((Touch.refl Nil w).drewN n)) (hn2.item.keepN ((Touch.refl Nil w).drewN n)))
        have HM := Lib.hid (show mergeT (abv seed) (.node l x u r) (.node l' y u' r') = if abv seed x y = true then .node l x u (mergeT (abv seed) r (.node l' y u' r')) else .node (mergeT (abv seed) (.node l x u r) l') y u' r' by rw [mergeT])
        have HI1 := Lib.hid (fun w' (ht : Touch Nil w w') => ih r (.node l' y u' r') (w := w') (by simp only [Tree.size] at hn ⊢; omega) (hn1.right.keepN ht) (hn2.tree.keepN ht) (fun b hb => hR b (Nat.le_trans ht.size hb)) (by simp only [Tree.size] at hsz ⊢; omega))
        have HI2 := Lib.hid (fun w' (ht : Touch Nil w w') => ih (.node l x u r) l' (w := w') (by simp only [Tree.size] at hn ⊢; omega) (hn1.tree.keepN ht) (hn2.left.keepN ht) (fun b hb => hR b (Nat.le_trans ht.size hb)) (by simp only [Tree.size] at hsz ⊢; omega))
        have HZ1 := Lib.hid (merge_size (abv seed) r (.node l' y u' r'))
        have HZ2 := Lib.hid (merge_size (abv seed) (.node l x u r) l')
        have HO1 := Lib.hid (fun w' v3 (ht : Touch Nil w w') (h3 : TreeAt seed R w' (mergeT (abv seed) r (.node l' y u' r')) (.pointer v3)) => over_any (hn1.keepN ht).tree (hn1.left.keepN ht) h3 (fun b hb => hR b (Nat.le_trans ht.size hb)) (by rw [HZ1.out]; simp only [Tree.size] at hsz ⊢; omega))
        have HO2 := Lib.hid (fun w' v3 (ht : Touch Nil w w') (h3 : TreeAt seed R w' (mergeT (abv seed) (.node l x u r) l') (.pointer v3)) => over_any (hn2.keepN ht).tree h3 (hn2.right.keepN ht) (fun b hb => hR b (Nat.le_trans ht.size hb)) (by rw [HZ2.out]; simp only [Tree.size] at hsz ⊢; omega))
        clear h h' ih hn hsz hn1 hn2 hR HZ1 HZ2 HN1 HN2 HR
        cases hq : abv seed x y with
        | true =>
          have HQ := Lib.hid (show abv seed x y = true by rw [hq])
          rw [hq] at HAB
          have HST := Lib.hid (fun n => show Ld2 b 3 (.pointer la) b 4 (.pointer ra) w (w.drewN n) from ⟨x3, x4, Lib.hid ((Touch.refl Nil w).drewN n)⟩)
          rw [HM.out, if_pos HQ.out]
          clear hq HM
          go_enter Try.func94, Try.ntmps94
          go_wp2_with fail
          go_quiet ((go_at_call 109; exact Calls.quiet_of (HAB.out _)))
          go_wp2_with fail
          go_region_held3 (fun w' => w'.cell? ⟨b, 3, none⟩ = some (.pointer la) ∧ w'.cell? ⟨b, 4, none⟩ = some (.pointer ra) ∧ Hid (Touch Nil w w'))
            (first | exact (HST.out _).step (Touch.refl Nil _).drew | exact Ld2.step (by assumption) (by assumption))
            (first
              | (go_at_call 94; refine (HI1.out _ (Hid.out (And.right (And.right (by assumption))))).mono ?_; rintro e w3 ⟨v3, rfl, h3, ht3⟩; obtain ⟨va3, rfl⟩ := h3.form; have H3 := Lib.hid h3; clear h3)
              | (go_at_call 105; refine (HO1.out _ _ (Hid.out (And.right (And.right (by assumption)))) H3.out).mono ?_; rintro e w4 ⟨v4, rfl, h4, ht4⟩; obtain ⟨va4, rfl⟩ := h4.form; have H4 := Lib.hid (And.intro h4 (show Touch Nil w w4 from Touch.trans (Hid.out (And.right (And.right (by assumption)))) ht4)); clear h4))
          go_wp2_with fail
          go_ret
          exact ⟨_, rfl, H4.out.1, H4.out.2⟩
        | false =>
          have HQ := Lib.hid (show ¬ abv seed x y = true by rw [hq]; decide)
          rw [hq] at HAB
          have HST := Lib.hid (fun n => show Ld2 b' 3 (.pointer la') b' 4 (.pointer ra') w (w.drewN n) from ⟨y3, y4, Lib.hid ((Touch.refl Nil w).drewN n)⟩)
          rw [HM.out, if_neg HQ.out]
          clear hq HM
          go_enter Try.func94, Try.ntmps94
          go_wp2_with fail
          go_quiet ((go_at_call 109; exact Calls.quiet_of (HAB.out _)))
          go_wp2_with fail
          go_region_held3 (fun w' => w'.cell? ⟨b', 3, none⟩ = some (.pointer la') ∧ w'.cell? ⟨b', 4, none⟩ = some (.pointer ra') ∧ Hid (Touch Nil w w'))
            (first | exact (HST.out _).step (Touch.refl Nil _).drew | exact Ld2.step (by assumption) (by assumption))
            (first
              | (go_at_call 94; refine (HI2.out _ (Hid.out (And.right (And.right (by assumption))))).mono ?_; rintro e w3 ⟨v3, rfl, h3, ht3⟩; obtain ⟨va3, rfl⟩ := h3.form; have H3 := Lib.hid h3; clear h3)
              | (go_at_call 105; refine (HO2.out _ _ (Hid.out (And.right (And.right (by assumption)))) H3.out).mono ?_; rintro e w4 ⟨v4, rfl, h4, ht4⟩; obtain ⟨va4, rfl⟩ := h4.form; have H4 := Lib.hid (And.intro h4 (show Touch Nil w w4 from Touch.trans (Hid.out (And.right (And.right (by assumption)))) ht4)); clear h4))
          go_wp2_with fail
          go_ret
          exact ⟨_, rfl, H4.out.1, H4.out.2⟩
end Go.Proofs.Ytkkpcndpjkebkaa

/- An item is put into a tree; a key is taken out. -/
namespace Go.Proofs.Ytkkpcndpjkebkaa
open Go.ChangeShapes Go.WideShapes Go.ChangeAt Go.RowKit Go.Deep

theorem cmp_vals : ∀ a b : Key, Lib.compareBytes a b = -1 ∨ Lib.compareBytes a b = 0 ∨ Lib.compareBytes a b = 1
  | [], [] => by simp [Lib.compareBytes]
  | [], _ :: _ => by simp [Lib.compareBytes]
  | _ :: _, [] => by simp [Lib.compareBytes]
  | a :: l, b :: m => by
    simp only [Lib.compareBytes]
    split
    · simp
    · split
      · simp
      · exact cmp_vals l m
/-- What a comparison says, as the walk asks it. -/
theorem cmp_cases (a b : Key) : (klt a b = true ∧ (Lib.compareBytes a b == (-1 : Int)) = true) ∨ (klt a b = false ∧ klt b a = true ∧ (Lib.compareBytes a b == (-1 : Int)) = false ∧ (Lib.compareBytes a b == (1 : Int)) = true) ∨
    (a = b ∧ (Lib.compareBytes a b == (-1 : Int)) = false ∧ (Lib.compareBytes a b == (1 : Int)) = false) := by
  have hn := cmp_neg a b
  rcases cmp_vals a b with h | h | h
  · exact .inl ⟨by rw [klt_iff]; omega, by rw [h]; decide⟩
  · exact .inr (.inr ⟨cmp_eq0 _ _ h, by rw [h]; decide, by rw [h]; decide⟩)
  · exact .inr (.inl ⟨by rw [← Bool.not_eq_true, klt_iff]; omega, by rw [klt_iff]; omega, by rw [h]; decide, by rw [h]; decide⟩)
theorem ins_size (ab : Key → Key → Bool) (k v : Key) : ∀ t : Tree, (insT ab k v t).size ≤ t.size + 1
  | .nil => by simp [insT, Tree.size]
  | .node l x u r => by
    have h1 := ins_size ab k v l
    have h2 := ins_size ab k v r
    have h3 := split_size k (.node l x u r)
    simp only [insT]
    split
    · simp only [Tree.size] at h3 ⊢; omega
    · split
      · simp only [Tree.size]; omega
      · split
        · simp only [Tree.size]; omega
        · simp only [Tree.size]; omega
theorem del_size (ab : Key → Key → Bool) (k : Key) : ∀ t : Tree, (delT ab k t).size ≤ t.size
  | .nil => by simp [delT]
  | .node l x u r => by
    have h1 := del_size ab k l
    have h2 := del_size ab k r
    have h3 := merge_size ab l r
    simp only [delT]
    split
    · simp only [Tree.size]; omega
    · split
      · simp only [Tree.size]; omega
      · rw [h3]; simp only [Tree.size]; omega

set_option maxRecDepth 100000 in
set_option maxHeartbeats 4000000 in
theorem with_any {seed : Int} {R : Nat → Prop} {k u : Key} {iv : Value} : ∀ (t : Tree) {w : World} {v : Value}, TreeAt seed R w t v → ItemAt seed R w iv k u → (∀ b, w.heap.size ≤ b → R b) → t.size ≤ 100000000 →
    Calls Try.prog 97 #[v, .int .u64 seed, iv] w (TreePost seed R (insT (abv seed) k u t) w) := by
  intro t
  induction t with
  | nil =>
    intro w v h hi hR hsz
    obtain rfl : v = _ := h
    have HI := Lib.hid hi
    have HR := Lib.hid hR
    obtain ⟨jb, kv, uv, rfl, _, hjh, hmk, _, _⟩ := hi
    obtain ⟨y0, _, _⟩ := item_cells hjh
    have HK := Lib.hid hmk.bv
    obtain ⟨ka, kl, kc, rfl⟩ := hmk.1.form
    have HSP := Lib.hid (split_any (seed := seed) (R := R) .nil (v := .pointer none) rfl HK.out hR (by simp [Tree.size]))
    have HIN := Lib.hid (show insT (abv seed) k u .nil = .node .nil k u .nil from rfl)
    clear hjh hmk hR
    go_enter Try.func97, Try.ntmps97
    go_wp2_with fail
    refine HSP.out.mono ?_
    rintro e w2 ⟨a2, b2, rfl, ha, hb, ht⟩
    obtain ⟨aa, rfl⟩ := ha.form
    obtain ⟨ba, rfl⟩ := hb.form
    have HA := Lib.hid ha
    have HB := Lib.hid hb
    have HT := Lib.hid ht
    clear ha hb ht
    go_wp2_with fail
    refine (newNode_any (HI.out.keepN HT.out) HA.out HB.out (fun b hb => HR.out b (Nat.le_trans HT.out.size hb)) (by simp [splitT, Tree.size])).mono ?_
    rintro e w3 ⟨v3, rfl, h3, ht3⟩
    obtain ⟨va, rfl⟩ := h3.form
    have H3 := Lib.hid (And.intro h3 ht3)
    clear h3 ht3
    go_wp2_with fail
    go_ret
    exact ⟨_, rfl, by rw [HIN.out]; exact H3.out.1, HT.out.trans H3.out.2⟩
  | node l x c r ihl ihr =>
    intro w v h hi hR hsz
    obtain ⟨b, ib, la, ra, rfl, hn⟩ := h.node
    have HN := Lib.hid hn
    have HI := Lib.hid hi
    have HR := Lib.hid hR
    have HAB := Lib.hid (above_any hi hn.item)
    have HIL := Lib.hid (fun w' (ht : Touch Nil w w') => ihl (w := w') (hn.left.keepN ht) (hi.keepN ht) (fun b hb => hR b (Nat.le_trans ht.size hb)) (by simp only [Tree.size] at hsz; omega))
    have HIR := Lib.hid (fun w' (ht : Touch Nil w w') => ihr (w := w') (hn.right.keepN ht) (hi.keepN ht) (fun b hb => hR b (Nat.le_trans ht.size hb)) (by simp only [Tree.size] at hsz; omega))
    have HOL := Lib.hid (fun w' v3 (ht : Touch Nil w w') (h3 : TreeAt seed R w' (insT (abv seed) k u l) (.pointer v3)) => over_any (hn.keepN ht).tree h3 (hn.right.keepN ht) (fun b hb => hR b (Nat.le_trans ht.size hb)) (by have := ins_size (abv seed) k u l; simp only [Tree.size] at hsz; omega))
    have HOR := Lib.hid (fun w' v3 (ht : Touch Nil w w') (h3 : TreeAt seed R w' (insT (abv seed) k u r) (.pointer v3)) => over_any (hn.keepN ht).tree (hn.left.keepN ht) h3 (fun b hb => hR b (Nat.le_trans ht.size hb)) (by have := ins_size (abv seed) k u r; simp only [Tree.size] at hsz; omega))
    have HNE := Lib.hid (fun w' (ht : Touch Nil w w') => newNode_any (hi.keepN ht) (hn.left.keepN ht) (hn.right.keepN ht) (fun b hb => hR b (Nat.le_trans ht.size hb)) (by simp only [Tree.size] at hsz; omega))
    obtain ⟨_, nkv, nuv, e, _, hih, hmn, _, _⟩ := hn.item
    cases e
    obtain ⟨jb, kv, uv, rfl, _, hjh, hmk, _, _⟩ := hi
    obtain ⟨x0, _, _, x3, x4⟩ := node_cells hn.blk
    obtain ⟨z0, _, _⟩ := item_cells hih
    obtain ⟨y0, _, _⟩ := item_cells hjh
    have HK := Lib.hid hmk.bv
    have HCM := Lib.hid (fun w' (ht : Touch Nil w w') => compareP_any (hmk.bv.keepN ht) (hmn.bv.keepN ht))
    have HST := Lib.hid (fun w' (ht : Touch Nil w w') => show Ld2 b 3 (.pointer la) b 4 (.pointer ra) w w' from ⟨cell_step x3 ht, cell_step x4 ht, Lib.hid ht⟩)
    obtain ⟨ka, kl, kc, rfl⟩ := hmk.1.form
    obtain ⟨na, nl, nc, rfl⟩ := hmn.1.form
    have HSP := Lib.hid (fun w' (ht : Touch Nil w w') => split_any (seed := seed) (R := R) (.node l x c r) (w := w') (hn.tree.keepN ht) (HK.out.keepN ht) (fun b hb => hR b (Nat.le_trans ht.size hb)) (by omega))
    have HZ := Lib.hid (split_size k (.node l x c r))
    have HIN := Lib.hid (show insT (abv seed) k u (.node l x c r) = if abv seed k x = true then .node (splitT k (.node l x c r)).1 k u (splitT k (.node l x c r)).2 else if klt k x = true then .node (insT (abv seed) k u l) x c r else if klt x k = true then .node l x c (insT (abv seed) k u r) else .node l k u r from rfl)
    clear hih hjh hmk hmn hn ihl ihr hR
    cases hq : abv seed k x with
    | true =>
      rw [hq] at HAB
      have HQ := Lib.hid hq
      clear hq HIL HIR HOL HOR HNE HCM
      go_enter Try.func97, Try.ntmps97
      go_wp2_with fail
      refine HAB.out.mono ?_
      rintro e w' ⟨rfl, n, rfl⟩
      have HT1 := Lib.hid ((Touch.refl Nil w).drewN n)
      generalize w.drewN n = w1 at *
      replace y0 := cell_step y0 HT1.out
      clear x0 x3 x4 z0
      go_wp2_with fail
      refine (HSP.out _ HT1.out).mono ?_
      rintro e w2 ⟨a2, b2, rfl, ha, hb, ht⟩
      obtain ⟨aa, rfl⟩ := ha.form
      obtain ⟨ba, rfl⟩ := hb.form
      have HA := Lib.hid ha
      have HB := Lib.hid hb
      have HT := Lib.hid (HT1.out.trans ht)
      clear ha hb ht
      go_wp2_with fail
      refine (newNode_any (HI.out.keepN HT.out) HA.out HB.out (fun b hb => HR.out b (Nat.le_trans HT.out.size hb)) (by have := HZ.out; omega)).mono ?_
      rintro e w3 ⟨v3, rfl, h3, ht3⟩
      obtain ⟨va, rfl⟩ := h3.form
      have H3 := Lib.hid (And.intro h3 ht3)
      clear h3 ht3
      go_wp2_with fail
      go_ret
      exact ⟨_, rfl, by rw [HIN.out, if_pos HQ.out]; exact H3.out.1, HT.out.trans H3.out.2⟩
    | false =>
      rw [hq] at HAB
      have HQ := Lib.hid (show ¬ abv seed k x = true by rw [hq]; decide)
      rw [HIN.out, if_neg HQ.out]
      clear hq HSP HIN HQ HZ
      rcases cmp_cases k x with ⟨c1, c2⟩ | ⟨c1, c2, c3, c4⟩ | ⟨c1, c2, c3⟩
      · rw [if_pos c1]
        generalize Lib.compareBytes k x = z at *
        clear c1 HIR HOR HNE
        go_enter Try.func97, Try.ntmps97
        go_wp2_with fail
        refine HAB.out.mono ?_
        rintro e w' ⟨rfl, n, rfl⟩
        have HT1 := Lib.hid ((Touch.refl Nil w).drewN n)
        generalize w.drewN n = w1 at *
        replace y0 := cell_step y0 HT1.out
        replace x0 := cell_step x0 HT1.out
        replace z0 := cell_step z0 HT1.out
        clear x3 x4
        go_wp2_with fail
        go_quiet ((go_at_call 91; refine Calls.quiet_of_same (v := .int .i64 z) ?_; exact (HCM.out _ (HT1.out.drewN _)).mono fun _ _ h => ⟨h.1, h.2.symm⟩))
        go_wp2_with fail
        go_region_held3 (fun w' => w'.cell? ⟨b, 3, none⟩ = some (.pointer la) ∧ w'.cell? ⟨b, 4, none⟩ = some (.pointer ra) ∧ Hid (Touch Nil w w'))
          (first | exact HST.out _ ((HT1.out.drewN _).drew) | exact Ld2.step (by assumption) (by assumption))
          (first
            | (go_at_call 97; refine (HIL.out _ (Hid.out (And.right (And.right (by assumption))))).mono ?_; rintro e w3 ⟨v3, rfl, h3, ht3⟩; obtain ⟨va3, rfl⟩ := h3.form; have H3 := Lib.hid h3; clear h3)
            | (go_at_call 105; refine (HOL.out _ _ (Hid.out (And.right (And.right (by assumption)))) H3.out).mono ?_; rintro e w4 ⟨v4, rfl, h4, ht4⟩; obtain ⟨va4, rfl⟩ := h4.form; have H4 := Lib.hid (And.intro h4 (show Touch Nil w w4 from Touch.trans (Hid.out (And.right (And.right (by assumption)))) ht4)); clear h4))
        go_wp2_with fail
        go_ret
        exact ⟨_, rfl, H4.out.1, H4.out.2⟩
      · rw [if_neg (by rw [c1]; decide), if_pos c2]
        generalize Lib.compareBytes k x = z at *
        clear c1 c2 HIL HOL HNE
        go_enter Try.func97, Try.ntmps97
        go_wp2_with fail
        refine HAB.out.mono ?_
        rintro e w' ⟨rfl, n, rfl⟩
        have HT1 := Lib.hid ((Touch.refl Nil w).drewN n)
        generalize w.drewN n = w1 at *
        replace y0 := cell_step y0 HT1.out
        replace x0 := cell_step x0 HT1.out
        replace z0 := cell_step z0 HT1.out
        clear x3 x4
        go_wp2_with fail
        go_quiet ((go_at_call 91; refine Calls.quiet_of_same (v := .int .i64 z) ?_; exact (HCM.out _ (HT1.out.drewN _)).mono fun _ _ h => ⟨h.1, h.2.symm⟩))
        go_wp2_with fail
        go_region_held3 (fun w' => w'.cell? ⟨b, 3, none⟩ = some (.pointer la) ∧ w'.cell? ⟨b, 4, none⟩ = some (.pointer ra) ∧ Hid (Touch Nil w w'))
          (first | exact HST.out _ ((HT1.out.drewN _).drew) | exact Ld2.step (by assumption) (by assumption))
          (first
            | (go_at_call 97; refine (HIR.out _ (Hid.out (And.right (And.right (by assumption))))).mono ?_; rintro e w3 ⟨v3, rfl, h3, ht3⟩; obtain ⟨va3, rfl⟩ := h3.form; have H3 := Lib.hid h3; clear h3)
            | (go_at_call 105; refine (HOR.out _ _ (Hid.out (And.right (And.right (by assumption)))) H3.out).mono ?_; rintro e w4 ⟨v4, rfl, h4, ht4⟩; obtain ⟨va4, rfl⟩ := h4.form; have H4 := Lib.hid (And.intro h4 (show Touch Nil w w4 from Touch.trans (Hid.out (And.right (And.right (by assumption)))) ht4)); clear h4))
        go_wp2_with fail
        go_ret
        exact ⟨_, rfl, H4.out.1, H4.out.2⟩
      · subst c1
        rw [if_neg (by rw [klt_ko.irrefl]; decide), if_neg (by rw [klt_ko.irrefl]; decide)]
        generalize Lib.compareBytes k k = z at *
        clear HIL HOL HIR HOR
        go_enter Try.func97, Try.ntmps97
        go_wp2_with fail
        refine HAB.out.mono ?_
        rintro e w' ⟨rfl, n, rfl⟩
        have HT1 := Lib.hid ((Touch.refl Nil w).drewN n)
        generalize w.drewN n = w1 at *
        replace y0 := cell_step y0 HT1.out
        replace x0 := cell_step x0 HT1.out
        replace z0 := cell_step z0 HT1.out
        clear x3 x4
        go_wp2_with fail
        go_quiet ((go_at_call 91; refine Calls.quiet_of_same (v := .int .i64 z) ?_; exact (HCM.out _ (HT1.out.drewN _)).mono fun _ _ h => ⟨h.1, h.2.symm⟩))
        go_wp2_with fail
        go_region_held3 (fun w' => w'.cell? ⟨b, 3, none⟩ = some (.pointer la) ∧ w'.cell? ⟨b, 4, none⟩ = some (.pointer ra) ∧ Hid (Touch Nil w w'))
          (first | exact HST.out _ ((HT1.out.drewN _).drew) | exact Ld2.step (by assumption) (by assumption))
          (first
            | (go_at_call 110; refine (HNE.out _ (Hid.out (And.right (And.right (by assumption))))).mono ?_; rintro e w4 ⟨v4, rfl, h4, ht4⟩; obtain ⟨va4, rfl⟩ := h4.form; have H4 := Lib.hid (And.intro h4 (show Touch Nil w w4 from Touch.trans (Hid.out (And.right (And.right (by assumption)))) ht4)); clear h4))
        go_wp2_with fail
        go_ret
        exact ⟨_, rfl, H4.out.1, H4.out.2⟩
end Go.Proofs.Ytkkpcndpjkebkaa

/- A key is taken out of a tree; the least and the greatest node; ranks. -/
namespace Go.Proofs.Ytkkpcndpjkebkaa
open Go.ChangeShapes Go.WideShapes Go.ChangeAt Go.RowKit Go.Deep

set_option maxRecDepth 100000 in
set_option maxHeartbeats 4000000 in
theorem without_any {seed : Int} {R : Nat → Prop} {key : Key} {kx : Value} : ∀ (t : Tree) {w : World} {v : Value}, TreeAt seed R w t v → BV w kx key → (∀ b, w.heap.size ≤ b → R b) → t.size ≤ 100000000 →
    Calls Try.prog 74 #[v, .int .u64 seed, kx] w (TreePost seed R (delT (abv seed) key t) w) := by
  intro t
  induction t with
  | nil =>
    intro w v h hk hR hsz
    obtain rfl : v = _ := h
    obtain ⟨qa, qc, rfl, _, _⟩ := hk
    go_enter Try.func74, Try.ntmps74
    go_wp2_with fail
    go_ret
    exact ⟨_, rfl, rfl, Touch.refl _ _⟩
  | node l x c r ihl ihr =>
    intro w v h hk hR hsz
    obtain ⟨b, ib, la, ra, rfl, hn⟩ := h.node
    have HIL := Lib.hid (fun w' (ht : Touch Nil w w') => ihl (w := w') (hn.left.keepN ht) (hk.keepN ht) (fun b hb => hR b (Nat.le_trans ht.size hb)) (by simp only [Tree.size] at hsz; omega))
    have HIR := Lib.hid (fun w' (ht : Touch Nil w w') => ihr (w := w') (hn.right.keepN ht) (hk.keepN ht) (fun b hb => hR b (Nat.le_trans ht.size hb)) (by simp only [Tree.size] at hsz; omega))
    have HOL := Lib.hid (fun w' v3 (ht : Touch Nil w w') (h3 : TreeAt seed R w' (delT (abv seed) key l) (.pointer v3)) => over_any (hn.keepN ht).tree h3 (hn.right.keepN ht) (fun b hb => hR b (Nat.le_trans ht.size hb)) (by have := del_size (abv seed) key l; simp only [Tree.size] at hsz; omega))
    have HOR := Lib.hid (fun w' v3 (ht : Touch Nil w w') (h3 : TreeAt seed R w' (delT (abv seed) key r) (.pointer v3)) => over_any (hn.keepN ht).tree (hn.left.keepN ht) h3 (fun b hb => hR b (Nat.le_trans ht.size hb)) (by have := del_size (abv seed) key r; simp only [Tree.size] at hsz; omega))
    have HNE := Lib.hid (fun w' (ht : Touch Nil w w') => merge_any _ l r (w := w') (Nat.le_refl _) (hn.left.keepN ht) (hn.right.keepN ht) (fun b hb => hR b (Nat.le_trans ht.size hb)) (by simp only [Tree.size] at hsz; omega))
    obtain ⟨_, nkv, nuv, e, _, hih, hmn, _, _⟩ := hn.item
    cases e
    obtain ⟨x0, _, _, x3, x4⟩ := node_cells hn.blk
    obtain ⟨z0, _, _⟩ := item_cells hih
    have HCM := Lib.hid (compareP_any hk hmn.bv)
    have HST := Lib.hid (fun w' (ht : Touch Nil w w') => show Ld2 b 3 (.pointer la) b 4 (.pointer ra) w w' from ⟨cell_step x3 ht, cell_step x4 ht, Lib.hid ht⟩)
    obtain ⟨qa, qc, rfl, _, _⟩ := hk
    have HE : ∃ ql, key.length = ql := ⟨_, rfl⟩
    obtain ⟨ql, eql⟩ := HE
    simp only [eql] at HCM HIL HIR ⊢
    obtain ⟨na, nl, nc, rfl⟩ := hmn.1.form
    have HIN := Lib.hid (show delT (abv seed) key (.node l x c r) = if klt key x = true then .node (delT (abv seed) key l) x c r else if klt x key = true then .node l x c (delT (abv seed) key r) else mergeT (abv seed) l r from rfl)
    rw [HIN.out]
    clear hih hmn hn ihl ihr hR eql HIN
    rcases cmp_cases key x with ⟨c1, c2⟩ | ⟨c1, c2, c3, c4⟩ | ⟨c1, c2, c3⟩
    · rw [if_pos c1]
      generalize Lib.compareBytes key x = z at *
      clear c1 HIR HOR HNE
      go_enter Try.func74, Try.ntmps74
      go_wp2_with fail
      refine HCM.out.mono ?_
      rintro e w' ⟨rfl, rfl⟩
      go_wp2_with fail
      go_region_held3 (fun w' => w'.cell? ⟨b, 3, none⟩ = some (.pointer la) ∧ w'.cell? ⟨b, 4, none⟩ = some (.pointer ra) ∧ Hid (Touch Nil w w'))
        (first | exact HST.out _ ((Touch.refl Nil w).drew) | exact Ld2.step (by assumption) (by assumption))
        (first
          | (go_at_call 74; refine (HIL.out _ (Hid.out (And.right (And.right (by assumption))))).mono ?_; rintro e w3 ⟨v3, rfl, h3, ht3⟩; obtain ⟨va3, rfl⟩ := h3.form; have H3 := Lib.hid h3; clear h3)
          | (go_at_call 105; refine (HOL.out _ _ (Hid.out (And.right (And.right (by assumption)))) H3.out).mono ?_; rintro e w4 ⟨v4, rfl, h4, ht4⟩; obtain ⟨va4, rfl⟩ := h4.form; have H4 := Lib.hid (And.intro h4 (show Touch Nil w w4 from Touch.trans (Hid.out (And.right (And.right (by assumption)))) ht4)); clear h4))
      go_wp2_with fail
      go_ret
      exact ⟨_, rfl, H4.out.1, H4.out.2⟩
    · rw [if_neg (by rw [c1]; decide), if_pos c2]
      generalize Lib.compareBytes key x = z at *
      clear c1 c2 HIL HOL HNE
      go_enter Try.func74, Try.ntmps74
      go_wp2_with fail
      refine HCM.out.mono ?_
      rintro e w' ⟨rfl, rfl⟩
      go_wp2_with fail
      go_region_held3 (fun w' => w'.cell? ⟨b, 3, none⟩ = some (.pointer la) ∧ w'.cell? ⟨b, 4, none⟩ = some (.pointer ra) ∧ Hid (Touch Nil w w'))
        (first | exact HST.out _ ((Touch.refl Nil w).drew) | exact Ld2.step (by assumption) (by assumption))
        (first
          | (go_at_call 74; refine (HIR.out _ (Hid.out (And.right (And.right (by assumption))))).mono ?_; rintro e w3 ⟨v3, rfl, h3, ht3⟩; obtain ⟨va3, rfl⟩ := h3.form; have H3 := Lib.hid h3; clear h3)
          | (go_at_call 105; refine (HOR.out _ _ (Hid.out (And.right (And.right (by assumption)))) H3.out).mono ?_; rintro e w4 ⟨v4, rfl, h4, ht4⟩; obtain ⟨va4, rfl⟩ := h4.form; have H4 := Lib.hid (And.intro h4 (show Touch Nil w w4 from Touch.trans (Hid.out (And.right (And.right (by assumption)))) ht4)); clear h4))
      go_wp2_with fail
      go_ret
      exact ⟨_, rfl, H4.out.1, H4.out.2⟩
    · subst c1
      rw [if_neg (by rw [klt_ko.irrefl]; decide), if_neg (by rw [klt_ko.irrefl]; decide)]
      generalize Lib.compareBytes key key = z at *
      clear HIL HOL HIR HOR
      go_enter Try.func74, Try.ntmps74
      go_wp2_with fail
      refine HCM.out.mono ?_
      rintro e w' ⟨rfl, rfl⟩
      go_wp2_with fail
      go_region_held3 (fun w' => w'.cell? ⟨b, 3, none⟩ = some (.pointer la) ∧ w'.cell? ⟨b, 4, none⟩ = some (.pointer ra) ∧ Hid (Touch Nil w w'))
        (first | exact HST.out _ ((Touch.refl Nil w).drew) | exact Ld2.step (by assumption) (by assumption))
        (first
          | (go_at_call 94; refine (HNE.out _ (Hid.out (And.right (And.right (by assumption))))).mono ?_; rintro e w4 ⟨v4, rfl, h4, ht4⟩; obtain ⟨va4, rfl⟩ := h4.form; have H4 := Lib.hid (And.intro h4 (show Touch Nil w w4 from Touch.trans (Hid.out (And.right (And.right (by assumption)))) ht4)); clear h4))
      go_wp2_with fail
      go_ret
      exact ⟨_, rfl, H4.out.1, H4.out.2⟩

/-- The node of the least key. -/
def firstT (d : Key) : Tree → Key
  | .nil => d
  | .node l k _ _ => firstT k l
def lastT (d : Key) : Tree → Key
  | .nil => d
  | .node _ k _ r => lastT k r
theorem firstT_spec : ∀ (t : Tree) (d : Key), t ≠ .nil → ∃ u L, t.toL = (firstT d t, u) :: L
  | .nil, _, h => absurd rfl h
  | .node .nil k u r, d, _ => ⟨u, r.toL, rfl⟩
  | .node (.node l k' u' r') k u r, d, _ => by
    obtain ⟨u2, L, e⟩ := firstT_spec (.node l k' u' r') k (by simp)
    exact ⟨u2, L ++ (k, u) :: r.toL, by rw [Tree.toL, e]; simp [firstT]⟩
theorem lastT_spec : ∀ (t : Tree) (d : Key), t ≠ .nil → ∃ u L, t.toL = L ++ [(lastT d t, u)]
  | .nil, _, h => absurd rfl h
  | .node l k u .nil, d, _ => ⟨u, l.toL, by simp [Tree.toL, lastT]⟩
  | .node l k u (.node l' k' u' r'), d, _ => by
    obtain ⟨u2, L, e⟩ := lastT_spec (.node l' k' u' r') k (by simp)
    exact ⟨u2, l.toL ++ (k, u) :: L, by rw [Tree.toL, e]; simp [lastT]⟩
/-- A node with its key. -/
def NodePost (seed : Int) (R : Nat → Prop) (key : Key) (w : World) (e : Ending) (w' : World) : Prop := ∃ b iv la ra l u r, e = .returned (.pointer (some ⟨b, 0, none⟩)) ∧ NodeV seed R w b iv la ra l key u r ∧ w = w'
set_option maxHeartbeats 1000000 in
theorem first_any {seed : Int} {R : Nat → Prop} {w : World} {v : Value} {l r : Tree} {k u : Key} (h : TreeAt seed R w (.node l k u r) v) :
    Calls Try.prog 93 #[v] w (NodePost seed R (firstT [] (.node l k u r)) w) := by
  have HH := Lib.hid h
  obtain ⟨b0, i0, la0, ra0, rfl, hn0⟩ := h.node
  clear hn0
  go_enter Try.func93, Try.ntmps93
  go_wp2_with fail
  go_loopg [0] (Tree.size (.node l k u r)) (fun m n wr => w = wr ∧ ∃ (a : Nat) (l' r' : Tree) (k' u' : Key), n = .pointer (some ⟨a, 0, none⟩) ∧ Hid (TreeAt seed R w (.node l' k' u' r') (.pointer (some ⟨a, 0, none⟩)) ∧ (Tree.node l' k' u' r').size ≤ m ∧ firstT [] (.node l' k' u' r') = firstT [] (.node l k u r)))
  case atStart => exact ⟨rfl, b0, l, r, k, u, rfl, Lib.hid ⟨HH.out, Nat.le_refl _, rfl⟩⟩
  obtain ⟨rfl, a, l', r', k', u', rfl, HX⟩ := hrel
  obtain ⟨b, ib, la, ra, hb, hn⟩ := HX.out.1.node
  injection hb with hb
  injection hb with hb
  injection hb with hb
  subst hb
  obtain ⟨_, _, _, x3, x4⟩ := node_cells hn.blk
  have HN := Lib.hid hn
  clear hn
  cases l' with
  | nil =>
    obtain rfl : la = none := by have h : Value.pointer la = .pointer none := HN.out.left; injection h
    have HF := Lib.hid HX.out.2.2
    go_wp2_with fail
    go_ret
    exact ⟨a, _, _, _, _, _, _, rfl, by rw [← HF.out]; exact HN.out, rfl⟩
  | node l2 k2 u2 r2 =>
    obtain ⟨b2, _, _, _, e2, _⟩ := HN.out.left.node
    injection e2 with e2
    subst e2
    go_wp2_with fail
    go_roundg (Tree.node l2 k2 u2 r2).size
    case measure => have := HX.out.2.1; simp only [Tree.size] at this ⊢; omega
    case rel => exact ⟨rfl, _, l2, r2, k2, u2, rfl, Lib.hid ⟨HN.out.left, Nat.le_refl _, HX.out.2.2⟩⟩
set_option maxHeartbeats 1000000 in
theorem last_any {seed : Int} {R : Nat → Prop} {w : World} {v : Value} {l r : Tree} {k u : Key} (h : TreeAt seed R w (.node l k u r) v) :
    Calls Try.prog 92 #[v] w (NodePost seed R (lastT [] (.node l k u r)) w) := by
  have HH := Lib.hid h
  obtain ⟨b0, i0, la0, ra0, rfl, hn0⟩ := h.node
  clear hn0
  go_enter Try.func92, Try.ntmps92
  go_wp2_with fail
  go_loopg [0] (Tree.size (.node l k u r)) (fun m n wr => w = wr ∧ ∃ (a : Nat) (l' r' : Tree) (k' u' : Key), n = .pointer (some ⟨a, 0, none⟩) ∧ Hid (TreeAt seed R w (.node l' k' u' r') (.pointer (some ⟨a, 0, none⟩)) ∧ (Tree.node l' k' u' r').size ≤ m ∧ lastT [] (.node l' k' u' r') = lastT [] (.node l k u r)))
  case atStart => exact ⟨rfl, b0, l, r, k, u, rfl, Lib.hid ⟨HH.out, Nat.le_refl _, rfl⟩⟩
  obtain ⟨rfl, a, l', r', k', u', rfl, HX⟩ := hrel
  obtain ⟨b, ib, la, ra, hb, hn⟩ := HX.out.1.node
  injection hb with hb
  injection hb with hb
  injection hb with hb
  subst hb
  obtain ⟨_, _, _, x3, x4⟩ := node_cells hn.blk
  have HN := Lib.hid hn
  clear hn
  cases r' with
  | nil =>
    obtain rfl : ra = none := by have h : Value.pointer ra = .pointer none := HN.out.right; injection h
    have HF := Lib.hid HX.out.2.2
    go_wp2_with fail
    go_ret
    exact ⟨a, _, _, _, _, _, _, rfl, by rw [← HF.out]; exact HN.out, rfl⟩
  | node l2 k2 u2 r2 =>
    obtain ⟨b2, _, _, _, e2, _⟩ := HN.out.right.node
    injection e2 with e2
    subst e2
    go_wp2_with fail
    go_roundg (Tree.node l2 k2 u2 r2).size
    case measure => have := HX.out.2.1; simp only [Tree.size] at this ⊢; omega
    case rel => exact ⟨rfl, _, l2, r2, k2, u2, rfl, Lib.hid ⟨HN.out.right, Nat.le_refl _, HX.out.2.2⟩⟩
end Go.Proofs.Ytkkpcndpjkebkaa
