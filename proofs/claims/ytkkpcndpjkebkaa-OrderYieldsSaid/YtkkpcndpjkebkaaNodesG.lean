import Derived.Test.YtkkpcndpjkebkaaNodesV
/- The nodes of a map. -/
namespace Go.Proofs.Ytkkpcndpjkebkaa
open Go.ChangeShapes Go.WideShapes Go.ChangeAt Go.RowKit Go.Deep

set_option maxRecDepth 100000 in
set_option maxHeartbeats 4000000 in
theorem gatherN_any {seed : Int} {R : Nat → Prop} {base : Nat} (hRB : ∀ b, R b → b < base) : ∀ (m : Nat) (t : Tree) {w : World} {v x : Value} {L : List NodeC}, t.size ≤ m → TreeAt seed R w t v → NG base base w x L → base ≤ w.heap.size → L.length + t.size ≤ 1000000 →
    Calls Try.prog 66 #[v, x, .func (.func 68) #[] #[]] w (NodesPost base (L ++ nodesT seed L.length t) w) := by
  intro m
  induction m with
  | zero =>
    intro t w v x L hm h hx hb hL
    cases t with
    | node l k u r => simp only [Tree.size] at hm; omega
    | nil =>
      obtain rfl : v = _ := h
      have HX := Lib.hid hx
      obtain ⟨xa, xl, xc, rfl⟩ := hx.form3
      clear hx
      go_enter Try.func66, Try.ntmps66
      go_wp2_with fail
      go_loopg [0, 1] 0 (fun j n g wr => n = .pointer none ∧ g = .slice xa xl xc ∧ w = wr)
      case atStart => exact ⟨rfl, rfl, rfl⟩
      obtain ⟨rfl, rfl, rfl⟩ := hrel
      go_wp2_with fail
      go_ret
      exact ⟨_, rfl, by simpa [nodesT] using HX.out, Touch.refl _ _⟩
  | succ m ih =>
    intro t w v x L hm h hx hb hL
    have HX := Lib.hid hx
    have HH := Lib.hid h
    have IH := Lib.hid @ih
    obtain ⟨xa, xl, xc, rfl⟩ := hx.form3
    obtain ⟨va, rfl⟩ := h.form
    have HM := Lib.hid hm
    clear h hx ih hm
    go_enter Try.func66, Try.ntmps66
    go_wp2_with fail
    go_loopg [0, 1] t.size (fun j n g wr => ∃ (a : Option Addr) (s : Tree) (ga : Option Addr) (gl gc : Nat) (L1 : List NodeC), n = .pointer a ∧ g = .slice ga gl gc ∧ Hid (TreeAt seed R wr s (.pointer a) ∧ NG base base wr (.slice ga gl gc) L1 ∧ L1 ++ nodesT seed L1.length s = L ++ nodesT seed L.length t ∧ s.size ≤ j ∧ s.size ≤ t.size ∧ L1.length + s.size = L.length + t.size) ∧ Touch (From base) w wr)
    case atStart => exact ⟨va, t, xa, xl, xc, L, rfl, rfl, Lib.hid ⟨HH.out, HX.out, rfl, Nat.le_refl _, Nat.le_refl _, rfl⟩, Touch.refl _ _⟩
    obtain ⟨a, s, ga, gl, gc, L1, rfl, rfl, HR, hto⟩ := hrel
    have HT := Lib.hid hto
    clear hto
    cases s with
    | nil =>
      obtain rfl : a = none := by have h : Value.pointer a = .pointer none := HR.out.1; injection h
      go_wp2_with fail
      go_ret
      exact ⟨_, rfl, by have h := HR.out.2.2.1; simp only [nodesT, List.append_nil] at h; rw [← h]; exact HR.out.2.1, HT.out⟩
    | node l k u r =>
      obtain ⟨b, ib, la, ra, hbb, hn⟩ := HR.out.1.node
      injection hbb with hbb
      subst hbb
      obtain ⟨_, hno, heq, hsj, hst, hln⟩ := HR.out
      have HN := Lib.hid hn
      have HNO := Lib.hid hno
      have HEQ := Lib.hid heq
      have HSJ := Lib.hid (And.intro hsj (And.intro hst hln))
      have hbw : base ≤ wr.heap.size := Nat.le_trans hb HT.out.size
      have HV := Lib.hid (visitN_any hn hno hbw (by simp only [Tree.size] at hln; omega) (by omega))
      have keep : ∀ w', Touch (From base) wr w' → NodeV seed R w' b (.pointer (some ⟨ib, 0, none⟩)) la ra l k u r := fun w' ht => hn.keep ht fun c hc hs => by have hs : base ≤ c := hs; have := hRB c hc; omega
      have HKP := Lib.hid keep
      have HBW := Lib.hid hbw
      clear hn hno heq hsj hst hln keep HR hbw
      go_wp2_with fail
      refine HV.out.mono ?_
      rintro e w2 ⟨x2, rfl, ho2, ht2⟩
      obtain ⟨xa2, xl2, xc2, rfl⟩ := ho2.form3
      have HO2 := Lib.hid ho2
      have HT2 := Lib.hid ht2
      have HN2 := Lib.hid (HKP.out w2 ht2)
      obtain ⟨_, _, _, y3, _⟩ := node_cells HN2.out.blk
      have hlen2 : (L1 ++ [nodeAt seed L1.length l k u r]).length = L1.length + 1 := by simp
      have HLL := Lib.hid hlen2
      have HG := Lib.hid (IH.out l (w := w2) (v := .pointer la) (x := .slice xa2 xl2 xc2) (L := L1 ++ [nodeAt seed L1.length l k u r]) (by have := HM.out; have := HSJ.out.2.1; simp only [Tree.size] at this; omega) HN2.out.left HO2.out (Nat.le_trans HBW.out HT2.out.size) (by rw [hlen2]; have := HSJ.out.2.2; simp only [Tree.size] at this; omega))
      clear ho2 ht2 hlen2
      go_wp2_with fail
      refine HG.out.mono ?_
      rintro e w3 ⟨x3, rfl, ho3, ht3⟩
      obtain ⟨xa3, xl3, xc3, rfl⟩ := ho3.form3
      have HO3 := Lib.hid ho3
      have HT23 := Lib.hid (HT2.out.trans ht3)
      have HN3 := Lib.hid (HKP.out w3 HT23.out)
      obtain ⟨_, _, _, _, z4⟩ := node_cells HN3.out.blk
      clear ho3 ht3 y3
      go_wp2_with fail
      go_roundg r.size
      case measure => have := HSJ.out.1; simp only [Tree.size] at this; omega
      case rel =>
        have e1 : (L1 ++ [nodeAt seed L1.length l k u r] ++ nodesT seed (L1.length + 1) l).length = L1.length + 1 + l.size := by simp [nodesT_len]; omega
        have ho : NG base base w3 (.slice xa3 xl3 xc3) (L1 ++ [nodeAt seed L1.length l k u r] ++ nodesT seed (L1.length + 1) l) := by have := HO3.out; rw [HLL.out] at this; exact this
        refine ⟨ra, r, xa3, xl3, xc3, _, rfl, rfl, Lib.hid ⟨HN3.out.right, ho, ?_, Nat.le_refl _, ?_, ?_⟩, HT.out.trans HT23.out⟩
        · rw [e1, ← HEQ.out]; simp [nodesT]
        · have := HSJ.out.2.1; simp only [Tree.size] at this; omega
        · rw [e1]; have := HSJ.out.2.2; simp only [Tree.size] at this; omega

def NodesOf (seed : Int) (t : Tree) (w : World) (e : Ending) (w' : World) : Prop := ∃ x, e = .returned x ∧ NO w.heap.size w' x (nodesT seed 0 t) ∧ Touch Nil w w'
/-- The same, all bytes new. -/
def NodesOfG (seed : Int) (t : Tree) (w : World) (e : Ending) (w' : World) : Prop := ∃ x, e = .returned x ∧ NG w.heap.size w.heap.size w' x (nodesT seed 0 t) ∧ Touch Nil w w'
set_option maxHeartbeats 1000000 in
theorem nodesG_map {seed : Int} {R : Nat → Prop} {w : World} {mb bb : Nat} {ra : Option Addr} {t : Tree} (h : MapAt seed R w mb bb ra t) : Calls Try.prog 20 #[.pointer (some ⟨mb, 0, none⟩)] w (NodesOfG seed t w) := by
  have HM := Lib.hid (root_map h)
  have HG := Lib.hid (gatherN_any (seed := seed) (R := fun b => R b ∧ b < w.heap.size) (base := w.heap.size) (fun b hb => hb.2) t.size t (w := w) (x := .slice none 0 0) (L := []) (Nat.le_refl _) (h.tree.mono fun b hb hr => ⟨hr, hb⟩) OL.nil (Nat.le_refl _) (by have := h.size; simp; omega))
  clear h
  go_enter Try.func20, Try.ntmps20
  go_wp2_with fail
  refine HM.out.mono ?_
  rintro e w' ⟨rfl, rfl⟩
  go_wp2_with fail
  refine HG.out.mono ?_
  rintro e w2 ⟨x2, rfl, ho, ht⟩
  obtain ⟨xa2, xl2, xc2, rfl⟩ := ho.form3
  have HO := Lib.hid (And.intro ho ht)
  clear ho ht
  go_wp2_with fail
  go_ret
  exact ⟨_, rfl, HO.out.1, HO.out.2.mono fun b hb hs => by have hs : _ ≤ b := hs; omega⟩
theorem nodes_map {seed : Int} {R : Nat → Prop} {w : World} {mb bb : Nat} {ra : Option Addr} {t : Tree} (h : MapAt seed R w mb bb ra t) : Calls Try.prog 20 #[.pointer (some ⟨mb, 0, none⟩)] w (NodesOf seed t w) :=
  (nodesG_map h).mono fun _ _ ⟨x, e, h, ht⟩ => ⟨x, e, h.no, ht⟩
end Go.Proofs.Ytkkpcndpjkebkaa
