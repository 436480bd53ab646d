import Derived.Test.YticddcnlafbkoaaDoorTab4
import Derived.Test.YticddcnlafbkoaaDoorClass
/- Putting a pair in: push. -/
namespace Go.Proofs.YticddcnlafbkoaaDoor
open Go.ChangeShapes Go.WideShapes Go.ChangeAt Go.RowKit Go.Deep

def setV (vv : Nat → Nat → Value) (a : Nat) (x y : Value) : Nat → Nat → Value := fun c j => if c = a then (if j = 0 then x else y) else vv c j
theorem NotBytes.of_type {S : Nat → Prop} {w : World} (h : ∀ b, S b → ∃ cs t z, w.heap[b]? = some (.cells cs t z) ∧ t ≠ 5) : NotBytes S w := by
  intro b hb cs z e
  obtain ⟨cs', t, z', e', ht⟩ := h b hb
  rw [e] at e'
  injection e' with e'
  injection e' with _ e'
  exact ht e'.symm
/-- A pair is stored into a cell. -/
theorem Bod.put {R : Nat → Prop} {w : World} {bb bc : Nat} {seed : Int} {n C : Nat} {vv : Nat → Nat → Value} {T : Cells} (h : Bod R w bb bc seed n C vv T) {a : Nat} {x y : Value} (o : Option (Key × Key)) (hbc : bb ≠ bc) (hc : CellOk R w x y o) :
    Bod R ((w.setCell ⟨bc, a * 2, none⟩ x).setCell ⟨bc, a * 2 + 1, none⟩ y) bb bc seed n C (setV vv a x y) (fun c => if c = a then o else T c) := by
  have ht : Touch (Just bc) w ((w.setCell ⟨bc, a * 2, none⟩ x).setCell ⟨bc, a * 2 + 1, none⟩ y) := ((Touch.refl (Just bc) w).setCell ⟨bc, a * 2, none⟩ x fun _ => rfl).setCell ⟨bc, a * 2 + 1, none⟩ y fun _ => rfl
  have hn := notBytes_row h.row (by decide)
  refine ⟨(ht.same bb h.lb (fun e => hbc e)).trans h.body, ((h.row.set (a * 2) x).set (a * 2 + 1) y).congr fun i hi => ?_, fun c hc' => ?_, h.rb, h.rc⟩
  · show (if i = a * 2 + 1 then y else if i = a * 2 then x else vv (i / 2) (i % 2)) = setV vv a x y (i / 2) (i % 2)
    unfold setV
    by_cases e1 : i = a * 2 + 1
    · rw [if_pos e1, if_pos (by omega), if_neg (by omega)]
    · by_cases e2 : i = a * 2
      · rw [if_neg e1, if_pos e2, if_pos (by omega), if_pos (by omega)]
      · rw [if_neg e1, if_neg e2, if_neg (by omega)]
  · by_cases e : c = a
    · simp only [setV, if_pos e, if_true]
      exact hc.keep ht hn fun _ r => r
    · simp only [setV, if_neg e]
      exact (h.cells c hc').keep ht hn fun _ r => r
theorem Bod.bne {R : Nat → Prop} {w : World} {bb bc : Nat} {seed : Int} {n C : Nat} {vv : Nat → Nat → Value} {T : Cells} (h : Bod R w bb bc seed n C vv T) : bb ≠ bc := fun e => by
  have h1 := h.body
  rw [e, row_block h.row] at h1
  injection h1 with h1
  injection h1 with _ h1
  exact absurd h1 (by decide)

theorem swap_world {R : Nat → Prop} {w : World} {bb bc pb : Nat} {seed : Int} {n C : Nat} {vv : Nat → Nat → Value} {T : Cells} {a : Nat} {x y u v : Value} {o o' : Option (Key × Key)} (hB : Bod R w bb bc seed n C vv T)
    (hbox : w.heap[pb]? = some (.cells #[x, y] 79 (0, 0))) (hx : CellOk R w x y o) (hu : CellOk R w u v o') (h1 : pb ≠ bb) (h2 : pb ≠ bc) :
    Bod R ((((w.setCell ⟨bc, a * 2, none⟩ x).setCell ⟨bc, a * 2 + 1, none⟩ y).setCell ⟨pb, 0, none⟩ u).setCell ⟨pb, 1, none⟩ v) bb bc seed n C (setV vv a x y) (fun c => if c = a then o else T c) ∧
    ((((w.setCell ⟨bc, a * 2, none⟩ x).setCell ⟨bc, a * 2 + 1, none⟩ y).setCell ⟨pb, 0, none⟩ u).setCell ⟨pb, 1, none⟩ v).heap[pb]? = some (.cells #[u, v] 79 (0, 0)) ∧
    CellOk R ((((w.setCell ⟨bc, a * 2, none⟩ x).setCell ⟨bc, a * 2 + 1, none⟩ y).setCell ⟨pb, 0, none⟩ u).setCell ⟨pb, 1, none⟩ v) u v o' ∧
    Touch (fun b => b = bc ∨ b = pb) w ((((w.setCell ⟨bc, a * 2, none⟩ x).setCell ⟨bc, a * 2 + 1, none⟩ y).setCell ⟨pb, 0, none⟩ u).setCell ⟨pb, 1, none⟩ v) := by
  have hrow : w.rowIs pb 79 2 (fun i => if i = 0 then x else y) := ⟨_, hbox, rfl, fun i hi => by
    have : i = 0 ∨ i = 1 := by omega
    rcases this with rfl | rfl <;> rfl⟩
  have b1 := hB.put (a := a) o hB.bne hx
  have ht1 : Touch (Just bc) w ((w.setCell ⟨bc, a * 2, none⟩ x).setCell ⟨bc, a * 2 + 1, none⟩ y) := ((Touch.refl (Just bc) w).setCell ⟨bc, a * 2, none⟩ x fun _ => rfl).setCell ⟨bc, a * 2 + 1, none⟩ y fun _ => rfl
  have hrow1 := ht1.row hrow (fun e => h2 e)
  have ht2 : Touch (Just pb) ((w.setCell ⟨bc, a * 2, none⟩ x).setCell ⟨bc, a * 2 + 1, none⟩ y) ((((w.setCell ⟨bc, a * 2, none⟩ x).setCell ⟨bc, a * 2 + 1, none⟩ y).setCell ⟨pb, 0, none⟩ u).setCell ⟨pb, 1, none⟩ v) :=
    ((Touch.refl (Just pb) _).setCell ⟨pb, 0, none⟩ u fun _ => rfl).setCell ⟨pb, 1, none⟩ v fun _ => rfl
  have nb1 := notBytes_row hB.row (by decide)
  have nb2 := notBytes_row hrow1 (by decide)
  refine ⟨b1.keep ht2 nb2 (fun e => h1 e.symm) (fun e => h2 e.symm), ?_, (hu.keep ht1 nb1 fun _ r => r).keep ht2 nb2 fun _ r => r, (ht1.mono fun b _ e => .inl e).trans (ht2.mono fun b _ e => .inr e)⟩
  have := row_block (((hrow1.set 0 u).set 1 v).congr (g := fun i => if i = 0 then u else v) fun i hi => by
    have : i = 0 ∨ i = 1 := by omega
    rcases this with rfl | rfl <;> rfl)
  exact this

/-- A pair as it lies in a box. -/
theorem CellOk.form {R : Nat → Prop} {w : World} {x y : Value} {o : Option (Key × Key)} (h : CellOk R w x y o) : ∃ ao l cap bo m cap', x = .slice ao l cap ∧ y = .slice bo m cap' ∧ decide (l = 0) = o.isNone ∧ l ≤ 64 ∧ m ≤ 1000 ∧ (o = none ↔ ao = none) := by
  cases o with
  | none => exact ⟨_, _, _, _, _, _, h.1, h.2, rfl, by omega, by omega, by simp⟩
  | some p =>
    obtain ⟨⟨⟨ao, cap, e1, hn, hs⟩, _⟩, ⟨⟨bo, cap', e2, _, _⟩, _⟩, h3, h4, h5⟩ := h
    refine ⟨_, _, _, _, _, _, e1, e2, by simp; intro h; rw [h] at h3; simp at h3, h4, h5, ?_⟩
    constructor
    · intro h; cases h
    · intro h; have := (hn h).1; rw [this] at h3; simp at h3

def Fin1 (seed : Int) (C : Nat) (T0 : Cells) (p0 : Key × Key) (T : Cells) : Prop := Runs (bfS seed) (homS seed C) C T ∧ (∀ x, InT C T x ↔ InT C T0 x ∨ x = p0) ∧ frees C T + 1 = frees C T0
def PushPost (R : Nat → Prop) (bb bc : Nat) (seed : Int) (n C : Nat) (T0 : Cells) (p0 : Key × Key) (w : World) (e : Ending) (w' : World) : Prop :=
  e = .returned (.tuple #[]) ∧ ∃ vv T, Bod R w' bb bc seed n C vv T ∧ Fin1 seed C T0 p0 T ∧ Touch (Just bc) w w'

def muP (C z pb : Nat) (i : Value) (w : World) : Nat := match w.cell? ⟨pb, 0, none⟩ with
  | some (.slice none _ _) => 0
  | _ => sto C (intOf i).toNat z + 1

theorem muP_nil {C z pb : Nat} {i : Value} {w : World} {l c : Nat} (h : w.cell? ⟨pb, 0, none⟩ = some (.slice none l c)) : muP C z pb i w = 0 := by unfold muP; rw [h]
theorem muP_some {C z pb : Nat} {i : Value} {w : World} {ad : Addr} {l c : Nat} (h : w.cell? ⟨pb, 0, none⟩ = some (.slice (some ad) l c)) : muP C z pb i w = sto C (intOf i).toNat z + 1 := by unfold muP; rw [h]
theorem sto_less {C a z : Nat} (ha : a < C) (hz : z < C) (h : a ≠ z) : sto C (nx C a) z + 1 = sto C a z := by unfold sto nx; (repeat' split) <;> omega
theorem calls_class_same {P : Program} {S : World → Prop} {f : FuncId} {args : Array Value} {s : Wld S} {v : Value} (h : Calls P f args s.w fun e w' => e = .returned v ∧ s.w = w') :
    Calls P f args s.w fun e w'' => e = .returned v ∧ ∃ s' : Wld S, w'' = s'.w := h.mono fun _ _ ⟨he, hr⟩ => ⟨he, ⟨s, hr.symm⟩⟩
theorem calls_class_bool {S : World → Prop} {f : FuncId} {args : Array Value} {s : Wld S} {r : Bool} (h : Calls Tryd.prog f args s.w (BoolN r s.w)) (hR : ∀ w', Touch Nil s.w w' → S w') :
    Calls Tryd.prog f args s.w fun e w'' => e = .returned (.bool r) ∧ ∃ s' : Wld S, w'' = s'.w := h.mono fun _ w' ⟨he, hr⟩ => ⟨he, ⟨⟨w', hR w' hr⟩, rfl⟩⟩
abbrev PushS (tb pb bb : Nat) (u v x y : Value) (seed : Int) (w0 w' : World) : Prop :=
  w'.cell? ⟨tb, 0, none⟩ = some u ∧ w'.cell? ⟨tb, 1, none⟩ = some v ∧ w'.cell? ⟨pb, 0, none⟩ = some x ∧ w'.cell? ⟨pb, 1, none⟩ = some y ∧ w'.cell? ⟨bb, 0, none⟩ = some (.int .u64 seed) ∧ Hid (Touch Nil w0 w')
theorem PushS.step {tb pb bb : Nat} {u v x y : Value} {seed : Int} {w0 w w' : World} (hs : Touch Nil w w') (h : PushS tb pb bb u v x y seed w0 w) : PushS tb pb bb u v x y seed w0 w' := by
  obtain ⟨h0, h1, h2, h3, h4, h5⟩ := h
  have k : ∀ {b o : Nat} {u : Value}, w.cell? ⟨b, o, none⟩ = some u → w'.cell? ⟨b, o, none⟩ = some u := fun {b o u} h => (hs.cell (World.block_lt_of_cell? w _ h) (fun c => c) o).trans h
  exact ⟨k h0, k h1, k h2, k h3, k h4, Lib.hid (h5.out.trans hs)⟩

set_option maxRecDepth 100000 in
set_option maxHeartbeats 1000000 in
theorem push_any (R : Nat → Prop) (bb bc : Nat) (seed : Int) (n C a0 : Nat) (vv : Nat → Nat → Value) (T0 : Cells) (p0 : Key × Key) (x y : Value) (w : World) (hB : Bod R w bb bc seed n C vv T0) (hp : CellOk R w x y (some p0))
    (hC : 8 ≤ C) (hC2 : C ≤ 1048576) (hf : ∃ x, x < C ∧ T0 x = none) (hP : Push (bfS seed) (homS seed C) C T0 p0 T0 a0 p0) :
    Calls Tryd.prog 72 #[.pointer (some ⟨bb, 0, none⟩), .int .i64 a0, .agg #[x, y]] w (PushPost R bb bc seed n C T0 p0 w) := by
  have HBNE := Lib.hid hB.bne
  have HB := Lib.hid hB
  have HP := Lib.hid hP
  have HC := Lib.hid hp
  have ha0 := hP.lt
  obtain ⟨z, hz, hzn⟩ := hf
  have HZ := Lib.hid hzn
  have lb0 := hB.lb
  have lc0 := hB.lc
  obtain ⟨ao0, l0, cap0, bo0, m0, cap0', rfl, rfl, _, _, _, _⟩ := hp.form
  clear hB hp hP hzn
  go_enter Tryd.func72, Tryd.ntmps72
  go_wp2_with fail
  go_loopw [1] (fun i wr => ∃ (a : Nat) (T : Cells) (vv : Nat → Nat → Value) (o : Option (Key × Key)) (x y : Value), a < C ∧ i = .int .i64 a ∧ wr.heap[w.heap.size]? = some (.cells #[x, y] 79 (0, 0)) ∧ CellOk R wr x y o ∧ Bod R wr bb bc seed n C vv T ∧
      (∀ p, o = some p → Push (bfS seed) (homS seed C) C T0 p0 T a p) ∧ (o = none → Fin1 seed C T0 p0 T) ∧ Touch (Just bc) w wr) (fun i wr => muP C z w.heap.size i wr)
  case atStart =>
    have ht := (Touch.refl (Just bc) w).alloc (.cells #[.slice ao0 l0 cap0, .slice bo0 m0 cap0'] 79)
    have htn := (Touch.refl Nil w).alloc (.cells #[.slice ao0 l0 cap0, .slice bo0 m0 cap0'] 79)
    exact ⟨a0, T0, vv, some p0, _, _, ha0, rfl, heap_alloc_new _ _, HC.out.keep htn (notBytes_nil _) fun _ r => r, HB.out.keepN htn, (fun p e => by cases e; exact HP.out), (fun e => by cases e), ht⟩
  obtain ⟨a, T, vv', o, x', y', ha, rfl, hbox, hco, hbd, hpu, hfin, hto⟩ := hrel
  have HCO := Lib.hid hco
  obtain ⟨ao, l, cap, bo, m, cap', rfl, rfl, hl0, hl64, hm1000, hno⟩ := hco.form
  have HBD := Lib.hid hbd
  have HPU := Lib.hid hpu
  have HFIN := Lib.hid hfin
  have HT := Lib.hid hto
  have HNO := Lib.hid hno
  have HBX := Lib.hid hbox
  have b0 : wr.cell? ⟨w.heap.size, 0, none⟩ = some (.slice ao l cap) := by simp [World.cell?, hbox]
  have b1 : wr.cell? ⟨w.heap.size, 1, none⟩ = some (.slice bo m cap') := by simp [World.cell?, hbox]
  have HL0 := Lib.hid hl0
  clear hco hbd hpu hfin hto hno hbox hl0
  go_wp2_with fail
  refine (isFree_any ao l cap (.slice bo m cap') _ (by omega)).mono ?_
  rintro e w1 ⟨rfl, hT1⟩
  have HT1 := Lib.hid hT1
  clear hT1
  have lpb : w.heap.size < wr.heap.size := World.block_lt_of_cell? wr _ b0
  cases o with
  | none =>
    have hl : decide (l = 0) = true := HL0.out
    go_wp2_with fail
    go_end0
    exact ⟨rfl, vv', T, HBD.out.keepN HT1.out, HFIN.out trivial, HT.out.trans HT1.out.of_nil⟩
  | some p =>
    have hl : decide (l = 0) = false := HL0.out
    have HB1 := Lib.hid (HBD.out.keepN HT1.out)
    have HBX1 := Lib.hid ((HT1.out.same _ lpb (fun c => c)).trans HBX.out)
    have HCO1 := Lib.hid (HCO.out.keep HT1.out (notBytes_nil _) (R' := R) fun _ r => r)
    have HPP := Lib.hid (HPU.out p rfl)
    have s2 := HB1.out.cellsC
    obtain ⟨co, l1, cap1, do', m1, cap1', e0, e1, hfree, hl64', hm1000'⟩ := HB1.out.slice ha
    have k0 := HB1.out.keyC ha
    have k1 := HB1.out.valC ha
    rw [e0] at k0
    rw [e1] at k1
    have HE0 := Lib.hid e0
    have HE1 := Lib.hid e1
    have HFR := Lib.hid hfree
    have HB0 := Lib.hid b0
    clear e0 e1 hfree b0 b1 HBD HCO HBX
    have i1 : (a : Int) < (C : Int) := by omega
    have i2 : (0 : Int) ≤ (a : Int) := by omega
    go_wp2_with fail
    have HTW := Lib.hid ((Touch.refl Nil w1).alloc (.cells #[.slice co l1 cap1, .slice do' m1 cap1'] 79))
    have c0 : (w1.alloc (.cells #[.slice co l1 cap1, .slice do' m1 cap1'] 79)).cell? ⟨w1.heap.size, 0, none⟩ = some (.slice co l1 cap1) := by simp only [World.cell?]; rw [heap_alloc_new]; rfl
    have c1 : (w1.alloc (.cells #[.slice co l1 cap1, .slice do' m1 cap1'] 79)).cell? ⟨w1.heap.size, 1, none⟩ = some (.slice do' m1 cap1') := by simp only [World.cell?]; rw [heap_alloc_new]; rfl
    have lp1 : w.heap.size < w1.heap.size := Nat.lt_of_lt_of_le lpb HT1.out.size
    have c2 : (w1.alloc (.cells #[.slice co l1 cap1, .slice do' m1 cap1'] 79)).cell? ⟨w.heap.size, 0, none⟩ = some (.slice ao l cap) := by rw [World.cell?_alloc_lt _ _ _ lp1]; simp [World.cell?, HBX1.out]
    have c3 : (w1.alloc (.cells #[.slice co l1 cap1, .slice do' m1 cap1'] 79)).cell? ⟨w.heap.size, 1, none⟩ = some (.slice bo m cap') := by rw [World.cell?_alloc_lt _ _ _ lp1]; simp [World.cell?, HBX1.out]
    have c4 : (w1.alloc (.cells #[.slice co l1 cap1, .slice do' m1 cap1'] 79)).cell? ⟨bb, 0, none⟩ = some (.int .u64 seed) := (HB1.out.keepN HTW.out).seedC
    have HBOX2 := Lib.hid (show (w1.alloc (.cells #[.slice co l1 cap1, .slice do' m1 cap1'] 79)).heap[w1.heap.size]? = some (.cells #[.slice co l1 cap1, .slice do' m1 cap1'] 79 (0, 0)) from heap_alloc_new _ _)
    have HG : ∃ W2, w1.alloc (.cells #[.slice co l1 cap1, .slice do' m1 cap1'] 79) = W2 := ⟨_, rfl⟩
    obtain ⟨W2, eW⟩ := HG
    rw [eW] at c0 c1 c2 c3 c4 HTW HBOX2 ⊢
    clear eW
    have HG : ∃ tb, w1.heap.size = tb := ⟨_, rfl⟩
    obtain ⟨tb, etb⟩ := HG
    rw [etb] at c0 c1 HBOX2 ⊢
    have HETB := Lib.hid etb
    clear etb
    have HSTART := Lib.hid (show PushS tb w.heap.size bb (.slice co l1 cap1) (.slice do' m1 cap1') (.slice ao l cap) (.slice bo m cap') seed W2 W2.drew from ⟨c0, c1, c2, c3, c4, Lib.hid (Touch.refl _ _).drew⟩)
    clear k0 k1 s2
    cases hTa : T a with
    | none =>
      have HISF := Lib.hid (fun w' => by have := isFree_any co l1 cap1 (.slice do' m1 cap1') w' (by omega); rw [HFR.out, hTa] at this; exact this)
      have HTa := Lib.hid hTa
      clear hTa
      clear c0 c1 c2 c3 c4
      have f0 := fun s : Wld (PushS tb w.heap.size bb (.slice co l1 cap1) (.slice do' m1 cap1') (.slice ao l cap) (.slice bo m cap') seed W2) => s.ok.1
      have f1 := fun s : Wld (PushS tb w.heap.size bb (.slice co l1 cap1) (.slice do' m1 cap1') (.slice ao l cap) (.slice bo m cap') seed W2) => s.ok.2.1
      have f2 := fun s : Wld (PushS tb w.heap.size bb (.slice co l1 cap1) (.slice do' m1 cap1') (.slice ao l cap) (.slice bo m cap') seed W2) => s.ok.2.2.1
      have f3 := fun s : Wld (PushS tb w.heap.size bb (.slice co l1 cap1) (.slice do' m1 cap1') (.slice ao l cap) (.slice bo m cap') seed W2) => s.ok.2.2.2.1
      have f4 := fun s : Wld (PushS tb w.heap.size bb (.slice co l1 cap1) (.slice do' m1 cap1') (.slice ao l cap) (.slice bo m cap') seed W2) => s.ok.2.2.2.2.1
      have _hne : Nonempty (Wld (PushS tb w.heap.size bb (.slice co l1 cap1) (.slice do' m1 cap1') (.slice ao l cap) (.slice bo m cap') seed W2)) := ⟨⟨_, HSTART.out⟩⟩
      refine wp_region_class (S := (PushS tb w.heap.size bb (.slice co l1 cap1) (.slice do' m1 cap1') (.slice ao l cap) (.slice bo m cap') seed W2)) HSTART.out (by kernel_rfl) (by kernel_rfl) ?_
      repeat (go_big_quiet_step (first | (go_at_call 44; refine calls_class_bool (r := true) (HISF.out _) ?_; intro w' ht; exact PushS.step ht (Wld.ok _))))
      refine wpQuiet_nil ?_
      intro _ hw'
      obtain ⟨sq, hw''⟩ := hw'
      subst hw''
      have HOK := Lib.hid sq.ok
      have HG : ∃ w3, sq.w = w3 := ⟨_, rfl⟩
      obtain ⟨w3, e3⟩ := HG
      rw [e3] at HOK ⊢
      clear e3 sq f0 f1 f2 f3 f4
      obtain ⟨d0, d1, d2, d3, _, d5⟩ := HOK.out
      have HT3 := Lib.hid (HTW.out.trans d5.out)
      have HB3 := Lib.hid (HB1.out.keepN HT3.out)
      have s2 := HB3.out.cellsC
      have k0 := HB3.out.keyC ha
      have k1 := HB3.out.valC ha
      have z0 := HB3.out.row.frozen (a * 2)
      have z1 := HB3.out.row.frozen (a * 2 + 1)
      have HBX3 := Lib.hid ((HT3.out.same _ lp1 (fun c => c)).trans HBX1.out)
      have y0 : w3.frozen? ⟨w.heap.size, 0, none⟩ = false := by simp [World.frozen?, HBX3.out]
      have y1 : w3.frozen? ⟨w.heap.size, 1, none⟩ = false := by simp [World.frozen?, HBX3.out]
      clear d5
      have ltb := HETB.out
      have lb1 := HB1.out.lb
      have lc1 := HB1.out.lc
      have n1 : ¬ tb = bc := by omega
      have n2 : ¬ bc = tb := by omega
      have n3 : ¬ tb = w.heap.size := by omega
      have n4 : ¬ w.heap.size = tb := by omega
      have n5 : ¬ w.heap.size = bc := by omega
      have n6 : ¬ bc = w.heap.size := by omega
      have n7 : ¬ bb = w.heap.size := by omega
      have n8 : ¬ w.heap.size = bb := by omega
      have n9 : ¬ bb = bc := HBNE.out
      have n10 : ¬ bc = bb := fun e => HBNE.out e.symm
      clear ltb
      go_wp2_with fail
      go_region
      have HCO3 := Lib.hid (HCO1.out.keep HT3.out (notBytes_nil _) (R' := R) fun _ r => r)
      have HU3 := Lib.hid (show CellOk R w3 (.slice co l1 cap1) (.slice do' m1 cap1') (none) from by have := HB3.out.cells a ha; rw [HE0.out, HE1.out, HTa.out] at this; exact this)
      have HSW := Lib.hid (swap_world (a := a) HB3.out HBX3.out HCO3.out HU3.out n8 n5)
      have HG : ∃ w5, ((((w3.setCell ⟨bc, a * 2, none⟩ (.slice ao l cap)).setCell ⟨bc, a * 2 + 1, none⟩ (.slice bo m cap')).setCell ⟨w.heap.size, 0, none⟩ (.slice co l1 cap1)).setCell ⟨w.heap.size, 1, none⟩ (.slice do' m1 cap1')) = w5 := ⟨_, rfl⟩
      obtain ⟨w5, e5⟩ := HG
      rw [e5] at HSW ⊢
      clear e5 d0 d1 d2 d3 s2 k0 k1 z0 z1 y0 y1 n1 n2 n3 n4 n5 n6 n7 n8 n9 n10
      have hc5 := (HSW.out.1.keepN ((Touch.refl Nil w5).drew)).cellsC
      go_wp2_with fail
      refine (next_any bb bc a C _ hc5 ha hC2).mono ?_
      rintro e w6 ⟨rfl, rfl⟩
      go_wp2_with fail
      go_roundw
      case rel => exact ⟨nx C a, _, _, none, _, _, nx_lt (by omega), rfl, HSW.out.2.1, HSW.out.2.2.1, HSW.out.1.keepN ((Touch.refl Nil w5).drew), (fun p h => by cases h), (fun _ => HPP.out.stop HTa.out), ((((HT.out.trans HT1.out.of_nil).trans HT3.out.of_nil).trans' HSW.out.2.2.2 fun b hb hs => by rcases hs with e | e; exact e; omega).drew)⟩
      case measure =>
        have hco : co = none := by have := HU3.out.1; injection this
        have h1 : w5.drew.cell? ⟨w.heap.size, 0, none⟩ = some (.slice none l1 cap1) := by
            have q : w5.cell? ⟨w.heap.size, 0, none⟩ = some (.slice co l1 cap1) := by simp [World.cell?, HSW.out.2.1]
            rw [← hco]; exact q
        rw [muP_nil h1]
        cases hao : ao with
        | none => exact absurd (HNO.out.2 hao) (by simp)
        | some ad => rw [hao] at HB0; rw [muP_some HB0.out]; omega
    | some q =>
      have HISF := Lib.hid (fun w' => by have := isFree_any co l1 cap1 (.slice do' m1 cap1') w' (by omega); rw [HFR.out, hTa] at this; exact this)
      have HTa := Lib.hid hTa
      clear hTa
      obtain ⟨pk, pv⟩ := p
      obtain ⟨qk, qv⟩ := q
      have HKP := Lib.hid (show l = pk.length ∧ SlI w1 .u8 ao (ub pk) from by
        obtain ⟨⟨⟨ao', cap'', e, _, hs⟩, _⟩, _⟩ := HCO1.out
        injection e with e1 e2 e3
        exact ⟨e2, by rw [e1]; exact hs⟩)
      have HKQ := Lib.hid (show l1 = qk.length ∧ SlI w1 .u8 co (ub qk) from by
        have := HB1.out.cells a ha
        rw [HE0.out, HE1.out, HTa.out] at this
        obtain ⟨⟨⟨ao', cap'', e, _, hs⟩, _⟩, _⟩ := this
        injection e with e1 e2 e3
        exact ⟨e2, by rw [e1]; exact hs⟩)
      have HCB := Lib.hid (show ∀ w', Touch Nil w1 w' → Calls Tryd.prog 59 #[.int .u64 seed, .slice ao l cap, .slice co l1 cap1] w' fun e w'' => e = .returned (.bool (bfS seed pk qk)) ∧ w' = w'' from fun w' ht => by
        have := comesBefore_any seed pk qk ao co cap cap1 w' (by have := HKP.out.1; omega) (by have := HKQ.out.1; omega) (HKP.out.2.keepN ht) (HKQ.out.2.keepN ht)
        rw [← HKP.out.1, ← HKQ.out.1] at this
        exact this)
      have HZA := Lib.hid (show a ≠ z from fun e => by have := HPP.out.fr z; rw [← e, HTa.out, e, HZ.out] at this; cases this)
      clear c0 c1 c2 c3 c4
      have f0 := fun s : Wld (PushS tb w.heap.size bb (.slice co l1 cap1) (.slice do' m1 cap1') (.slice ao l cap) (.slice bo m cap') seed W2) => s.ok.1
      have f1 := fun s : Wld (PushS tb w.heap.size bb (.slice co l1 cap1) (.slice do' m1 cap1') (.slice ao l cap) (.slice bo m cap') seed W2) => s.ok.2.1
      have f2 := fun s : Wld (PushS tb w.heap.size bb (.slice co l1 cap1) (.slice do' m1 cap1') (.slice ao l cap) (.slice bo m cap') seed W2) => s.ok.2.2.1
      have f3 := fun s : Wld (PushS tb w.heap.size bb (.slice co l1 cap1) (.slice do' m1 cap1') (.slice ao l cap) (.slice bo m cap') seed W2) => s.ok.2.2.2.1
      have f4 := fun s : Wld (PushS tb w.heap.size bb (.slice co l1 cap1) (.slice do' m1 cap1') (.slice ao l cap) (.slice bo m cap') seed W2) => s.ok.2.2.2.2.1
      cases hbf : bfS seed pk qk
      all_goals
        rw [hbf] at HCB
        have HBF := Lib.hid hbf
        have HCBS := Lib.hid (fun s : Wld (PushS tb w.heap.size bb (.slice co l1 cap1) (.slice do' m1 cap1') (.slice ao l cap) (.slice bo m cap') seed W2) => HCB.out s.w (HTW.out.trans s.ok.2.2.2.2.2.out))
        clear hbf
      · have _hne : Nonempty (Wld (PushS tb w.heap.size bb (.slice co l1 cap1) (.slice do' m1 cap1') (.slice ao l cap) (.slice bo m cap') seed W2)) := ⟨⟨_, HSTART.out⟩⟩
        refine wp_region_class (S := (PushS tb w.heap.size bb (.slice co l1 cap1) (.slice do' m1 cap1') (.slice ao l cap) (.slice bo m cap') seed W2)) HSTART.out (by kernel_rfl) (by kernel_rfl) ?_
        repeat (go_big_quiet_step (first | (go_at_call 44; refine calls_class_bool (r := false) (HISF.out _) ?_; intro w' ht; exact PushS.step ht (Wld.ok _)) | (go_at_call 59; exact calls_class_same (HCBS.out _))))
        refine wpQuiet_nil ?_
        intro _ hw'
        obtain ⟨sq, hw''⟩ := hw'
        subst hw''
        have HOK := Lib.hid sq.ok
        have HG : ∃ w3, sq.w = w3 := ⟨_, rfl⟩
        obtain ⟨w3, e3⟩ := HG
        rw [e3] at HOK ⊢
        clear e3 sq f0 f1 f2 f3 f4
        obtain ⟨d0, d1, d2, d3, _, d5⟩ := HOK.out
        have HT3 := Lib.hid (HTW.out.trans d5.out)
        have HB3 := Lib.hid (HB1.out.keepN HT3.out)
        have s2 := HB3.out.cellsC
        have HBX3 := Lib.hid ((HT3.out.same _ lp1 (fun c => c)).trans HBX1.out)
        have HD2 := Lib.hid d2
        clear d0 d1 d2 d3 d5
        go_wp2_with fail
        refine (next_any bb bc a C _ s2 ha hC2).mono ?_
        rintro e w6 ⟨rfl, rfl⟩
        go_wp2_with fail
        go_roundw
        case rel => exact ⟨nx C a, T, vv', some (pk, pv), _, _, nx_lt (by omega), rfl, HBX3.out, HCO1.out.keep HT3.out (notBytes_nil _) (R' := R) fun _ r => r, HB3.out, (fun p h => by cases h; exact HPP.out.skip (koS seed) (homS_lt (by omega) seed) HTa.out HBF.out), (fun h => by cases h), (HT.out.trans HT1.out.of_nil).trans HT3.out.of_nil⟩
        case measure =>
          cases hao : ao with
          | none => exact absurd (HNO.out.2 hao) (by simp)
          | some ad =>
            rw [hao] at HB0 HD2
            rw [muP_some HB0.out, muP_some HD2.out]
            have := sto_less ha hz HZA.out
            simp [intOf]; omega
      · have _hne : Nonempty (Wld (PushS tb w.heap.size bb (.slice co l1 cap1) (.slice do' m1 cap1') (.slice ao l cap) (.slice bo m cap') seed W2)) := ⟨⟨_, HSTART.out⟩⟩
        refine wp_region_class (S := (PushS tb w.heap.size bb (.slice co l1 cap1) (.slice do' m1 cap1') (.slice ao l cap) (.slice bo m cap') seed W2)) HSTART.out (by kernel_rfl) (by kernel_rfl) ?_
        repeat (go_big_quiet_step (first | (go_at_call 44; refine calls_class_bool (r := false) (HISF.out _) ?_; intro w' ht; exact PushS.step ht (Wld.ok _)) | (go_at_call 59; exact calls_class_same (HCBS.out _))))
        refine wpQuiet_nil ?_
        intro _ hw'
        obtain ⟨sq, hw''⟩ := hw'
        subst hw''
        have HOK := Lib.hid sq.ok
        have HG : ∃ w3, sq.w = w3 := ⟨_, rfl⟩
        obtain ⟨w3, e3⟩ := HG
        rw [e3] at HOK ⊢
        clear e3 sq f0 f1 f2 f3 f4
        obtain ⟨d0, d1, d2, d3, _, d5⟩ := HOK.out
        have HT3 := Lib.hid (HTW.out.trans d5.out)
        have HB3 := Lib.hid (HB1.out.keepN HT3.out)
        have s2 := HB3.out.cellsC
        have k0 := HB3.out.keyC ha
        have k1 := HB3.out.valC ha
        have z0 := HB3.out.row.frozen (a * 2)
        have z1 := HB3.out.row.frozen (a * 2 + 1)
        have HBX3 := Lib.hid ((HT3.out.same _ lp1 (fun c => c)).trans HBX1.out)
        have y0 : w3.frozen? ⟨w.heap.size, 0, none⟩ = false := by simp [World.frozen?, HBX3.out]
        have y1 : w3.frozen? ⟨w.heap.size, 1, none⟩ = false := by simp [World.frozen?, HBX3.out]
        clear d5
        have ltb := HETB.out
        have lb1 := HB1.out.lb
        have lc1 := HB1.out.lc
        have n1 : ¬ tb = bc := by omega
        have n2 : ¬ bc = tb := by omega
        have n3 : ¬ tb = w.heap.size := by omega
        have n4 : ¬ w.heap.size = tb := by omega
        have n5 : ¬ w.heap.size = bc := by omega
        have n6 : ¬ bc = w.heap.size := by omega
        have n7 : ¬ bb = w.heap.size := by omega
        have n8 : ¬ w.heap.size = bb := by omega
        have n9 : ¬ bb = bc := HBNE.out
        have n10 : ¬ bc = bb := fun e => HBNE.out e.symm
        clear ltb
        go_wp2_with fail
        go_region
        have HCO3 := Lib.hid (HCO1.out.keep HT3.out (notBytes_nil _) (R' := R) fun _ r => r)
        have HU3 := Lib.hid (show CellOk R w3 (.slice co l1 cap1) (.slice do' m1 cap1') (some (qk, qv)) from by have := HB3.out.cells a ha; rw [HE0.out, HE1.out, HTa.out] at this; exact this)
        have HSW := Lib.hid (swap_world (a := a) HB3.out HBX3.out HCO3.out HU3.out n8 n5)
        have HG : ∃ w5, ((((w3.setCell ⟨bc, a * 2, none⟩ (.slice ao l cap)).setCell ⟨bc, a * 2 + 1, none⟩ (.slice bo m cap')).setCell ⟨w.heap.size, 0, none⟩ (.slice co l1 cap1)).setCell ⟨w.heap.size, 1, none⟩ (.slice do' m1 cap1')) = w5 := ⟨_, rfl⟩
        obtain ⟨w5, e5⟩ := HG
        rw [e5] at HSW ⊢
        clear e5 d0 d1 d2 d3 s2 k0 k1 z0 z1 y0 y1 n1 n2 n3 n4 n5 n6 n7 n8 n9 n10
        have hc5 := (HSW.out.1.keepN ((Touch.refl Nil w5).drew)).cellsC
        go_wp2_with fail
        refine (next_any bb bc a C _ hc5 ha hC2).mono ?_
        rintro e w6 ⟨rfl, rfl⟩
        go_wp2_with fail
        go_roundw
        case rel => exact ⟨nx C a, _, _, some (qk, qv), _, _, nx_lt (by omega), rfl, HSW.out.2.1, HSW.out.2.2.1, HSW.out.1.keepN ((Touch.refl Nil w5).drew), (fun p h => by cases h; exact HPP.out.swap (koS seed) (homS_lt (by omega) seed) HTa.out HBF.out), (fun h => by cases h), ((((HT.out.trans HT1.out.of_nil).trans HT3.out.of_nil).trans' HSW.out.2.2.2 fun b hb hs => by rcases hs with e | e; exact e; omega).drew)⟩
        case measure =>
          have hco : ∃ ad, co = some ad := by
            cases hc : co with
            | none =>
              exfalso
              have := HKQ.out.2 0 (by have := HU3.out.2.2.1; simp; omega)
              rw [hc] at this
              obtain ⟨b, off, e, _⟩ := this
              cases e
            | some ad => exact ⟨ad, rfl⟩
          obtain ⟨ad', hco⟩ := hco
          have h1 : w5.drew.cell? ⟨w.heap.size, 0, none⟩ = some (.slice (some ad') l1 cap1) := by
            have q : w5.cell? ⟨w.heap.size, 0, none⟩ = some (.slice co l1 cap1) := by simp [World.cell?, HSW.out.2.1]
            rw [← hco]; exact q
          rw [muP_some h1]
          cases hao : ao with
          | none => exact absurd (HNO.out.2 hao) (by simp)
          | some ad =>
            rw [hao] at HB0
            rw [muP_some HB0.out]
            have := sto_less ha hz HZA.out
            simp [intOf]; omega
end Go.Proofs.YticddcnlafbkoaaDoor
