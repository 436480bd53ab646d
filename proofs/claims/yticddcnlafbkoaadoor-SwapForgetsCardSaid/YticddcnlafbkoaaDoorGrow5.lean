import Derived.Test.YticddcnlafbkoaaDoorGrow4
/- Taking out: steps, pull. -/
namespace Go.Proofs.YticddcnlafbkoaaDoor
open Go.ChangeShapes Go.WideShapes Go.ChangeAt Go.RowKit Go.Deep

def IntD (r : Int) (w : World) (e : Ending) (w' : World) : Prop := e = .returned (.int .i64 r) ∧ ∃ k, w' = w.drewN k

theorem sto_mod {C a b : Nat} (ha : a < C) (hb : b < C) : ((b : Int) - (a : Int) + (C : Int)) % (C : Int) = ((sto C a b : Nat) : Int) := by
  unfold sto
  by_cases h : a ≤ b
  · rw [if_pos h, show (b : Int) - (a : Int) + (C : Int) = ((b - a : Nat) : Int) + (C : Int) by omega, Int.add_emod_right, Int.emod_eq_of_lt (by omega) (by omega)]
  · rw [if_neg h, Int.emod_eq_of_lt (by omega) (by omega)]; omega

set_option maxHeartbeats 1000000 in
theorem steps_any (bb bc a b C : Nat) (w : World) (h : w.cell? ⟨bb, 2, none⟩ = some (.slice (some ⟨bc, 0, none⟩) C C)) (ha : a < C) (hb : b < C) (hC : C ≤ 1048576) :
    Calls Tryd.prog 78 #[.pointer (some ⟨bb, 0, none⟩), .int .i64 a, .int .i64 b] w (IntD ((sto C a b : Nat) : Int) w) := by
  have hz0 : ((C : Int) == 0) = false := by simp; omega
  have hm' := sto_mod ha hb
  have hm : ((b : Int) - (a : Int) + (C : Int)).tmod (C : Int) = ((sto C a b : Nat) : Int) := by
    rw [Int.tmod_eq_emod_of_nonneg (by omega)]; exact hm'
  have e1 : IntKind.i64.wrap ((b : Int) - (a : Int)) = (b : Int) - (a : Int) := IntWalk.i64_in _ (by omega)
  have e2 : IntKind.i64.wrap ((b : Int) - (a : Int) + (C : Int)) = (b : Int) - (a : Int) + (C : Int) := IntWalk.i64_in _ (by omega)
  generalize sto C a b = r at *
  go_enter Tryd.func78, Tryd.ntmps78
  go_wp2_with (go_quiet (fail))
  go_ret
  exact ⟨rfl, _, rfl⟩

def PullPost (R : Nat → Prop) (bb bc : Nat) (seed : Int) (n C : Nat) (T1 : Cells) (w : World) (e : Ending) (w' : World) : Prop :=
  e = .returned (.tuple #[]) ∧ ∃ vv T, Bod R w' bb bc seed n C vv T ∧ Runs (bfS seed) (homS seed C) C T ∧ (∀ x, InT C T x ↔ InT C T1 x) ∧ frees C T = frees C T1 ∧ Touch (Just bc) w w'

theorem sto_past {C h f a : Nat} (hh : h < C) (hf : f < C) (ha : a < C) (hne : f ≠ a) : sto C f a ≤ sto C h a ↔ sto C h f < sto C h a := by
  unfold sto
  (repeat' split) <;> omega

set_option maxRecDepth 100000 in
set_option maxHeartbeats 4000000 in
theorem pull_any (R : Nat → Prop) (bb bc : Nat) (seed : Int) (n C f0 z : Nat) (vv : Nat → Nat → Value) (T1 : Cells) (w : World) (hB : Bod R w bb bc seed n C vv T1) (hC : 8 ≤ C) (hC2 : C ≤ 1048576) (hP : Pull (bfS seed) (homS seed C) C T1 z T1 f0 (nx C f0)) :
    Calls Tryd.prog 64 #[.pointer (some ⟨bb, 0, none⟩), .int .i64 f0] w (PullPost R bb bc seed n C T1 w) := by
  have HB := Lib.hid hB
  have HP := Lib.hid hP
  have c2 := hB.cellsC
  have hf0 := hP.flt
  have hz := hP.zlt
  have HH := Lib.hid (homS_lt (C := C) (by omega) seed)
  clear hB hP
  go_enter Tryd.func64, Tryd.ntmps64
  go_wp2_with fail
  refine (next_any bb bc f0 C w c2 hf0 hC2).mono ?_
  rintro e w1 ⟨rfl, rfl⟩
  clear c2
  go_wp2_with fail
  go_loopw [1, 4] (fun s1 s4 wr => ∃ (f a : Nat) (T : Cells) (vv : Nat → Nat → Value), s1 = .int .i64 (f : Int) ∧ s4 = .int .i64 (a : Int) ∧ Bod R wr bb bc seed n C vv T ∧ Pull (bfS seed) (homS seed C) C T1 z T f a ∧ Touch (Just bc) w wr) (fun _ s4 _ => sto C (intOf s4).toNat z)
  case atStart => exact ⟨f0, nx C f0, T1, vv, rfl, rfl, HB.out, HP.out, Touch.refl _ _⟩
  obtain ⟨f, a, T, vv', rfl, rfl, hbd, hpu, hto⟩ := hrel
  have ha := hpu.alt
  have hf := hpu.flt
  have hne := hpu.ne
  have HBD := Lib.hid hbd
  have HPU := Lib.hid hpu
  have HT := Lib.hid hto
  obtain ⟨ao, l, cap, bo, m, cap', e0, e1, hfree, hl64, hm1000⟩ := hbd.slice ha
  have s2 := hbd.cellsC
  have k0 := hbd.keyC ha
  have k1 := hbd.valC ha
  rw [e0] at k0
  rw [e1] at k1
  have HE0 := Lib.hid e0
  have HE1 := Lib.hid e1
  have HFR := Lib.hid hfree
  have i1 : (a : Int) < (C : Int) := by omega
  have i2 : (0 : Int) ≤ (a : Int) := by omega
  clear hbd hpu hto e0 e1 hfree
  go_wp2_with fail
  refine (isFree_any ao l cap (.slice bo m cap') _ (by omega)).mono ?_
  rintro e w1 ⟨rfl, hT1⟩
  have HT1 := Lib.hid hT1
  have HB1 := Lib.hid (HBD.out.keepN hT1)
  clear hT1 s2 k0 k1
  cases hTa : T a with
  | none =>
    have hl0 : decide (l = 0) = true := by rw [HFR.out, hTa]; rfl
    have HST := Lib.hid (HPU.out.stop HH.out hTa)
    clear hTa
    go_wp2_with fail
    go_end0
    exact ⟨rfl, vv', T, HB1.out, HST.out.1, HST.out.2.1, HST.out.2.2, HT.out.trans HT1.out.of_nil⟩
  | some p =>
    obtain ⟨k, v⟩ := p
    have hl0 : decide (l = 0) = false := by rw [HFR.out, hTa]; rfl
    have hza : a ≠ z := fun e => by rw [e, HPU.out.other] at hTa; cases hTa
    have hmea := sto_less ha hz hza
    obtain ⟨q1, q2, hk1, hk64, hv1000⟩ := HB1.out.pair ha hTa
    have HTA := Lib.hid hTa
    have HLK := Lib.hid (show l = k.length ∧ SlI w1 .u8 ao (ub k) from by
      obtain ⟨⟨ao', cap'', e, _, hs⟩, _⟩ := q1
      rw [HE0.out] at e
      injection e with e1 e2 e3
      exact ⟨e2, by rw [e1]; exact hs⟩)
    have HHM := Lib.hid (show ∀ nq, Calls Tryd.prog 57 #[.int .u64 seed, .slice ao l cap, .int .i64 C] (w1.drewN nq) fun e w' => e = .returned (.int .i64 ((homS seed C k : Nat) : Int)) ∧ w' = w1.drewN nq from fun nq => by
      rw [HLK.out.1]
      exact (home_any seed k ao cap C _ (by omega) hC2 (by omega) (HLK.out.2.keepN ((Touch.refl Nil w1).drewN nq))).mono fun _ _ h => ⟨h.1, h.2.symm⟩)
    have hh := HH.out k
    have hpast := sto_past hh hf ha hne
    have s0 := HB1.out.seedC
    have s2 := HB1.out.cellsC
    have k0 := HB1.out.keyC ha
    rw [HE0.out] at k0
    have HHE := Lib.hid (show homS seed C k = homS seed C k from rfl)
    have HE : ∃ x, homS seed C k = x := ⟨_, rfl⟩
    obtain ⟨x, ex⟩ := HE
    have HEX := Lib.hid ex
    rw [ex] at HHM hh hpast
    clear q1 q2 hTa ex HHE
    go_wp2_with (go_quiet ((go_at_call 57; exact Calls.quiet_of_same (HHM.out _))))
    refine (steps_any bb bc x a C _ (HB1.out.keepN ((Touch.refl Nil w1).drewN _)).cellsC hh ha hC2).mono ?_
    rintro e w2 ⟨rfl, n1, rfl⟩
    go_wp2_with fail
    refine (steps_any bb bc f a C _ (HB1.out.keepN ((Touch.refl Nil w1).drewN _)).cellsC hf ha hC2).mono ?_
    rintro e w3 ⟨rfl, n2, hw3⟩
    have HT3 := Lib.hid (show Touch Nil w1 w3 from by rw [hw3]; exact ((Touch.refl Nil w1).drewN _).drewN _)
    clear hw3 s0 s2 k0
    have HB3 := Lib.hid (HB1.out.keepN HT3.out)
    have HTW := Lib.hid (HT.out.trans ((HT1.out.trans HT3.out).of_nil (S := Just bc)))
    by_cases hyes : sto C x f < sto C x a
    · have hg : decide (sto C f a ≤ sto C x a) = true := by rw [decide_eq_true_iff]; exact hpast.2 hyes
      have hgi : decide (((sto C f a : Nat) : Int) ≤ ((sto C x a : Nat) : Int)) = true := by rw [decide_eq_true_iff]; exact Int.ofNat_le.2 (hpast.2 hyes)
      have HMV := Lib.hid (HPU.out.move (koS seed) HH.out HTA.out (by rw [HEX.out]; exact hyes))
      have HPUT := Lib.hid (HB3.out.put (a := f) (x := .slice ao l cap) (y := .slice bo m cap') (some (k, v)) HB3.out.bne (by have := HB3.out.cells a ha; rw [HTA.out, HE0.out, HE1.out] at this; exact this))
      have HPUT2 := Lib.hid (HPUT.out.put (a := a) (x := .slice none 0 0) (y := .slice none 0 0) none HPUT.out.bne ⟨rfl, rfl⟩)
      have HTP := Lib.hid (((((Touch.refl (Just bc) w3).setCell ⟨bc, f * 2, none⟩ (.slice ao l cap) fun _ => rfl).setCell ⟨bc, f * 2 + 1, none⟩ (.slice bo m cap') fun _ => rfl).setCell ⟨bc, a * 2, none⟩ (.slice none 0 0) fun _ => rfl).setCell ⟨bc, a * 2 + 1, none⟩ (.slice none 0 0) fun _ => rfl)
      have s2 := HB3.out.cellsC
      have k0 := HB3.out.keyC ha
      have k1 := HB3.out.valC ha
      rw [HE0.out] at k0
      rw [HE1.out] at k1
      have y0 := HB3.out.keyC hf
      have y1 := HB3.out.valC hf
      have z0 := HB3.out.row.frozen (a * 2)
      have z1 := HB3.out.row.frozen (a * 2 + 1)
      have z2 := HB3.out.row.frozen (f * 2)
      have z3 := HB3.out.row.frozen (f * 2 + 1)
      have n9 : ¬ bb = bc := HB3.out.bne
      have n10 : ¬ bc = bb := fun e => n9 e.symm
      have m1 : ¬ f * 2 = a * 2 := by omega
      have m2 : ¬ f * 2 = a * 2 + 1 := by omega
      have m3 : ¬ f * 2 + 1 = a * 2 := by omega
      have m4 : ¬ f * 2 + 1 = a * 2 + 1 := by omega
      have m5 : ¬ a * 2 = f * 2 := by omega
      have m6 : ¬ a * 2 + 1 = f * 2 := by omega
      have m7 : ¬ a * 2 = f * 2 + 1 := by omega
      have m8 : ¬ a * 2 + 1 = f * 2 + 1 := by omega
      have j1 : (f : Int) < (C : Int) := by omega
      have j2 : (0 : Int) ≤ (f : Int) := by omega
      go_wp2_with fail
      go_region
      have HMT := Lib.hid (show (fun c => if c = a then none else (fun c => if c = f then some (k, v) else T c) c) = move1 T f a from by
        funext c
        unfold move1
        by_cases h1 : c = a
        · rw [if_pos h1, if_pos h1]
        · rw [if_neg h1, if_neg h1]
          show (if c = f then some (k, v) else T c) = _
          rw [HTA.out])
      rw [HMT.out] at HPUT2
      have HQ : ∃ w5, ((((w3.setCell ⟨bc, f * 2, none⟩ (.slice ao l cap)).setCell ⟨bc, f * 2 + 1, none⟩ (.slice bo m cap')).setCell ⟨bc, a * 2, none⟩ (.slice none 0 0)).setCell ⟨bc, a * 2 + 1, none⟩ (.slice none 0 0)) = w5 := ⟨_, rfl⟩
      obtain ⟨w5, e5⟩ := HQ
      rw [e5] at HPUT2 HTP ⊢
      clear e5 s2 k0 k1 y0 y1 z0 z1 z2 z3 n9 n10 m1 m2 m3 m4 m5 m6 m7 m8 HPUT HMT
      go_wp2_with fail
      refine (next_any bb bc a C _ (HPUT2.out.keepN ((Touch.refl Nil w5).drew)).cellsC ha hC2).mono ?_
      rintro e w6 ⟨rfl, rfl⟩
      go_wp2_with fail
      go_roundw
      case rel => exact ⟨a, nx C a, _, _, rfl, rfl, HPUT2.out.keepN ((Touch.refl Nil w5).drew), HMV.out, HTW.out.trans HTP.out.drew⟩
      case measure => simp [intOf]; omega
    · have hg : decide (sto C f a ≤ sto C x a) = false := by rw [decide_eq_false_iff_not]; exact fun h => hyes (hpast.1 h)
      have hgi : decide (((sto C f a : Nat) : Int) ≤ ((sto C x a : Nat) : Int)) = false := by rw [decide_eq_false_iff_not]; exact fun h => hyes (hpast.1 (Int.ofNat_le.1 h))
      have HNX := Lib.hid (HPU.out.next HTA.out HH.out (by rw [HEX.out]; exact hyes))
      go_wp2_with fail
      refine (next_any bb bc a C _ HB3.out.cellsC ha hC2).mono ?_
      rintro e w4 ⟨rfl, rfl⟩
      go_wp2_with fail
      go_roundw
      case rel => exact ⟨f, nx C a, T, vv', rfl, rfl, HB3.out, HNX.out, HTW.out⟩
      case measure => simp [intOf]; omega

/-! ### remove -/
theorem ins_del {bf : Key → Key → Bool} {hom : Key → Nat} {C : Nat} {T : Cells} {a : Nat} {k v : Key} (ko : KO bf) (hh : ∀ k, hom k < C) (hr : Runs bf hom C T) (ha : a < C) (hT : T a = some (k, v)) (x : Key × Key) :
    InT C (del1 T a) x ↔ InT C T x ∧ x.1 ≠ k := by
  constructor
  · rintro ⟨c, hc, e⟩
    by_cases h : c = a
    · simp [del1, h] at e
    · simp only [del1, h, if_false] at e
      refine ⟨⟨c, hc, e⟩, fun hk => h ?_⟩
      obtain ⟨x1, x2⟩ := x
      subst hk
      exact hr.inj ko hh hc ha e hT
  · rintro ⟨⟨c, hc, e⟩, hne⟩
    have h : c ≠ a := fun h => by rw [h, hT] at e; cases e; exact hne rfl
    exact ⟨c, hc, by simp only [del1, h, if_false]; exact e⟩
theorem frees_del {C a : Nat} {T : Cells} {p : Key × Key} (ha : a < C) (hT : T a = some p) : frees C (del1 T a) = frees C T + 1 := by
  have h1 := (frees_put (L := del1 T a) (x := a) (i := p) (by simp [del1]) C).1 ha
  have h2 : put1 (del1 T a) a p = T := by
    funext c
    by_cases h : c = a
    · subst h; simp [put1, hT]
    · simp [put1, del1, h]
  rw [h2] at h1; omega
theorem exists_none {C : Nat} {T : Cells} (h : 0 < frees C T) : ∃ x, x < C ∧ T x = none := exists_free C h

def RemP (R : Nat → Prop) (bb bc0 : Nat) (seed : Int) (n C : Nat) (T0 : Cells) (k : Key) (w : World) (e : Ending) (w' : World) : Prop :=
  e = .returned (.tuple #[]) ∧ ∃ bc vv T, Bod (fun b => R b ∨ (w.heap.size ≤ b ∧ b < w'.heap.size)) w' bb bc seed n (cellsN n) vv T ∧ Good seed n (cellsN n) T ∧ (∀ x, InT (cellsN n) T x ↔ InT C T0 x ∧ x.1 ≠ k) ∧ Touch (fun b => b = bb ∨ b = bc0) w w'

set_option maxRecDepth 100000 in
set_option maxHeartbeats 4000000 in
theorem remove_any (R : Nat → Prop) (bb bc : Nat) (seed : Int) (n C a : Nat) (vv : Nat → Nat → Value) (T0 : Cells) (k v : Key) (w : World) (hB : Bod R w bb bc seed (n + 1) C vv T0) (hg : Good seed (n + 1) C T0) (ha : a < C) (hT : T0 a = some (k, v)) :
    Calls Tryd.prog 43 #[.pointer (some ⟨bb, 0, none⟩), .int .i64 a] w (RemP R bb bc seed n C T0 k w) := by
  obtain ⟨g1, g2, g3⟩ := hg.free
  have hn : n < 100000 := by have := hg.2.2.2; omega
  have HG := Lib.hid hg
  have HTA := Lib.hid hT
  have HIN := Lib.hid (ins_del (koS seed) (homS_lt (C := C) (by omega) seed) hg.1 ha hT)
  have HFD := Lib.hid (frees_del ha hT)
  have lb := hB.lb
  have HB := Lib.hid hB
  have HBA := Lib.hid (hB.count n)
  have hrow : w.rowIs bb 72 3 (fun i => if i = 0 then .int .u64 seed else if i = 1 then .int .i64 ((n + 1 : Nat) : Int) else .slice (some ⟨bc, 0, none⟩) C C) := ⟨_, hB.body, rfl, fun i hi => by
    have : i = 0 ∨ i = 1 ∨ i = 2 := by omega
    rcases this with rfl | rfl | rfl <;> rfl⟩
  have HB2 := Lib.hid (HBA.out.1.put (a := a) (x := .slice none 0 0) (y := .slice none 0 0) none HBA.out.1.bne ⟨rfl, rfl⟩)
  have HT2 := Lib.hid (show Touch (fun b => b = bb ∨ b = bc) w (((w.setCell ⟨bb, 1, none⟩ (.int .i64 (n : Int))).setCell ⟨bc, a * 2, none⟩ (.slice none 0 0)).setCell ⟨bc, a * 2 + 1, none⟩ (.slice none 0 0)) from
    (((HBA.out.2).mono fun b _ e => .inl e).setCell ⟨bc, a * 2, none⟩ (.slice none 0 0) fun _ => .inr rfl).setCell ⟨bc, a * 2 + 1, none⟩ (.slice none 0 0) fun _ => .inr rfl)
  have c1 := hB.countC
  have HE : ∃ m : Nat, n + 1 = m := ⟨_, rfl⟩
  obtain ⟨m, em⟩ := HE
  rw [em] at c1
  have hm1 : (m : Int) - 1 = (n : Int) := by omega
  have z1 : w.frozen? ⟨bb, 1, none⟩ = false := by simp [World.frozen?, hB.body]
  have d2 := HBA.out.1.cellsC
  have x0 := HBA.out.1.keyC ha
  have x1 := HBA.out.1.valC ha
  have f0 := HBA.out.1.row.frozen (a * 2)
  have f1 := HBA.out.1.row.frozen (a * 2 + 1)
  have n9 : ¬ bb = bc := hB.bne
  have n10 : ¬ bc = bb := fun e => n9 e.symm
  have i1 : (a : Int) < (C : Int) := by omega
  have i2 : (0 : Int) ≤ (a : Int) := by omega
  have HCF := Lib.hid (fun w => cellsFor_any n w (by omega))
  have HE : ∃ C', cellsN n = C' := ⟨_, rfl⟩
  obtain ⟨C', eC'⟩ := HE
  have HEC := Lib.hid eC'
  rw [eC'] at HCF
  have HDL := Lib.hid (show (fun c => if c = a then none else T0 c) = del1 T0 a from rfl)
  rw [HDL.out] at HB2
  have HQ : ∃ W, (((w.setCell ⟨bb, 1, none⟩ (.int .i64 (n : Int))).setCell ⟨bc, a * 2, none⟩ (.slice none 0 0)).setCell ⟨bc, a * 2 + 1, none⟩ (.slice none 0 0)) = W := ⟨_, rfl⟩
  obtain ⟨W, eW⟩ := HQ
  rw [eW] at HB2 HT2
  have HEW := Lib.hid eW
  have HEM := Lib.hid em
  clear hB hg hT hrow eW HBA eC' em g3
  have HST := Lib.hid (show ∀ z, z < C → T0 z = none → z ≠ a → Pull (bfS seed) (homS seed C) C (del1 T0 a) z (del1 T0 a) a (nx C a) from fun z hz hzn hza => Pull.start (koS seed) (homS_lt (by omega) seed) HG.out.1 ha hz hzn hza)
  have HFR := Lib.hid (show frees C (del1 T0 a) + n = C from by
    have h1 := HFD.out
    have h2 := HG.out.2.2.1
    omega)
  obtain ⟨z, hz, hzn⟩ := HG.out.free.2.2
  have HSTZ := Lib.hid (HST.out z hz hzn (fun e => by rw [e, HTA.out] at hzn; cases hzn))
  clear HST hzn
  by_cases hc : C' = C
  · have hneq : ((C' : Int) != (C : Int)) = false := by simp [hc]
    have HCC := Lib.hid hc
    clear hc
    go_enter Tryd.func43, Tryd.ntmps43
    go_wp2_with fail
    rw [HEW.out]
    clear c1 d2 x0 x1 f0 f1 z1 n9 n10
    have d1 := HB2.out.countC
    have d2 := HB2.out.cellsC
    go_quiet (first | (go_at_call 61; refine Calls.quiet_of_same (v := .int .i64 (C' : Int)) ?_; exact (HCF.out _).mono fun _ _ h => ⟨h.1, h.2.symm⟩))
    have HT1 := Lib.hid ((Touch.refl Nil W).drewN nq)
    have HQ : ∃ W1, W.drewN nq = W1 := ⟨_, rfl⟩
    obtain ⟨W1, e1⟩ := HQ
    rw [e1] at HT1 ⊢
    clear d1 d2 e1
    go_wp2_with fail
    refine (pull_any R bb bc seed n C a z _ (del1 T0 a) W1 (HB2.out.keepN HT1.out) g1 (by omega) HSTZ.out).mono ?_
    rintro e W2 ⟨rfl, vv2, T2, hB2, hr2, hi2, hf2, hT2⟩
    have HR := Lib.hid (show ∃ bc' vv T, Bod (fun b => R b ∨ (w.heap.size ≤ b ∧ b < W2.heap.size)) W2 bb bc' seed n (cellsN n) vv T ∧ Good seed n (cellsN n) T ∧ (∀ x, InT (cellsN n) T x ↔ InT C T0 x ∧ x.1 ≠ k) ∧ Touch (fun b => b = bb ∨ b = bc) w W2 from by
      rw [HEC.out, HCC.out]
      refine ⟨bc, vv2, T2, hB2.mono fun b r => .inl r, ⟨hr2, by rw [← HCC.out, ← HEC.out], ?_, by omega⟩, fun x => ?_, (HT2.out.trans HT1.out.of_nil).trans (hT2.mono fun b _ e => .inr e)⟩
      · rw [hf2]; exact HFR.out
      · rw [hi2 x, HIN.out x])
    clear hB2 hr2 hi2 hf2 hT2
    go_wp2_with fail
    go_end0
    exact ⟨rfl, HR.out⟩
  · have hneq : ((C' : Int) != (C : Int)) = true := by simp; omega
    go_enter Tryd.func43, Tryd.ntmps43
    go_wp2_with fail
    rw [HEW.out]
    clear c1 d2 x0 x1 f0 f1 z1 n9 n10
    have d1 := HB2.out.countC
    have d2 := HB2.out.cellsC
    go_quiet (first | (go_at_call 61; refine Calls.quiet_of_same (v := .int .i64 (C' : Int)) ?_; exact (HCF.out _).mono fun _ _ h => ⟨h.1, h.2.symm⟩))
    have HT1 := Lib.hid ((Touch.refl Nil W).drewN nq)
    have HQ : ∃ W1, W.drewN nq = W1 := ⟨_, rfl⟩
    obtain ⟨W1, e1⟩ := HQ
    rw [e1] at HT1 ⊢
    clear d1 d2 e1
    have HB1 := Lib.hid (HB2.out.keepN HT1.out)
    have HLN := Lib.hid (show (fullL (del1 T0 a) C).length = n from by
      have h1 := fullL_len (del1 T0 a) C
      have h2 := HFR.out
      omega)
    have HE : ∃ vx, setV vv a (.slice none 0 0) (.slice none 0 0) = vx := ⟨_, rfl⟩
    obtain ⟨vx, evx⟩ := HE
    rw [evx] at HB1
    clear evx
    go_wp2_with fail
    refine (pairs_any HB1.out (by omega)).mono ?_
    rintro e W2 ⟨v2, rfl, ho2, hT2⟩
    rw [HLN.out] at ho2
    obtain ⟨ao, cap, rfl, hcell⟩ := own_row ho2
    have HO2 := Lib.hid ho2
    have HT2' := Lib.hid hT2
    have HBW := Lib.hid (HB1.out.keepN hT2)
    have HCELL := Lib.hid hcell
    have HPI := Lib.hid (show ∀ i, i < n → del1 T0 a (nthF (del1 T0 a) C i) = some (prsP (del1 T0 a) C ([], []) i) from fun i hi => prsP_in (by rw [HLN.out]; exact hi))
    have HPT := Lib.hid (show ∀ i, i < n → T0 (nthF (del1 T0 a) C i) = some (prsP (del1 T0 a) C ([], []) i) from fun i hi => by
      have := HPI.out i hi
      unfold del1 at this
      by_cases h : nthF (fun c => if c = a then none else T0 c) C i = a
      · rw [if_pos h] at this; cases this
      · rw [if_neg h] at this; exact this)
    have hok : ∀ i, i < n → CellOk R W2 (vx (nthF (del1 T0 a) C i) 0) (vx (nthF (del1 T0 a) C i) 1) (some (prsP (del1 T0 a) C ([], []) i)) := fun i hi => by
      have := HBW.out.cells _ (nthF_lt (del1 T0 a) C i (by rw [HLN.out]; exact hi)).1
      rw [HPI.out i hi] at this
      exact this
    have HSP := Lib.hid (spread_any (R := R) (w := W2) (bb := bb) (seed := seed) (cnt := n) (m := n) (cap := cap) (ao := ao) (v := fun i c => if i < n then vx (nthF (del1 T0 a) C i) (c % 2) else .bool false) (p := prsP (del1 T0 a) C ([], [])) HBW.out.body HB.out.rb
      ⟨fun h0 => by
        obtain ⟨g, e, _, hg, hc⟩ := hcell h0
        refine ⟨g, 0, e, hg, fun i hi c hc' => ?_⟩
        rw [if_pos hi, show 0 + i * 2 + c = i * 2 + c by omega, hc _ (by omega), show c % 2 = c by omega]
        exact flat_get 2 _ n i c hi hc', fun i hi => by
        show CellOk R W2 (if i < n then vx (nthF (del1 T0 a) C i) (0 % 2) else .bool false) (if i < n then vx (nthF (del1 T0 a) C i) (1 % 2) else .bool false) _
        rw [if_pos hi, if_pos hi]
        exact hok i hi, fun i c => by
        show (if i < n then vx (nthF (del1 T0 a) C i) (c % 2) else .bool false).oneCell' = true
        by_cases hi : i < n
        · rw [if_pos hi]
          obtain ⟨a1, l1, c1, a2, l2, c2, e1, e2, _⟩ := (hok i hi).form
          have : c % 2 = 0 ∨ c % 2 = 1 := by omega
          rcases this with h | h
          · rw [h, e1]; rfl
          · rw [h, e2]; rfl
        · rw [if_neg hi]; rfl⟩
      (fun i j hi hj hne e => hne (nthF_inj (del1 T0 a) C i j (by rw [HLN.out]; exact hi) (by rw [HLN.out]; exact hj) (HG.out.1.inj (koS seed) (homS_lt (by omega) seed) (nthF_lt (del1 T0 a) C i (by rw [HLN.out]; exact hi)).1 (nthF_lt (del1 T0 a) C j (by rw [HLN.out]; exact hj)).1 (k := (prsP (del1 T0 a) C ([], []) i).1) (v := (prsP (del1 T0 a) C ([], []) i).2) (v' := (prsP (del1 T0 a) C ([], []) j).2) (HPT.out i hi) (by rw [e]; exact HPT.out j hj))))
      (by omega) (fun h0 b o e => by
        obtain ⟨g, e', hb, _⟩ := hcell h0
        rw [e] at e'
        cases e'
        have := HB1.out.lb
        omega))
    clear ho2 hT2 hcell hok
    go_wp2_with fail
    refine HSP.out.mono ?_
    rintro e W3 ⟨rfl, bc3, vv3, T3, hb3, hB3, hr3, hi3, hf3, ht3⟩
    have HR := Lib.hid (show ∃ bc' vv T, Bod (fun b => R b ∨ (w.heap.size ≤ b ∧ b < W3.heap.size)) W3 bb bc' seed n (cellsN n) vv T ∧ Good seed n (cellsN n) T ∧ (∀ x, InT (cellsN n) T x ↔ InT C T0 x ∧ x.1 ≠ k) ∧ Touch (fun b => b = bb ∨ b = bc) w W3 from by
      have hsz : w.heap.size ≤ W2.heap.size := Nat.le_trans HT2.out.size (Nat.le_trans HT1.out.size HT2'.out.size)
      refine ⟨bc3, vv3, T3, hB3.widen (fun b hb hlt => ?_) (.inl HB.out.rb) (.inr ⟨by omega, hB3.lc⟩), ⟨hr3, rfl, hf3, by omega⟩, fun x => ?_, ?_⟩
      · rcases hb with hb | rfl
        · exact .inl hb
        · exact .inr ⟨by omega, hlt⟩
      · rw [hi3 x, ← HIN.out x]
        constructor
        · rintro ⟨i, hi, rfl⟩
          exact ⟨_, (nthF_lt (del1 T0 a) C i (by rw [HLN.out]; exact hi)).1, HPI.out i hi⟩
        · rintro ⟨c, hc, e⟩
          obtain ⟨i, hi, ei⟩ := nthF_all (del1 T0 a) C c hc (by rw [e]; rfl)
          rw [HLN.out] at hi
          refine ⟨i, hi, ?_⟩
          have := HPI.out i hi
          rw [ei, e] at this
          exact Option.some.inj this
      · exact (HT2.out.trans ((HT1.out.trans HT2'.out).of_nil)).trans (ht3.mono fun b _ e => .inl e))
    clear hB3 hr3 hi3 hf3 ht3
    go_wp2_with fail
    go_end0
    exact ⟨rfl, HR.out⟩

/-! ### Drop -/
def dropErr (there : Bool) : Int := if there = true then 0 else 3
def DropP (R : Nat → Prop) (t : Value) (seed : Int) (n C : Nat) (T : Cells) (key : Key) (w : World) (e : Ending) (w' : World) : Prop :=
  e = .returned (.int .i64 (dropErr (valAt (T (seekAt (bfS seed) (homS seed C) C T key)) key).isSome)) ∧
  ∃ R' n' C' T', Tab R' w' t seed n' C' T' ∧ Touch R w w' ∧ (∀ b, R b → R' b) ∧ (∀ b, R' b → R b ∨ w.heap.size ≤ b) ∧ n' ≤ n ∧ (∀ x, InT C' T' x ↔ InT C T x ∧ x.1 ≠ key)

set_option maxRecDepth 100000 in
set_option maxHeartbeats 4000000 in
theorem drop_any {R : Nat → Prop} {w : World} {t : Value} {seed : Int} {n C : Nat} {T : Cells} (h : Tab R w t seed n C T) (key : Key) (kx : Value) (hk : BV w kx key) (hkl : key.length ≤ 1048576) :
    Calls Tryd.prog 32 #[t, kx] w (DropP R t seed n C T key w) := by
  have HTAB := Lib.hid h
  obtain ⟨⟨bt, bb, bc, vv, rfl, hbt, rt, hB⟩, hg, hl⟩ := h
  obtain ⟨g1, g2, g3⟩ := hg.free
  have hh := homS_lt (C := C) (by omega) seed
  have ct : w.cell? ⟨bt, 0, none⟩ = some (.pointer (some ⟨bb, 0, none⟩)) := by simp [World.cell?, hbt]
  have HM := Lib.hid (missing_any bt bb w ct)
  have HS := Lib.hid (seek_any R bb bc seed n C vv T key kx w hB hk hkl (by omega) (by omega) g3)
  rw [valAt_has] at HS
  have HA := Lib.hid (seek_lt (bf := bfS seed) (k := key) g3 (hh key))
  have HNT := Lib.hid (fun hn => seek_not (k := key) (koS seed) hg.1 g3 (hh key) hn)
  rw [valAt_has] at HNT
  unfold DropP
  generalize seekN (bfS seed) (homS seed C) C T key = N at *
  have HE : ∃ a, seekAt (bfS seed) (homS seed C) C T key = a := ⟨_, rfl⟩
  obtain ⟨a, ea⟩ := HE
  rw [ea] at HS HA HNT ⊢
  have HB := Lib.hid hB
  have HG := Lib.hid hg
  have HL := Lib.hid hl
  have HRT := Lib.hid rt
  have HBT := Lib.hid hbt
  have HCT := Lib.hid ct
  have hlt : bt < w.heap.size := hl bt rt
  have htb : bt ≠ bb ∧ bt ≠ bc := by
    constructor
    · intro e
      have := hbt
      rw [e, hB.body] at this
      injection this with this
      injection this with _ this
      exact absurd this (by decide)
    · intro e
      have := hbt
      rw [e, row_block hB.row] at this
      injection this with this
      injection this with _ this
      exact absurd this (by decide)
  have HTB := Lib.hid htb
  clear hB hg hl rt hbt g3 htb ea hk
  cases hva : valAt (T a) key with
  | none =>
    rw [hva] at HS HNT
    have HNW := Lib.hid (HNT.out rfl)
    clear hva HNT
    go_enter Tryd.func32, Tryd.ntmps32
    go_wp2_with fail
    refine HM.out.mono ?_
    rintro e w1 ⟨rfl, rfl⟩
    go_wp2_with fail
    refine HS.out.mono ?_
    rintro e w1 ⟨rfl, hT1⟩
    have HT1 := Lib.hid hT1
    clear hT1 ct
    go_wp2_with fail
    go_ret
    exact ⟨rfl, R, n, C, T, HTAB.out.keepN HT1.out, HT1.out.of_nil, fun b r => r, fun b r => .inl r, Nat.le_refl _, fun x => ⟨fun h => ⟨h, fun e => HNW.out x.2 (by rw [← e]; exact h)⟩, fun h => h.1⟩⟩
  | some v0 =>
    rw [hva] at HS
    have HTA := Lib.hid (valAt_some hva)
    have hn1 : 1 ≤ n := by
      have h2 := HG.out.2.2.1
      have h3 := frees_del HA.out HTA.out
      have h4 : frees C (del1 T a) ≤ C := by
        have := fullL_len (del1 T a) C; omega
      omega
    obtain ⟨n1, rfl⟩ : ∃ n1, n = n1 + 1 := ⟨n - 1, by omega⟩
    clear hva HNT
    go_enter Tryd.func32, Tryd.ntmps32
    go_wp2_with fail
    refine HM.out.mono ?_
    rintro e w1 ⟨rfl, rfl⟩
    go_wp2_with fail
    refine HS.out.mono ?_
    rintro e w1 ⟨rfl, hT1⟩
    have HT1 := Lib.hid hT1
    have ct1 : w1.cell? ⟨bt, 0, none⟩ = some (.pointer (some ⟨bb, 0, none⟩)) := by rw [hT1.cell hlt (fun c => c)]; exact HCT.out
    clear hT1 ct
    go_wp2_with fail
    refine (remove_any R bb bc seed n1 C a vv T key v0 w1 (HB.out.keepN HT1.out) HG.out HA.out HTA.out).mono ?_
    rintro e w4 ⟨rfl, bc4, vv4, T4, hB4, hg4, hi4, hT4⟩
    have HR := Lib.hid (show ∃ R' n' C' T', Tab R' w4 (.pointer (some ⟨bt, 0, none⟩)) seed n' C' T' ∧ Touch R w w4 ∧ (∀ b, R b → R' b) ∧ (∀ b, R' b → R b ∨ w.heap.size ≤ b) ∧ n' ≤ n1 + 1 ∧ (∀ x, InT C' T' x ↔ InT C T x ∧ x.1 ≠ key) from by
      have ht := HT1.out.of_nil.trans (hT4.mono (S' := R) fun b _ e => by rcases e with rfl | rfl; exact HB.out.rb; exact HB.out.rc)
      refine ⟨_, _, _, T4, ⟨⟨bt, bb, bc4, vv4, rfl, ?_, .inl HRT.out, hB4⟩, hg4, fun b hb => ?_⟩, ht, fun b r => .inl r, fun b hb => ?_, Nat.le_succ _, hi4⟩
      · exact (hT4.same bt (Nat.lt_of_lt_of_le hlt HT1.out.size) (fun e => e.elim HTB.out.1 HTB.out.2)).trans ((HT1.out.same bt hlt fun c => c).trans HBT.out)
      · rcases hb with hb | hb
        · exact Nat.lt_of_lt_of_le (HL.out b hb) ht.size
        · exact hb.2
      · rcases hb with hb | hb
        · exact .inl hb
        · exact .inr (Nat.le_trans HT1.out.size hb.1))
    clear hB4 hg4 hi4 hT4
    go_wp2_with fail
    go_ret
    exact ⟨rfl, HR.out⟩
end Go.Proofs.YticddcnlafbkoaaDoor
