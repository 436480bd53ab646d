/-
  SlotsRuns: for every seed and script the law returns true: between a pair's home and its cell all cells are full, each with a pair that comes before it.
  No condition beside the statement's own.
-/
import Derived.Test.YtabjpejgnfeegaaScript
import Derived.Test.YtabjpejgnfeegaaAwake
import Derived.Deep.DeepCutAuto
import Derived.ChangeOld
import Derived.Below
namespace Go.Proofs.Ytabjpejgnfeegaa
open Go.ChangeShapes Go.WideShapes Go.ChangeAt Go.RowKit Go.Deep

theorem befI_bfS (seed : Int) (a b : Key) : befI (coin seed 2 (ub a)) (coin seed 2 (ub b)) a b = bfS seed a b := rfl

/-- A cell that is shown, as a value. -/
theorem Shown.full {base : Nat} {w : World} {f y z : Value} {k v : Key} (h : Shown base w f y z (some (k, v))) : f = .bool true ∧ (∃ ao cap, y = .slice ao k.length cap ∧ SlI w .u8 ao (ub k)) ∧ (∃ bo cap', z = .slice bo v.length cap') := by
  obtain ⟨h1, h2, h3⟩ := h
  obtain ⟨ao, cap, e1, _, s1⟩ := h2.bv
  obtain ⟨bo, cap', e2, _, _⟩ := h3.bv
  exact ⟨h1, ⟨ao, cap, e1, s1⟩, ⟨bo, cap', e2⟩⟩
theorem Shown.none {base : Nat} {w : World} {f y z : Value} (h : Shown base w f y z none) : f = .bool false := h.1
theorem Shown.keepN {b : Nat} {w w' : World} {f y z : Value} {o : Option (Key × Key)} (h : Shown b w f y z o) (ht : Touch Nil w w') : Shown b w' f y z o := h.keep ht (notBytes_nil _)

/-- What is known while an item is made of a cell's key. -/
abbrev MeS (bk p : Nat) (y : Value) (w0 w' : World) : Prop := w'.cell? ⟨bk, p, none⟩ = some y ∧ Hid (Touch Nil w0 w')
theorem MeS.of {bk p : Nat} {y : Value} {w0 w : World} (h : w0.cell? ⟨bk, p, none⟩ = some y) (ht : Touch Nil w0 w) : MeS bk p y w0 w := ⟨(ht.cell (World.block_lt_of_cell? w0 _ h) (fun c => c) p).trans h, Lib.hid ht⟩
theorem MeS.step {bk p : Nat} {y : Value} {w0 w w' : World} (hs : Touch Nil w w') (h : MeS bk p y w0 w) : MeS bk p y w0 w' :=
  ⟨(hs.cell (World.block_lt_of_cell? w _ h.1) (fun c => c) p).trans h.1, Lib.hid (h.2.out.trans hs)⟩

theorem sto_from {C h c t : Nat} (hh : h < C) (hc : c < C) (ht : t ≤ sto C h c) : sto C (pos C h t) c = sto C h c - t := by
  unfold sto pos at *
  (repeat' split at ht) <;> (repeat' split) <;> omega
/-- What is known while a cell's pair is held against another one. -/
abbrev RunS (xb g : Nat) (kx ky : Value) (r : Int) (w0 w' : World) : Prop :=
  w'.cell? ⟨xb, 0, none⟩ = some (.bool true) ∧ w'.cell? ⟨xb, 1, none⟩ = some kx ∧ w'.cell? ⟨g, 0, none⟩ = some (.int .i64 0) ∧ w'.cell? ⟨g, 1, none⟩ = some (.int .u64 r) ∧ w'.cell? ⟨g, 2, none⟩ = some ky ∧ Hid (Touch Nil w0 w')
theorem RunS.step {xb g : Nat} {kx ky : Value} {r : Int} {w0 w w' : World} (h : RunS xb g kx ky r w0 w) (hs : Touch Nil w w') : RunS xb g kx ky r w0 w' := by
  obtain ⟨h0, h1, h2, h3, h4, h5⟩ := h
  have k : ∀ {b o : Nat} {u : Value}, w.cell? ⟨b, o, none⟩ = some u → w'.cell? ⟨b, o, none⟩ = some u := fun {b o u} h => (hs.cell (World.block_lt_of_cell? w _ h) (fun c => c) o).trans h
  exact ⟨k h0, k h1, k h2, k h3, k h4, Lib.hid (h5.out.trans hs)⟩

set_option maxRecDepth 100000 in
set_option maxHeartbeats 4000000 in
theorem lawRuns_any (seed : Int) (n cap : Nat) (ao : Option Addr) (v : Nat → Nat → Value) (kd : Nat → Int) (key val : Nat → Key) (w : World) (hm : n ≤ 9223372036854775807) (hscr : Scr w ao n v kd key val) :
    Calls Try.prog 12 #[.int .u64 seed, .slice ao n cap] w fun e w' => e = .returned (.bool true) ∧ Below w.heap.size w w' := by
  have HS := Lib.hid hscr
  have HFEW := Lib.hid (few_any cap hscr hm)
  clear hscr
  cases hfew : fewB n key val
  case false =>
    rw [hfew] at HFEW
    clear hfew
    go_enter Try.func12, Try.ntmps12
    go_wp2_with fail
    refine HFEW.out.mono ?_
    rintro e w' ⟨rfl, rfl⟩
    go_wp2_with fail
    refine (awake_any _).mono ?_
    rintro e w' ⟨rfl, ht⟩
    go_wp2_with fail
    go_ret
    exact ⟨rfl, ht.below_nil⟩
  rw [hfew] at HFEW
  have hfw := of_decide_eq_true hfew
  obtain ⟨hn120, hlens⟩ := hfw
  have HL := Lib.hid hlens
  clear hfew hlens hm
  go_enter Try.func12, Try.ntmps12
  go_wp2_with fail
  refine HFEW.out.mono ?_
  rintro e w' ⟨rfl, rfl⟩
  clear HFEW
  go_wp2_with fail
  refine (new_tbl seed w).mono ?_
  rintro e w1 ⟨bt, rfl, hT, ht⟩
  have HT1 := Lib.hid hT
  have HW1 := Lib.hid ht
  clear hT ht
  go_wp2_with fail
  go_loopw [6] (fun i wr => ∃ (x : Nat) (S : Key × Key → Prop), x ≤ n ∧ i = .int .i64 (x : Int) ∧ Tbl w.heap.size wr (.pointer (some ⟨bt, 0, none⟩)) seed x S ∧ Touch Nil w wr) (fun i _ => n - (intOf i).toNat)
  case atStart => exact ⟨0, _, Nat.zero_le _, rfl, HT1.out, HW1.out⟩
  obtain ⟨x, S, hx, rfl, htb, hto⟩ := hrel
  have HTB := Lib.hid htb
  have HTO := Lib.hid hto
  clear htb hto
  by_cases hlt : x < n
  · have HSR := Lib.hid (HS.out.keepN HTO.out)
    obtain ⟨b, off, rfl, hb, hcell⟩ := HSR.out.cells (by omega)
    have c0 := hcell x hlt 0 (by omega)
    have c1 := hcell x hlt 1 (by omega)
    have c2 := hcell x hlt 2 (by omega)
    rw [HSR.out.kind x hlt, Nat.add_zero] at c0
    obtain ⟨hk, lk⟩ := HSR.out.keys x hlt
    obtain ⟨hv, lv⟩ := HSR.out.vals x hlt
    have hl := HL.out x hlt
    have HK := Lib.hid hk
    have HV := Lib.hid hv
    obtain ⟨a1, k1, e1, _, _⟩ := hk
    obtain ⟨a2, k2, e2, _, _⟩ := hv
    rw [e1] at c1 HK
    rw [e2] at c2 HV
    have i1 : (x : Int) < (n : Int) := by omega
    have i2 : (0 : Int) ≤ (x : Int) := by omega
    have HSZ := Lib.hid HTO.out.size
    have hkl : (key x).length ≤ 1048576 := by omega
    have hvl : (val x).length ≤ 1048576 := by omega
    clear hcell e1 e2 lk lv hl
    by_cases hkd : kd x = 1
    · have hb1 : ((kd x : Int) == 1) = true := by simp [hkd]
      clear hkd
      have HDR := Lib.hid (fun w' (h : Touch Nil wr w') => drop_tbl (HTB.out.keepN h) (Nat.le_trans HSZ.out h.size) (key x) _ (HK.out.keepN h) hkl)
      generalize (key x).length = kl at *
      generalize kd x = kx at *
      go_wp2_with fail
      refine (HDR.out wr (Touch.refl _ _)).mono ?_
      rintro e w2 ⟨rfl, ht2, hto2⟩
      have HT2 := Lib.hid ht2
      have HTO2 := Lib.hid (from_nil HTO.out hto2 (Nat.le_refl _))
      clear ht2 hto2 HDR
      go_wp2_with fail
      go_roundw
      case rel =>
        obtain ⟨R, n', C, T, q1, q2, q3, q4⟩ := HT2.out
        exact ⟨x + 1, _, by omega, by go_num, ⟨R, n', C, T, q1, q2, by omega, q4⟩, HTO2.out⟩
      case measure => simp [intOf]; omega
    · have hb1 : ((kd x : Int) == 1) = false := by simp [hkd]
      clear hkd
      have HPT := Lib.hid (fun w' (h : Touch Nil wr w') => put_tbl (HTB.out.keepN h) (by omega) (Nat.le_trans HSZ.out h.size) (key x) (val x) _ _ (HK.out.keepN h) (HV.out.keepN h) hkl hvl)
      generalize (key x).length = kl at *
      generalize (val x).length = vl at *
      generalize kd x = kx at *
      go_wp2_with fail
      go_still_tail 11, mixed
      change wpList _ _ _ _ _ wr.drew
      have HW2 := Lib.hid (Touch.refl Nil wr).drew
      clear c0 c1 c2
      generalize wr.drew = w2 at *
      go_wp2_with fail
      refine (HPT.out w2 HW2.out).mono ?_
      rintro e w3 ⟨rfl, ht2, hto2⟩
      have HT2 := Lib.hid ht2
      have HTO2 := Lib.hid (from_nil (HTO.out.trans HW2.out) hto2 (Nat.le_refl _))
      clear ht2 hto2 HPT
      go_wp2_with fail
      go_roundw
      case rel => exact ⟨x + 1, _, by omega, by go_num, HT2.out, HTO2.out⟩
      case measure => simp [intOf]; omega
  · obtain rfl : x = n := by omega
    obtain ⟨R, n', C, T, htab, hlow, hnm, _⟩ := HTB.out
    obtain ⟨g1, g2, g3⟩ := htab.good.free
    have HTAB := Lib.hid htab
    have HRUN := Lib.hid htab.good.1
    clear htab hlow
    go_wp2_with fail
    refine (cells_any HTAB.out).mono ?_
    rintro e w2 ⟨bk, f, rfl, hbk, hrow, hsh, hT2⟩
    have HROW := Lib.hid hrow
    have HSH := Lib.hid hsh
    have HW2 := Lib.hid (HTO.out.trans hT2)
    clear hrow hsh hT2
    go_wp2_with fail
    go_loopw [8] (fun i wr => ∃ c : Nat, c ≤ C ∧ i = .int .i64 (c : Int) ∧ Touch Nil w2 wr) (fun i _ => C - (intOf i).toNat)
    case atStart => exact ⟨0, Nat.zero_le _, rfl, Touch.refl _ _⟩
    obtain ⟨c, hc, rfl, hto⟩ := hrel
    have HTC := Lib.hid hto
    clear hto
    by_cases hltc : c < C
    · have hrw := HTC.out.row HROW.out (fun c => c)
      have y0 := hrw.cell (i := c * 3) (by omega)
      have y1 := hrw.cell (i := c * 3 + 1) (by omega)
      have hs := (HSH.out c hltc).keepN HTC.out
      have i1 : (c : Int) < (C : Int) := by omega
      have i2 : (0 : Int) ≤ (c : Int) := by omega
      clear hrw
      cases hTc : T c with
      | none =>
        rw [hTc] at hs
        rw [hs.none] at y0
        clear hs y1 hTc
        go_wp2_with fail
        go_roundw
        case rel => exact ⟨c + 1, by omega, by go_num, HTC.out⟩
        case measure => simp [intOf]; omega
      | some p =>
        obtain ⟨k, u⟩ := p
        rw [hTc] at hs
        obtain ⟨h0, ⟨ka, kcap, h1, hsk⟩, _⟩ := hs.full
        rw [h0] at y0
        rw [h1] at y1
        have HTc := Lib.hid hTc
        have HSK := Lib.hid hsk
        have hk1 : k.length ≤ 1048576 := by
          obtain ⟨⟨_, _, _, vv, _, _, _, hB⟩, _, _⟩ := HTAB.out
          have := (hB.pair hltc hTc).2.2.2.1
          omega
        have HCO2 := Lib.hid (show ∀ w', Touch Nil wr w' → Calls Try.prog 13 #[.int .u64 seed, .int .i64 2, .slice ka k.length kcap] w' fun e w'' => e = .returned (.int .u64 (coin seed 2 (ub k))) ∧ w' = w'' from fun w' h => by
          have := coinP_any seed 2 (ub k) ka kcap w' (by simp; omega) (hsk.keepN h)
          rw [ub_length] at this; exact this)
        have HCO1 := Lib.hid (show ∀ w', Touch Nil wr w' → Calls Try.prog 13 #[.int .u64 seed, .int .i64 1, .slice ka k.length kcap] w' fun e w'' => e = .returned (.int .u64 (coin seed 1 (ub k))) ∧ w' = w'' from fun w' h => by
          have := coinP_any seed 1 (ub k) ka kcap w' (by simp; omega) (hsk.keepN h)
          rw [ub_length] at this; exact this)
        have HE : ∃ kl, k.length = kl := ⟨_, rfl⟩
        obtain ⟨kl, ekl⟩ := HE
        have HKL := Lib.hid ekl
        rw [ekl] at y1 HCO1 HCO2
        clear hs h0 h1 hsk hTc ekl
        have HY1 := Lib.hid y1
        go_wp2_with fail
        go_region_held3 (fun w' => w'.cell? ⟨bk, c * 3 + 1, none⟩ = some (.slice ka kl kcap) ∧ Hid (Touch Nil wr w'))
          (first | exact MeS.of HY1.out (Touch.refl Nil wr).drew | exact MeS.of HY1.out ((Touch.refl Nil wr).alloc _) | exact MeS.of HY1.out ((Touch.refl Nil wr).drew.alloc _) | exact MeS.of HY1.out ((Touch.refl Nil wr).alloc _).drew)
          (first | (go_at_call 13; refine (HCO2.out _ (Hid.out (And.right (by assumption)))).mono ?_; rintro e w3 ⟨rfl, rfl⟩))
        all_goals
          have HQ : ∃ W, (wr.alloc (Obj.cells #[Value.int IntKind.i64 0, Value.int IntKind.u64 (coin seed 2 (ub k)), Value.slice ka kl kcap] 32)).drew = W := ⟨_, rfl⟩
          obtain ⟨W, eW⟩ := HQ
          have HTW := Lib.hid (show Touch Nil wr W from by rw [← eW]; exact ((Touch.refl Nil wr).alloc _).drew)
          have HME := Lib.hid (show W.heap[wr.heap.size]? = some (.cells #[Value.int IntKind.i64 0, Value.int IntKind.u64 (coin seed 2 (ub k)), Value.slice ka kl kcap] 32 (0, 0)) from by rw [← eW]; exact heap_alloc_new _ _)
          rw [eW]
          have HG : ∃ g, wr.heap.size = g := ⟨_, rfl⟩
          obtain ⟨g, eg⟩ := HG
          rw [eg] at HME ⊢
          have y1W : W.cell? ⟨bk, c * 3 + 1, none⟩ = some (.slice ka kl kcap) := (HTW.out.cell (World.block_lt_of_cell? wr _ HY1.out) (fun c => c) _).trans HY1.out
          have hbd := coin_bd seed 1 (ub k)
          have hca := homS_cast (C := C) (by omega) seed k
          have hh := homS_lt (C := C) (by omega) seed k
          have HPATH := Lib.hid (HRUN.out c hltc k u HTc.out)
          unfold Path at HPATH
          have HE : ∃ h, homS seed C k = h := ⟨_, rfl⟩
          obtain ⟨h, eh⟩ := HE
          rw [eh] at hca hh HPATH
          have HE : ∃ cz, coin seed 1 (ub k) = cz := ⟨_, rfl⟩
          obtain ⟨cz, ecz⟩ := HE
          rw [ecz] at hbd hca HCO1
          obtain ⟨hb1, hb2⟩ := hbd
          have hz0 : ((C : Int) == 0) = false := by simp; omega
          clear eW eg eh ecz y0 y1
          go_wp2_with fail
          refine (HCO1.out _ HTW.out).mono ?_
          rintro e w3 ⟨rfl, rfl⟩
          go_wp2_with fail
          clear hb1 hb2 hca y1W hz0
          have hle := sto_lt hh hltc
          go_loopw [10] (fun s wi => ∃ q : Nat, q ≤ sto C h c ∧ s = .int .i64 ((pos C h q : Nat) : Int) ∧ Touch Nil W wi) (fun s _ => sto C (intOf s).toNat c)
          case atStart => exact ⟨0, Nat.zero_le _, by rw [pos_zero hh], Touch.refl _ _⟩
          obtain ⟨q, hq, rfl, hto⟩ := hrel
          obtain ⟨wi, rfl⟩ : ∃ wi : World, wi = wr := ⟨_, rfl⟩
          have HTI := Lib.hid hto
          clear hto
          have hpl := pos_lt hh (show q < C by omega)
          have hsf := sto_from hh hltc hq
          by_cases hlq : q < sto C h c
          · have hne : pos C h q ≠ c := fun e => by rw [e] at hsf; unfold sto at hsf hlq; (repeat' split at hsf) <;> (repeat' split at hlq) <;> omega
            obtain ⟨k', v', hTk, hbf⟩ := HPATH.out q hlq
            have hnx := pos_nx hh (show q + 1 < C by omega)
            have hsf2 := sto_from hh hltc (show q + 1 ≤ sto C h c by omega)
            rw [← hnx] at hsf2
            have HNX := Lib.hid hnx
            have hrw := (HTC.out.trans (HTW.out.trans HTI.out)).row HROW.out (fun c => c)
            have z0 := hrw.cell (i := pos C h q * 3) (by omega)
            have z1 := hrw.cell (i := pos C h q * 3 + 1) (by omega)
            have z2 := hrw.cell (i := pos C h q * 3 + 2) (by omega)
            have hs := (HSH.out _ hpl).keepN (HTC.out.trans (HTW.out.trans HTI.out))
            rw [hTk] at hs
            obtain ⟨h0, ⟨xa, xcap, h1, hsx⟩, ⟨xo, xcap', h2⟩⟩ := hs.full
            rw [h0] at z0
            rw [h1] at z1
            rw [h2] at z2
            have hk2 : k'.length ≤ 1048576 := by
              obtain ⟨⟨_, _, _, vv, _, _, _, hB⟩, _, _⟩ := HTAB.out
              have := (hB.pair hpl hTk).2.2.2.1
              omega
            have HCX := Lib.hid (show ∀ w', Touch Nil wi w' → Calls Try.prog 13 #[.int .u64 seed, .int .i64 2, .slice xa k'.length xcap] w' fun e w'' => e = .returned (.int .u64 (coin seed 2 (ub k'))) ∧ w' = w'' from fun w' h => by
              have := coinP_any seed 2 (ub k') xa xcap w' (by simp; omega) (hsx.keepN h)
              rw [ub_length] at this; exact this)
            have HBE := Lib.hid (show ∀ w', Touch Nil wi w' → Calls Try.prog 44 #[.agg #[.int .i64 0, .int .u64 (coin seed 2 (ub k')), .slice xa k'.length xcap], .agg #[.int .i64 0, .int .u64 (coin seed 2 (ub k)), .slice ka kl kcap]] w' fun e w'' => e = .returned (.bool true) ∧ Touch Nil w' w'' from fun w' h => by
              have := before_any (coin seed 2 (ub k')) (coin seed 2 (ub k)) k' k (.int .i64 0) (.int .i64 0) xa ka xcap kcap w' rfl rfl (by omega) (by omega) (hsx.keepN h) (HSK.out.keepN (HTW.out.trans (HTI.out.trans h)))
              rw [befI_bfS, hbf, HKL.out] at this
              exact this)
            have HE : ∃ a, pos C h q = a := ⟨_, rfl⟩
            obtain ⟨a, ea⟩ := HE
            rw [ea] at z0 z1 z2 hpl hne hsf hsf2 HNX
            rw [ea]
            have hb1 : ((a : Int) != (c : Int)) = true := by rw [bne_iff_ne]; omega
            have HE : ∃ k2l, k'.length = k2l := ⟨_, rfl⟩
            obtain ⟨k2l, ek2⟩ := HE
            rw [ek2] at z1 HCX HBE
            have HE : ∃ r1, coin seed 2 (ub k') = r1 := ⟨_, rfl⟩
            obtain ⟨r1, er1⟩ := HE
            rw [er1] at HCX HBE
            have HMI := Lib.hid ((HTI.out.same g (Array.getElem?_eq_some_iff.1 HME.out).1 (fun c => c)).trans HME.out)
            have HE : ∃ r2, coin seed 2 (ub k) = r2 := ⟨_, rfl⟩
            obtain ⟨r2, er2⟩ := HE
            rw [er2] at HBE HMI
            have m1 : (a : Int) < (C : Int) := by omega
            have m2 : (0 : Int) ≤ (a : Int) := by omega
            have hnxm : ((a : Int) + 1) % (C : Int) = ((nx C a : Nat) : Int) := by
              unfold nx; split
              · rw [Int.emod_eq_of_lt (by omega) (by omega)]; omega
              · rw [show (a : Int) + 1 = (C : Int) from by omega, Int.emod_self]; rfl
            have hz0 : ((C : Int) == 0) = false := by simp; omega
            clear hrw hs h0 h1 h2 hsx hTk hbf hnx ea ek2 er1 er2
            have HRS := Lib.hid (show RunS wi.heap.size g (.slice xa k2l xcap) (.slice ka kl kcap) r2 wi (wi.alloc (.cells #[.bool true, .slice xa k2l xcap, .slice xo v'.length xcap'] 78)) from by
              have hlg : g < wi.heap.size := (Array.getElem?_eq_some_iff.1 HMI.out).1
              refine ⟨by rw [cell_new]; rfl, by rw [cell_new]; rfl, ?_, ?_, ?_, Lib.hid ((Touch.refl Nil wi).alloc _)⟩
              · rw [World.cell?_alloc_lt _ _ _ hlg]; simp [World.cell?, HMI.out]
              · rw [World.cell?_alloc_lt _ _ _ hlg]; simp [World.cell?, HMI.out]
              · rw [World.cell?_alloc_lt _ _ _ hlg]; simp [World.cell?, HMI.out])
            go_wp2_with fail
            have HQ : ∃ V, wi.alloc (.cells #[.bool true, .slice xa k2l xcap, .slice xo v'.length xcap'] 78) = V := ⟨_, rfl⟩
            obtain ⟨V, eV⟩ := HQ
            rw [eV] at HRS ⊢
            clear eV z0 z1 z2
            have HG : ∃ xb, wi.heap.size = xb := ⟨_, rfl⟩
            obtain ⟨xb, exb⟩ := HG
            rw [exb] at HRS ⊢
            clear exb
            go_region_held3 (fun w' => w'.cell? ⟨xb, 0, none⟩ = some (.bool true) ∧ w'.cell? ⟨xb, 1, none⟩ = some (.slice xa k2l xcap) ∧ w'.cell? ⟨g, 0, none⟩ = some (.int .i64 0) ∧ w'.cell? ⟨g, 1, none⟩ = some (.int .u64 r2) ∧ w'.cell? ⟨g, 2, none⟩ = some (.slice ka kl kcap) ∧ Hid (Touch Nil wi w'))
              (first | exact HRS.out.step (Touch.refl Nil V).drew | exact RunS.step (by assumption) (by assumption))
              (first
                | (go_at_call 13; refine (HCX.out _ (Hid.out (And.right (And.right (And.right (And.right (And.right (by assumption)))))))).mono ?_; rintro e w3 ⟨rfl, rfl⟩)
                | (go_at_call 44; refine (HBE.out _ (Hid.out (And.right (And.right (And.right (And.right (And.right (by assumption)))))))).mono ?_; rintro e w4 ⟨rfl, hT4⟩))
            all_goals
              go_wp2_with fail
              go_roundw
              case rel => exact ⟨q + 1, by omega, by rw [hnxm, HNX.out], HTI.out.trans (HRS.out.2.2.2.2.2.out.drew.trans hT4)⟩
              case measure =>
                rw [hnxm]
                simp only [intOf, Int.toNat_natCast]
                omega
          · obtain rfl : q = sto C h c := by omega
            have hpc := pos_sto hh hltc
            have hb1 : (((pos C h (sto C h c) : Nat) : Int) != (c : Int)) = false := by rw [hpc]; simp
            go_wp2_with fail
            go_roundw
            case rel => exact ⟨c + 1, by omega, by go_num, HTC.out.trans (HTW.out.trans HTI.out)⟩
            case measure => simp [intOf]; omega
    · obtain rfl : c = C := by omega
      have f8 : decide ((8 : Int) ≤ (c : Int)) = true := by rw [decide_eq_true_iff]; omega
      have f8' : decide (8 ≤ c) = true := by simpa using g1
      go_wp2_with fail
      refine (awake_any _).mono ?_
      rintro e w' ⟨rfl, ht⟩
      go_wp2_with fail
      go_ret
      exact ⟨rfl, ((HW2.out.trans HTC.out).trans ht).below_nil⟩

set_option maxRecDepth 100000 in
theorem slotsRuns_lifted (os : Os) (started : os.Started) (H : Type) (enc : TypeId × Value → H) :
    ReturnsInHanded {} Try.checked os 12 .any (Rows.slotsRunsSpec.pre6 enc Try.prog Try.f12 Rows.slotsRunsRow.domain false) (Rows.slotsRunsSpec.post enc Try.prog Try.f12 false true false false) := by
  refine returnsInHanded_of_change (C := Try.checked) own started (by kernel_rfl) Try.func12
    (ChangeSpec.witness6 (enc := enc) (C := Try.checked) false ⟨#[], #[.int .u64 0, .slice none 0 0], []⟩ 8 (by kernel_rfl) (by kernel_rfl) (by kernel_rfl) (by kernel_rfl)) ?_
  intro W base args ds gs before hval0 hW _ _
  have hval : ∀ (j : Nat) t v, Try.f12.params[j]? = some t → args[j]? = some v → Value.okWide Try.prog W .any base t v := hval0
  have hW' := hW
  obtain ⟨p, q, hA0, hV, rfl, hfz, hnd⟩ := hW
  have hA : DataW.TrodAll enc Try.prog W 0 (fun _ => true) true Try.f12.params.toList args.toList ds p := hA0
  rw [Try.params12] at hA hval
  obtain ⟨v0, vs0, d0, ds0, p0, q0, hargs, rfl, rfl, h0, r0⟩ := trodAll_cons hA
  obtain ⟨v1, vs1, d1, ds1, p1, q1, rfl, rfl, rfl, h1, r1⟩ := trodAll_cons r0
  obtain ⟨rfl, rfl, rfl⟩ := trodAll_nil r1
  obtain rfl : args = #[v0, v1] := by cases args; simp_all
  obtain ⟨rfl, rfl⟩ := trodVars_none hV
  obtain ⟨seed, rfl, rfl, rfl, w0⟩ := open_int Try.underlying22 (hval 0 22 v0 rfl rfl) h0
  obtain ⟨ao, len, cap, rfl⟩ := okWide_slice Try.underlying42 (hval 1 42 v1 rfl rfl)
  have k1 := h1
  have lt1 : ∀ x ∈ p1, x.block < W.heap.size := by obtain ⟨m, hm⟩ := k1; exact DataW.trod_lt m _ _ _ hm
  obtain ⟨fuel, hf⟩ := h1
  obtain ⟨hm, v, kd, key, val, hscr⟩ := open_scr hf
  clear hA0 hval0
  refine (lawRuns_any seed len cap ao v kd key val W (by unfold maxLen at hm; omega) hscr).mono fun e W' ⟨he, bel⟩ => ?_
  subst he
  exact ⟨_, rfl, _, _, _, [], _, [], hW', trodAll_mk1 (shut_bool Try.underlying4 _), (trodAll_cons_mk (shut_int Try.underlying22 w0) (trodAll_cons_mk (Below.trod laidOut (by kernel_rfl) (of_decide_eq_true (by kernel_rfl)) k1 bel lt1) trodAll_mk0)), rfl, bel.frame _, fun h => by cases h⟩

theorem slotsRuns_holds : Rows.SlotsRunsSaid :=
  OpenClaim.holds_of_wide 12 Try.f12 rfl rfl rfl rfl rfl rfl rfl ⟨rfl, rfl, rfl, rfl, rfl⟩ rfl rfl rfl rfl rfl (by kernel_rfl) Try.func12 (by kernel_rfl)
    (of_decide_eq_true (by kernel_rfl)) (by unfold Func.isWrapper; first | (rw [if_pos (by decide +kernel)]; kernel_rfl) | (rw [if_neg (by decide +kernel)]; exact ⟨rfl, rfl⟩))
    (fun os started H enc _ => slotsRuns_lifted os started H enc)
end Go.Proofs.Ytabjpejgnfeegaa
