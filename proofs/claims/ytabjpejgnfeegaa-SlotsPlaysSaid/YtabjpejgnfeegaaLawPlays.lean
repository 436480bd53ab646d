/-
  SlotsPlays: for every seed, every kind of table and every script the law returns true: each call answers as a plain list of pairs and the definition of the cells say.
  No condition beside the statement's own.
-/
import Derived.Test.YtabjpejgnfeegaaPlayJ
import Derived.Test.YtabjpejgnfeegaaAwake
namespace Go.Proofs.Ytabjpejgnfeegaa
open Go.ChangeShapes Go.WideShapes Go.ChangeAt Go.RowKit Go.Deep

theorem St.start {w w2 : World} {t : Value} {seed : Int} (hT : Tab (fun b => w.heap.size ≤ b ∧ b < w2.heap.size) w2 t seed 0 8 (fun _ => none)) : St w.heap.size 0 (w2.alloc (.cells #[] 72)) t seed (.slice (some ⟨w2.heap.size, 0, none⟩) 0 0) :=
  ⟨_, fun c => c = w2.heap.size, 0, 8, _, [], ⟨hT.keepN ((Touch.refl Nil w2).alloc _), lz_empty (by simp), fun b h => h.1, fun b hb h => by have h1 := h.2; subst hb; omega, fun x => ⟨fun ⟨c, _, e⟩ => (by cases e), fun h => (by cases h)⟩, fun i j hi => by simp at hi, okay_nil⟩, by simp⟩
/-- A table that comes back from its image. -/
theorem StR.back {R Z : Nat → Prop} {B0 : Nat} {w w4 w5 : World} {t u x : Value} {seed : Int} {n C n1 : Nat} {T T1 : Cells} {L : KVs} (h : StR R Z B0 w t seed x n C T L) (hB : B0 ≤ w.heap.size) (h4 : Touch Nil w w4) (h45 : Touch Nil w4 w5) (hT : Tab (fun b => w4.heap.size ≤ b ∧ b < w5.heap.size) w5 u seed n1 (cellsN n1) T1) (hI : IsImg seed (imageB n C T) n1 T1) : ∃ R' n' C' T', StR R' Z B0 w5 u seed x n' C' T' L ∧ ∀ b, R' b → w4.heap.size ≤ b := by
  obtain ⟨himg, hC, _⟩ := tab_img h.tab
  obtain ⟨rfl, heq⟩ := himg.inj hI
  refine ⟨_, _, _, _, ⟨hT, h.lz.keepN (h4.trans h45), fun b hb => ?_, fun b hz hr => ?_, fun x => ?_, h.dist, h.okay⟩, fun b hb => hb.1⟩
  · have := hb.1; have := h4.size; omega
  · have h1 := h.lz.low b hz; have h2 := hr.1; have := h4.size; omega
  · rw [← h.inn]
    constructor
    · rintro ⟨c, hc, e⟩
      exact ⟨c, by rw [hC]; exact hc, by rw [heq c hc]; exact e⟩
    · rintro ⟨c, hc, e⟩
      rw [hC] at hc
      exact ⟨c, hc, by rw [← heq c hc]; exact e⟩

set_option maxRecDepth 100000 in
set_option maxHeartbeats 8000000 in
theorem lawPlays_any (seed k : Int) (n cap : Nat) (ao : Option Addr) (v : Nat → Nat → Value) (kd : Nat → Int) (key val : Nat → Key) (w : World)
    (hm : n ≤ 9223372036854775807) (hscr : Scr w ao n v kd key val) :
    Calls Try.prog 7 #[.int .u64 seed, .int .u8 k, .slice ao n cap] w fun e w' => e = .returned (.bool true) ∧ Below w.heap.size w w' := by
  have HS := Lib.hid hscr
  have HFEW := Lib.hid (few_any cap hscr hm)
  clear hscr
  cases hfew : fewB n key val
  case false =>
    rw [hfew] at HFEW
    clear hfew
    go_enter Try.func7, Try.ntmps7
    go_wp2_with fail
    refine HFEW.out.mono ?_
    rintro e w' ⟨rfl, rfl⟩
    go_wp2_with fail
    refine (awake_any _).mono ?_
    rintro e w' ⟨rfl, ht⟩
    go_wp2_with fail
    go_ret
    exact ⟨rfl, ht.below_nil⟩
  rw [hfew] at HFEW
  have hfew' := of_decide_eq_true hfew
  have hn : n ≤ 120 := hfew'.1
  have HFL := Lib.hid hfew'.2
  clear hfew hfew' hm
  by_cases hv : k.tmod 8 = 1 ∨ k.tmod 8 = 2
  · have HTB := Lib.hid (show Calls Try.prog 29 #[.int .u64 seed, .int .u8 k] w (VoidP w) from hv.elim (fun h => table_nil seed k h w) (fun h => table_zero seed k h w))
    obtain ⟨z, hz, hzz⟩ : ∃ z, k.tmod 8 = z ∧ (z = 1 ∨ z = 2) := ⟨_, rfl, hv⟩
    have zg : (z != (1 : Int)) = true → (z != (2 : Int)) = false := by rcases hzz with rfl | rfl <;> decide
    clear hv
    rcases hzz with rfl | rfl
    all_goals
      clear zg
      go_enter Try.func7, Try.ntmps7
      go_wp2_with fail
      refine HFEW.out.mono ?_
      rintro e w1 ⟨rfl, rfl⟩
      go_wp2_with fail
      refine HTB.out.mono ?_
      rintro e w2 ⟨p, rfl, hvd, ht⟩
      have HVD := Lib.hid (hvd.keepN ((Touch.refl Nil w2).alloc (.cells #[] 72)))
      have HLZ := Lib.hid (lz_empty (w := w2.alloc (.cells #[] 72)) (b := w2.heap.size) (by simp))
      have HT2 := Lib.hid (ht.alloc (.cells #[] 72))
      clear hvd ht HTB HFEW
      go_wp2_with fail
      clear hz
      have HE : ∃ W, w2.alloc (.cells #[] 72) = W := ⟨_, rfl⟩
      obtain ⟨W, eW⟩ := HE
      rw [eW] at HVD HLZ HT2 ⊢
      have HE : ∃ lb, w2.heap.size = lb := ⟨_, rfl⟩
      obtain ⟨lb, elb⟩ := HE
      rw [elb] at HLZ ⊢
      clear eW elb
      go_loopw [7, 9, 10] (fun t l i wr => ∃ x : Nat, x ≤ n ∧ t = .pointer p ∧ l = .slice (some ⟨lb, 0, none⟩) 0 0 ∧ i = .int .i64 (x : Int) ∧ Touch Nil W wr) (fun _ _ i _ => n - (intOf i).toNat)
      case atStart => exact ⟨0, Nat.zero_le _, rfl, rfl, rfl, Touch.refl _ _⟩
      obtain ⟨x, hx, rfl, rfl, rfl, hto⟩ := hrel
      obtain ⟨wx, rfl⟩ : ∃ wx : World, wx = wr := ⟨_, rfl⟩
      have HTX := Lib.hid hto
      have HT := Lib.hid (HT2.out.trans hto)
      clear hto
      by_cases hlt : x < n
      · have HSR := Lib.hid (HS.out.keepN HT.out)
        obtain ⟨b, off, rfl, hb, hcell⟩ := HSR.out.cells (by omega)
        have c0 := hcell x hlt 0 (by omega)
        have c1 := hcell x hlt 1 (by omega)
        have c2 := hcell x hlt 2 (by omega)
        rw [Nat.add_zero] at c0
        rw [HSR.out.kind x hlt] at c0
        obtain ⟨a1, k1, e1, g1, g1'⟩ := (HSR.out.keys x hlt).1
        obtain ⟨a2, k2, e2, g2, g2'⟩ := (HSR.out.vals x hlt).1
        rw [e1] at c1
        rw [e2] at c2
        have HK := Lib.hid (show BV wx (.slice a1 (key x).length k1) (key x) from ⟨a1, k1, rfl, g1, g1'⟩)
        have HV := Lib.hid (show BV wx (.slice a2 (val x).length k2) (val x) from ⟨a2, k2, rfl, g2, g2'⟩)
        have HLL := Lib.hid (HFL.out x hlt)
        have i1 : (x : Int) < (n : Int) := by omega
        have i2 : (0 : Int) ≤ (x : Int) := by omega
        clear hcell e1 e2 g1 g1' g2 g2' hb
        have HE : ∃ kl, (key x).length = kl := ⟨_, rfl⟩
        obtain ⟨kl, ekl⟩ := HE
        have HE : ∃ vl, (val x).length = vl := ⟨_, rfl⟩
        obtain ⟨vl, evl⟩ := HE
        rw [ekl] at c1 HK
        rw [evl] at c2 HV
        generalize hkx : kd x = kx at *
        generalize key x = kk at *
        generalize val x = vv at *
        clear hkx ekl evl
        have HTA := Lib.hid ((Touch.refl Nil wx).alloc (.cells #[.int .i64 kx, .slice a1 kl k1, .slice a2 vl k2] 48))
        by_cases hneg : kx < 0
        · have d0 : decide (kx < 0) = true := decide_eq_true hneg
          have HTC := Lib.hid ((Touch.refl Nil wx).alloc (.cells #[.int .i64 3, .slice a1 kl k1, .slice a2 vl k2] 48))
          have HDO := Lib.hid (does_void (seed := seed) (kd := 3) (HK.out.keepN HTC.out) (HV.out.keepN HTC.out) HLL.out.1 HLL.out.2 ((HVD.out.keepN HTX.out).keepN HTC.out) ((HLZ.out.keepN HTX.out).keepN HTC.out) (by decide))
          clear hneg
          go_wp2_with fail
          refine HDO.out.mono ?_
          rintro e w4 ⟨rfl, ht4⟩
          have HT4 := Lib.hid ((HTX.out.trans HTC.out).trans ht4)
          clear ht4 HDO
          go_wp2_with fail
          go_roundw
          case rel => exact ⟨x + 1, by omega, rfl, rfl, by go_num, HT4.out⟩
          case measure => simp [intOf]; omega
        · have d0 : decide (kx < 0) = false := decide_eq_false hneg
          have HDO := Lib.hid (does_void (seed := seed) (kd := kx) (HK.out.keepN HTA.out) (HV.out.keepN HTA.out) HLL.out.1 HLL.out.2 ((HVD.out.keepN HTX.out).keepN HTA.out) ((HLZ.out.keepN HTX.out).keepN HTA.out) (by omega))
          clear hneg
          cases q7 : (kx.tmod 8 == (7 : Int))
          all_goals
            go_wp2_with fail
            refine HDO.out.mono ?_
            rintro e w4 ⟨rfl, ht4⟩
            have HT4 := Lib.hid ((HTX.out.trans HTA.out).trans ht4)
            clear ht4 HDO
            go_wp2_with fail
            go_roundw
            case rel => exact ⟨x + 1, by omega, rfl, rfl, by go_num, HT4.out⟩
            case measure => simp [intOf]; omega
      · obtain rfl : x = n := by omega
        go_wp2_with fail
        refine (awake_any _).mono ?_
        rintro e w' ⟨rfl, ht⟩
        go_wp2_with fail
        go_ret
        exact ⟨rfl, (HT.out.trans ht).below_nil⟩
  · have hk1 : ¬ k.tmod 8 = 1 := fun h => hv (.inl h)
    have hk2 : ¬ k.tmod 8 = 2 := fun h => hv (.inr h)
    have HE : ∃ z, k.tmod 8 = z := ⟨_, rfl⟩
    obtain ⟨z, hz⟩ := HE
    rw [hz] at hk1 hk2
    have z1 : (z == (1 : Int)) = false := by simpa using hk1
    have z2 : (z == (2 : Int)) = false := by simpa using hk2
    have z1' : (z != (1 : Int)) = true := by simp [bne, z1]
    have z2' : (z != (2 : Int)) = true := by simp [bne, z2]
    have HTB := Lib.hid (table_new seed k z hz z1 z2 w)
    clear hv hk1 hk2
    go_enter Try.func7, Try.ntmps7
    go_wp2_with fail
    refine HFEW.out.mono ?_
    rintro e w1 ⟨rfl, rfl⟩
    go_wp2_with fail
    refine HTB.out.mono ?_
    rintro e w2 ⟨t, rfl, hT, ht⟩
    have hT' := hT
    obtain ⟨⟨bt, _, _, _, rfl, _⟩, _, _⟩ := hT'
    have HST := Lib.hid (St.start hT)
    have HT2 := Lib.hid (ht.alloc (.cells #[] 72))
    clear hT ht HTB HFEW
    go_wp2_with fail
    clear hz z1 z2 z1' z2'
    have HE : ∃ W, w2.alloc (.cells #[] 72) = W := ⟨_, rfl⟩
    obtain ⟨W, eW⟩ := HE
    rw [eW] at HST HT2 ⊢
    clear eW
    go_loopw [7, 9, 10] (fun t l i wr => ∃ (x : Nat) (p la : Option Addr) (ln lc : Nat), x ≤ n ∧ t = .pointer p ∧ l = .slice la ln lc ∧ i = .int .i64 (x : Int) ∧ Hid (St w.heap.size x wr (.pointer p) seed (.slice la ln lc)) ∧ Touch Nil w wr) (fun _ _ i _ => n - (intOf i).toNat)
    case atStart => exact ⟨0, _, _, _, _, Nat.zero_le _, rfl, rfl, rfl, HST, HT2.out⟩
    obtain ⟨x, p, la, ln, lc, hx, rfl, rfl, rfl, HSX, hto⟩ := hrel
    obtain ⟨wx, rfl⟩ : ∃ wx : World, wx = wr := ⟨_, rfl⟩
    have HT := Lib.hid hto
    clear hto HST HT2
    by_cases hlt : x < n
    · have HSR := Lib.hid (HS.out.keepN HT.out)
      obtain ⟨b, off, rfl, hb, hcell⟩ := HSR.out.cells (by omega)
      have c0 := hcell x hlt 0 (by omega)
      have c1 := hcell x hlt 1 (by omega)
      have c2 := hcell x hlt 2 (by omega)
      rw [Nat.add_zero] at c0
      rw [HSR.out.kind x hlt] at c0
      obtain ⟨a1, k1, e1, g1, g1'⟩ := (HSR.out.keys x hlt).1
      obtain ⟨a2, k2, e2, g2, g2'⟩ := (HSR.out.vals x hlt).1
      rw [e1] at c1
      rw [e2] at c2
      have HK := Lib.hid (show BV wx (.slice a1 (key x).length k1) (key x) from ⟨a1, k1, rfl, g1, g1'⟩)
      have HV := Lib.hid (show BV wx (.slice a2 (val x).length k2) (val x) from ⟨a2, k2, rfl, g2, g2'⟩)
      have HLL := Lib.hid (HFL.out x hlt)
      have i1 : (x : Int) < (n : Int) := by omega
      have i2 : (0 : Int) ≤ (x : Int) := by omega
      clear hcell e1 e2 g1 g1' g2 g2' hb
      have HE : ∃ kl, (key x).length = kl := ⟨_, rfl⟩
      obtain ⟨kl, ekl⟩ := HE
      have HE : ∃ vl, (val x).length = vl := ⟨_, rfl⟩
      obtain ⟨vl, evl⟩ := HE
      rw [ekl] at c1 HK
      rw [evl] at c2 HV
      generalize hkx : kd x = kx at *
      generalize key x = kk at *
      generalize val x = vv at *
      clear hkx ekl evl
      have HTA := Lib.hid ((Touch.refl Nil wx).alloc (.cells #[.int .i64 kx, .slice a1 kl k1, .slice a2 vl k2] 48))
      by_cases hneg : kx < 0
      · have d0 : decide (kx < 0) = true := decide_eq_true hneg
        have HTB := Lib.hid ((Touch.refl Nil wx).alloc (.cells #[.int .i64 3, .slice a1 kl k1, .slice a2 vl k2] 48))
        obtain ⟨R, Z, n0, C, T, L, hst, hL⟩ := HSX.out
        have HDO := Lib.hid (does_made (kd := 3) (HK.out.keepN HTB.out) (HV.out.keepN HTB.out) HLL.out.1 HLL.out.2 (hst.keepN HTB.out) (Nat.le_trans HT.out.size HTB.out.size) (show L.length + 1 ≤ x + 1 by omega) (by omega) (by decide))
        clear hst hneg
        go_wp2_with fail
        refine HDO.out.mono ?_
        rintro e w4 ⟨ao4, n4, cap4, rfl, hst4, ht4⟩
        have HS4 := Lib.hid hst4
        have HT4 := Lib.hid (from_nil (HT.out.trans HTB.out) ht4 (Nat.le_refl _))
        clear hst4 ht4 HDO
        go_wp2_with fail
        go_roundw
        case rel => exact ⟨x + 1, _, _, _, _, by omega, rfl, rfl, by go_num, HS4, HT4.out⟩
        case measure => simp [intOf]; omega
      · have d0 : decide (kx < 0) = false := decide_eq_false hneg
        by_cases h7 : kx.tmod 8 = 7
        · have q7 : (kx.tmod 8 == (7 : Int)) = true := by simpa using h7
          obtain ⟨R, Z, n0, C, T, L, hst, hL⟩ := HSX.out
          have HST := Lib.hid (hst.keepN HTA.out)
          have HIL := Lib.hid (tab_img HST.out.tab).2.2.1
          have HLX := Lib.hid hL
          clear hst h7 hneg hL
          go_wp2_with fail
          refine (image_any HST.out.tab).mono ?_
          rintro e w4 ⟨v4, rfl, ho4, ht4⟩
          obtain ⟨p4, n4, q4, rfl⟩ := ho4.form
          have HO4 := Lib.hid ho4
          have HT4 := Lib.hid ht4
          clear ho4 ht4
          go_wp2_with fail
          refine (load_any seed _ _ w4 HO4.out.bc (by have := HIL.out; omega)).mono ?_
          rintro e w5 (⟨n1, T1, u, himg1, rfl, htab, ht5⟩ | ⟨_, _, hno⟩)
          case inr => exact absurd (tab_img HST.out.tab).1 (hno _ _)
          obtain ⟨R5, n5, C5, T5, hst5, hR5⟩ := HST.out.back (Nat.le_trans HT.out.size HTA.out.size) HT4.out ht5 htab himg1
          have htab' := htab
          obtain ⟨⟨bu, _, _, _, rfl, _⟩, _, _⟩ := htab'
          have HO5 := Lib.hid (HO4.out.keep ht5 (fun _ _ c => c))
          have HSP := Lib.hid (show Calls Try.prog 32 #[.slice p4 n4 q4, .int .u8 60] w5 _ from spoilS_any (HO5.out.s8 (Nat.le_refl _) (by have := HIL.out; omega)) 60 (by decide))
          have HS5 := Lib.hid hst5
          have HFR := Lib.hid (show ∀ b, OwnOf (.slice p4 n4 q4) b → ¬ R5 b ∧ ¬ Z b from fun b hb => ⟨fun hr => by have h1 := hR5 b hr; have h2 := (HO4.out.block b hb).2; omega, (HST.out.far (HO4.out.block b hb).1).2⟩)
          have HT5 := Lib.hid (((HT.out.trans HTA.out).trans HT4.out).trans ht5)
          clear hst5 hR5 htab ht5 himg1
          go_wp2_with fail
          refine HSP.out.mono ?_
          rintro e w6 ⟨rfl, hs6, ht6⟩
          have HS6 := Lib.hid (show St w.heap.size (x + 1) w6 (.pointer (some ⟨bu, 0, none⟩)) seed (.slice la ln lc) from ⟨_, _, _, _, _, _, HS5.out.keep ht6 HFR.out, by have := HLX.out; omega⟩)
          have HT6 := Lib.hid (show Touch Nil w w6 from HT5.out.trans' ht6 fun b hb hs => by have h1 := (HO4.out.block b hs).1; have h2 := HTA.out.size; have h3 := HT.out.size; omega)
          clear hs6 ht6 HSP
          go_wp2_with fail
          go_roundw
          case rel => exact ⟨x + 1, _, _, _, _, by omega, rfl, rfl, by go_num, HS6, HT6.out⟩
          case measure => simp [intOf]; omega
        · have q7 : (kx.tmod 8 == (7 : Int)) = false := by simpa using h7
          obtain ⟨R, Z, n0, C, T, L, hst, hL⟩ := HSX.out
          have HDO := Lib.hid (does_made (HK.out.keepN HTA.out) (HV.out.keepN HTA.out) HLL.out.1 HLL.out.2 (hst.keepN HTA.out) (Nat.le_trans HT.out.size HTA.out.size) (show L.length + 1 ≤ x + 1 by omega) (by omega) (show 0 ≤ kx by omega))
          clear hst h7 hneg
          go_wp2_with fail
          refine HDO.out.mono ?_
          rintro e w4 ⟨ao4, n4, cap4, rfl, hst4, ht4⟩
          have HS4 := Lib.hid hst4
          have HT4 := Lib.hid (from_nil (HT.out.trans HTA.out) ht4 (Nat.le_refl _))
          clear hst4 ht4 HDO
          go_wp2_with fail
          go_roundw
          case rel => exact ⟨x + 1, _, _, _, _, by omega, rfl, rfl, by go_num, HS4, HT4.out⟩
          case measure => simp [intOf]; omega
    · obtain rfl : x = n := by omega
      obtain ⟨R, Z, n0, C, T, L, hst, hL⟩ := HSX.out
      have HST := Lib.hid hst
      obtain ⟨en, eC, hTT⟩ := list_good hst.tab.good hst.inn hst.dist (by omega)
      obtain ⟨v, hv1, hv2⟩ := rlOf hst.lz.pz
      have HEQ := Lib.hid (show ∀ ord, Ordr (fun i j => bfS seed (atL L i).1 (atL L j).1) L.length ord → ∀ c, c < C → T c = refT seed C L.length ord (atL L) c from fun ord ho c hc => by
        rw [hTT ord ho c hc, eC])
      have HTB := Lib.hid (show ∀ w', Touch Nil wx w' → Calls Try.prog 36 #[.int .u64 seed, .slice la ln lc] w' (TablePost seed C L.length v (atL L) w') from fun w' ht => by
        have := table_any seed lc (hv2.keepN ht) (by omega) (fun i hi => by have := hst.okay _ (atL_mem hi); omega)
        rw [← eC, hv1] at this
        rw [hv1]
        exact this)
      have HCB := Lib.hid (show C ≤ 300000 from hst.tab.good.free.2.1)
      have HCL := Lib.hid (show ∀ w' b f ord, Touch Nil wx w' → w'.rowIs b 78 (C * 3) f → (∀ c, c < C → RowP v (refP seed C L.length ord (atL L) c) (f (c * 3)) (f (c * 3 + 1)) (f (c * 3 + 2))) → Ordr (fun i j => bfS seed (atL L i).1 (atL L j).1) L.length ord → Cls w' (some ⟨b, 0, none⟩) C f (refT seed C L.length ord (atL L)) from fun w' b f ord ht hr hs ho =>
        refcls (hv2.keepN ht) hr hs (fun c i hc e => refP_lt (by have := hst.tab.good.free.1; omega) (by have := hst.tab.good.2.2.1; omega) ho hc e) fun i hi => by have := hst.okay _ (atL_mem hi); omega)
      clear hst hTT en eC hv1 hv2 hL
      go_wp2_with fail
      refine (cells_any HST.out.tab).mono ?_
      rintro e w4 ⟨b4, f4, rfl, _, hr4, hsh4, ht4⟩
      have HC4 := Lib.hid (shown_cls HST.out.tab hr4 hsh4)
      have HT4 := Lib.hid ht4
      clear hr4 hsh4 ht4
      go_wp2_with fail
      refine (HTB.out _ HT4.out).mono ?_
      rintro e w5 ⟨b5, f5, ord, rfl, _, hr5, hord, hsh5, ht5⟩
      have HC5 := Lib.hid (HCL.out _ _ _ _ (HT4.out.trans ht5) hr5 hsh5 hord)
      have HSM := Lib.hid (sameCells_true (c1 := C) (c2 := C) (by have := HCB.out; omega) (HC4.out.keepN ht5) HC5.out (HEQ.out ord hord))
      have HT5 := Lib.hid ((HT.out.trans HT4.out).trans ht5)
      clear hr5 hord hsh5 ht5
      go_wp2_with fail
      refine HSM.out.mono ?_
      rintro e w6 ⟨rfl, ht6⟩
      have HT6 := Lib.hid (HT5.out.trans ht6)
      clear ht6
      go_wp2_with fail
      refine (awake_any _).mono ?_
      rintro e w' ⟨rfl, ht⟩
      go_wp2_with fail
      go_ret
      exact ⟨rfl, (HT6.out.trans ht).below_nil⟩

set_option maxRecDepth 100000 in
theorem slotsPlays_lifted (os : Os) (started : os.Started) (H : Type) (enc : TypeId × Value → H) :
    ReturnsInHanded {} Try.checked os 7 .any (Rows.slotsPlaysSpec.pre6 enc Try.prog Try.f7 Rows.slotsPlaysRow.domain false) (Rows.slotsPlaysSpec.post enc Try.prog Try.f7 false true false false) := by
  refine returnsInHanded_of_change (C := Try.checked) own started (by kernel_rfl) Try.func7
    (ChangeSpec.witness6 (enc := enc) (C := Try.checked) false ⟨#[], #[.int .u64 0, .int .u8 0, .slice none 0 0], []⟩ 8 (by kernel_rfl) (by kernel_rfl) (by kernel_rfl) (by kernel_rfl)) ?_
  intro W base args ds gs before hval0 hW _ _
  have hval : ∀ (j : Nat) t v, Try.f7.params[j]? = some t → args[j]? = some v → Value.okWide Try.prog W .any base t v := hval0
  have hW' := hW
  obtain ⟨p, q, hA0, hV, rfl, hfz, hnd⟩ := hW
  have hA : DataW.TrodAll enc Try.prog W 0 (fun _ => true) true Try.f7.params.toList args.toList ds p := hA0
  rw [Try.params7] at hA hval
  obtain ⟨v0, vs0, d0, ds0, p0, q0, hargs, rfl, rfl, h0, r0⟩ := trodAll_cons hA
  obtain ⟨v1, vs1, d1, ds1, p1, q1, rfl, rfl, rfl, h1, r1⟩ := trodAll_cons r0
  obtain ⟨v2, vs2, d2, ds2, p2, q2, rfl, rfl, rfl, h2, r2⟩ := trodAll_cons r1
  obtain ⟨rfl, rfl, rfl⟩ := trodAll_nil r2
  obtain rfl : args = #[v0, v1, v2] := by cases args; simp_all
  obtain ⟨rfl, rfl⟩ := trodVars_none hV
  obtain ⟨seed, rfl, rfl, rfl, w0⟩ := open_int Try.underlying22 (hval 0 22 v0 rfl rfl) h0
  obtain ⟨kind, rfl, rfl, rfl, w1⟩ := open_int Try.underlying5 (hval 1 5 v1 rfl rfl) h1
  have b1 : 0 ≤ kind ∧ kind ≤ 255 := by simpa [Lit.wf, IntKind.min, IntKind.max, IntKind.signed, IntKind.bits] using w1
  obtain ⟨kindN, rfl⟩ : ∃ n : Nat, kind = (n : Int) := ⟨kind.toNat, by omega⟩
  obtain ⟨scriptA, scriptL, scriptC, rfl⟩ := okWide_slice Try.underlying42 (hval 2 42 v2 rfl rfl)
  have k2 := h2
  have lt2 : ∀ x ∈ p2, x.block < W.heap.size := by obtain ⟨m, hm⟩ := k2; exact DataW.trod_lt m _ _ _ hm
  obtain ⟨fuel2, hf2⟩ := h2
  obtain ⟨scriptM, scriptV, scriptKd, scriptK, scriptU, scriptH⟩ := open_scr hf2
  clear hA0 hval0
  unfold maxLen at scriptM
  refine (lawPlays_any seed kindN scriptL scriptC scriptA scriptV scriptKd scriptK scriptU W (by omega) scriptH).mono fun e W' ⟨he, bel⟩ => ?_
  subst he
  exact ⟨_, rfl, _, _, _, [], _, [], hW', trodAll_mk1 (shut_bool Try.underlying4 _), (trodAll_cons_mk (shut_int Try.underlying22 w0) (trodAll_cons_mk (shut_int Try.underlying5 w1) (trodAll_cons_mk (Below.trod laidOut (by kernel_rfl) (of_decide_eq_true (by kernel_rfl)) k2 bel lt2) trodAll_mk0))), rfl, bel.frame _, fun h => by cases h⟩

theorem slotsPlays_holds : Rows.SlotsPlaysSaid :=
  OpenClaim.holds_of_wide 7 Try.f7 rfl rfl rfl rfl rfl rfl rfl ⟨rfl, rfl, rfl, rfl, rfl⟩ rfl rfl rfl rfl rfl (by kernel_rfl) Try.func7 (by kernel_rfl)
    (of_decide_eq_true (by kernel_rfl)) (by unfold Func.isWrapper; first | (rw [if_pos (by decide +kernel)]; kernel_rfl) | (rw [if_neg (by decide +kernel)]; exact ⟨rfl, rfl⟩))
    (fun os started H enc _ => slotsPlays_lifted os started H enc)
end Go.Proofs.Ytabjpejgnfeegaa
