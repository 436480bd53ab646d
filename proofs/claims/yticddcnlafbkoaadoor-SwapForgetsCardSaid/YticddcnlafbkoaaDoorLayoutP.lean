import Derived.Test.YticddcnlafbkoaaDoorLay
import Derived.Test.YticddcnlafbkoaaDoorSeqP
/- The layout, for items of 2 cells. -/
namespace Go.Proofs.YticddcnlafbkoaaDoor
open Go.ChangeShapes Go.WideShapes Go.ChangeAt Go.RowKit Go.Deep

set_option maxRecDepth 100000 in
set_option maxHeartbeats 8000000 in
theorem layoutP (gs : Nat) (cs : Array Value) (gb : Nat) (cb : Array Value) (B C : Nat) (ao : Option Addr) (n cap : Nat) (v : Nat → Nat → Value) (s : Nat → Int) (lt : Nat → Nat → Bool) (I : Nat → World → Prop) (S : Nat → Prop)
    (G : Sta gs cs (itemP v) s n B I S) (F : Bef gb cb (itemP v) lt n B (I n) S) (hw : SWO lt n) (hao : 0 < n → ∀ b o, ao = some ⟨b, o, none⟩ → b < B ∧ ¬ S b) (hC : 1 ≤ C) (hC2 : C ≤ 1048576) (hn : n ≤ C)
    (hone : ∀ i c, (v i c).oneCell' = true) (w : World) (hB : B ≤ w.heap.size) (hI : I 0 w) (hit : Items w ao n 2 v) :
    Calls Tryd.prog 77 #[.int .i64 C, .slice ao n cap, .func (.func gs) #[] cs, .func (.func gb) #[] cb] w (LayPost C n s lt (I n) S w) := by
  have HG := Lib.hid G
  have HF := Lib.hid F
  have HW := Lib.hid hw
  have HAO := Lib.hid hao
  have HI := Lib.hid hI
  have HIT := Lib.hid hit
  have eg := G.enter
  clear G F hw hao hI hit
  have hmk := run_make_row' (P := Tryd.prog) 112 3 (.int .i64 0) 8 Tryd.underlying112 infoInt rfl .i64 .i64 n (by omega) (by omega)
  have q1 := run_eql_func Tryd.prog 119 _ _ _ Tryd.underlying119 (.func gs) #[] cs
  have q2 := run_eql_func Tryd.prog 120 _ _ _ Tryd.underlying120 (.func gb) #[] cb
  have d1 : decide ((C : Int) < 1) = false := by simp; omega
  have d2 : decide ((1048576 : Int) < (C : Int)) = false := by simp; omega
  have d3 : decide (C < n) = false := by simp; omega
  go_enter Tryd.func77, Tryd.ntmps77
  go_wp2_with fail
  clear hmk q1 q2
  have hR0 := World.rowIs_made w (.int .i64 0) n 3
  have hT0 := (Touch.refl S w).alloc (.cells (madeCells #[.int .i64 0] n) 3)
  have HR0 := Lib.hid hR0
  have HT0 := Lib.hid hT0
  have HI0 := Lib.hid (HG.out.keep _ _ _ HI.out ((Below.refl B w).alloc hB (.cells (madeCells #[.int .i64 0] n) 3)))
  clear hR0 hT0
  go_loopw [42] (fun i wr => ∃ x : Nat, x ≤ n ∧ i = .int .i64 x ∧ Ints wr w.heap.size n (fun i => if i < x then home C s i else 0) ∧ I x wr ∧ Touch S w wr) (fun i _ => n - (intOf i).toNat)
  case atStart => exact ⟨0, by omega, rfl, HR0.out.congr fun i _ => by simp, HI0.out, HT0.out⟩
  obtain ⟨x, hx, rfl, hr, hIr, hto⟩ := hrel
  have HR := Lib.hid hr
  have HIr := Lib.hid hIr
  have HT := Lib.hid hto
  clear hr hIr hto
  by_cases hlt : x < n
  · obtain ⟨b, off, e0, hb, hcell⟩ := (HIT.out.keep (fun hn0 b o e _ => HT.out.same b (by have := (HAO.out hn0 b o e).1; omega) (HAO.out hn0 b o e).2) HT.out.size) (by omega)
    subst e0
    have cx0 := hcell x hlt 0 (by omega)
    have cx1 := hcell x hlt 1 (by omega)
    rw [Nat.add_zero] at cx0
    clear hcell
    have hs0 := fun (w : World) (a : Addr) => run_store Tryd.prog w a (v x 0) .plain (hone x 0)
    have hs1 := fun (w : World) (a : Addr) => run_store Tryd.prog w a (v x 1) .plain (hone x 1)
    have HCALL := Lib.hid (by have := HG.out.call; simp only [itemP] at this; exact this)
    obtain ⟨t, ht, ht1, ht2, ht3, ht4⟩ := home_parts (show 0 < C from hC) s x
    have hx0 : ((x : Nat) : Int) < (n : Int) := by omega
    have hz0 : ((C : Int) == 0) = false := by simp; omega
    go_wp2_with fail
    refine (HCALL.out _ x ?qi hlt).mono ?qk
    case qi => first | exact HIr.out | exact HG.out.keep _ _ _ HIr.out ((Below.refl B wr).alloc (by have := HT.out.size; omega) _)
    rintro e w2 ⟨rfl, hI2, hT2⟩
    have hT3 : Touch S wr w2 := by first | exact hT2 | exact ((Touch.refl S wr).alloc _).trans hT2
    have hr2 := HR.out.keep hT3 (fun c => by have := HG.out.low _ c; omega)
    have HI2 := Lib.hid hI2
    have HT2 := Lib.hid (HT.out.trans hT3)
    have c1 := hr2.cell hlt
    have z1 := hr2.frozen x
    have HR2 := Lib.hid (hr2.set x (home C s x))
    have HT3 := Lib.hid (HT2.out.setCell ⟨w.heap.size, x, none⟩ (.int .i64 ((home C s x : Nat) : Int)) fun h => by simp at h)
    have hbw : Below B w2 (w2.setCell ⟨w.heap.size, x, none⟩ (.int .i64 ((home C s x : Nat) : Int))) := (Below.refl B w2).setCell (by exact hB) _
    have HI3 := Lib.hid (HG.out.keep _ _ _ HI2.out hbw)
    clear hbw
    clear hI2 hT2 hT3 hr2
    generalize hgm : home C s x = hm at ht3 ht4 HR2 HT3 HI3
    have HGM := Lib.hid hgm
    clear hgm
    go_wp2_with fail
    go_roundw
    case rel =>
      refine ⟨x + 1, by omega, by go_num, HR2.out.congr fun i hi => ?_, HI3.out, HT3.out⟩
      by_cases c : i = x
      · subst c; simp [HGM.out]
      · by_cases c2 : i < x
        · rw [if_neg c, if_pos c2, if_pos (by omega)]
        · rw [if_neg c, if_neg c2, if_neg (by omega)]
    case measure => simp [intOf]; omega
  · obtain rfl : x = n := by omega
    obtain ⟨wo, rfl⟩ : ∃ wo : World, wo = wr := ⟨_, rfl⟩
    have hwB : B ≤ wo.heap.size := by have := HT.out.size; omega
    have HRH := Lib.hid (HR.out.congr (g := home C s) fun i hi => by rw [if_pos hi])
    clear HR
    go_wp2_with fail
    refine (repeat_any (.int .i64 (-1)) rfl wo.heap.size 1 C _ hC hC2 (by simp)).mono ?_
    rintro e w1 ⟨bl, rfl, hbl, hrl, ht1⟩
    have hbl : wo.heap.size + 1 ≤ bl := by simpa using hbl
    have ht1 : Touch Nil wo w1 := ((Touch.refl _ _).alloc _).trans ht1
    have HT1 := Lib.hid ht1
    have HRL := Lib.hid hrl
    clear ht1 hrl
    go_wp2_with fail
    refine (numbers_any C w1 hC2).mono ?_
    rintro e w2 ⟨bo, rfl, hbo, hro, ht2⟩
    have HT2 := Lib.hid ht2
    have HRO := Lib.hid hro
    clear ht2 hro
    have hw2 : wo.heap.size ≤ w2.heap.size := by have := HT1.out.size; have := HT2.out.size; omega
    have HI2 := Lib.hid (HF.out.keep _ _ HIr.out ((HT1.out.trans HT2.out).below B hwB fun _ _ c => c))
    have HIT2 := Lib.hid ((HIT.out.keep (fun hn0 b o e _ => HT.out.same b (by have := (HAO.out hn0 b o e).1; omega) (HAO.out hn0 b o e).2) HT.out.size).keep (fun hn0 b o e l => (HT1.out.trans HT2.out).same b l (fun c => c)) hw2)
    go_wp2_with fail
    refine (sequenceP gb cb B ao x cap v lt (I x) S HF.out HW.out HAO.out (by omega) w2 (by omega) HI2.out HIT2.out).mono ?_
    rintro e w3 ⟨bs, ord, rfl, hbs, hrs, hperm, hsort, hI3, ht3⟩
    have HT3 := Lib.hid ht3
    have HRS := Lib.hid hrs
    have HP := Lib.hid hperm
    have HSO := Lib.hid hsort
    have HI3 := Lib.hid hI3
    clear ht3 hrs hperm hsort hI3 HIT2 HI2
    have low := HF.out.low
    have hbo1 : bl < w1.heap.size := HRL.out.lt
    have hbo2 : bo < w2.heap.size := HRO.out.lt
    have hbh : w.heap.size < wo.heap.size := HRH.out.lt
    have hw21 : w1.heap.size ≤ w2.heap.size := HT2.out.size
    have HRL3 := Lib.hid ((HT2.out.row HRL.out (fun c => c)).of_block (HT3.out.same bl (by omega) (fun c => by have := low _ c; omega)))
    have HRO3 := Lib.hid (HRO.out.keep HT3.out (fun c => by have := low _ c; omega))
    have HRH3 := Lib.hid (((HRH.out.keep HT1.out (fun c => c)).keep HT2.out (fun c => c)).keep HT3.out (fun c => by have := low _ c; omega))
    have HT4 := Lib.hid (HT.out.trans (((HT1.out.trans HT2.out).of_nil (S := S)).trans HT3.out))
    have HLOW := Lib.hid low
    have hd1 : w.heap.size < bl := by omega
    have hd2 : bl < bo := by omega
    have hd3 : bo < bs := by omega
    clear low HRL HRO HRH HT HT1 HT2 HT3 HIr hbo1 hbo2 hbh
    go_wp2_with fail
    go_loopw [69] (fun i wr => ∃ k : Nat, k ≤ x ∧ i = .int .i64 k ∧ wr.rowIs bl 3 C (fun c => .int .i64 (cellV (place C (home C s) ord k c))) ∧ (∃ o, Ints wr bo C o ∧ (k < x → Onw C (place C (home C s) ord k) o)) ∧
      Ints wr w.heap.size x (home C s) ∧ Ints wr bs x ord ∧ I x wr ∧ Touch S w wr) (fun i _ => x - (intOf i).toNat)
    case atStart => exact ⟨0, by omega, rfl, HRL3.out, ⟨_, HRO3.out, fun _ => Onw.start⟩, HRH3.out, HRS.out, HI3.out, HT4.out⟩
    obtain ⟨k, hk, rfl, hrl, ⟨o, hro, hon⟩, hrh, hrs, hI, hto⟩ := hrel
    have HRL := Lib.hid hrl
    have HRO := Lib.hid hro
    have HON := Lib.hid hon
    have HRH := Lib.hid hrh
    have HRS := Lib.hid hrs
    have HII := Lib.hid hI
    have HTO := Lib.hid hto
    clear hrl hro hon hrh hrs hI hto
    by_cases hlt : k < x
    · have hok : ord k < x := HP.out.all (p := fun v => v < x) (fun _ _ h => h) k (by omega) hlt
      have hh := home_lt (show 0 < C from hC) s (ord k)
      have c1 := HRS.out.cell hlt
      have c2 := HRH.out.cell hok
      have HFR := Lib.hid (place_free (h := home C s) (ord := ord) (show 0 < C from hC) (fun i => home_lt (show 0 < C from hC) s i) hn hlt)
      have HPL := Lib.hid (show place C (home C s) ord (k + 1) = put1 (place C (home C s) ord k) (ff C (place C (home C s) ord k) (home C s (ord k))) (ord k) from rfl)
      have HFF := Lib.hid (dist_spec HFR.out hh)
      have hfl := ff_lt (L := place C (home C s) ord k) (show 0 < C from hC) (home C s (ord k))
      go_wp2_with fail
      refine (firstFree_any bo C C _ _ o wr HRO.out (HON.out hlt) HFR.out hh hC2).mono ?_
      rintro e w5 ⟨rfl, ht5, o5, hro5, hon5⟩
      generalize hy : ff C (place C (home C s) ord k) (home C s (ord k)) = y at HPL HFF hfl
      have HY := Lib.hid hy
      clear hy
      obtain ⟨y', HY'⟩ : ∃ y', Hid (y' = (y + 1) % C) := ⟨_, Lib.hid rfl⟩
      have ey : ((y : Int) + 1) % (C : Int) = (y' : Int) := by rw [HY'.out]; simp
      have hbl5 : bl < w5.heap.size := by have := (HRL.out.lt); have := ht5.size; omega
      have hrl5 := HRL.out.of_block (ht5.same bl HRL.out.lt (fun c => by have : bl = bo := c; omega))
      have hrh5 := HRH.out.keep ht5 (fun c => by have : w.heap.size = bo := c; omega)
      have hrs5 := HRS.out.keep ht5 (fun c => by have : bs = bo := c; omega)
      have hI5 := HF.out.keep _ _ HII.out (ht5.below B (by have := HTO.out.size; omega) (fun b hb c => by have : b = bo := c; omega))
      have c3 := hrl5.cell hfl
      have z3 := hrl5.frozen y
      have c4 := hro5.cell hfl
      have z4 := hro5.frozen y
      have HHO := Lib.hid (hro5.lt)
      have HRL6 := Lib.hid ((hrl5.set y (.int .i64 ((ord k : Nat) : Int))).setOther (a := ⟨bo, y, none⟩) (by show bl ≠ bo; omega) (.int .i64 (y' : Int)))
      have HRO6 := Lib.hid (Ints.set (w := w5.setCell ⟨bl, y, none⟩ (.int .i64 ((ord k : Nat) : Int))) (show Ints (w5.setCell ⟨bl, y, none⟩ (.int .i64 ((ord k : Nat) : Int))) bo C o5 from World.rowIs.setOther hro5 (by show bo ≠ bl; omega) _) y y')
      have HRH6 := Lib.hid (show Ints ((w5.setCell ⟨bl, y, none⟩ (.int .i64 ((ord k : Nat) : Int))).setCell ⟨bo, y, none⟩ (.int .i64 (y' : Int))) w.heap.size x (home C s) from World.rowIs.setOther (World.rowIs.setOther hrh5 (by show w.heap.size ≠ bl; omega) _) (by show w.heap.size ≠ bo; omega) _)
      have HRS6 := Lib.hid (show Ints ((w5.setCell ⟨bl, y, none⟩ (.int .i64 ((ord k : Nat) : Int))).setCell ⟨bo, y, none⟩ (.int .i64 (y' : Int))) bs x ord from World.rowIs.setOther (World.rowIs.setOther hrs5 (by show bs ≠ bl; omega) _) (by show bs ≠ bo; omega) _)
      have hbw : Below B w5 ((w5.setCell ⟨bl, y, none⟩ (.int .i64 ((ord k : Nat) : Int))).setCell ⟨bo, y, none⟩ (.int .i64 (y' : Int))) := ((Below.refl B w5).setCell (by show B ≤ bl; omega) _).setCell (by show B ≤ bo; omega) _
      have HI6 := Lib.hid (HF.out.keep _ _ hI5 hbw)
      have HT6 := Lib.hid (((HTO.out.trans' ht5 (fun b hb c => by have : b = bo := c; omega)).setCell ⟨bl, y, none⟩ (.int .i64 ((ord k : Nat) : Int)) (fun h => by have : bl < w.heap.size := h; omega)).setCell ⟨bo, y, none⟩ (.int .i64 (y' : Int)) (fun h => by have : bo < w.heap.size := h; omega))
      have HON5 := Lib.hid hon5
      clear hrl5 hrh5 hrs5 hI5 hbw ht5 hro5 hon5 c1 c2 hbl5 hh
      generalize ord k = ok at *
      go_wp2_with fail
      go_roundw
      case rel =>
        refine ⟨k + 1, by omega, by go_num, ?_, ⟨_, HRO6.out, ?_⟩, HRH6.out, HRS6.out, HI6.out, HT6.out⟩
        · rw [HPL.out]
          exact HRL6.out.congr fun i _ => by
            unfold put1
            by_cases c : i = y
            · subst c; simp [cellV]
            · simp [c]
        · intro hlt2
          rw [HPL.out]
          have hf2 := place_free (h := home C s) (ord := ord) (show 0 < C from hC) (fun i => home_lt (show 0 < C from hC) s i) hn hlt2
          rw [HPL.out] at hf2
          have := HON5.out.put (i := ok) hfl HFF.out.2.1 hf2
          rw [← HY'.out] at this
          exact this
      case measure => simp [intOf]; omega
    · obtain rfl : k = x := by omega
      go_wp2_with fail
      go_ret
      exact ⟨bl, ord, rfl, by omega, HRL.out, HP.out, HSO.out, HII.out, HTO.out⟩
end Go.Proofs.YticddcnlafbkoaaDoor
