import Derived.Test.YticddcnlafbkoaaDoorTab6
/- Put of a new key, where the number of cells stays. -/
namespace Go.Proofs.YticddcnlafbkoaaDoor
open Go.ChangeShapes Go.WideShapes Go.ChangeAt Go.RowKit Go.Deep

theorem Bod.mono {R R' : Nat → Prop} {w : World} {bb bc : Nat} {seed : Int} {n C : Nat} {vv : Nat → Nat → Value} {T : Cells} (h : Bod R w bb bc seed n C vv T) (hR : ∀ b, R b → R' b) : Bod R' w bb bc seed n C vv T :=
  ⟨h.body, h.row, fun c hc => (h.cells c hc).keep (Touch.refl Nil w) (notBytes_nil _) hR, hR _ h.rb, hR _ h.rc⟩
theorem OwnB.ob' {base : Nat} {w : World} {x : Value} {l : List UInt8} {R : Nat → Prop} (h : OwnB base w x l) (hR : ∀ b, base ≤ b → b < w.heap.size → R b) : OB R w x l :=
  ⟨h.bv, fun b hb => ⟨hR b (h.block b hb).1 (h.block b hb).2, h.elem hb⟩⟩

def PutNewPost (R : Nat → Prop) (t : Value) (seed : Int) (n C : Nat) (T : Cells) (p : Key × Key) (w : World) (e : Ending) (w' : World) : Prop :=
  e = .returned (.int .i64 0) ∧ ∃ R' T', Tab R' w' t seed (n + 1) C T' ∧ Fin1 seed C T p T' ∧ Touch R w w' ∧ ∀ b, R' b → R b ∨ w.heap.size ≤ b

set_option maxRecDepth 100000 in
set_option maxHeartbeats 4000000 in
theorem put_new {R : Nat → Prop} {w : World} {t : Value} {seed : Int} {n C : Nat} {T : Cells} (h : Tab R w t seed n C T) (key val : Key) (kx vx : Value) (hk : BV w kx key) (hv : BV w vx val)
    (h1 : 1 ≤ key.length) (h64 : key.length ≤ 64) (h1000 : val.length ≤ 1000) (hno : valAt (T (seekAt (bfS seed) (homS seed C) C T key)) key = none) (hn : n < 100000) (hc : cellsN (n + 1) = C) :
    Calls Tryd.prog 37 #[t, kx, vx] w (PutNewPost R t seed n C T (key, val) w) := by
  obtain ⟨⟨bt, bb, bc, vv, rfl, hbt, rt, hB⟩, hg, hl⟩ := h
  obtain ⟨g1, g2, g3⟩ := hg.free
  have hh := homS_lt (C := C) (by omega) seed
  have ct : w.cell? ⟨bt, 0, none⟩ = some (.pointer (some ⟨bb, 0, none⟩)) := by simp [World.cell?, hbt]
  have HM := Lib.hid (missing_any bt bb w ct)
  have HS := Lib.hid (seek_any R bb bc seed n C vv T key kx w hB hk (by omega) (by omega) (by omega) g3)
  rw [valAt_has, hno] at HS
  have HPU := Lib.hid (Push.start (p := (key, val)) hg.1 (seek_lt (bf := bfS seed) (k := key) g3 (hh key)) (seek_path (koS seed) g3 (hh key)) (seek_not (koS seed) hg.1 g3 (hh key) (by rw [valAt_has, hno]; rfl)))
  generalize seekN (bfS seed) (homS seed C) C T key = N at *
  have HE : ∃ a, seekAt (bfS seed) (homS seed C) C T key = a := ⟨_, rfl⟩
  obtain ⟨a, ea⟩ := HE
  rw [ea] at HS HPU
  clear ea hno
  have HB := Lib.hid hB
  have HG := Lib.hid hg
  have HL := Lib.hid hl
  have HRT := Lib.hid rt
  have HBT := Lib.hid hbt
  have HF := Lib.hid g3
  have HK := Lib.hid hk
  have HV := Lib.hid hv
  have hlb : bb < w.heap.size := hB.lb
  have hlt : bt < w.heap.size := hl bt rt
  obtain ⟨ka, kcap, rfl, _, _⟩ := hk
  obtain ⟨va, vcap, rfl, _, _⟩ := hv
  have HAL := Lib.hid (by have := allowed_any key.length val.length w (by omega) (by omega); rw [decide_eq_true (show 1 ≤ key.length ∧ key.length ≤ 64 ∧ val.length ≤ 1000 from ⟨h1, h64, h1000⟩)] at this; exact this)
  have hneq : ((n : Int) == 100000) = false := by simp; omega
  clear hB hg hl rt hbt g3
  go_enter Tryd.func37, Tryd.ntmps37
  go_wp2_with fail
  refine HM.out.mono ?_
  rintro e w1 ⟨rfl, rfl⟩
  go_wp2_with fail
  refine HAL.out.mono ?_
  rintro e w1 ⟨rfl, rfl⟩
  go_wp2_with fail
  refine HS.out.mono ?_
  rintro e w1 ⟨rfl, hT1⟩
  have HT1 := Lib.hid hT1
  have HB1 := Lib.hid (HB.out.keepN hT1)
  have c1 := HB1.out.countC
  clear hT1 ct
  go_wp2_with fail
  refine (bytesClone_any _ key w1 (HK.out.keepN HT1.out) (by omega)).mono ?_
  rintro e w2 ⟨y, rfl, hy, hT2⟩
  obtain ⟨ya, yl, yc, rfl⟩ := hy.form
  have HY := Lib.hid hy
  have HT2 := Lib.hid hT2
  clear hy hT2 c1
  go_wp2_with fail
  refine (bytesClone_any _ val w2 (HV.out.keepN (HT1.out.trans HT2.out)) (by omega)).mono ?_
  rintro e w3 ⟨z, rfl, hz, hT3⟩
  obtain ⟨za, zl, zc, rfl⟩ := hz.form
  have HZ := Lib.hid hz
  have HT3 := Lib.hid hT3
  clear hz hT3
  have HT := Lib.hid ((HT1.out.trans HT2.out).trans HT3.out)
  have HB3 := Lib.hid ((HB.out.keepN HT.out).mono (R' := fun b => R b ∨ (w.heap.size ≤ b ∧ b < w3.heap.size)) fun b r => .inl r)
  have HC3 := Lib.hid (show CellOk (fun b => R b ∨ (w.heap.size ≤ b ∧ b < w3.heap.size)) w3 (.slice ya yl yc) (.slice za zl zc) (some (key, val)) from
    ⟨((HY.out.base (b2 := w.heap.size) HT1.out.size).keepT HT3.out (notBytes_nil _)).ob' fun b hb hb' => .inr ⟨hb, hb'⟩, (HZ.out.base (b2 := w.heap.size) (Nat.le_trans HT1.out.size HT2.out.size)).ob' fun b hb hb' => .inr ⟨hb, hb'⟩, h1, h64, h1000⟩)
  go_wp2_with fail
  refine (add_push _ bb bc seed n C a vv T (key, val) _ _ w3 HB3.out HC3.out hn hc (by omega) (by omega) HF.out HPU.out).mono ?_
  rintro e w4 ⟨rfl, vv4, T4, hB4, hfin, hT4⟩
  have HR := Lib.hid (show ∃ R' T', Tab R' w4 (.pointer (some ⟨bt, 0, none⟩)) seed (n + 1) C T' ∧ Fin1 seed C T (key, val) T' ∧ Touch R w w4 ∧ ∀ b, R' b → R b ∨ w.heap.size ≤ b from by
    have htb : bt ≠ bb ∧ bt ≠ bc := by
      constructor
      · intro e
        have := HBT.out
        rw [e, HB.out.body] at this
        injection this with this
        injection this with _ this
        exact absurd this (by decide)
      · intro e
        have := HBT.out
        rw [e, row_block HB.out.row] at this
        injection this with this
        injection this with _ this
        exact absurd this (by decide)
    refine ⟨_, T4, ⟨⟨bt, bb, bc, vv4, rfl, ?_, .inl HRT.out, hB4⟩, ⟨hfin.1, hc.symm, ?_, by omega⟩, fun b hb => ?_⟩, hfin, ?_, fun b hb => ?_⟩
    · exact (hT4.same bt (Nat.lt_of_lt_of_le hlt HT.out.size) (fun e => e.elim htb.1 htb.2)).trans ((HT.out.same bt hlt fun c => c).trans HBT.out)
    · have := hfin.2.2
      have := HG.out.2.2.1
      omega
    · rcases hb with hb | hb
      · exact Nat.lt_of_lt_of_le (HL.out b hb) (Nat.le_trans HT.out.size hT4.size)
      · exact Nat.lt_of_lt_of_le hb.2 hT4.size
    · exact HT.out.of_nil.trans (hT4.mono fun b _ e => by rcases e with rfl | rfl; exact HB.out.rb; exact HB.out.rc)
    · exact hb.imp (fun h => h) fun h => h.1)
  clear hB4 hfin hT4
  go_wp2_with fail
  go_ret
  exact ⟨rfl, HR.out⟩
end Go.Proofs.YticddcnlafbkoaaDoor
