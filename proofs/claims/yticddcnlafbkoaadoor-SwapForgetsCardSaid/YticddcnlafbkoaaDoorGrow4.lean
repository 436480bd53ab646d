import Derived.Test.YticddcnlafbkoaaDoorGrow3
/- add and Put, whatever the number of cells. -/
namespace Go.Proofs.YticddcnlafbkoaaDoor
open Go.ChangeShapes Go.WideShapes Go.ChangeAt Go.RowKit Go.Deep

theorem add_any (R : Nat → Prop) (bb bc : Nat) (seed : Int) (n C a0 : Nat) (vv : Nat → Nat → Value) (T0 : Cells) (p0 : Key × Key) (x y : Value) (w : World) (hB : Bod R w bb bc seed n C vv T0) (hp : CellOk R w x y (some p0))
    (hn : n < 100000) (hg : Good seed n C T0) (hP : Push (bfS seed) (homS seed C) C T0 p0 T0 a0 p0) (hnew : ∀ v, ¬ InT C T0 (p0.1, v)) :
    Calls Tryd.prog 56 #[.pointer (some ⟨bb, 0, none⟩), .int .i64 a0, .agg #[x, y]] w (AddP R bb bc seed n C T0 p0 w) := by
  obtain ⟨g1, g2, g3⟩ := hg.free
  by_cases hc : cellsN (n + 1) = C
  · refine (add_push R bb bc seed n C a0 vv T0 p0 x y w hB hp hn hc g1 (by omega) g3 hP).mono fun e w' ⟨he, vv', T', hB', hf, ht⟩ => ⟨he, bc, vv', T', ?_, ?_, ?_, ?_⟩
    · rw [hc]; exact hB'.mono fun b r => .inl r
    · rw [hc]
      refine ⟨hf.1, hc.symm, ?_, by omega⟩
      have := hf.2.2
      have := hg.2.2.1
      omega
    · rw [hc]; exact hf.2.1
    · exact ht
  · exact add_grow R bb bc seed n C a0 vv T0 p0 x y w hB hp hn hc g1 (by omega) hg hnew

theorem BV.keep0 {S : Nat → Prop} {w w' : World} {x : Value} {l : List UInt8} (h : BV w x l) (ht : Touch S w w') (hS : 0 < l.length → ∀ b, OwnOf x b → ¬ S b) : BV w' x l := by
  obtain ⟨ao, cap, rfl, h1, h2⟩ := h
  refine ⟨ao, cap, rfl, h1, h2.keep ht fun a e h0 => ?_⟩
  subst e
  exact hS (by simpa using h0) a.block rfl
/-- Bytes do not lie among a table's cells. -/
theorem Bod.notRow {R : Nat → Prop} {w : World} {bb bc : Nat} {seed : Int} {n C : Nat} {vv : Nat → Nat → Value} {T : Cells} (h : Bod R w bb bc seed n C vv T) {x : Value} {l : List UInt8} (hx : BV w x l) (h0 : 0 < l.length) : ∀ b, OwnOf x b → ¬ Just bc b := by
  obtain ⟨ao, cap, rfl, _, hs⟩ := hx
  rintro b hb rfl
  obtain ⟨b', off, rfl, hc⟩ := hs 0 (by simpa using h0)
  obtain rfl : b = b' := by simpa [OwnOf, Value.ownBlock] using hb
  simp only [World.cell?] at hc
  rw [row_block h.row] at hc
  simp only [Option.isSome_none, Bool.false_eq_true, if_false, Nat.add_zero] at hc
  by_cases hlt : off < 2 * C
  · simp [hlt] at hc
    obtain ⟨ao, l', cap', bo, m, cap'', e0, e1, _⟩ := h.slice (c := off / 2) (by omega)
    have : off % 2 = 0 ∨ off % 2 = 1 := by omega
    rcases this with e | e
    · rw [e, e0] at hc; cases hc
    · rw [e, e1] at hc; cases hc
  · simp [hlt] at hc

/-! ### Another value -/
theorem runs_val {bf : Key → Key → Bool} {hom : Key → Nat} {C : Nat} {T : Cells} {a : Nat} {k v v' : Key} (hr : Runs bf hom C T) (hT : T a = some (k, v)) : Runs bf hom C (put1 T a (k, v')) := by
  have path : ∀ k0 c, Path bf hom C T k0 c → Path bf hom C (put1 T a (k, v')) k0 c := fun k0 c hp t ht => by
    obtain ⟨k', v'', e1, e2⟩ := hp t ht
    by_cases e : pos C (hom k0) t = a
    · rw [e, hT] at e1
      cases e1
      exact ⟨k, v', by simp [put1, e], e2⟩
    · exact ⟨k', v'', by simp [put1, e, e1], e2⟩
  intro c hc k0 v0 e
  by_cases h : c = a
  · subst h
    simp only [put1, if_pos] at e
    cases e
    exact path _ _ (hr c hc k v hT)
  · simp only [put1, h, if_false] at e
    exact path _ _ (hr c hc k0 v0 e)
theorem ins_val {bf : Key → Key → Bool} {hom : Key → Nat} {C : Nat} {T : Cells} {a : Nat} {k v v' : Key} (ko : KO bf) (hh : ∀ k, hom k < C) (hr : Runs bf hom C T) (ha : a < C) (hT : T a = some (k, v)) (x : Key × Key) :
    InT C (put1 T a (k, v')) x ↔ (x.1 ≠ k ∧ InT C T x) ∨ x = (k, v') := by
  constructor
  · rintro ⟨c, hc, e⟩
    by_cases h : c = a
    · subst h
      simp only [put1, if_pos] at e
      cases e
      exact .inr rfl
    · simp only [put1, h, if_false] at e
      refine .inl ⟨fun hk => h ?_, c, hc, e⟩
      obtain ⟨x1, x2⟩ := x
      subst hk
      exact hr.inj ko hh hc ha e hT
  · rintro (⟨hne, c, hc, e⟩ | rfl)
    · have h : c ≠ a := fun h => by rw [h, hT] at e; cases e; exact hne rfl
      exact ⟨c, hc, by simp only [put1, h, if_false]; exact e⟩
    · exact ⟨a, ha, by simp [put1]⟩
theorem frees_val {C a : Nat} {T : Cells} {p q : Key × Key} (hT : T a = some p) : frees C (put1 T a q) = frees C T := by
  induction C with
  | zero => rfl
  | succ C ih =>
    have : (put1 T a q C).isNone = (T C).isNone := by
      by_cases h : C = a
      · rw [h, hT]; simp [put1]
      · simp [put1, h]
    simp only [frees, ih, this]
theorem Bod.putV {R : Nat → Prop} {w : World} {bb bc : Nat} {seed : Int} {n C : Nat} {vv : Nat → Nat → Value} {T : Cells} (h : Bod R w bb bc seed n C vv T) {a : Nat} {k v v' : Key} {y : Value} (ha : a < C) (hT : T a = some (k, v)) (hy : OB R w y v') (hl : v'.length ≤ 1000) :
    Bod R (w.setCell ⟨bc, a * 2 + 1, none⟩ y) bb bc seed n C (setV vv a (vv a 0) y) (put1 T a (k, v')) ∧ Touch (Just bc) w (w.setCell ⟨bc, a * 2 + 1, none⟩ y) := by
  have ht : Touch (Just bc) w (w.setCell ⟨bc, a * 2 + 1, none⟩ y) := (Touch.refl (Just bc) w).setCell ⟨bc, a * 2 + 1, none⟩ y fun _ => rfl
  have hn := notBytes_row h.row (by decide)
  refine ⟨⟨(ht.same bb h.lb (fun e => h.bne e)).trans h.body, (h.row.set (a * 2 + 1) y).congr fun i hi => ?_, fun c hc' => ?_, h.rb, h.rc⟩, ht⟩
  · show (if i = a * 2 + 1 then y else vv (i / 2) (i % 2)) = setV vv a (vv a 0) y (i / 2) (i % 2)
    unfold setV
    by_cases e1 : i = a * 2 + 1
    · rw [if_pos e1, if_pos (by omega), if_neg (by omega)]
    · by_cases e2 : i = a * 2
      · rw [if_neg e1, if_pos (by omega), if_pos (by omega), show i / 2 = a by omega, show i % 2 = 0 by omega]
      · rw [if_neg e1, if_neg (by omega)]
  · by_cases e : c = a
    · subst e
      obtain ⟨q1, q2, q3, q4, q5⟩ := h.pair hc' hT
      have : CellOk R w (vv c 0) y (some (k, v')) := ⟨q1, hy, q3, q4, hl⟩
      simp only [setV, put1, if_true]
      exact this.keep ht hn fun _ r => r
    · simp only [setV, put1, if_neg e]
      exact (h.cells c hc').keep ht hn fun _ r => r

/-- What is known while another value is put in. -/
abbrev ValS (bb bc C p : Nat) (q : World → Nat → Value) (w0 w' : World) : Prop :=
  w'.cell? ⟨bb, 2, none⟩ = some (.slice (some ⟨bc, 0, none⟩) C C) ∧ w'.cell? ⟨bc, p, none⟩ = some (q w' p) ∧ w'.frozen? ⟨bc, p, none⟩ = false ∧ Hid (Touch (Just bc) w0 w' ∧ ∃ g, w'.rowIs bc 79 (2 * C) g)
theorem ValS.of {bb bc C p : Nat} {q : World → Nat → Value} {w0 w : World} (hq : QOk bc q) (hp : p < 2 * C) (h0 : w.cell? ⟨bb, 2, none⟩ = some (.slice (some ⟨bc, 0, none⟩) C C)) (ht : Touch (Just bc) w0 w) (hr : ∃ g, w.rowIs bc 79 (2 * C) g) : ValS bb bc C p q w0 w := by
  have hr' := hr
  obtain ⟨g, hg⟩ := hr
  exact ⟨h0, hq _ _ (by rw [hg.cell hp]; rfl), hg.frozen _, Lib.hid ⟨ht, hr'⟩⟩
theorem ValS.step {bb bc C p : Nat} {q : World → Nat → Value} {w0 w w' : World} (hq : QOk bc q) (hp : p < 2 * C) (hs : Touch Nil w w') (h : ValS bb bc C p q w0 w) : ValS bb bc C p q w0 w' := by
  obtain ⟨h0, _, _, ht⟩ := h
  obtain ⟨g, hg⟩ := ht.out.2
  exact ValS.of hq hp ((hs.cell (World.block_lt_of_cell? w _ h0) (fun c => c) 2).trans h0) (ht.out.1.trans hs.of_nil) ⟨g, hs.row hg fun c => c⟩
theorem ValS.set {bb bc C p : Nat} {q : World → Nat → Value} {w0 w : World} (hq : QOk bc q) (hp : p < 2 * C) (hne : bb ≠ bc) (h : ValS bb bc C p q w0 w) (i : Nat) (u : Value) : ValS bb bc C p q w0 (w.setCell ⟨bc, i, none⟩ u) := by
  obtain ⟨h0, _, _, ht⟩ := h
  obtain ⟨g, hg⟩ := ht.out.2
  exact ValS.of hq hp ((World.cell?_setCell_far _ _ _ _ (Ne.symm hne)).trans h0) (ht.out.1.setCell _ _ fun _ => rfl) ⟨_, hg.set i u⟩

/-- What Put answers. -/
def putErr (n : Nat) (there : Bool) (key val : Key) : Int := if ¬ (1 ≤ key.length ∧ key.length ≤ 64 ∧ val.length ≤ 1000) then 1 else if there = true ∨ n < 100000 then 0 else 5
def PutP (R : Nat → Prop) (t : Value) (seed : Int) (n C : Nat) (T : Cells) (key val : Key) (w : World) (e : Ending) (w' : World) : Prop :=
  e = .returned (.int .i64 (putErr n (valAt (T (seekAt (bfS seed) (homS seed C) C T key)) key).isSome key val)) ∧
  ∃ R' n' C' T', Tab R' w' t seed n' C' T' ∧ Touch R w w' ∧ (∀ b, R b → R' b) ∧ (∀ b, R' b → R b ∨ w.heap.size ≤ b) ∧ n' ≤ n + 1 ∧
    (putErr n (valAt (T (seekAt (bfS seed) (homS seed C) C T key)) key).isSome key val = 0 → ∀ x, InT C' T' x ↔ (x.1 ≠ key ∧ InT C T x) ∨ x = (key, val)) ∧
    (putErr n (valAt (T (seekAt (bfS seed) (homS seed C) C T key)) key).isSome key val ≠ 0 → n' = n ∧ C' = C ∧ T' = T)

set_option maxRecDepth 100000 in
set_option maxHeartbeats 4000000 in
theorem put_any {R : Nat → Prop} {w : World} {t : Value} {seed : Int} {n C : Nat} {T : Cells} (h : Tab R w t seed n C T) (key val : Key) (kx vx : Value) (hk : BV w kx key) (hv : BV w vx val) (hkl : key.length ≤ 1048576) (hvl : val.length ≤ 1048576) :
    Calls Tryd.prog 37 #[t, kx, vx] w (PutP R t seed n C T key val w) := by
  have HTAB := Lib.hid h
  obtain ⟨⟨bt, bb, bc, vv, rfl, hbt, rt, hB⟩, hg, hl⟩ := h
  obtain ⟨g1, g2, g3⟩ := hg.free
  have hh := homS_lt (C := C) (by omega) seed
  have ct : w.cell? ⟨bt, 0, none⟩ = some (.pointer (some ⟨bb, 0, none⟩)) := by simp [World.cell?, hbt]
  have HM := Lib.hid (missing_any bt bb w ct)
  have HAL := Lib.hid (allowed_any key.length val.length w (by omega) (by omega))
  have HK := Lib.hid hk
  have HV := Lib.hid hv
  obtain ⟨ka, kcap, rfl, _, _⟩ := hk
  obtain ⟨va, vcap, rfl, _, _⟩ := hv
  unfold PutP
  by_cases hal : 1 ≤ key.length ∧ key.length ≤ 64 ∧ val.length ≤ 1000
  case neg =>
    rw [decide_eq_false hal] at HAL
    have HER := Lib.hid (show putErr n (valAt (T (seekAt (bfS seed) (homS seed C) C T key)) key).isSome key val = 1 from by unfold putErr; rw [if_pos hal])
    clear hal hB hg hl g3 hbt
    go_enter Tryd.func37, Tryd.ntmps37
    go_wp2_with fail
    refine HM.out.mono ?_
    rintro e w1 ⟨rfl, rfl⟩
    go_wp2_with fail
    refine HAL.out.mono ?_
    rintro e w1 ⟨rfl, rfl⟩
    go_wp2_with fail
    go_ret
    exact ⟨by rw [HER.out]; rfl, R, n, C, T, HTAB.out, Touch.refl _ _, fun b r => r, fun b r => .inl r, Nat.le_succ _, (fun h => by rw [HER.out] at h; cases h), fun _ => ⟨rfl, rfl, rfl⟩⟩
  case pos =>
    rw [decide_eq_true hal] at HAL
    have HPE := Lib.hid (show ∀ b, putErr n b key val = if b = true ∨ n < 100000 then 0 else 5 from fun b => by unfold putErr; rw [if_neg (by simpa using hal)])
    obtain ⟨h1, h64, h1000⟩ := hal
    have HS := Lib.hid (seek_any R bb bc seed n C vv T key (.slice ka key.length kcap) w hB HK.out hkl (by omega) (by omega) g3)
    rw [valAt_has] at HS
    have HA := Lib.hid (seek_lt (bf := bfS seed) (k := key) g3 (hh key))
    have HPA := Lib.hid (seek_path (bf := bfS seed) (k := key) (koS seed) g3 (hh key))
    have HNT := Lib.hid (fun hn => seek_not (k := key) (koS seed) hg.1 g3 (hh key) hn)
    rw [valAt_has] at HNT
    generalize seekN (bfS seed) (homS seed C) C T key = N at *
    have HE : ∃ a, seekAt (bfS seed) (homS seed C) C T key = a := ⟨_, rfl⟩
    obtain ⟨a, ea⟩ := HE
    rw [ea] at HS HA HPA HNT ⊢
    clear ea
    have HB := Lib.hid hB
    have HG := Lib.hid hg
    have HL := Lib.hid hl
    have HRT := Lib.hid rt
    have HBT := Lib.hid hbt
    have hlb : bb < w.heap.size := hB.lb
    have hlt : bt < w.heap.size := hl bt rt
    have htb : bt ≠ bb ∧ bt ≠ bc := by
      constructor
      · intro e
        have := hbt
        rw [e, hB.body] at this
        injection this with this
        injection this with _ this
        exact absurd this (by decide)
      · intro e
        have := hbt
        rw [e, row_block hB.row] at this
        injection this with this
        injection this with _ this
        exact absurd this (by decide)
    have HTB := Lib.hid htb
    clear hB hg hl rt hbt g3 htb
    cases hva : valAt (T a) key with
    | some v0 =>
      rw [hva] at HS
      have HTA := Lib.hid (valAt_some hva)
      have HER := Lib.hid (show putErr n (some v0).isSome key val = 0 from by rw [HPE.out, if_pos (.inl rfl)])
      clear hva HNT
      go_enter Tryd.func37, Tryd.ntmps37
      go_wp2_with fail
      refine HM.out.mono ?_
      rintro e w1 ⟨rfl, rfl⟩
      go_wp2_with fail
      refine HAL.out.mono ?_
      rintro e w1 ⟨rfl, rfl⟩
      go_wp2_with fail
      refine HS.out.mono ?_
      rintro e w1 ⟨rfl, hT1⟩
      have HT1 := Lib.hid hT1
      have HB1 := Lib.hid (HB.out.keepN hT1)
      have HQX := q_ex bc
      obtain ⟨q, hq⟩ := HQX
      have HQ := Lib.hid hq
      have ha := HA.out
      have HP := Lib.hid (show a * 2 + 1 < 2 * C by omega)
      have HNE := Lib.hid HB.out.bne
      have i1 : (a : Int) < (C : Int) := by omega
      have i2 : (0 : Int) ≤ (a : Int) := by omega
      have HVW := Lib.hid (show ∀ w', Touch Nil w1 w' → BV w' (.slice va val.length vcap) val from fun w' ht => HV.out.keepN (HT1.out.trans ht))
      clear hT1 ct hq
      go_wp2_with fail
      go_region_held3 (fun w' => w'.cell? ⟨bb, 2, none⟩ = some (.slice (some ⟨bc, 0, none⟩) C C) ∧ w'.cell? ⟨bc, a * 2 + 1, none⟩ = some (q w' (a * 2 + 1)) ∧ w'.frozen? ⟨bc, a * 2 + 1, none⟩ = false ∧ Hid (Touch (Just bc) w1 w' ∧ ∃ g, w'.rowIs bc 79 (2 * C) g))
        (first | exact ValS.of HQ.out HP.out HB1.out.cellsC (Touch.refl _ _).drew ⟨_, HB1.out.row⟩ | exact ValS.step HQ.out HP.out (by assumption) (by assumption) | exact ValS.set HQ.out HP.out HNE.out (by assumption) _ _)
        (first | (go_at_call 55; refine (bytesClone_any _ val _ ?_ (by omega)).mono ?_; (exact (HVW.out w1 (Touch.refl _ _)).keep0 (And.left (Hid.out (And.right (And.right (And.right (by assumption)))))) (fun h0 => HB1.out.notRow (HVW.out w1 (Touch.refl _ _)) h0)); rintro e w3 ⟨y, rfl, hy, hty⟩; obtain ⟨ya, yl, yc, rfl⟩ := hy.form))
      have HT3 := Lib.hid ((HT1.out.drew).trans hty)
      have HY := Lib.hid ((hy.base (b2 := w.heap.size) HT1.out.size).ob' (R := fun b => R b ∨ (w.heap.size ≤ b ∧ b < w3.heap.size)) fun b hb hb' => .inr ⟨hb, hb'⟩)
      have HB3 := Lib.hid ((HB.out.keepN HT3.out).mono (R' := fun b => R b ∨ (w.heap.size ≤ b ∧ b < w3.heap.size)) fun b r => .inl r)
      have HPV := Lib.hid (HB3.out.putV HA.out HTA.out HY.out h1000)
      have HR := Lib.hid (show ∃ R' n' C' T', Tab R' (w3.setCell ⟨bc, a * 2 + 1, none⟩ (.slice ya yl yc)) (.pointer (some ⟨bt, 0, none⟩)) seed n' C' T' ∧ Touch R w (w3.setCell ⟨bc, a * 2 + 1, none⟩ (.slice ya yl yc)) ∧ (∀ b, R b → R' b) ∧ (∀ b, R' b → R b ∨ w.heap.size ≤ b) ∧ n' ≤ n + 1 ∧ (putErr n (some v0).isSome key val = 0 → ∀ x, InT C' T' x ↔ (x.1 ≠ key ∧ InT C T x) ∨ x = (key, val)) ∧ (putErr n (some v0).isSome key val ≠ 0 → n' = n ∧ C' = C ∧ T' = T) from by
        refine ⟨_, n, C, put1 T a (key, val), ⟨⟨bt, bb, bc, _, rfl, ?_, .inl HRT.out, HPV.out.1⟩, ⟨runs_val HG.out.1 HTA.out, HG.out.2.1, by rw [frees_val HTA.out]; exact HG.out.2.2.1, HG.out.2.2.2⟩, fun b hb => ?_⟩, HT3.out.of_nil.trans (HPV.out.2.mono fun b _ e => by have : b = bc := e; rw [this]; exact HB.out.rc), fun b r => .inl r, fun b hb => hb.imp (fun h => h) fun h => h.1, Nat.le_succ _, fun _ x => ins_val (koS seed) hh HG.out.1 HA.out HTA.out x, fun h => absurd HER.out h⟩
        · exact (HPV.out.2.same bt (Nat.lt_of_lt_of_le hlt HT3.out.size) (fun e => HTB.out.2 e)).trans ((HT3.out.same bt hlt fun c => c).trans HBT.out)
        · rw [nblk_setCell]
          rcases hb with hb | hb
          · exact Nat.lt_of_lt_of_le (HL.out b hb) HT3.out.size
          · exact hb.2)
      clear hy hty
      go_wp2_with fail
      go_ret
      exact ⟨by rw [HER.out]; rfl, HR.out⟩
    | none =>
      rw [hva] at HS HNT
      have HPU := Lib.hid (Push.start (p := (key, val)) HG.out.1 HA.out HPA.out (HNT.out rfl))
      have HNW := Lib.hid (HNT.out rfl)
      clear hva HNT
      by_cases hn : n < 100000
      · have hneq : ((n : Int) == 100000) = false := by simp; omega
        have HER := Lib.hid (show putErr n (none : Option Key).isSome key val = 0 from by rw [HPE.out, if_pos (.inr hn)])
        go_enter Tryd.func37, Tryd.ntmps37
        go_wp2_with fail
        refine HM.out.mono ?_
        rintro e w1 ⟨rfl, rfl⟩
        go_wp2_with fail
        refine HAL.out.mono ?_
        rintro e w1 ⟨rfl, rfl⟩
        go_wp2_with fail
        refine HS.out.mono ?_
        rintro e w1 ⟨rfl, hT1⟩
        have HT1 := Lib.hid hT1
        have HB1 := Lib.hid (HB.out.keepN hT1)
        have c1 := HB1.out.countC
        clear hT1 ct
        go_wp2_with fail
        refine (bytesClone_any _ key w1 (HK.out.keepN HT1.out) (by omega)).mono ?_
        rintro e w2 ⟨y, rfl, hy, hT2⟩
        obtain ⟨ya, yl, yc, rfl⟩ := hy.form
        have HY := Lib.hid hy
        have HT2 := Lib.hid hT2
        clear hy hT2 c1
        go_wp2_with fail
        refine (bytesClone_any _ val w2 (HV.out.keepN (HT1.out.trans HT2.out)) (by omega)).mono ?_
        rintro e w3 ⟨z, rfl, hz, hT3⟩
        obtain ⟨za, zl, zc, rfl⟩ := hz.form
        have HZ := Lib.hid hz
        have HT3 := Lib.hid hT3
        clear hz hT3
        have HT := Lib.hid ((HT1.out.trans HT2.out).trans HT3.out)
        have HB3 := Lib.hid ((HB.out.keepN HT.out).mono (R' := fun b => R b ∨ (w.heap.size ≤ b ∧ b < w3.heap.size)) fun b r => .inl r)
        have HC3 := Lib.hid (show CellOk (fun b => R b ∨ (w.heap.size ≤ b ∧ b < w3.heap.size)) w3 (.slice ya yl yc) (.slice za zl zc) (some (key, val)) from
          ⟨((HY.out.base (b2 := w.heap.size) HT1.out.size).keepT HT3.out (notBytes_nil _)).ob' fun b hb hb' => .inr ⟨hb, hb'⟩, (HZ.out.base (b2 := w.heap.size) (Nat.le_trans HT1.out.size HT2.out.size)).ob' fun b hb hb' => .inr ⟨hb, hb'⟩, h1, h64, h1000⟩)
        go_wp2_with fail
        refine (add_any _ bb bc seed n C a vv T (key, val) _ _ w3 HB3.out HC3.out hn HG.out HPU.out HNW.out).mono ?_
        rintro e w4 ⟨rfl, bc4, vv4, T4, hB4, hg4, hi4, hT4⟩
        have HR := Lib.hid (show ∃ R' n' C' T', Tab R' w4 (.pointer (some ⟨bt, 0, none⟩)) seed n' C' T' ∧ Touch R w w4 ∧ (∀ b, R b → R' b) ∧ (∀ b, R' b → R b ∨ w.heap.size ≤ b) ∧ n' ≤ n + 1 ∧ (putErr n (none : Option Key).isSome key val = 0 → ∀ x, InT C' T' x ↔ (x.1 ≠ key ∧ InT C T x) ∨ x = (key, val)) ∧ (putErr n (none : Option Key).isSome key val ≠ 0 → n' = n ∧ C' = C ∧ T' = T) from by
          have ht := HT.out.of_nil.trans (hT4.mono (S' := R) fun b _ e => by rcases e with rfl | rfl; exact HB.out.rb; exact HB.out.rc)
          refine ⟨_, _, _, T4, ⟨⟨bt, bb, bc4, vv4, rfl, ?_, .inl (.inl HRT.out), hB4⟩, hg4, fun b hb => ?_⟩, ht, fun b r => .inl (.inl r), fun b hb => ?_, Nat.le_refl _, fun _ x => ?_, fun h => absurd HER.out h⟩
          · exact (hT4.same bt (Nat.lt_of_lt_of_le hlt HT.out.size) (fun e => e.elim HTB.out.1 HTB.out.2)).trans ((HT.out.same bt hlt fun c => c).trans HBT.out)
          · rcases hb with (hb | hb) | hb
            · exact Nat.lt_of_lt_of_le (HL.out b hb) ht.size
            · exact Nat.lt_of_lt_of_le hb.2 hT4.size
            · exact hb.2
          · rcases hb with (hb | hb) | hb
            · exact .inl hb
            · exact .inr hb.1
            · exact .inr (Nat.le_trans HT.out.size hb.1)
          · rw [hi4 x]
            constructor
            · rintro (hx | hx)
              · refine .inl ⟨fun e => HNW.out x.2 ?_, hx⟩
                rw [← e]; exact hx
              · exact .inr hx
            · rintro (⟨_, hx⟩ | hx)
              · exact .inl hx
              · exact .inr hx)
        clear hB4 hg4 hi4 hT4
        go_wp2_with fail
        go_ret
        exact ⟨by rw [HER.out]; rfl, HR.out⟩
      · obtain rfl : n = 100000 := by have := HG.out.2.2.2; omega
        have HER := Lib.hid (show putErr 100000 (none : Option Key).isSome key val = 5 from by rw [HPE.out, if_neg (by simp)])
        have hneq : ((100000 : Int) == 100000) = true := by decide
        have hneq' : (((100000 : Nat) : Int) == 100000) = true := by decide
        go_enter Tryd.func37, Tryd.ntmps37
        go_wp2_with fail
        refine HM.out.mono ?_
        rintro e w1 ⟨rfl, rfl⟩
        go_wp2_with fail
        refine HAL.out.mono ?_
        rintro e w1 ⟨rfl, rfl⟩
        go_wp2_with fail
        refine HS.out.mono ?_
        rintro e w1 ⟨rfl, hT1⟩
        have HT1 := Lib.hid hT1
        have c1 := (HB.out.keepN hT1).countC
        clear hT1 ct
        go_wp2_with fail
        go_ret
        exact ⟨by rw [HER.out]; rfl, R, 100000, C, T, HTAB.out.keepN HT1.out, HT1.out.of_nil, fun b r => r, fun b r => .inl r, Nat.le_succ _, (fun h => by rw [HER.out] at h; cases h), fun _ => ⟨rfl, rfl, rfl⟩⟩
end Go.Proofs.YticddcnlafbkoaaDoor
