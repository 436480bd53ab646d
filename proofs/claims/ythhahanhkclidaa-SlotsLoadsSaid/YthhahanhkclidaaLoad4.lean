import Derived.Test.YthhahanhkclidaaLoad3
/- Load. -/
namespace Go.Proofs.Ythhahanhkclidaa
open Go.ChangeShapes Go.WideShapes Go.ChangeAt Go.RowKit Go.Deep

/-- What is known while a cell that was read is stored. -/
abbrev LdS (bb bc C x : Nat) (q : World → Nat → Value) (w0 w' : World) : Prop :=
  w'.cell? ⟨bb, 2, none⟩ = some (.slice (some ⟨bc, 0, none⟩) C C) ∧ w'.cell? ⟨bc, x * 2, none⟩ = some (q w' (x * 2)) ∧ w'.cell? ⟨bc, x * 2 + 1, none⟩ = some (q w' (x * 2 + 1)) ∧ w'.frozen? ⟨bc, x * 2, none⟩ = false ∧ w'.frozen? ⟨bc, x * 2 + 1, none⟩ = false ∧ Hid (Touch (Just bc) w0 w' ∧ ∃ g, w'.rowIs bc 72 (2 * C) g)
section
variable {bb bc C x : Nat} {q : World → Nat → Value} {w0 w w' : World}
theorem LdS.of (hq : QOk bc q) (hx : x < C) (h0 : w.cell? ⟨bb, 2, none⟩ = some (.slice (some ⟨bc, 0, none⟩) C C)) (ht : Touch (Just bc) w0 w) (hr : ∃ g, w.rowIs bc 72 (2 * C) g) : LdS bb bc C x q w0 w := by
  have hr' := hr
  obtain ⟨g, hg⟩ := hr
  exact ⟨h0, hq _ _ (by rw [hg.cell (by omega)]; rfl), hq _ _ (by rw [hg.cell (by omega)]; rfl), hg.frozen _, hg.frozen _, Lib.hid ⟨ht, hr'⟩⟩
theorem LdS.step (hq : QOk bc q) (hx : x < C) (hs : Touch Nil w w') (h : LdS bb bc C x q w0 w) : LdS bb bc C x q w0 w' := by
  obtain ⟨h0, _, _, _, _, ht⟩ := h
  obtain ⟨g, hg⟩ := ht.out.2
  exact LdS.of hq hx ((hs.cell (World.block_lt_of_cell? w _ h0) (fun c => c) 2).trans h0) (ht.out.1.trans hs.of_nil) ⟨g, hs.row hg fun c => c⟩
theorem LdS.set (hq : QOk bc q) (hx : x < C) (hne : bb ≠ bc) (h : LdS bb bc C x q w0 w) (i : Nat) (u : Value) : LdS bb bc C x q w0 (w.setCell ⟨bc, i, none⟩ u) := by
  obtain ⟨h0, _, _, _, _, ht⟩ := h
  obtain ⟨g, hg⟩ := ht.out.2
  exact LdS.of hq hx ((World.cell?_setCell_far _ _ _ _ (Ne.symm hne)).trans h0) (ht.out.1.setCell _ _ fun _ => rfl) ⟨_, hg.set i u⟩
theorem LdS.drew (hq : QOk bc q) (hx : x < C) (h : LdS bb bc C x q w0 w) : LdS bb bc C x q w0 w.drew := LdS.step hq hx (Touch.refl Nil w).drew h
end

/-- Bytes stay where the row of cells is written. -/
theorem BC.keepRow {R : Nat → Prop} {w w' : World} {bb bc : Nat} {seed : Int} {n C : Nat} {vv : Nat → Nat → Value} {T : Cells} {x : Value} {l : List UInt8} (h : BC w x l) (hB : Bod R w bb bc seed n C vv T) (ht : Touch (Just bc) w w') : BC w' x l := by
  have hbv := h.bv
  have hk := hbv.keep0 ht fun h0 => hB.notRow hbv h0
  obtain ⟨ao, m, cap, rfl, h1, h2, h3, h4⟩ := h
  obtain ⟨ao', cap', e, h5, h6⟩ := hk
  cases e
  exact ⟨_, _, _, rfl, rfl, h2, h3, h6⟩

/-- What reading a cell answers, in one form. -/
def CellTold (l : List UInt8) (base : Nat) (w' : World) (y z x : Value) (ok : Bool) : Prop :=
  (ok = true ∧ ∃ o rest, okP o ∧ l = cellB o ++ rest ∧ NewCell base w' y z o ∧ BC w' x rest) ∨ (ok = false ∧ ∀ o more, okP o → l ≠ cellB o ++ more)
theorem BC.form {w : World} {x : Value} {l : List UInt8} (h : BC w x l) : ∃ a n c, x = .slice a n c := by obtain ⟨a, n, c, e, _⟩ := h; exact ⟨a, n, c, e⟩
theorem NewCell.form {base : Nat} {w : World} {y z : Value} {o : Option (Key × Key)} (h : NewCell base w y z o) : (∃ a n c, y = .slice a n c) ∧ ∃ a n c, z = .slice a n c := by
  cases o with
  | none => exact ⟨⟨_, _, _, h.1⟩, ⟨_, _, _, h.2⟩⟩
  | some p => exact ⟨h.1.form, h.2.form⟩
theorem CellPost.one {l : List UInt8} {w w' : World} {e : Ending} (h : CellPost l w e w') : ∃ ya yl yc za zl zc xa xl xc ok, e = .returned (.tuple #[.agg #[.slice ya yl yc, .slice za zl zc], .slice xa xl xc, .bool ok]) ∧ Touch Nil w w' ∧ CellTold l w.heap.size w' (.slice ya yl yc) (.slice za zl zc) (.slice xa xl xc) ok := by
  rcases h with ⟨o, y, z, x, rest, h1, h2, rfl, h4, h5, h6⟩ | ⟨rfl, h2, h3⟩
  · obtain ⟨⟨_, _, _, rfl⟩, ⟨_, _, _, rfl⟩⟩ := h4.form
    obtain ⟨_, _, _, rfl⟩ := h5.form
    exact ⟨_, _, _, _, _, _, _, _, _, _, rfl, h6, .inl ⟨rfl, o, rest, h1, h2, h4, h5⟩⟩
  · exact ⟨_, _, _, _, _, _, _, _, _, _, rfl, h2, .inr ⟨rfl, h3⟩⟩

theorem frees_congr {T T' : Cells} : ∀ C, (∀ c, c < C → T c = T' c) → frees C T = frees C T'
  | 0, _ => rfl
  | C + 1, h => by simp only [frees]; rw [frees_congr C fun c hc => h c (by omega), h C (by omega)]
theorem good_congr {seed : Int} {n C : Nat} {T T' : Cells} (h : Good seed n C T') (e : ∀ c, c < C → T c = T' c) : Good seed n C T := by
  have hh := homS_lt (C := C) (by have := h.free; omega) seed
  refine ⟨fun c hc k v hT t ht => ?_, h.2.1, by rw [frees_congr C e]; exact h.2.2.1, h.2.2.2⟩
  have hl := sto_lt (hh k) hc
  obtain ⟨k', v', e1, e2⟩ := h.1 c hc k v (by rw [← e c hc]; exact hT) t ht
  exact ⟨k', v', by rw [e _ (pos_lt (hh k) (by omega))]; exact e1, e2⟩

def LoadPost (seed : Int) (l : List UInt8) (w : World) (e : Ending) (w' : World) : Prop :=
  (∃ n T t, IsImg seed l n T ∧ e = .returned (.tuple #[t, .int .i64 0]) ∧ Tab (fun b => w.heap.size ≤ b ∧ b < w'.heap.size) w' t seed n (cellsN n) T ∧ Touch Nil w w') ∨
  (e = .returned (.tuple #[.pointer none, .int .i64 2]) ∧ Touch Nil w w' ∧ ∀ n T, ¬ IsImg seed l n T)

set_option maxRecDepth 100000 in
set_option maxHeartbeats 4000000 in
theorem load_any (seed : Int) (x : Value) (l : List UInt8) (w : World) (h : BC w x l) (hl : l.length ≤ 1073741824) :
    Calls Try.prog 31 #[.int .u64 seed, x] w (LoadPost seed l w) := by
  have HRC := Lib.hid (readCount_any x l w h hl)
  obtain ⟨xa, xn, xc, rfl⟩ := h.form
  clear h
  go_enter Try.func31, Try.ntmps31
  go_wp2_with fail
  refine HRC.out.mono ?_
  rintro e w1 (⟨n, rest, xr, h1, h2, h3, rfl, h5, h6⟩ | ⟨rfl, h2, h3⟩)
  · have HL := Lib.hid h1
    have HBC0 := Lib.hid h5
    have HT1 := Lib.hid h6
    obtain ⟨ra, rn, rc, rfl⟩ := h5.form
    have HCF := Lib.hid (fun w => cellsFor_any n w (by omega))
    have hcs := cellsN_spec n (by omega)
    have HE : ∃ C, cellsN n = C := ⟨_, rfl⟩
    obtain ⟨C, eC⟩ := HE
    have HC := Lib.hid eC
    rw [eC] at h3 hcs
    simp only [eC] at HCF
    obtain ⟨hC8, hC3, hC4, _⟩ := hcs
    have hmk := fun w => run_make_pairs C (by omega) w
    have HROW := Lib.hid (fun w => row_made w #[.slice none 0 0, .slice none 0 0] (C * 2) 72)
    have HE : ∃ mc, madeCells #[.slice none 0 0, .slice none 0 0] (C * 2) = mc := ⟨_, rfl⟩
    obtain ⟨mc, emc⟩ := HE
    rw [emc] at HROW
    simp only [emc] at hmk
    clear h1 h5 h6 eC emc HRC
    go_wp2_with fail
    refine (HCF.out _).mono ?_
    rintro e w2 ⟨rfl, rfl⟩
    go_wp2_with fail
    have HB0 := Lib.hid (show Bod (From w.heap.size) ((w1.alloc (.cells mc 72)).alloc (.cells #[.int .u64 seed, .int .i64 (n : Int), .slice (some ⟨w1.heap.size, 0, none⟩) C C] 93)) (w1.heap.size + 1) w1.heap.size seed n C (fun _ _ => .slice none 0 0) (fun _ => none) from by
      have hsz := HT1.out.size
      refine ⟨?_, ?_, fun c _ => ⟨rfl, rfl⟩, by show w.heap.size ≤ _; omega, hsz⟩
      · have := heap_alloc_new (w1.alloc (.cells mc 72)) (.cells #[.int .u64 seed, .int .i64 (n : Int), .slice (some ⟨w1.heap.size, 0, none⟩) C C] 93)
        rw [nblk_alloc] at this
        exact this
      · have hr := ((Touch.refl Nil (w1.alloc (.cells mc 72))).alloc (.cells #[.int .u64 seed, .int .i64 (n : Int), .slice (some ⟨w1.heap.size, 0, none⟩) C C] 93)).row (HROW.out w1) (fun c => c)
        rw [Nat.mul_comm]
        exact hr.congr fun i _ => by
          have : i % 2 = 0 ∨ i % 2 = 1 := by omega
          rcases this with h | h <;> simp [h])
    have htw := ((Touch.refl Nil w1).alloc (.cells mc 72)).alloc (.cells #[.int .u64 seed, .int .i64 (n : Int), .slice (some ⟨w1.heap.size, 0, none⟩) C C] 93)
    have HBC1 := Lib.hid (HBC0.out.keepN htw)
    have HTW := Lib.hid (HT1.out.trans htw)
    have HE : ∃ bc, w1.heap.size = bc := ⟨_, rfl⟩
    obtain ⟨bc, ebc⟩ := HE
    have HSZ := Lib.hid (show w.heap.size ≤ bc by rw [← ebc]; exact HT1.out.size)
    clear htw
    generalize ((w1.alloc (.cells mc 72)).alloc (.cells #[.int .u64 seed, .int .i64 (n : Int), .slice (some ⟨w1.heap.size, 0, none⟩) C C] 93)) = W0 at *
    rw [ebc] at HB0 ⊢
    clear ebc hmk HROW HCF HBC0
    go_loopw [7, 31] (fun r i wr => ∃ (x : Nat) (vv : Nat → Nat → Value) (T : Cells) (rest' : List UInt8), x ≤ C ∧ i = .int .i64 (x : Int) ∧ BC wr r rest' ∧ Hid (rest = bodyB T x ++ rest' ∧ (∀ c, x ≤ c → T c = none) ∧ ∀ c, c < x → okP (T c)) ∧ Bod (From w.heap.size) wr (bc + 1) bc seed n C vv T ∧ Touch Nil w wr) (fun _ i _ => C - (intOf i).toNat)
    case atStart => exact ⟨0, _, _, rest, Nat.zero_le _, rfl, HBC1.out, Lib.hid ⟨by simp [bodyB], fun _ _ => rfl, fun c hc => by omega⟩, HB0.out, HTW.out⟩
    obtain ⟨x, vv, T, rest', hx, rfl, hbc, HX, hbod, hto⟩ := hrel
    have HB := Lib.hid hbod
    have HT := Lib.hid hto
    have HBC := Lib.hid hbc
    obtain ⟨qa, qn, qc, rfl⟩ := hbc.form
    clear hbod hto hbc
    by_cases hlt : x < C
    · have i1 : (x : Int) < (C : Int) := by omega
      have i2 : (0 : Int) ≤ (x : Int) := by omega
      have HQX := q_ex bc
      obtain ⟨q, hq⟩ := HQX
      have HQ := Lib.hid hq
      have HXL := Lib.hid hlt
      have HS0 := Lib.hid (LdS.of hq hlt HB.out.cellsC (Touch.refl (Just bc) wr) ⟨_, HB.out.row⟩)
      clear hq
      have HLE := Lib.hid (show rest'.length ≤ 1073741824 by
        have e1 := congrArg List.length HL.out
        have e2 := congrArg List.length HX.out.1
        simp only [List.length_append] at e1 e2
        omega)
      have HRD := Lib.hid (fun w' (ht : Touch (Just bc) wr w') => readCell_any (.slice qa qn qc) rest' w' (HBC.out.keepRow HB.out ht) HLE.out)
      go_wp2_with fail
      go_region_held3 (fun w' => w'.cell? ⟨bc + 1, 2, none⟩ = some (.slice (some ⟨bc, 0, none⟩) C C) ∧ w'.cell? ⟨bc, x * 2, none⟩ = some (q w' (x * 2)) ∧ w'.cell? ⟨bc, x * 2 + 1, none⟩ = some (q w' (x * 2 + 1)) ∧ w'.frozen? ⟨bc, x * 2, none⟩ = false ∧ w'.frozen? ⟨bc, x * 2 + 1, none⟩ = false ∧ Hid (Touch (Just bc) wr w' ∧ ∃ g, w'.rowIs bc 72 (2 * C) g))
        (first | exact LdS.drew HQ.out HXL.out HS0.out | exact LdS.step HQ.out HXL.out (by assumption) (by assumption) | exact LdS.set HQ.out HXL.out (Nat.succ_ne_self bc) (LdS.set HQ.out HXL.out (Nat.succ_ne_self bc) (by assumption) _ _) _ _)
        (first | (go_at_call 57; refine (HRD.out _ (And.left (Hid.out (And.right (And.right (And.right (And.right (And.right (by assumption)))))))) ).mono ?_; rintro e w3 hcp; obtain ⟨ya, yl, yc, za, zl, zc, xa', xl', xc', ok, rfl, ht3, htold⟩ := hcp.one))
      have HT3 := Lib.hid ((Touch.refl Nil wr).drew.trans ht3)
      have hb3 := HB.out.keepN HT3.out
      have hts := ((Touch.refl (Just bc) w3).setCell ⟨bc, x * 2, none⟩ (.slice ya yl yc) fun _ => rfl).setCell ⟨bc, x * 2 + 1, none⟩ (.slice za zl zc) fun _ => rfl
      have HT5 := Lib.hid (show Touch Nil w _ from (HT.out.trans HT3.out).trans' hts fun b hb hs => by have hs : b = bc := hs; have := HSZ.out; omega)
      clear ht3 HS0 HRD
      cases ok
      case true =>
        obtain ⟨_, o, rest2, hok, hrest, hnew, hbc⟩ := htold.resolve_right fun h => by cases h.1
        have hco : CellOk (From w.heap.size) w3 (.slice ya yl yc) (.slice za zl zc) o := by
          cases o with
          | none => exact hnew
          | some p =>
            have hlow : ∀ b, wr.drew.heap.size ≤ b → From w.heap.size b := fun b hb => by
              have h1 := HT.out.drew.size
              show w.heap.size ≤ b
              omega
            exact ⟨hnew.1.ob hlow, hnew.2.ob hlow, hok⟩
        have HB5 := Lib.hid (hb3.put (a := x) o (Nat.succ_ne_self bc) hco)
        have HBC5 := Lib.hid (hbc.keepRow hb3 hts)
        have HOK := Lib.hid hok
        have HRE := Lib.hid hrest
        clear htold hok hrest hnew hbc hco hb3 hts
        go_wp2_with fail
        go_roundw
        case rel =>
          refine ⟨x + 1, _, _, rest2, by omega, by go_num, HBC5.out, Lib.hid ⟨?_, fun c hc => ?_, fun c hc => ?_⟩, HB5.out, HT5.out⟩
          · have e : bodyB (fun c => if c = x then o else T c) x = bodyB T x := bodyB_congr x fun c hc => by show (if c = x then o else T c) = T c; rw [if_neg (by omega)]
            simp only [bodyB, if_true]
            rw [e, List.append_assoc, ← HRE.out]
            exact HX.out.1
          · show (if c = x then o else T c) = none
            rw [if_neg (by omega)]
            exact HX.out.2.1 c (by omega)
          · show okP (if c = x then o else T c)
            by_cases e : c = x
            · rw [if_pos e]; exact HOK.out
            · rw [if_neg e]; exact HX.out.2.2 c (by omega)
        case measure => simp [intOf]; omega
      case false =>
        have htf := (htold.resolve_left fun h => by cases h.1).2
        have HF := Lib.hid htf
        clear htold htf hb3 hts
        go_wp2_with fail
        go_ret2
        refine .inr ⟨rfl, HT5.out, fun n' T' hi => ?_⟩
        obtain ⟨g, o', e⟩ := hi
        rw [HL.out] at e
        unfold imageB at e
        obtain ⟨e1, e2⟩ := headB_inj (by omega) (by have := g.2.2.2; omega) e
        subst e1
        rw [HC.out] at e2 o'
        obtain ⟨more, hm⟩ := bodyB_split T' x C HXL.out
        rw [hm, HX.out.1] at e2
        obtain ⟨_, e3⟩ := bodyB_inj x HX.out.2.2 (fun c hc => o' c (by omega)) e2
        exact HF.out (T' x) more (o' x HXL.out) e3
    · obtain rfl : x = C := by omega
      have HNO := Lib.hid (show ∀ n' T', IsImg seed l n' T' → n' = n ∧ rest' = [] ∧ ∀ c, c < x → T c = T' c from fun n' T' hi => by
        obtain ⟨g, o', e⟩ := hi
        rw [HL.out] at e
        unfold imageB at e
        obtain ⟨e1, e2⟩ := headB_inj (by omega) (by have := g.2.2.2; omega) e
        subst e1
        rw [HC.out] at e2 o'
        rw [HX.out.1] at e2
        obtain ⟨e3, e4⟩ := bodyB_inj (r' := []) x HX.out.2.2 o' (by simpa using e2)
        exact ⟨rfl, e4, e3⟩)
      have hqn : qn = rest'.length := by obtain ⟨_, _, _, e, h1, _⟩ := HBC.out; cases e; exact h1
      by_cases hq0 : 0 < qn
      · have d1 : decide ((0 : Int) < (qn : Int)) = true := by simp; omega
        have d1' : decide (0 < qn) = true := by simpa using hq0
        have HN := Lib.hid hqn
        clear hqn
        go_wp2_with fail
        go_ret2
        refine .inr ⟨rfl, HT.out, fun n' T' hi => ?_⟩
        have := (HNO.out n' T' hi).2.1
        have h2 := HN.out
        rw [this] at h2
        simp at h2
        omega
      · have d1 : decide ((0 : Int) < (qn : Int)) = false := by simp; omega
        have d1' : decide (0 < qn) = false := by simpa using hq0
        have HRN := Lib.hid (show rest' = [] from List.eq_nil_of_length_eq_zero (by omega))
        have HN := Lib.hid hqn
        clear hqn
        by_cases hsd : soundB seed n x T
        · have HSD := Lib.hid ((sound_good HC.out.symm h2).1 hsd)
          have HS := Lib.hid (sound_any HB.out HC.out.symm h2 true ⟨fun _ => hsd, fun _ => rfl⟩)
          clear hsd
          go_wp2_with fail
          refine HS.out.mono ?_
          rintro e w4 ⟨rfl, ht4⟩
          have HT4 := Lib.hid ht4
          clear ht4 HS
          go_wp2_with fail
          go_ret2
          have ht5 := (Touch.refl Nil w4).alloc (.cells #[.pointer (some ⟨bc + 1, 0, none⟩)] 91)
          have hb5 := (HB.out.keepN HT4.out).keepN ht5
          have hsz : w.heap.size ≤ w4.heap.size := (HT.out.trans HT4.out).size
          refine .inl ⟨n, T, _, ⟨by rw [HC.out]; exact HSD.out, by rw [HC.out]; exact HX.out.2.2, ?_⟩, rfl, ⟨⟨w4.heap.size, bc + 1, bc, vv, rfl, heap_alloc_new _ _, ⟨hsz, by rw [nblk_alloc]; omega⟩, ?_⟩, by rw [HC.out]; exact HSD.out, fun b hb => hb.2⟩, (HT.out.trans HT4.out).trans ht5⟩
          · rw [HL.out, HX.out.1, HRN.out, HC.out]
            unfold imageB
            rw [List.append_nil]
          · rw [HC.out]
            exact hb5.widen (fun b hb hlt => ⟨hb, hlt⟩) ⟨hb5.rb, hb5.lb⟩ ⟨hb5.rc, hb5.lc⟩
        · have HS := Lib.hid (sound_any HB.out HC.out.symm h2 false ⟨fun h => (by cases h), fun h => absurd h hsd⟩)
          have HSD := Lib.hid (fun h => hsd ((sound_good (T := T) HC.out.symm h2).2 h))
          clear hsd
          go_wp2_with fail
          refine HS.out.mono ?_
          rintro e w4 ⟨rfl, ht4⟩
          have HT4 := Lib.hid ht4
          clear ht4 HS
          go_wp2_with fail
          go_ret2
          refine .inr ⟨rfl, HT.out.trans HT4.out, fun n' T' hi => ?_⟩
          obtain ⟨e1, _, e3⟩ := HNO.out n' T' hi
          subst e1
          have hg := hi.1
          rw [HC.out] at hg
          exact HSD.out (good_congr hg e3)
  · have HT := Lib.hid h2
    have HR := Lib.hid h3
    clear h2 h3 HRC
    go_wp2_with fail
    go_ret2
    refine .inr ⟨rfl, HT.out, fun n T hi => ?_⟩
    obtain ⟨g, o, e⟩ := hi
    exact HR.out n (bodyB T (cellsN n)) g.2.2.2 (bodyB_ge T _) e
end Go.Proofs.Ythhahanhkclidaa
