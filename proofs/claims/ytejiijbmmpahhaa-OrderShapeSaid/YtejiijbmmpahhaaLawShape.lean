/-
  OrderShape: for every seed and two lists of pairs the law returns true: two histories that end in the same pairs leave the same bytes, digest and nodes.
  No condition beside the statement's own.
-/
import Derived.Test.YtejiijbmmpahhaaWhole
import Derived.Test.YtejiijbmmpahhaaSameN
import Derived.Test.YtejiijbmmpahhaaSpanD
import Derived.Test.YtejiijbmmpahhaaOpenP
namespace Go.Proofs.Ytejiijbmmpahhaa
open Go.ChangeShapes Go.WideShapes Go.ChangeAt Go.RowKit Go.Deep

/-! ### Mathematics -/
theorem srt_ext : ∀ {L M : Pairs}, Srt L → Srt M → (∀ x, x ∈ L ↔ x ∈ M) → L = M
  | [], [], _, _, _ => rfl
  | [], m :: M, _, _, h => by have := (h m).2 (List.mem_cons_self ..); cases this
  | l :: L, [], _, _, h => by have := (h l).1 (List.mem_cons_self ..); cases this
  | l :: L, m :: M, h1, h2, h => by
    unfold Srt at h1 h2
    rw [List.pairwise_cons] at h1 h2
    have e : l = m := by
      rcases List.mem_cons.1 ((h l).1 (List.mem_cons_self ..)) with c | c
      · exact c
      · rcases List.mem_cons.1 ((h m).2 (List.mem_cons_self ..)) with d | d
        · exact d.symm
        · have := klt_ko.asym (h1.1 m d)
          rw [h2.1 l c] at this
          cases this
    subst e
    rw [srt_ext h1.2 h2.2 fun x => ⟨fun hx => ?_, fun hx => ?_⟩]
    · rcases List.mem_cons.1 ((h x).1 (List.mem_cons_of_mem _ hx)) with c | c
      · subst c
        have := h1.1 x hx
        rw [klt_ko.irrefl] at this
        cases this
      · exact c
    · rcases List.mem_cons.1 ((h x).2 (List.mem_cons_of_mem _ hx)) with c | c
      · subst c
        have := h2.1 x hx
        rw [klt_ko.irrefl] at this
        cases this
      · exact c
theorem insAll_backM (S : Pairs) (x : Key × Key) : ∀ (L : Pairs), Srt L → (x ∈ insAll L.reverse S ↔ x ∈ L ∨ (x ∈ S ∧ ∀ p ∈ L, p.1 ≠ x.1))
  | [], _ => by simp [insAll]
  | p :: L, h => by
    unfold Srt at h
    rw [List.pairwise_cons] at h
    rw [List.reverse_cons, insAll_snoc, insL_mem, insAll_backM S x L h.2, List.mem_cons]
    constructor
    · rintro (c | ⟨c | ⟨c, d⟩, e⟩)
      · exact .inl (.inl c)
      · exact .inl (.inr c)
      · exact .inr ⟨c, fun q hq => by
          rcases List.mem_cons.1 hq with f | f
          · rw [f]; exact fun g => e g.symm
          · exact d q f⟩
    · rintro ((c | c) | ⟨c, d⟩)
      · exact .inl c
      · exact .inr ⟨.inl c, fun e => by
          have := h.1 x c
          rw [e, klt_ko.irrefl] at this
          cases this⟩
      · exact .inr ⟨.inr ⟨c, fun q hq => d q (List.mem_cons_of_mem _ hq)⟩, fun e => d p (List.mem_cons_self ..) e.symm⟩
theorem hasF_none {key : Key} {L : Pairs} (h : Srt L) : hasF key L = false ↔ ∀ p ∈ L, p.1 ≠ key := by
  constructor
  · intro e p hp c
    have := (hasF_iff (key := key) h).2 ⟨p.2, by rw [← c]; exact hp⟩
    rw [e] at this
    cases this
  · intro e
    cases c : hasF key L with
    | false => rfl
    | true =>
      obtain ⟨u, hu⟩ := (hasF_iff h).1 c
      exact absurd rfl (e _ hu)
/-- What a map has that loses the pairs of M that L has not, from the y-th on. -/
def Left (L M T : Pairs) (y : Nat) : Prop := ∀ x, x ∈ T ↔ x ∈ L ∨ (x ∈ M.drop y ∧ hasF x.1 L = false)
theorem left_skip {L M T : Pairs} {y : Nat} {p : Key × Key} (h : Left L M T y) (hp : M[y]? = some p) (hh : hasF p.1 L = true) : Left L M T (y + 1) := fun x => by
  rw [h x]
  obtain ⟨hy, e⟩ := List.getElem?_eq_some_iff.1 hp
  rw [List.drop_eq_getElem_cons hy, List.mem_cons, e]
  constructor
  · rintro (c | ⟨c | c, d⟩)
    · exact .inl c
    · rw [c, hh] at d; cases d
    · exact .inr ⟨c, d⟩
  · rintro (c | ⟨c, d⟩)
    · exact .inl c
    · exact .inr ⟨.inr c, d⟩
theorem left_drop {L M T : Pairs} {y : Nat} {p : Key × Key} (hs : Srt L) (hM : Srt M) (h : Left L M T y) (hp : M[y]? = some p) (hh : hasF p.1 L = false) : p ∈ T ∧ Left L M (delL p.1 T) (y + 1) := by
  obtain ⟨hy, e⟩ := List.getElem?_eq_some_iff.1 hp
  have hd : M.drop y = p :: M.drop (y + 1) := by rw [List.drop_eq_getElem_cons hy, e]
  have hsd : Srt (M.drop y) := List.Pairwise.sublist (List.drop_sublist _ _) hM
  rw [hd] at hsd
  unfold Srt at hsd
  rw [List.pairwise_cons] at hsd
  refine ⟨(h p).2 (.inr ⟨by rw [hd]; exact List.mem_cons_self .., hh⟩), fun x => ?_⟩
  rw [delL_mem, h x, hd, List.mem_cons]
  constructor
  · rintro ⟨c | ⟨c | c, d⟩, f⟩
    · exact .inl c
    · exact absurd (by rw [c]) f
    · exact .inr ⟨c, d⟩
  · rintro (c | ⟨c, d⟩)
    · exact ⟨.inl c, (hasF_none hs).1 hh x c⟩
    · exact ⟨.inr ⟨.inr c, d⟩, fun f => by
        have := hsd.1 x c
        rw [f, klt_ko.irrefl] at this
        cases this⟩

theorem nodes_in (seed : Int) : ∀ (t : Tree) (b : Nat) (q : NodeC), q ∈ nodesT seed b t → (q.k, q.u) ∈ t.toL
  | .nil, _, _, h => by simp [nodesT] at h
  | .node l k u r, b, q, h => by
    simp only [nodesT, List.mem_cons, List.mem_append] at h
    rw [Tree.toL, List.mem_append, List.mem_cons]
    rcases h with c | c | c
    · rw [c]; exact .inr (.inl rfl)
    · exact .inl (nodes_in seed l _ q c)
    · exact .inr (.inr (nodes_in seed r _ q c))

/-! ### The law -/
set_option maxRecDepth 100000 in
set_option maxHeartbeats 8000000 in
theorem lawShape_any (seed : Int) {w : World} {pa qa : Option Addr} {pn pc qn qc : Nat} {P Q : Pairs} (h : PL w (.slice pa pn pc) P) (hn : P.length ≤ 9223372036854775807) (hm : ∀ p ∈ P, p.1.length ≤ 9223372036854775807 ∧ p.2.length ≤ 9223372036854775807) (h' : PL w (.slice qa qn qc) Q) (hn' : Q.length ≤ 9223372036854775807) (hm' : ∀ p ∈ Q, p.1.length ≤ 9223372036854775807 ∧ p.2.length ≤ 9223372036854775807) :
    Calls Try.prog 4 #[.int .u64 seed, .slice pa pn pc, .slice qa qn qc] w fun e w' => e = .returned (.bool true) ∧ Below w.heap.size w w' := by
  have HP := Lib.hid h
  have HRI := Lib.hid (rising_any h hn hm)
  have HRJ := Lib.hid (fun w' (ht : Touch Nil w w') => rising_any (h'.keepN ht) hn' hm')
  clear h hm hn h' hm' hn'
  go_enter Try.func4, Try.ntmps4
  go_wp2_with fail
  refine HRI.out.mono ?_
  rintro e w0 ⟨lx, ok, rfl, ⟨xa, xn, xc, rfl⟩, hok, ht0⟩
  have HT0 := Lib.hid ht0
  have HOK := Lib.hid hok
  clear ht0 hok HRI
  go_wp2_with fail
  refine (HRJ.out _ HT0.out).mono ?_
  rintro e w1 ⟨my, ok', rfl, ⟨ya, yn, yc, rfl⟩, hok', ht1⟩
  have HT1 := Lib.hid (HT0.out.trans ht1)
  have HT01 := Lib.hid (show Touch Nil w0 w1 from ht1)
  have HOK' := Lib.hid hok'
  clear ht1 hok' HRJ
  cases ok with
  | false =>
    go_wp2_with fail
    go_ret
    exact ⟨rfl, HT1.out.below_nil⟩
  | true =>
    cases ok' with
    | false =>
      go_wp2_with fail
      go_ret
      exact ⟨rfl, HT1.out.below_nil⟩
    | true =>
    obtain ⟨hl400, hokl, hlp⟩ := HOK.out rfl
    obtain ⟨hl400', hokl', hlp'⟩ := HOK'.out rfl
    have HL := Lib.hid (And.intro hl400 hokl)
    have HLP := Lib.hid (show PL w1 (.slice xa xn xc) (insAll P []) from hlp.keepN HT01.out)
    have HMP := Lib.hid (show PL w1 (.slice ya yn yc) (insAll Q []) from hlp')
    have HLL := Lib.hid (show (insAll P []).length ≤ 400 by have h1 := insAll_len P []; simp at h1; omega)
    have HML := Lib.hid (show (insAll Q []).length ≤ 400 by have h1 := insAll_len Q []; simp at h1; omega)
    have HOL := Lib.hid (OkL.ins hokl (fun p hp => by cases hp) : OkL (insAll P []))
    have HOM := Lib.hid (OkL.ins hokl' (fun p hp => by cases hp) : OkL (insAll Q []))
    have HSL := Lib.hid (show Srt (insAll P []) from insAll_srt P List.Pairwise.nil)
    have HSM := Lib.hid (show Srt (insAll Q []) from insAll_srt Q List.Pairwise.nil)
    clear hl400 hokl hlp hl400' hokl' hlp' HOK HOK'
    go_wp2_with fail
    refine (new_map seed w1).mono ?_
    rintro e w2 ⟨mb, bb, ra, rfl, hm2, hmb, hbb, hne, ht2⟩
    have HB1 := Lib.hid (show w1.heap.size ≤ mb ∧ w1.heap.size ≤ bb ∧ mb < w2.heap.size ∧ bb < w2.heap.size from ⟨hmb, hbb, lt_of_heap hm2.top, lt_of_heap hm2.body⟩)
    have HM2 := Lib.hid hm2
    have HT2 := Lib.hid (show Touch Nil w1 w2 from ht2)
    clear hm2 hmb hbb hne ht2
    go_wp2_with fail
    refine (new_map seed w2).mono ?_
    rintro e w3 ⟨mb2, bb2, ra2, rfl, hm3, hmb, hbb, hne, ht3⟩
    have HB2 := Lib.hid (show w2.heap.size ≤ mb2 ∧ w2.heap.size ≤ bb2 ∧ mb2 < w3.heap.size ∧ bb2 < w3.heap.size from ⟨hmb, hbb, lt_of_heap hm3.top, lt_of_heap hm3.body⟩)
    have HA3 := Lib.hid hm3
    have HM3 := Lib.hid (HM2.out.keepN ht3)
    have HT3 := Lib.hid (HT2.out.trans ht3)
    clear hm3 hmb hbb hne ht3 HM2 HT2
    have HPU := Lib.hid (puts_any HM3.out (HP.out.keepN (HT1.out.trans HT3.out)) HL.out.2 (by have := HL.out.1; simp only [Tree.size]; omega) (fun b c => c.elim))
    go_wp2_with fail
    refine HPU.out.mono ?_
    rintro e w4 ⟨rfl, ⟨R4, ra4, t, hm4, htl, hr4⟩, ht4⟩
    have HM4 := Lib.hid hm4
    have HTL := Lib.hid (show t.toL = insAll P [] from htl)
    have HR4 := Lib.hid (show ∀ b, R4 b → w3.heap.size ≤ b from fun b hb => (hr4 b hb).elim (fun c => c.elim) fun c => c.1)
    have HT4 := Lib.hid (touch_up HT3.out ht4 HB1.out.2.1)
    have HA4 := Lib.hid (HA3.out.keep ht4 (fun _ c => c.elim) (fun c => by have c : mb2 = bb := c; have := HB1.out; have := HB2.out; omega) (fun c => by have c : bb2 = bb := c; have := HB1.out; have := HB2.out; omega))
    clear hm4 htl hr4 ht4 HPU HA3 HM3
    have HPU := Lib.hid (putsB_any HA4.out (HMP.out.keepN HT4.out) HOM.out (by have := HML.out; simp only [Tree.size]; omega) (fun b c => c.elim))
    go_wp2_with fail
    refine HPU.out.mono ?_
    rintro e w5 ⟨rfl, ⟨R5, ra5, t5, hm5, htl5, hr5⟩, ht5⟩
    have HA5 := Lib.hid hm5
    have HR5 := Lib.hid (show ∀ b, R5 b → b < w5.heap.size from fun b hb => (hr5 b hb).elim (fun c => c.elim) fun c => c.2)
    have HTL5 := Lib.hid (show t5.toL = insAll (insAll Q []).reverse [] from htl5)
    have HT45 := Lib.hid (show Touch (Just bb2) w4 w5 from ht5)
    have HT5 := Lib.hid (touch_up HT4.out ht5 (by have := HB1.out; have := HB2.out; omega))
    clear hm5 htl5 hr5 ht5 HPU HA4
    have HZ5 := Lib.hid (show t5.size ≤ 400 from by rw [size_toL, HTL5.out]; have := insAll_len (insAll Q []).reverse []; rw [List.length_reverse] at this; have h2 := HML.out; simp at this; omega)
    have HPU := Lib.hid (putsB_any HA5.out (HLP.out.keepN HT5.out) HOL.out (by have := HLL.out; have := HZ5.out; omega) (fun b hb => HR5.out b hb))
    go_wp2_with fail
    refine HPU.out.mono ?_
    rintro e w6 ⟨rfl, ⟨R6, ra6, t6, hm6, htl6, _⟩, ht6⟩
    have HA6 := Lib.hid hm6
    have HLE := Lib.hid (show Left (insAll P []) (insAll Q []) t6.toL 0 from fun x => by
      rw [htl6, insAll_backM _ _ _ HSL.out, HTL5.out, insAll_backM _ _ _ HSM.out, List.drop_zero, hasF_none HSL.out]
      constructor
      · rintro (c | ⟨c | ⟨c, _⟩, d⟩)
        · exact .inl c
        · exact .inr ⟨c, d⟩
        · cases c
      · rintro (c | ⟨c, d⟩)
        · exact .inl c
        · exact .inr ⟨.inl c, d⟩)
    have HT46 := Lib.hid (show Touch (Just bb2) w4 w6 from HT45.out.trans ht6)
    have HT6 := Lib.hid (touch_up HT5.out ht6 (by have := HB1.out; have := HB2.out; omega))
    have HYN := Lib.hid (show yn = (insAll Q []).length from HMP.out.len)
    have hyn : yn ≤ 400 := by rw [HYN.out]; exact HML.out
    generalize insAll P [] = L at *
    generalize insAll Q [] = M at *
    clear hm6 htl6 ht6 HPU HA5 HTL5 HT45
    go_wp2_with fail
    go_loopw [13] (fun i wr => ∃ (y : Nat) (R1 : Nat → Prop) (ra1 : Option Addr) (t1 : Tree), y ≤ yn ∧ i = .int .i64 (y : Int) ∧ Hid (MapAt seed R1 wr mb2 bb2 ra1 t1 ∧ Left L M t1.toL y) ∧ Touch (Just bb2) w6 wr) (fun i _ => yn - (intOf i).toNat)
    case atStart => exact ⟨0, R6, ra6, t6, Nat.zero_le _, rfl, Lib.hid ⟨HA6.out, HLE.out⟩, Touch.refl _ _⟩
    obtain ⟨y, R1, ra1, t1, hy, rfl, HB, hto⟩ := hrel
    have HTO := Lib.hid hto
    have HTW := Lib.hid (touch_up HT6.out hto (by have := HB1.out; have := HB2.out; omega))
    clear hto
    by_cases hlt : y < yn
    · obtain ⟨p, hp⟩ : ∃ p, M[y]? = some p := ⟨M[y]'(by have := HYN.out; omega), List.getElem?_eq_getElem _⟩
      have hok := HOM.out p (List.mem_of_getElem? hp)
      obtain ⟨b, off, ka, kc, ua, uc, rfl, hb, c0, c1, hbk, hbu⟩ := PL.el (HMP.out.keepN HTW.out) hp
      have HHA := Lib.hid (hasR_any (HLP.out.keepN HTW.out) (OkL.short HOL.out) (by have := HLL.out; omega) hbk (by have := hok.2.1; omega))
      have HDR := Lib.hid (fun w' (ht : Touch Nil wr w') (hin : (p.1, p.2) ∈ t1.toL) => drop_map (HB.out.1.keepN ht) (hbk.keepN ht) hin)
      have HLD := Lib.hid (fun hh => left_drop HSL.out HSM.out HB.out.2 hp hh)
      have HLS := Lib.hid (fun hh => left_skip HB.out.2 hp hh)
      have HCS := Lib.hid (fun w' (ht : Touch Nil wr w') => cell_step c0 ht)
      obtain ⟨kl, ekl⟩ : ∃ kl, p.1.length = kl := ⟨_, rfl⟩
      rw [ekl] at c0 HHA
      simp only [ekl] at HCS HDR
      have i1 : (y : Int) < (yn : Int) := by omega
      have i2 : (0 : Int) ≤ (y : Int) := by omega
      cases hq : hasF p.1 L with
      | true =>
        rw [hq] at HHA
        have HX := Lib.hid (HLS.out hq)
        clear hp hok hb c1 hbk hbu ekl hq HDR HLD HLS
        go_wp2_with fail
        refine HHA.out.mono ?_
        rintro e w7 ⟨rfl, ht7⟩
        go_wp2_with fail
        go_roundw
        case rel => exact ⟨y + 1, R1, ra1, t1, by omega, by go_num, Lib.hid ⟨HB.out.1.keepN ht7, HX.out⟩, HTO.out.trans ht7.of_nil⟩
        case measure => simp [intOf] <;> omega
      | false =>
        rw [hq] at HHA
        have HX := Lib.hid (HLD.out hq)
        clear hp hok hb c1 hbk hbu ekl hq HLD HLS
        go_wp2_with fail
        refine HHA.out.mono ?_
        rintro e w7 ⟨rfl, ht7⟩
        have HT7 := Lib.hid (show Touch Nil wr w7 from ht7)
        have c0' := HCS.out _ ht7
        clear ht7 c0
        go_wp2_with fail
        refine (HDR.out _ HT7.out HX.out.1).mono ?_
        rintro e w8 ⟨rfl, ⟨ra8, hm8⟩, ht8⟩
        have HM8 := Lib.hid hm8
        have HT8 := Lib.hid ht8
        clear hm8 ht8
        go_wp2_with fail
        go_roundw
        case rel => exact ⟨y + 1, _, ra8, _, by omega, by go_num, Lib.hid ⟨HM8.out, by rw [del_toL p.1 HB.out.1.srt]; exact HX.out.2⟩, (HTO.out.trans HT7.out.of_nil).trans HT8.out⟩
        case measure => simp [intOf] <;> omega
    · obtain rfl : y = yn := by omega
      have t1' : decide (y < y) = false := by simp
      have ht1L : t1.toL = L := srt_ext HB.out.1.srt HSL.out fun x => by
        rw [HB.out.2 x, List.drop_eq_nil_of_le (by have := HYN.out; omega)]
        simp
      have htt : t1 = t := tree_unique (abv_ko seed) HB.out.1.heap HM4.out.heap (by rw [ht1L, HTL.out]) HB.out.1.srt
      subst htt
      have HBM := Lib.hid HB.out.1
      have HAM := Lib.hid (HM4.out.keep (HT46.out.trans HTO.out) (fun b hb c => by have c : b = bb2 := c; have := HR4.out b hb; have := HB2.out; omega) (fun c => by have c : mb = bb2 := c; have := HB1.out; have := HB2.out; omega) (fun c => by have c : bb = bb2 := c; have := HB1.out; have := HB2.out; omega))
      have HLW := Lib.hid (show PL wr (.slice xa xn xc) t1.toL from by rw [ht1L]; exact HLP.out.keepN HTW.out)
      have HOT := Lib.hid (treeAt_ok HBM.out.tree)
      have HIL := Lib.hid (imgB_len (treeAt_okT HBM.out.tree) HBM.out.size)
      have HSZ := Lib.hid HBM.out.size
      have HTWR := Lib.hid (HT1.out.trans HTW.out)
      clear ht1L HB HM4 HTO HT46 HLE HA6
      obtain ⟨d, ed⟩ : ∃ d, digT seed t1 = d := ⟨_, rfl⟩
      have HDA := Lib.hid (fun w' (ht : Touch Nil wr w') => digest_map (HAM.out.keepN ht))
      have HDB := Lib.hid (fun w' (ht : Touch Nil wr w') => digest_map (HBM.out.keepN ht))
      simp only [ed] at HDA HDB
      have q2 : ((d : Int) == (d : Int)) = true := by simp
      clear ed
      go_wp2_with fail
      refine (image_map HAM.out).mono ?_
      rintro e w7 ⟨x7, rfl, ho7, ht7⟩
      obtain ⟨xa7, xl7, xc7, rfl⟩ := ho7.form
      have HO7 := Lib.hid ho7.bv
      have HT7 := Lib.hid (show Touch Nil wr w7 from ht7)
      clear ho7 ht7
      go_wp2_with fail
      refine (image_map (HBM.out.keepN HT7.out)).mono ?_
      rintro e w8 ⟨x8, rfl, ho8, ht8⟩
      obtain ⟨xa8, xl8, xc8, rfl⟩ := ho8.form
      have HT8 := Lib.hid (HT7.out.trans ht8)
      have HSA := Lib.hid (same_any (HO7.out.keepN ht8) ho8.bv (by have := HIL.out; omega) (by have := HIL.out; omega))
      rw [decide_eq_true rfl] at HSA
      clear ho8 ht8
      go_wp2_with fail
      refine HSA.out.mono ?_
      rintro e w9 ⟨rfl, ht9⟩
      have HT9 := Lib.hid (HT8.out.trans ht9)
      clear ht9
      go_wp2_with fail
      refine (HDA.out _ HT9.out).mono ?_
      rintro e w' ⟨rfl, rfl⟩
      go_wp2_with fail
      refine (HDB.out _ HT9.out).mono ?_
      rintro e w' ⟨rfl, rfl⟩
      have HNA := Lib.hid (nodes_map (HAM.out.keepN HT9.out))
      go_wp2_with fail
      refine HNA.out.mono ?_
      rintro e w10 ⟨n10, rfl, hn10, ht10⟩
      have hr10 := hn10.rl
      obtain ⟨na10, nl10, nc10, rfl⟩ := hr10.form3
      have HN10 := Lib.hid hr10
      have HT10 := Lib.hid (HT9.out.trans ht10)
      have HNB := Lib.hid (nodes_map (HBM.out.keepN HT10.out))
      clear hn10 hr10 ht10 HNA
      go_wp2_with fail
      refine HNB.out.mono ?_
      rintro e w11 ⟨n11, rfl, hn11, ht11⟩
      have hr11 := hn11.rl
      obtain ⟨na11, nl11, nc11, rfl⟩ := hr11.form3
      have HT11 := Lib.hid (HT10.out.trans ht11)
      have HSN := Lib.hid (sameNodes_any (HN10.out.keepN ht11) hr11 (fun q hq => by have h : okK q.k q.u := HOT.out _ (nodes_in seed t1 0 q hq); unfold okK at h; omega) (by rw [nodesT_len]; have := HSZ.out; omega))
      clear hn11 hr11 ht11 HNB
      go_wp2_with fail
      refine HSN.out.mono ?_
      rintro e w12 ⟨rfl, ht12⟩
      have HT12 := Lib.hid (HT11.out.trans ht12)
      have HWA := Lib.hid (whole_map (HAM.out.keepN HT12.out) (HLW.out.keepN HT12.out))
      clear ht12 HSN
      go_wp2_with fail
      refine HWA.out.mono ?_
      rintro e w13 ⟨rfl, ht13⟩
      have HT13 := Lib.hid (HT12.out.trans ht13)
      have HWB := Lib.hid (whole_map (HBM.out.keepN HT13.out) (HLW.out.keepN HT13.out))
      clear ht13 HWA
      go_wp2_with fail
      refine HWB.out.mono ?_
      rintro e w14 ⟨rfl, ht14⟩
      go_wp2_with fail
      go_ret
      exact ⟨rfl, ((HTWR.out.trans HT13.out).trans ht14).below_nil⟩

set_option maxRecDepth 100000 in
theorem orderShape_lifted (os : Os) (started : os.Started) (H : Type) (enc : TypeId × Value → H) :
    ReturnsInHanded {} Try.checked os 4 .any (Rows.orderShapeSpec.pre6 enc Try.prog Try.f4 Rows.orderShapeRow.domain false) (Rows.orderShapeSpec.post enc Try.prog Try.f4 false true false false) := by
  refine returnsInHanded_of_change (C := Try.checked) own started (by kernel_rfl) Try.func4
    (ChangeSpec.witness6 (enc := enc) (C := Try.checked) false ⟨#[], #[.int .u64 0, .slice none 0 0, .slice none 0 0], []⟩ 8 (by kernel_rfl) (by kernel_rfl) (by kernel_rfl) (by kernel_rfl)) ?_
  intro W base args ds gs before hval0 hW _ _
  have hval : ∀ (j : Nat) t v, Try.f4.params[j]? = some t → args[j]? = some v → Value.okWide Try.prog W .any base t v := hval0
  have hW' := hW
  obtain ⟨p, q, hA0, hV, rfl, hfz, hnd⟩ := hW
  have hA : DataW.TrodAll enc Try.prog W 0 (fun _ => true) true Try.f4.params.toList args.toList ds p := hA0
  rw [Try.params4] at hA hval
  obtain ⟨v0, vs0, d0, ds0, p0, q0, hargs, rfl, rfl, h0, r0⟩ := trodAll_cons hA
  obtain ⟨v1, vs1, d1, ds1, p1, q1, rfl, rfl, rfl, h1, r1⟩ := trodAll_cons r0
  obtain ⟨v2, vs2, d2, ds2, p2, q2, rfl, rfl, rfl, h2, r2⟩ := trodAll_cons r1
  obtain ⟨rfl, rfl, rfl⟩ := trodAll_nil r2
  obtain rfl : args = #[v0, v1, v2] := by cases args; simp_all
  obtain ⟨rfl, rfl⟩ := trodVars_none hV
  obtain ⟨seed, rfl, rfl, rfl, w0⟩ := open_int Try.underlying22 (hval 0 22 v0 rfl rfl) h0
  obtain ⟨ao, len, cap, rfl⟩ := okWide_slice Try.underlying26 (hval 1 26 v1 rfl rfl)
  have k1 := h1
  have lt1 : ∀ x ∈ p1, x.block < W.heap.size := by obtain ⟨m, hm⟩ := k1; exact DataW.trod_lt m _ _ _ hm
  obtain ⟨fuel, hf⟩ := h1
  obtain ⟨L, hpl, hm, hmm⟩ := open_pairs hf
  obtain ⟨qo, qn, qcc, rfl⟩ := okWide_slice Try.underlying26 (hval 2 26 v2 rfl rfl)
  have k2 := h2
  have lt2 : ∀ x ∈ p2, x.block < W.heap.size := by obtain ⟨m, hm⟩ := k2; exact DataW.trod_lt m _ _ _ hm
  obtain ⟨fuel2, hf2⟩ := h2
  obtain ⟨L2, hpl2, hm2, hmm2⟩ := open_pairs hf2
  clear hA0 hval0
  unfold maxLen at hm hmm hm2 hmm2
  refine (lawShape_any seed hpl (by omega) (fun p hp => by have := hmm p hp; omega) hpl2 (by omega) (fun p hp => by have := hmm2 p hp; omega)).mono fun e W' ⟨he, bel⟩ => ?_
  subst he
  exact ⟨_, rfl, _, _, _, [], _, [], hW', trodAll_mk1 (shut_bool Try.underlying4 _), (trodAll_cons_mk (shut_int Try.underlying22 w0) (trodAll_cons_mk (Below.trod laidOut (by kernel_rfl) (of_decide_eq_true (by kernel_rfl)) k1 bel lt1) (trodAll_cons_mk (Below.trod laidOut (by kernel_rfl) (of_decide_eq_true (by kernel_rfl)) k2 bel lt2) trodAll_mk0))), rfl, bel.frame _, fun h => by cases h⟩

theorem orderShape_holds : Rows.OrderShapeSaid :=
  OpenClaim.holds_of_wide 4 Try.f4 rfl rfl rfl rfl rfl rfl rfl ⟨rfl, rfl, rfl, rfl, rfl⟩ rfl rfl rfl rfl rfl (by kernel_rfl) Try.func4 (by kernel_rfl)
    (of_decide_eq_true (by kernel_rfl)) (by unfold Func.isWrapper; first | (rw [if_pos (by decide +kernel)]; kernel_rfl) | (rw [if_neg (by decide +kernel)]; exact ⟨rfl, rfl⟩))
    (fun os started H enc _ => orderShape_lifted os started H enc)
end Go.Proofs.Ytejiijbmmpahhaa
