/-
  OrderOwn: for every seed, pairs and key the law returns true: what is handed in is neither kept nor changed, and what is handed out is new: whatever the caller writes into it, the map stays what it is.
  No condition beside the statement's own.
-/
import Derived.Test.YtbckakpgfmcljaaLoads
import Derived.Test.YtbckakpgfmcljaaSpoil
import Derived.Test.YtbckakpgfmcljaaOpenP
import Derived.Test.YtbckakpgfmcljaaMapW
namespace Go.Proofs.Ytbckakpgfmcljaa
open Go.ChangeShapes Go.WideShapes Go.ChangeAt Go.RowKit Go.Deep

theorem pathT_okK (seed : Int) (key : Key) : ∀ {t : Tree}, OkL' t → ∀ s ∈ pathT seed key t, okK s.k s.u
  | .nil, _, s, hs => by simp [pathT] at hs
  | .node l k u r, h, s, hs => by
    simp only [pathT, List.mem_cons] at hs
    rcases hs with rfl | hs
    · exact h.1
    · split at hs
      · simp at hs
      · split at hs
        · exact pathT_okK seed key h.2.1 s hs
        · exact pathT_okK seed key h.2.2 s hs
theorem insL_take {S : Pairs} {y : Nat} {p : Key × Key} (hs : Srt S) (hp : S[y]? = some p) : insL p.1 p.2 (S.take y) = S.take (y + 1) := by
  have e : S.take (y + 1) = S.take y ++ [p] := by rw [List.take_add_one, hp]; rfl
  have h1 : Srt (S.take y) := List.Pairwise.sublist (List.take_sublist _ _) hs
  have h2 : Srt (S.take (y + 1)) := List.Pairwise.sublist (List.take_sublist _ _) hs
  refine srt_ext2 (insL_srt _ _ h1) h2 fun x => ?_
  rw [insL_mem, e, List.mem_append, List.mem_singleton]
  constructor
  · rintro (h | ⟨h, _⟩)
    · exact .inr h
    · exact .inl h
  · rintro (h | h)
    · refine .inr ⟨h, fun ex => ?_⟩
      rw [e] at h2
      have := (srt_node (l := S.take y) (r := []) (k := p.1) (v := p.2)).1 h2
      have := this.2.2.1 x h
      rw [ex, klt_ko.irrefl] at this
      cases this
    · exact .inl h
/-- A block of a map's body holds no bytes. -/
theorem body_far {seed : Int} {R : Nat → Prop} {w : World} {mb bb : Nat} {ra : Option Addr} {t : Tree} {base : Nat} {v : Value} {l : Key} (h : MapAt seed R w mb bb ra t) (hv : OwnB base w v l) : ∀ b, OwnOf v b → ¬ Just bb b := fun b hb hs => by
  have hs : b = bb := hs
  subst hs
  obtain ⟨cs, e⟩ := hv.fr hb
  rw [h.body] at e
  injection e with e
  injection e with _ e _
  exact absurd e (by decide)
theorem touch_own {w0 w w' : World} {bb : Nat} (h : Touch Nil w0 w) (ht : Touch (Just bb) w w') (hb : w0.heap.size ≤ bb) : Touch Nil w0 w' := h.trans' ht fun b hb' hs => by have hs : b = bb := hs; omega
theorem touch_new {w0 w w' : World} {S : Nat → Prop} (h : Touch Nil w0 w) (ht : Touch S w w') (hb : ∀ b, S b → w0.heap.size ≤ b) : Touch Nil w0 w' := h.trans' ht fun b hb' hs => by have := hb b hs; omega
set_option maxRecDepth 100000 in
set_option maxHeartbeats 8000000 in
theorem lawOwn_any (seed : Int) {w : World} {x : Value} {P : Pairs} (h : PL w x P) (hn : P.length ≤ 9223372036854775807) (hm : ∀ p ∈ P, p.1.length ≤ 9223372036854775807 ∧ p.2.length ≤ 9223372036854775807) {qo : Option Addr} {qn qcc : Nat} {key : Key} (hq : BV w (.slice qo qn qcc) key) :
    Calls Try.prog 13 #[.int .u64 seed, x, .slice qo qn qcc] w fun e w' => e = .returned (.bool true) ∧ Below w.heap.size w w' := by
  have HRI := Lib.hid (rising_any h hn hm)
  have HQ := Lib.hid hq
  have hql : qn = key.length := by obtain ⟨_, _, e, _⟩ := hq; cases e; rfl
  have HQL := Lib.hid hql
  obtain ⟨pa, pn, pc, rfl⟩ := h.form3
  clear h hm hn hq hql
  go_enter Try.func13, Try.ntmps13
  go_wp2_with fail
  refine HRI.out.mono ?_
  rintro e w1 ⟨lx, ok, rfl, ⟨la, ln, lc, rfl⟩, hok, ht1⟩
  have HT1 := Lib.hid ht1
  have HOK := Lib.hid hok
  clear ht1 hok HRI
  cases ok with
  | false =>
    go_wp2_with fail
    go_ret
    exact ⟨rfl, HT1.out.below_nil⟩
  | true =>
  obtain ⟨hl400, hokl, hlp⟩ := HOK.out rfl
  obtain ⟨S, eS⟩ : ∃ S, insAll P [] = S := ⟨_, rfl⟩
  have HSR := Lib.hid (show Srt S from by rw [← eS]; exact insAll_srt P srt_nil)
  have HOKS := Lib.hid (show OkL S from by rw [← eS]; exact OkL.ins hokl (fun p hp => by cases hp))
  rw [eS] at hlp
  have hlen := hlp.len
  have hl8 : ln ≤ 400 := by have h1 := insAll_len P []; rw [eS] at h1; simp at h1; omega
  have HLEN := Lib.hid hlen
  have HLP := Lib.hid hlp
  have HLO := Lib.hid (fun w' => long_any qo qn qcc w')
  clear hl400 hokl hlp hlen HOK eS
  by_cases hlq : 2000 < qn
  · rw [decide_eq_true hlq] at HLO
    go_wp2_with fail
    refine (HLO.out _).mono ?_
    rintro e w' ⟨rfl, rfl⟩
    go_wp2_with fail
    go_ret
    exact ⟨rfl, HT1.out.below_nil⟩
  rw [decide_eq_false hlq] at HLO
  by_cases hl0 : ln = 0
  · subst hl0
    go_wp2_with fail
    refine (HLO.out _).mono ?_
    rintro e w' ⟨rfl, rfl⟩
    go_wp2_with fail
    go_ret
    exact ⟨rfl, HT1.out.below_nil⟩
  have q0 : ((ln : Int) == 0) = false := by simp; omega
  go_wp2_with fail
  refine (HLO.out _).mono ?_
  rintro e w' ⟨rfl, rfl⟩
  go_wp2_with fail
  refine (new_map seed w1).mono ?_
  rintro e w2 ⟨mb, bb, ra, rfl, hm2, hmb, hbb, hne, ht2⟩
  have HM2 := Lib.hid hm2
  have HT2 := Lib.hid ht2
  have HB := Lib.hid (And.intro hmb hbb)
  have HLTM := Lib.hid (lt_of_heap hm2.top)
  clear hm2 hmb hbb hne ht2 HLO
  go_wp2_with fail
  go_loopw [10] (fun i wr => ∃ y : Nat, y ≤ ln ∧ i = .int .i64 (y : Int) ∧ Hid (∃ R ra t, MapAt seed R wr mb bb ra t ∧ t.toL = S.take y ∧ ∀ b, R b → b < wr.heap.size) ∧ Touch Nil w1 wr) (fun i _ => ln - (intOf i).toNat)
  case atStart => exact ⟨0, Nat.zero_le _, rfl, Lib.hid ⟨_, ra, .nil, HM2.out, by simp [Tree.toL], fun b c => c.elim⟩, HT2.out⟩
  obtain ⟨y, hy, rfl, HR, hto⟩ := hrel
  have HT := Lib.hid hto
  clear hto
  by_cases hlt : y < ln
  · obtain ⟨R, ra1, t, hmr, htl, hrb⟩ := HR.out
    have HM := Lib.hid hmr
    have HTL := Lib.hid htl
    have HRB := Lib.hid hrb
    obtain ⟨p, hp⟩ : ∃ p, S[y]? = some p := ⟨S[y]'(by have := HLEN.out; omega), List.getElem?_eq_getElem _⟩
    have hokp : okK p.1 p.2 := HOKS.out p (List.mem_of_getElem? hp)
    obtain ⟨b, off, rfl, hb, f, hc, hf⟩ := HLP.out.at hp
    have c0 := hc 0 (by omega)
    have c1 := hc 1 (by omega)
    rw [Nat.add_zero] at c0
    have hk0 : BV w1 (f 0) p.1 := hf 0 (by omega)
    have hu0 : BV w1 (f 1) p.2 := hf 1 (by omega)
    have HKB := Lib.hid (fun w' (ht : Touch Nil w1 w') => hk0.keepN ht)
    have HUB := Lib.hid (fun w' (ht : Touch Nil w1 w') => hu0.keepN ht)
    obtain ⟨fa, fc, ef⟩ := hk0.len'
    obtain ⟨ga, gc, eg⟩ := hu0.len'
    rw [ef] at c0 HKB
    rw [eg] at c1 HUB
    have HPE := Lib.hid hp
    have HOP := Lib.hid hokp
    have HST := Lib.hid (fun w' (ht : Touch Nil w1 w') => show LdB b (off + y * 2) (.slice fa p.1.length fc) (.slice ga p.2.length gc) w1 w' from ⟨cell_step c0 ht, cell_step c1 ht, Lib.hid ht⟩)
    have HCK := Lib.hid (fun w' (ht : Touch Nil w1 w') => copyR_any (HKB.out w' ht) (by have := hokp.2.1; omega))
    have HCU := Lib.hid (fun w' (ht : Touch Nil w1 w') => copyR_any (HUB.out w' ht) (by have := hokp.2.2; omega))
    have i1 : (y : Int) < (ln : Int) := by omega
    have i2 : (0 : Int) ≤ (y : Int) := by omega
    generalize p.1.length = kl at *
    generalize p.2.length = ul at *
    clear hmr htl hrb hokp hc hf hk0 hu0 ef eg hp c0 c1 HR
    go_wp2_with fail
    go_region_held3 (fun w' => w'.cell? ⟨b, off + y * 2, none⟩ = some (.slice fa kl fc) ∧ w'.cell? ⟨b, off + y * 2 + 1, none⟩ = some (.slice ga ul gc) ∧ Hid (Touch Nil w1 w'))
      (first | exact HST.out _ HT.out.drew | exact HST.out _ hT4 | exact HST.out _ hT3)
      (first
        | (go_at_call_of 48 (Value.slice fa kl fc); refine (HCK.out _ HT.out.drew).mono ?_; rintro e w3 ⟨v3, rfl, h3, ht3⟩; obtain ⟨va3, vl3, vc3, rfl⟩ := h3.form; have hT3 : Touch Nil w1 w3 := HT.out.drew.trans ht3; have H3 := Lib.hid h3; have HT3 := Lib.hid ((Touch.refl Nil wr).drew.trans ht3); clear h3 ht3)
        | (go_at_call_of 48 (Value.slice ga ul gc); refine (HCU.out _ hT3).mono ?_; rintro e w4 ⟨v4, rfl, h4, ht4⟩; obtain ⟨va4, vl4, vc4, rfl⟩ := h4.form; have hT4 : Touch Nil w1 w4 := hT3.trans ht4; have H4 := Lib.hid h4; have HK4 := Lib.hid (H3.out.keep ht4 (fun _ _ c => c)); have HT4 := Lib.hid (HT3.out.trans ht4); clear h4 ht4))
    have HKB4 := Lib.hid (show ∀ b, OwnOf (.slice va3 vl3 vc3) b → wr.heap.size ≤ b ∧ b < w4.heap.size from fun b hb => HK4.out.block b hb)
    have HUB4 := Lib.hid (show ∀ b, OwnOf (.slice va4 vl4 vc4) b → wr.heap.size ≤ b ∧ b < w4.heap.size from fun b hb => by have h1 := H4.out.block b hb; have h2 := HT3.out.size; exact ⟨by omega, h1.2⟩)
    have HM4 := Lib.hid (HM.out.keepN HT4.out)
    have HPU := Lib.hid (put_map HM4.out HK4.out.bv H4.out.bv (okK_iff.2 HOP.out) (by rw [size_toL, HTL.out, List.length_take]; have := HLEN.out; omega))
    have hT4' := Lib.hid hT4
    have HW1 := Lib.hid (show w1.heap.size ≤ wr.heap.size from HT.out.size)
    have HW3 := Lib.hid (show w1.heap.size ≤ w3.heap.size from Nat.le_trans HW1.out HT3.out.size)
    clear hT3 hT4 HCK HCU H3 HT3
    try clear hHeld
    go_wp2_with fail
    refine HPU.out.mono ?_
    rintro e w5 ⟨rfl, ⟨ra5, hm5⟩, ht5⟩
    have HM5 := Lib.hid hm5
    have HT5 := Lib.hid (touch_own hT4'.out ht5 HB.out.2)
    have HK5 := Lib.hid (HK4.out.keep ht5 (body_far HM4.out HK4.out))
    have HU5 := Lib.hid (H4.out.keep ht5 (body_far HM4.out H4.out))
    have HS5 := Lib.hid ht5.size
    obtain ⟨d0, _, _⟩ := HST.out w5 HT5.out
    have HSK := Lib.hid (same_any HK5.out.bv (HKB.out w5 HT5.out) (by have := HOP.out.2.1; omega) (by have := HOP.out.2.1; omega))
    rw [decide_eq_true rfl] at HSK
    clear hm5 ht5 HPU HK4 H4
    go_wp2_with fail
    refine HSK.out.mono ?_
    rintro e w6 ⟨rfl, ht6⟩
    have HT6 := Lib.hid (HT5.out.trans ht6)
    have HT56 := Lib.hid ht6
    obtain ⟨_, d1, _⟩ := HST.out w6 HT6.out
    have HSU := Lib.hid (same_any (HU5.out.bv.keepN ht6) (HUB.out w6 HT6.out) (by have := HOP.out.2.2; omega) (by have := HOP.out.2.2; omega))
    rw [decide_eq_true rfl] at HSU
    clear ht6 HSK d0
    go_wp2_with fail
    refine HSU.out.mono ?_
    rintro e w7 ⟨rfl, ht7⟩
    have HT57 := Lib.hid (HT56.out.trans ht7)
    have HT7 := Lib.hid (HT6.out.trans ht7)
    have HSP := Lib.hid (spoil_any ((HK5.out.keep HT57.out (fun _ _ c => c)).s8 (lo := w1.heap.size) (by have := HW1.out; exact this) (by have := HOP.out.2.1; omega)))
    clear ht7 HSU d1
    go_wp2_with fail
    refine HSP.out.mono ?_
    rintro e w8 ⟨rfl, hs8, ht8⟩
    have HS8 := Lib.hid (show w5.heap.size ≤ w8.heap.size from Nat.le_trans HT57.out.size ht8.size)
    have HT8 := Lib.hid (touch_new HT7.out ht8 fun b hb => by have := (HKB4.out b hb).1; have := HW1.out; omega)
    have HLM := Lib.hid (And.intro (lt_of_heap HM.out.top) (lt_of_heap HM.out.body))
    have HM8 := Lib.hid ((HM5.out.keepN HT57.out).keep ht8 (fun b hb hs => by
      have h1 := HKB4.out b hs
      rcases hb with hb | hb
      · have := HRB.out b hb; omega
      · omega) (fun hs => by have := HKB4.out _ hs; have := HLM.out.1; omega) (fun hs => by have := HKB4.out _ hs; have := HLM.out.2; omega))
    have HSQ := Lib.hid (spoil_any (((HU5.out.keep HT57.out (fun _ _ c => c)).s8 (lo := w1.heap.size) HW3.out (by have := HOP.out.2.2; omega)).spl hs8))
    clear hs8 ht8 HSP
    go_wp2_with fail
    refine HSQ.out.mono ?_
    rintro e w9 ⟨rfl, _, ht9⟩
    have HT9 := Lib.hid (touch_new HT8.out ht9 fun b hb => by have := (HUB4.out b hb).1; have := HW1.out; omega)
    have HM9 := Lib.hid (HM8.out.keep ht9 (fun b hb hs => by
      have h1 := HUB4.out b hs
      rcases hb with hb | hb
      · have := HRB.out b hb; omega
      · omega) (fun hs => by have := HUB4.out _ hs; have := HLM.out.1; omega) (fun hs => by have := HUB4.out _ hs; have := HLM.out.2; omega))
    have HS9 := Lib.hid (Nat.le_trans HS8.out ht9.size)
    clear ht9 HSQ
    go_wp2_with fail
    go_roundw
    case rel => exact ⟨y + 1, by omega, by go_num, Lib.hid ⟨_, ra5, _, HM9.out, by rw [ins_toL (abv_ko seed) p.1 p.2 HM.out.srt HM.out.heap, HTL.out, insL_take HSR.out HPE.out], fun b hb => by
      have h1 := HS9.out
      have h2 := HS5.out
      have h3 := HT4.out.size
      rcases hb with hb | hb
      · have := HRB.out b hb; omega
      · omega⟩, HT9.out⟩
    case measure => simp [intOf]; omega
  · obtain rfl : y = ln := by omega
    have t1' : decide (y < y) = false := by simp
    obtain ⟨R, ra1, t, hmr, htl, hrb⟩ := HR.out
    have hst : S.take y = S := List.take_of_length_le (by have := HLEN.out; omega)
    rw [hst] at htl
    obtain ⟨V, eV⟩ : ∃ V, wr = V := ⟨_, rfl⟩
    subst eV
    obtain ⟨B, eB⟩ : ∃ B, wr.heap.size = B := ⟨_, rfl⟩
    have HBB := Lib.hid eB
    have HM := Lib.hid hmr
    have HTL := Lib.hid htl
    have HZT := Lib.hid (show t.size = y from by rw [size_toL, htl]; exact HLEN.out.symm)
    have HOT := Lib.hid (treeAt_okT hmr.tree)
    have HKEEP := Lib.hid (show ∀ w', Touch (From B) wr w' → MapAt seed R w' mb bb ra1 t ∧ PL w' (.slice la y lc) t.toL ∧ BV w' (.slice qo qn qcc) key ∧ Touch Nil w w' from fun w' ht => by
      have h1 : Touch Nil w1 w' := touch_new HT.out ht fun b hb => by have hb : B ≤ b := hb; have := HT.out.size; omega
      refine ⟨hmr.keep ht (fun b hb hs => ?_) (fun hs => ?_) (fun hs => ?_), by rw [htl]; exact HLP.out.keepN h1, HQ.out.keepN (HT1.out.trans h1), HT1.out.trans h1⟩
      · have hs : B ≤ b := hs; have := hrb b hb; omega
      · have hs : B ≤ mb := hs; have := lt_of_heap hmr.top; omega
      · have hs : B ≤ bb := hs; have := lt_of_heap hmr.body; omega)
    obtain ⟨p, hp⟩ : ∃ p, S[0]? = some p := ⟨S[0]'(by have := HLEN.out; omega), List.getElem?_eq_getElem _⟩
    have hokp : okK p.1 p.2 := HOKS.out p (List.mem_of_getElem? hp)
    obtain ⟨b, off, rfl, hb, f, hc, hf⟩ := (HLP.out.keepN HT.out).at hp
    have c0 := hc 0 (by omega)
    rw [Nat.zero_mul, Nat.add_zero] at c0
    have hk0 : BV wr (f 0) p.1 := hf 0 (by omega)
    obtain ⟨fa, fc, ef⟩ := hk0.len'
    rw [ef] at c0 hk0
    have HGE := Lib.hid (get_map hmr hk0)
    have HLY := Lib.hid (show 0 < y ∧ y ≤ 400 from by omega)
    generalize p.1.length = kl at *
    have i1 : (0 : Int) < (y : Int) := by omega
    clear hmr htl hrb hokp hc hf hk0 ef hp HR hst eB hb
    go_wp2_with fail
    refine HGE.out.mono ?_
    rintro e w3 ⟨gx, gcode, rfl, hgc, ht3⟩
    have hg8 : S8 B w3 gx := by
      rcases hgc with ⟨_, rfl, _⟩ | ⟨_, u, hu, ho⟩
      · exact ⟨none, 0, 0, rfl, by omega, fun h => absurd h (by omega)⟩
      · exact ho.s8 (by have := HBB.out; omega) (by have := (okL_toL HOT.out (p.1, u) hu).2.2; simp at this; omega)
    obtain ⟨ga, gn, gc, rfl⟩ := hg8.form
    have HT3 := Lib.hid (show Touch (From B) wr w3 from ht3.of_nil)
    have HSP3 := Lib.hid (spoil_any hg8)
    clear hgc ht3 hg8 HGE c0
    go_wp2_with fail
    refine HSP3.out.mono ?_
    rintro e w4 ⟨rfl, hs4, _⟩
    have HT4 := Lib.hid (show Touch (From B) wr w4 from HT3.out.trans hs4.touch)
    have HAT := Lib.hid (at_map (HKEEP.out _ HT4.out).1 (i := y - 1) (by have := HZT.out; have := HLY.out; omega))
    have hc1 : ((y - 1 : Nat) : Int) = (y : Int) - 1 := by have := HLY.out; omega
    rw [hc1] at HAT
    clear hs4 HSP3 hc1
    go_wp2_with fail
    refine HAT.out.mono ?_
    rintro e w5 ⟨kx, ux, cc, rfl, hk5, hu5, ht5⟩
    have hB4 : B ≤ w4.heap.size := by have h1 := HT4.out.size; have h2 := HBB.out; omega
    have HK5 := Lib.hid (hk5.mono hB4)
    have HU5 := Lib.hid (hu5.mono hB4)
    obtain ⟨ka5, kn5, kc5, rfl⟩ := hk5.form
    obtain ⟨ua5, un5, uc5, rfl⟩ := hu5.form
    have HT5 := Lib.hid (show Touch (From B) wr w5 from HT4.out.trans ht5.of_nil)
    clear hk5 hu5 ht5 HAT hB4
    go_wp2_with fail
    obtain ⟨w6, ew6⟩ : ∃ w6, w5.alloc (.cells #[.slice ka5 kn5 kc5, .slice ua5 un5 uc5] 45) = w6 := ⟨_, rfl⟩
    have HV6 := Lib.hid (show w6.heap[w5.heap.size]? = some (.cells #[.slice ka5 kn5 kc5, .slice ua5 un5 uc5] 45 (0, 0)) from by rw [← ew6]; exact heap_alloc_new _ _)
    have HT56 := Lib.hid (show Touch Nil w5 w6 from by rw [← ew6]; exact (Touch.refl Nil w5).alloc _)
    have HT6 := Lib.hid (HT5.out.trans HT56.out.of_nil)
    rw [ew6]
    have HSK6 := Lib.hid (spoil_any (HK5.out.spl (Spl.of_nil (lo := B) HT56.out)))
    obtain ⟨gv, egv⟩ : ∃ gv, w5.heap.size = gv := ⟨_, rfl⟩
    rw [egv] at HV6 ⊢
    have c6 : w6.cell? ⟨gv, 0, none⟩ = some (.slice ka5 kn5 kc5) := (cells2 HV6.out).1
    clear ew6 egv
    go_wp2_with fail
    refine HSK6.out.mono ?_
    rintro e w7 ⟨rfl, hs7, _⟩
    have HS7 := Lib.hid hs7
    have HV7 := Lib.hid ((hs7.other (lt_of_heap HV6.out) (fun cs h => by
      rw [HV6.out] at h
      injection h with h
      injection h with _ h _
      exact absurd h (by decide))).trans HV6.out)
    have c7 : w7.cell? ⟨gv, 1, none⟩ = some (.slice ua5 un5 uc5) := (cells2 HV7.out).2
    have HSU7 := Lib.hid (spoil_any ((HU5.out.spl (Spl.of_nil (lo := B) HT56.out)).spl hs7))
    clear hs7 HSK6 c6
    go_wp2_with fail
    refine HSU7.out.mono ?_
    rintro e w8 ⟨rfl, hs8, _⟩
    have HT8 := Lib.hid (show Touch (From B) wr w8 from (HT6.out.trans HS7.out.touch).trans hs8.touch)
    have HSG := Lib.hid (spanG_map (HKEEP.out _ HT8.out).1 (BV.nil w8) (BV.nil w8) false)
    clear hs8 HSU7 c7
    go_wp2_with fail
    refine HSG.out.mono ?_
    rintro e w9 ⟨ox9, rfl, hpg9, ht9⟩
    obtain ⟨oa, on, oc, rfl⟩ := hpg9.form3
    have hB8 : B ≤ w8.heap.size := by have h1 := HT8.out.size; have h2 := HBB.out; omega
    have hon : on = (partT false [] [] t).toL.length := hpg9.rl.len
    have HLout := Lib.hid (show L8 B 2 w9 (.slice oa on oc) on from by
      have hl8 := OL.l8 (T := 45) (fld := pairG B) (hpg9.lower hB8) (by decide) (by omega) (fun p => p.1) (fun p => p.2) (fun _ => rfl) (fun _ => rfl) fun p hp => by
        rw [part_all t (HKEEP.out _ HT8.out).1.srt] at hp
        have := okL_toL HOT.out p hp
        unfold okK at this
        omega
      rwa [← hon] at hl8)
    have HON := Lib.hid (show on ≤ 400 from by rw [hon, part_all t (HKEEP.out _ HT8.out).1.srt, ← size_toL, HZT.out]; exact HLY.out.2)
    have HT9 := Lib.hid (HT8.out.trans ht9.of_nil)
    have HNM := Lib.hid (nodesG_map (HKEEP.out _ HT9.out).1)
    clear hpg9 ht9 hB8 hon HSG
    go_wp2_with fail
    refine HNM.out.mono ?_
    rintro e w10 ⟨nx, rfl, hng, ht10⟩
    obtain ⟨na, nn, nc, rfl⟩ := hng.form3
    have hB9 : B ≤ w9.heap.size := by have h1 := HT9.out.size; have h2 := HBB.out; omega
    have hnn : nn = (nodesT seed 0 t).length := hng.rl.len
    have HLnodes0 := Lib.hid (show L8 w9.heap.size 6 w10 (.slice na nn nc) nn from by
      have hl8 := OL.l8 (T := 109) (fld := nodeG w9.heap.size) hng (by decide) (by omega) (fun p => p.k) (fun p => p.u) (fun _ => rfl) (fun _ => rfl) fun p hp => by
        have := nodesT_okK seed t 0 (okL_toL HOT.out) p hp
        unfold okK at this
        omega
      rwa [← hnn] at hl8)
    have HNN := Lib.hid (show nn ≤ 400 from by rw [hnn, nodesT_len, HZT.out]; exact HLY.out.2)
    have HT10 := Lib.hid (HT9.out.trans ht10.of_nil)
    have HT910 := Lib.hid ht10
    have HPM := Lib.hid (proveG_map (HKEEP.out _ HT10.out).1 (HKEEP.out _ HT10.out).2.2.1)
    clear hng ht10 hB9 hnn HNM
    go_wp2_with fail
    refine HPM.out.mono ?_
    rintro e w11 ⟨sx, rfl, hsg, ht11⟩
    obtain ⟨sa, sn, sc, rfl⟩ := hsg.form3
    have hsn : sn = (pathT seed key t).length := hsg.rl.len
    have HLproof0 := Lib.hid (show L8 w10.heap.size 4 w11 (.slice sa sn sc) sn from by
      have hl8 := OL.l8 (T := 76) (fld := sideG w10.heap.size) hsg (by decide) (by omega) (fun p => p.k) (fun p => p.u) (fun _ => rfl) (fun _ => rfl) fun p hp => by
        have := pathT_okK seed key HOT.out p hp
        unfold okK at this
        omega
      rwa [← hsn] at hl8)
    have HSN := Lib.hid (show sn ≤ 400 from by rw [hsn]; have h1 := pathT_len seed key t; have h2 := HZT.out; have h3 := HLY.out; omega)
    have HT11 := Lib.hid (HT10.out.trans ht11.of_nil)
    have HLlist := Lib.hid (HLout.out.spl (Spl.of_nil (lo := B) (HT910.out.trans ht11)))
    have HLnodes1 := Lib.hid (HLnodes0.out.spl (Spl.of_nil (lo := B) ht11))
    have HB9 := Lib.hid (show B ≤ w9.heap.size ∧ B ≤ w10.heap.size from by have h1 := HT9.out.size; have h2 := HBB.out; have h3 := HT10.out.size; omega)
    clear hsg ht11 hsn HPM
    go_wp2_with fail
    -- list
    have hbdo : on ≤ 400 := HON.out
    go_loopw [20] (fun i wr => ∃ z : Nat, z ≤ on ∧ i = .int .i64 (z : Int) ∧ Hid (Spl B w11 wr)) (fun i _ => on - (intOf i).toNat)
    case atStart => exact ⟨0, Nat.zero_le _, rfl, Lib.hid (Spl.refl _ _)⟩
    obtain ⟨z, hz, rfl, HW⟩ := hrel
    by_cases hlt : z < on
    · obtain ⟨_, _, e, hl⟩ := HLlist.out.spl HW.out
      cases e
      obtain ⟨bx, ox, rfl, hbx, hnx, hcx⟩ := hl (by omega)
      obtain ⟨kx, ux, d0, d1, hkx, hux⟩ := hcx z hlt
      obtain ⟨ka, kn, kc, rfl⟩ := hkx.form
      obtain ⟨ua, un, uc, rfl⟩ := hux.form
      have HSK := Lib.hid (spoil_any hkx)
      have HUX := Lib.hid hux
      have HD1 := Lib.hid (fun w' (hs : Spl B wr w') => (World.cell?_of_block (w := wr) (hs.other hbx hnx) (a := ⟨bx, ox + z * 2 + 1, none⟩)).trans d1)
      have i1 : (z : Int) < (on : Int) := by omega
      have i2 : (0 : Int) ≤ (z : Int) := by omega
      clear hl hbx hnx hcx hkx hux d1
      go_wp2_with fail
      refine HSK.out.mono ?_
      rintro e w' ⟨rfl, hs, _⟩
      have HS := Lib.hid hs
      have d1 := HD1.out _ hs
      have HSU := Lib.hid (spoil_any (HUX.out.spl hs))
      clear hs d0 HSK
      go_wp2_with fail
      refine HSU.out.mono ?_
      rintro e w'' ⟨rfl, hs, _⟩
      have HS2 := Lib.hid ((HW.out.trans HS.out).trans hs)
      clear hs HSU d1
      go_wp2_with fail
      go_roundw
      case rel => exact ⟨z + 1, by omega, by go_num, HS2⟩
      case measure => simp [intOf]; omega
    obtain rfl : z = on := by omega
    have tz : decide (z < z) = false := by simp
    rename World => w12
    have HSP12 := Lib.hid HW.out
    have HLnodes := Lib.hid ((HLnodes1.out.mono HB9.out.1).spl HW.out)
    have HT12 := Lib.hid (HT11.out.trans HW.out.touch)
    clear hlt HW hz HON
    go_wp2_with fail
    -- nodes
    have hbdn : nn ≤ 400 := HNN.out
    go_loopw [21] (fun i wr => ∃ z : Nat, z ≤ nn ∧ i = .int .i64 (z : Int) ∧ Hid (Spl B w12 wr)) (fun i _ => nn - (intOf i).toNat)
    case atStart => exact ⟨0, Nat.zero_le _, rfl, Lib.hid (Spl.refl _ _)⟩
    obtain ⟨z, hz, rfl, HW⟩ := hrel
    by_cases hlt : z < nn
    · obtain ⟨_, _, e, hl⟩ := HLnodes.out.spl HW.out
      cases e
      obtain ⟨bx, ox, rfl, hbx, hnx, hcx⟩ := hl (by omega)
      obtain ⟨kx, ux, d0, d1, hkx, hux⟩ := hcx z hlt
      obtain ⟨ka, kn, kc, rfl⟩ := hkx.form
      obtain ⟨ua, un, uc, rfl⟩ := hux.form
      have HSK := Lib.hid (spoil_any hkx)
      have HUX := Lib.hid hux
      have HD1 := Lib.hid (fun w' (hs : Spl B wr w') => (World.cell?_of_block (w := wr) (hs.other hbx hnx) (a := ⟨bx, ox + z * 6 + 1, none⟩)).trans d1)
      have i1 : (z : Int) < (nn : Int) := by omega
      have i2 : (0 : Int) ≤ (z : Int) := by omega
      clear hl hbx hnx hcx hkx hux d1
      go_wp2_with fail
      refine HSK.out.mono ?_
      rintro e w' ⟨rfl, hs, _⟩
      have HS := Lib.hid hs
      have d1 := HD1.out _ hs
      have HSU := Lib.hid (spoil_any (HUX.out.spl hs))
      clear hs d0 HSK
      go_wp2_with fail
      refine HSU.out.mono ?_
      rintro e w'' ⟨rfl, hs, _⟩
      have HS2 := Lib.hid ((HW.out.trans HS.out).trans hs)
      clear hs HSU d1
      go_wp2_with fail
      go_roundw
      case rel => exact ⟨z + 1, by omega, by go_num, HS2⟩
      case measure => simp [intOf]; omega
    obtain rfl : z = nn := by omega
    have tz : decide (z < z) = false := by simp
    rename World => w13
    have HLproof := Lib.hid (((HLproof0.out.mono HB9.out.2).spl HSP12.out).spl HW.out)
    have HT13 := Lib.hid (HT12.out.trans HW.out.touch)
    clear hlt HW hz HNN
    go_wp2_with fail
    -- proof
    have hbds : sn ≤ 400 := HSN.out
    go_loopw [22] (fun i wr => ∃ z : Nat, z ≤ sn ∧ i = .int .i64 (z : Int) ∧ Hid (Spl B w13 wr)) (fun i _ => sn - (intOf i).toNat)
    case atStart => exact ⟨0, Nat.zero_le _, rfl, Lib.hid (Spl.refl _ _)⟩
    obtain ⟨z, hz, rfl, HW⟩ := hrel
    by_cases hlt : z < sn
    · obtain ⟨_, _, e, hl⟩ := HLproof.out.spl HW.out
      cases e
      obtain ⟨bx, ox, rfl, hbx, hnx, hcx⟩ := hl (by omega)
      obtain ⟨kx, ux, d0, d1, hkx, hux⟩ := hcx z hlt
      obtain ⟨ka, kn, kc, rfl⟩ := hkx.form
      obtain ⟨ua, un, uc, rfl⟩ := hux.form
      have HSK := Lib.hid (spoil_any hkx)
      have HUX := Lib.hid hux
      have HD1 := Lib.hid (fun w' (hs : Spl B wr w') => (World.cell?_of_block (w := wr) (hs.other hbx hnx) (a := ⟨bx, ox + z * 4 + 1, none⟩)).trans d1)
      have i1 : (z : Int) < (sn : Int) := by omega
      have i2 : (0 : Int) ≤ (z : Int) := by omega
      clear hl hbx hnx hcx hkx hux d1
      go_wp2_with fail
      refine HSK.out.mono ?_
      rintro e w' ⟨rfl, hs, _⟩
      have HS := Lib.hid hs
      have d1 := HD1.out _ hs
      have HSU := Lib.hid (spoil_any (HUX.out.spl hs))
      clear hs d0 HSK
      go_wp2_with fail
      refine HSU.out.mono ?_
      rintro e w'' ⟨rfl, hs, _⟩
      have HS2 := Lib.hid ((HW.out.trans HS.out).trans hs)
      clear hs HSU d1
      go_wp2_with fail
      go_roundw
      case rel => exact ⟨z + 1, by omega, by go_num, HS2⟩
      case measure => simp [intOf]; omega
    obtain rfl : z = sn := by omega
    have tz : decide (z < z) = false := by simp
    have HT14 := Lib.hid (HT13.out.trans HW.out.touch)
    clear hlt HW hz HSN
    have HIM := Lib.hid (image_map (HKEEP.out _ HT14.out).1)
    have HLEN8 := Lib.hid (imgB_len HOT.out (HKEEP.out _ HT14.out).1.size)
    go_wp2_with fail
    refine HIM.out.mono ?_
    rintro e w15 ⟨ix, rfl, hi, ht15⟩
    obtain ⟨ia, il, ic, rfl⟩ := hi.form
    have HT15 := Lib.hid (HT14.out.trans ht15.of_nil)
    have HSI := Lib.hid (spoil_any (hi.s8 (lo := B) (by have h1 := HT14.out.size; have h2 := HBB.out; omega) (by have := HLEN8.out; omega)))
    clear hi ht15 HIM
    go_wp2_with fail
    refine HSI.out.mono ?_
    rintro e w16 ⟨rfl, hs16, _⟩
    have HT16 := Lib.hid (HT15.out.trans hs16.touch)
    have HGO := Lib.hid (imageR_any (seed := seed) (HKEEP.out _ HT16.out).1.srt (HKEEP.out _ HT16.out).1.heap (okL_toL HOT.out) (HKEEP.out _ HT16.out).2.1 (HKEEP.out _ HT16.out).1.size)
    clear hs16 HSI
    go_wp2_with fail
    refine HGO.out.mono ?_
    rintro e w17 ⟨gx, rfl, hgo, ht17⟩
    obtain ⟨ga7, gl7, gc7, rfl⟩ := hgo.form
    have HG := Lib.hid hgo
    have HT17 := Lib.hid (HT16.out.trans ht17.of_nil)
    have HLO := Lib.hid (load_any (seed := seed) hgo.bc (by have := HLEN8.out; omega))
    have HB16 := Lib.hid (show B ≤ w16.heap.size from by have h1 := HT16.out.size; have h2 := HBB.out; omega)
    have HIS := Lib.hid (show loadF seed (imgB t) = some t from loadF_iff.2 ⟨(HKEEP.out _ HT16.out).1.srt, (HKEEP.out _ HT16.out).1.heap, HOT.out, (HKEEP.out _ HT16.out).1.size, rfl⟩)
    clear hgo ht17 HGO
    go_wp2_with fail
    refine HLO.out.mono ?_
    rintro e w18 (⟨h18, rfl, ht18⟩ | ⟨t', R8, mb8, bb8, ra8, h18, rfl, hm8, hmb8, hbb8, hr8, ht18⟩)
    · rw [HIS.out] at h18; cases h18
    obtain rfl : t' = t := by rw [HIS.out] at h18; cases h18; rfl
    have HT18 := Lib.hid (HT17.out.trans ht18.of_nil)
    have HG18 := Lib.hid (HG.out.keep ht18 (fun _ _ c => c))
    have HSG18 := Lib.hid (spoil_any (HG18.out.s8 (lo := B) HB16.out (by have := HLEN8.out; omega)))
    have HM8 := Lib.hid hm8
    have HX8 := Lib.hid (And.intro hmb8 (And.intro hbb8 hr8))
    have HG17 := Lib.hid (fun b hb => (HG.out.block b hb).2)
    clear hm8 hmb8 hbb8 hr8 ht18 h18 HLO
    go_wp2_with fail
    refine HSG18.out.mono ?_
    rintro e w19 ⟨rfl, hs19, ht19⟩
    have HT19 := Lib.hid (HT18.out.trans hs19.touch)
    have HM19 := Lib.hid (HM8.out.keep ht19 (fun b hb hs => by have h1 := HX8.out.2.2 b hb; have h2 := HG17.out b hs; omega) (fun hs => by have h1 := HX8.out.1; have h2 := HG17.out _ hs; omega) (fun hs => by have h1 := HX8.out.2.1; have h2 := HG17.out _ hs; omega))
    have HW1 := Lib.hid (whole_map (HKEEP.out _ HT19.out).1 (HKEEP.out _ HT19.out).2.1)
    clear hs19 ht19 HSG18 HM8
    go_wp2_with fail
    refine HW1.out.mono ?_
    rintro e w20 ⟨rfl, ht20⟩
    have HT20 := Lib.hid (HT19.out.trans ht20.of_nil)
    have HW2 := Lib.hid (whole_map (HM19.out.keepN ht20) (HKEEP.out _ HT20.out).2.1)
    clear ht20 HW1
    go_wp2_with fail
    refine HW2.out.mono ?_
    rintro e w21 ⟨rfl, ht21⟩
    have HT21 := Lib.hid (HT20.out.trans ht21.of_nil)
    clear ht21
    go_wp2_with fail
    go_ret
    exact ⟨rfl, (HKEEP.out _ HT21.out).2.2.2.below_nil⟩

set_option maxRecDepth 100000 in
theorem orderOwn_lifted (os : Os) (started : os.Started) (H : Type) (enc : TypeId × Value → H) :
    ReturnsInHanded {} Try.checked os 13 .any (Rows.orderOwnSpec.pre6 enc Try.prog Try.f13 Rows.orderOwnRow.domain false) (Rows.orderOwnSpec.post enc Try.prog Try.f13 false true false false) := by
  refine returnsInHanded_of_change (C := Try.checked) own started (by kernel_rfl) Try.func13
    (ChangeSpec.witness6 (enc := enc) (C := Try.checked) false ⟨#[], #[.int .u64 0, .slice none 0 0, .slice none 0 0], []⟩ 8 (by kernel_rfl) (by kernel_rfl) (by kernel_rfl) (by kernel_rfl)) ?_
  intro W base args ds gs before hval0 hW _ _
  have hval : ∀ (j : Nat) t v, Try.f13.params[j]? = some t → args[j]? = some v → Value.okWide Try.prog W .any base t v := hval0
  have hW' := hW
  obtain ⟨p, q, hA0, hV, rfl, hfz, hnd⟩ := hW
  have hA : DataW.TrodAll enc Try.prog W 0 (fun _ => true) true Try.f13.params.toList args.toList ds p := hA0
  rw [Try.params13] at hA hval
  obtain ⟨v0, vs0, d0, ds0, p0, q0, hargs, rfl, rfl, h0, r0⟩ := trodAll_cons hA
  obtain ⟨v1, vs1, d1, ds1, p1, q1, rfl, rfl, rfl, h1, r1⟩ := trodAll_cons r0
  obtain ⟨v2, vs2, d2, ds2, p2, q2, rfl, rfl, rfl, h2, r2⟩ := trodAll_cons r1
  obtain ⟨rfl, rfl, rfl⟩ := trodAll_nil r2
  obtain rfl : args = #[v0, v1, v2] := by cases args; simp_all
  obtain ⟨rfl, rfl⟩ := trodVars_none hV
  obtain ⟨seed, rfl, rfl, rfl, w0⟩ := open_int Try.underlying22 (hval 0 22 v0 rfl rfl) h0
  obtain ⟨ao, len, cap, rfl⟩ := okWide_slice Try.underlying26 (hval 1 26 v1 rfl rfl)
  have k1 := h1
  have lt1 : ∀ x ∈ p1, x.block < W.heap.size := by obtain ⟨m, hm⟩ := k1; exact DataW.trod_lt m _ _ _ hm
  obtain ⟨fuel, hf⟩ := h1
  obtain ⟨L, hpl, hm, hmm⟩ := open_pairs hf
  obtain ⟨qo, qn, qcc, rfl⟩ := okWide_slice Try.underlying29 (hval 2 29 v2 rfl rfl)
  have k2 := h2
  have lt2 : ∀ x ∈ p2, x.block < W.heap.size := by obtain ⟨m, hm⟩ := k2; exact DataW.trod_lt m _ _ _ hm
  obtain ⟨fuel2, hf2⟩ := h2
  obtain ⟨qk, hqb, hqm⟩ := open_bv Try.underlying29 Try.underlying5 (by kernel_rfl) hf2
  obtain ⟨qo', qcc', hqe⟩ := hqb.len'
  cases hqe
  clear hA0 hval0
  unfold maxLen at hm hmm
  refine (lawOwn_any seed hpl (by omega) (fun p hp => by have := hmm p hp; omega) hqb).mono fun e W' ⟨he, bel⟩ => ?_
  subst he
  exact ⟨_, rfl, _, _, _, [], _, [], hW', trodAll_mk1 (shut_bool Try.underlying4 _), (trodAll_cons_mk (shut_int Try.underlying22 w0) (trodAll_cons_mk (Below.trod laidOut (by kernel_rfl) (of_decide_eq_true (by kernel_rfl)) k1 bel lt1) (trodAll_cons_mk (Below.trod laidOut (by kernel_rfl) (of_decide_eq_true (by kernel_rfl)) k2 bel lt2) trodAll_mk0))), rfl, bel.frame _, fun h => by cases h⟩

theorem orderOwn_holds : Rows.OrderOwnSaid :=
  OpenClaim.holds_of_wide 13 Try.f13 rfl rfl rfl rfl rfl rfl rfl ⟨rfl, rfl, rfl, rfl, rfl⟩ rfl rfl rfl rfl rfl (by kernel_rfl) Try.func13 (by kernel_rfl)
    (of_decide_eq_true (by kernel_rfl)) (by unfold Func.isWrapper; first | (rw [if_pos (by decide +kernel)]; kernel_rfl) | (rw [if_neg (by decide +kernel)]; exact ⟨rfl, rfl⟩))
    (fun os started H enc _ => orderOwn_lifted os started H enc)
end Go.Proofs.Ytbckakpgfmcljaa
