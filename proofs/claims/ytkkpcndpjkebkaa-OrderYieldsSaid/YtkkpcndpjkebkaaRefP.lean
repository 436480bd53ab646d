import Derived.Test.YtkkpcndpjkebkaaRefO
/- The reference's lists of pairs: whether a key is there; a pair is put in. -/
namespace Go.Proofs.Ytkkpcndpjkebkaa
open Go.ChangeShapes Go.WideShapes Go.ChangeAt Go.RowKit Go.Deep

/-- Whether a key stands at its rank. -/
def hasF (key : Key) (L : Pairs) : Bool := match L[rankF key L]? with
  | some p => decide (p.1 = key)
  | none => false
theorem hasF_nil (key : Key) : hasF key [] = false := rfl
theorem ge_parts (key : Key) : ∀ {D : Pairs}, Srt D → (∀ x ∈ D, klt x.1 key = false) → (∀ p D', D = p :: D' → p.1 = key → D' = D.filter (fun x => klt key x.1)) ∧ ((∀ p, D[0]? = some p → p.1 ≠ key) → D = D.filter (fun x => klt key x.1))
  | [], _, _ => ⟨(fun p D' e => by cases e), fun _ => rfl⟩
  | q :: D, h, hl => by
    unfold Srt at h
    rw [List.pairwise_cons] at h
    refine ⟨fun p D' e hk => ?_, fun hne => ?_⟩
    · cases e
      subst hk
      rw [List.filter_cons, klt_ko.irrefl, filter_all (p := fun x => klt q.1 x.1) fun y hy => h.1 y hy]
      rfl
    · have h0 : klt key q.1 = true := by
        rcases klt_false.1 (hl q (by simp)) with e | e
        · exact absurd e (hne q rfl)
        · exact e
      rw [filter_all fun y hy => by
        rcases List.mem_cons.1 hy with e | e
        · rw [e]; exact h0
        · exact klt_ko.trans _ _ _ h0 (h.1 y e)]
theorem gt_of_ge (key : Key) (L : Pairs) : (L.filter (fun x => !klt x.1 key)).filter (fun x => klt key x.1) = L.filter (fun x => klt key x.1) := by
  rw [List.filter_filter]
  congr 1
  funext x
  cases c : klt key x.1 with
  | false => rfl
  | true => rw [klt_ko.asym c]; rfl
theorem hasF_iff {key : Key} {L : Pairs} (h : Srt L) : hasF key L = true ↔ ∃ u, (key, u) ∈ L := by
  obtain ⟨_, e2⟩ := rank_parts key h
  have hd : (L.drop (rankF key L))[0]? = L[rankF key L]? := by rw [List.getElem?_drop, Nat.add_zero]
  unfold hasF
  constructor
  · intro hh
    cases c : L[rankF key L]? with
    | none => rw [c] at hh; cases hh
    | some p =>
      rw [c] at hh
      have : p.1 = key := of_decide_eq_true hh
      exact ⟨p.2, by rw [← this]; exact List.mem_of_getElem? c⟩
  · rintro ⟨u, hu⟩
    have hm : (key, u) ∈ L.drop (rankF key L) := by rw [e2, List.mem_filter]; exact ⟨hu, by rw [klt_ko.irrefl]; rfl⟩
    have hs : Srt (L.drop (rankF key L)) := List.Pairwise.sublist (List.drop_sublist _ _) h
    have hge : ∀ x ∈ L.drop (rankF key L), klt x.1 key = false := fun x hx => by rw [e2, List.mem_filter] at hx; simpa using hx.2
    rw [← hd]
    cases c : (L.drop (rankF key L)) with
    | nil => rw [c] at hm; cases hm
    | cons p D =>
      rw [c] at hm hs hge
      show decide (p.1 = key) = true
      rw [decide_eq_true_iff]
      rcases List.mem_cons.1 hm with e | e
      · rw [← e]
      · unfold Srt at hs
        rw [List.pairwise_cons] at hs
        have := hs.1 _ e
        rw [hge p (by simp)] at this
        cases this
/-- The pairs with a pair, as the reference puts it in. -/
def putF (key u : Key) (L : Pairs) : Pairs := L.take (rankF key L) ++ [(key, u)] ++ L.drop (if hasF key L = true then rankF key L + 1 else rankF key L)
theorem putF_ins (key u : Key) {L : Pairs} (h : Srt L) : putF key u L = insL key u L := by
  obtain ⟨e1, e2⟩ := rank_parts key h
  have hs : Srt (L.drop (rankF key L)) := List.Pairwise.sublist (List.drop_sublist _ _) h
  have hge : ∀ x ∈ L.drop (rankF key L), klt x.1 key = false := fun x hx => by rw [e2, List.mem_filter] at hx; simpa using hx.2
  have hd : (L.drop (rankF key L))[0]? = L[rankF key L]? := by rw [List.getElem?_drop, Nat.add_zero]
  obtain ⟨g1, g2⟩ := ge_parts key hs hge
  have hgt : (L.drop (rankF key L)).filter (fun x => klt key x.1) = L.filter (fun x => klt key x.1) := by rw [e2, gt_of_ge]
  unfold putF insL
  rw [e1, List.append_assoc, List.singleton_append]
  congr 2
  rw [← hgt]
  unfold hasF
  rw [← hd]
  cases c : L.drop (rankF key L) with
  | nil => simp [c]
  | cons p D =>
    rw [c] at g1 g2
    by_cases hk : p.1 = key
    · rw [← g1 p D rfl hk]
      simp only [List.getElem?_cons_zero, hk, decide_true, if_true]
      rw [← List.drop_drop, c]; rfl
    · rw [← g2 fun q e => by cases e; exact hk]
      simp only [List.getElem?_cons_zero, hk, decide_false, Bool.false_eq_true, if_false]
      exact c

set_option maxRecDepth 100000 in
set_option maxHeartbeats 2000000 in
theorem hasR_any {w : World} {x kx : Value} {L : Pairs} {key : Key} (h : PL w x L) (hs : Short L) (hn : L.length ≤ 1000000) (hk : BV w kx key) (hkl : key.length ≤ 1000000) :
    Calls Try.prog 24 #[x, kx] w (BoolN (hasF key L) w) := by
  have HRK := Lib.hid (rankR_any h hs hn hk hkl)
  obtain ⟨ao, cap, rfl⟩ := h.form
  have HP := Lib.hid h
  have HS := Lib.hid hs
  have HK := Lib.hid hk
  obtain ⟨qa, qc, rfl⟩ := hk.len'
  have HE : ∃ n, L.length = n := ⟨_, rfl⟩
  obtain ⟨n, en⟩ := HE
  have HLE := Lib.hid (rankF_le key L)
  rw [en] at HP hn HRK HLE ⊢
  have HN := Lib.hid en
  have HHF := Lib.hid (show hasF key L = match L[rankF key L]? with | some p => decide (p.1 = key) | none => false from rfl)
  generalize hasF key L = q at *
  generalize rankF key L = r at *
  have hr := HLE.out
  have HKL := Lib.hid hkl
  clear h hs hk en hkl
  by_cases hlt : r < n
  · obtain ⟨p, hp⟩ : ∃ p, L[r]? = some p := ⟨L[r]'(by have := HN.out; omega), List.getElem?_eq_getElem _⟩
    have HPE := Lib.hid hp
    have HCC := Lib.hid (fun w' (ht : Touch Nil w w') => by
      obtain ⟨b, off, e, hb, f, hc, hf⟩ := (HP.out.keepN ht).at HPE.out
      exact (show ∃ b off fa fc, ao = some ⟨b, off, none⟩ ∧ w'.cell? ⟨b, off + r * 2, none⟩ = some (.slice fa p.1.length fc) ∧ Calls Try.prog 58 #[.slice fa p.1.length fc, .slice qa key.length qc] w' (CmpPost (cmpR p.1 key) w') from by
        have c0 := hc 0 (by omega)
        rw [Nat.add_zero] at c0
        have hk0 : BV w' (f 0) p.1 := hf 0 (by omega)
        have HC := compareV_any hk0 (HK.out.keepN ht) (by have := (HS.out _ (List.mem_of_getElem? HPE.out)).1; omega) (by have := HKL.out; omega)
        obtain ⟨fa, fc, ef⟩ := hk0.len'
        rw [ef] at c0 HC
        exact ⟨b, off, fa, fc, e, c0, HC⟩))
    have HQ := Lib.hid (show q = (cmpR p.1 key == 0) from by
      rw [HHF.out, HPE.out, Bool.eq_iff_iff]
      simp [cmpR_zero])
    have i1 : (r : Int) < (n : Int) := by omega
    have i2 : (0 : Int) ≤ (r : Int) := by omega
    have t1 : decide (r < n) = true := by simpa using hlt
    clear hp
    go_enter Try.func24, Try.ntmps24
    go_wp2_with fail
    refine HRK.out.mono ?_
    rintro e w1 ⟨rfl, ht1⟩
    obtain ⟨b, off, fa, fc, rfl, c0, hcal⟩ := HCC.out w1 ht1
    have HC := Lib.hid hcal
    have HT := Lib.hid ht1
    generalize p.1.length = fl at *
    generalize cmpR p.1 key = z at *
    clear ht1 hcal
    go_wp2_with fail
    refine HC.out.mono ?_
    rintro e w2 ⟨rfl, m, rfl⟩
    go_wp2_with fail
    go_ret
    exact ⟨by rw [HQ.out]; rfl, HT.out.drewN m⟩
  · obtain rfl : r = n := by omega
    have HQ := Lib.hid (show q = false from by rw [HHF.out, List.getElem?_eq_none (by have := HN.out; omega)])
    have t1 : decide (r < r) = false := by simp
    go_enter Try.func24, Try.ntmps24
    go_wp2_with fail
    refine HRK.out.mono ?_
    rintro e w1 ⟨rfl, ht1⟩
    go_wp2_with fail
    go_ret
    exact ⟨by rw [HQ.out]; rfl, ht1⟩

def ListP (L : Pairs) (w : World) (e : Ending) (w' : World) : Prop := ∃ x, e = .returned x ∧ PL w' x L ∧ Touch Nil w w'
set_option maxRecDepth 100000 in
set_option maxHeartbeats 4000000 in
theorem putR_any {w : World} {x kx ux : Value} {L : Pairs} {key u : Key} (h : PL w x L) (hs : Short L) (hn : L.length ≤ 1000000) (hk : BV w kx key) (hkl : key.length ≤ 1000000) (hu : BV w ux u) (hul : u.length ≤ 1000000) :
    Calls Try.prog 50 #[x, kx, ux] w (ListP (putF key u L) w) := by
  have HRK := Lib.hid (rankR_any h hs hn hk hkl)
  have HHAS := Lib.hid (fun w' (ht : Touch Nil w w') => hasR_any (h.keepN ht) hs hn (hk.keepN ht) hkl)
  have HCK := Lib.hid (fun w' (ht : Touch Nil w w') => copyR_any (hk.keepN ht) (by omega))
  have HCU := Lib.hid (fun w' (ht : Touch Nil w w') => copyR_any (hu.keepN ht) (by omega))
  obtain ⟨ao, cap, rfl⟩ := h.form
  have HP := Lib.hid h
  obtain ⟨qa, qc, rfl⟩ := hk.len'
  obtain ⟨va, vc, rfl⟩ := hu.len'
  have HLE := Lib.hid (rankF_le key L)
  have HHL := Lib.hid (show hasF key L = true → rankF key L + 1 ≤ L.length from fun hh => by
    unfold hasF at hh
    cases c : L[rankF key L]? with
    | none => rw [c] at hh; cases hh
    | some p => exact (List.getElem?_eq_some_iff.1 c).1)
  have HPF := Lib.hid (show putF key u L = L.take (rankF key L) ++ [(key, u)] ++ L.drop (if hasF key L = true then rankF key L + 1 else rankF key L) from rfl)
  obtain ⟨ch, cc, hcut, hrt⟩ := h.cut_h slPair szPair (m := rankF key L) HLE.out
  have HRT := Lib.hid hrt
  have HLT := Lib.hid (show (L.take (rankF key L)).length = rankF key L by rw [List.length_take]; have := HLE.out; omega)
  have HCL := Lib.hid (fun m (hm : m ≤ L.length) => h.cut_l slPair szPair (m := m) hm)
  have HE : ∃ n, L.length = n := ⟨_, rfl⟩
  obtain ⟨n, en⟩ := HE
  rw [en] at HP hn HRK HLE HHL hcut ⊢
  simp only [en] at HHAS HCL
  have HN := Lib.hid en
  generalize hasF key L = q at *
  generalize rankF key L = r at *
  generalize hTK : L.take r = TK at *
  have HTK := Lib.hid hTK
  have hr := HLE.out
  have HNN := Lib.hid hn
  generalize key.length = kl at *
  generalize u.length = ul at *
  clear h hs hk hu en hrt hTK hkl hul
  go_enter Try.func50, Try.ntmps50
  go_wp2_with fail
  refine HRK.out.mono ?_
  rintro e w1 ⟨rfl, ht1⟩
  have HT1 := Lib.hid ht1
  clear ht1 HRK
  go_wp2_with (refine wpList_append_rl rfl (.tmp 12) (.tmp 15) rfl (.agg #[.slice none 0 0, .slice none 0 0]) Try.underlying26 infoPair rfl (by decide) (by decide) (by decide) (.slice none 0 0) (.slice ch r cc) rfl (OL.nil (base := w.heap.size)) rfl w HRT.out HT1.out (Nat.le_refl _) ?p1 HT1.out.size ?p2)
  case p1 => rw [HLT.out]; simp; have := HNN.out; omega
  intro v2 w2 ho2 ht2
  have HO2 := Lib.hid (show PO w.heap.size w2 v2 TK from by simpa using ho2.out)
  have HT2 := Lib.hid (show Touch Nil w w2 from HT1.out.trans' ht2.out fun b hb hs => by cases hs)
  obtain ⟨va2, vl2, vc2, rfl⟩ := HO2.out.form3
  clear ho2 ht2 hcut
  go_wp2_with fail
  refine (HCK.out _ HT2.out).mono ?_
  rintro e w3 ⟨k3, rfl, hk3, ht3⟩
  obtain ⟨ka3, kl3, kc3, rfl⟩ := hk3.form
  have HO3 := Lib.hid (HO2.out.keepN ht3)
  have HK3 := Lib.hid hk3
  have HT3 := Lib.hid (HT2.out.trans ht3)
  clear hk3 ht3 HO2
  go_wp2_with fail
  refine (HCU.out _ HT3.out).mono ?_
  rintro e w4 ⟨u4, rfl, hu4, ht4⟩
  obtain ⟨ua4, ul4, uc4, rfl⟩ := hu4.form
  have HK4 := Lib.hid (HK3.out.keep ht4 (fun _ _ c => c))
  have HU4 := Lib.hid hu4
  have HTA := Lib.hid ((Touch.refl Nil w4).alloc (.cells #[.slice ka3 kl3 kc3, .slice ua4 ul4 uc4] 45))
  have HO4 := Lib.hid ((HO3.out.keepN ht4).keepN HTA.out)
  have HT4 := Lib.hid ((HT3.out.trans ht4).trans HTA.out)
  have HUS := Lib.hid (show ∀ j v, ([.slice ka3 kl3 kc3, .slice ua4 ul4 uc4] : List Value)[j]? = some v → (w4.alloc (.cells #[.slice ka3 kl3 kc3, .slice ua4 ul4 uc4] 45)).cell? ⟨w4.heap.size, j, none⟩ = some v ∧ KF w.heap.size (w4.alloc (.cells #[.slice ka3 kl3 kc3, .slice ua4 ul4 uc4] 45)) v (pairF (key, u) j) from fun j v hj => by
    refine ⟨by rw [cell_new]; simpa using hj, ?_⟩
    match j, hj with
    | 0, hj => cases hj; exact (KF.ofOwn HK4.out).keepN HTA.out
    | 1, hj => cases hj; exact (KF.ofOwn HU4.out).keepN HTA.out)
  clear hu4 ht4 HO3 HK3
  go_wp2_with (refine wpList_append_el rfl (.tmp 17) (.tmp 23) rfl (.agg #[.slice none 0 0, .slice none 0 0]) Try.underlying26 infoPair rfl (by decide) (by decide) (by decide) (.slice va2 vl2 vc2) rfl HO4.out w4.heap.size 1 rfl [.slice ka3 kl3 kc3, .slice ua4 ul4 uc4] (key, u) rfl HUS.out ?q1 HT4.out.size ?q2)
  case q1 => rw [HLT.out]; have := HNN.out; omega
  intro v5 w5 ho5 ht5
  have HO5 := Lib.hid (show PO w.heap.size w5 v5 (TK ++ [(key, u)]) from ho5.out)
  have HT5 := Lib.hid (show Touch Nil w w5 from HT4.out.trans' ht5.out fun b hb hs => by have := HO4.out.base' b hs; omega)
  obtain ⟨va5, vl5, vc5, rfl⟩ := HO5.out.form3
  clear ho5 ht5 HUS HTA HK4 HU4
  go_wp2_with fail
  refine (HHAS.out _ HT5.out).mono ?_
  rintro e w6 ⟨rfl, ht6⟩
  have HO6 := Lib.hid (HO5.out.keepN ht6)
  have HT6 := Lib.hid (HT5.out.trans ht6)
  clear ht6 HHAS HO5
  cases q with
  | true =>
    have hr1 := HHL.out rfl
    have HPF := Lib.hid (show putF key u L = TK ++ [(key, u)] ++ L.drop (r + 1) from by rw [HPF.out, if_pos rfl])
    obtain ⟨dh, dc, hcut, hrd⟩ := HCL.out (r + 1) hr1
    have HRD := Lib.hid hrd
    have hca : ((r + 1 : Nat) : Int) = (r : Int) + 1 := by omega
    rw [hca] at hcut
    clear hrd hca
    go_wp2_with (refine wpList_append_rl rfl (.tmp 30) (.tmp 33) rfl (.agg #[.slice none 0 0, .slice none 0 0]) Try.underlying26 infoPair rfl (by decide) (by decide) (by decide) (.slice va5 vl5 vc5) (.slice dh (n - (r + 1)) dc) rfl HO6.out rfl w HRD.out HT6.out (Nat.le_refl _) ?r1 HT6.out.size ?r2)
    case r1 => simp; have := HLT.out; have := HNN.out; have := HN.out; omega
    intro v7 w7 ho7 ht7
    have HO7 := Lib.hid ho7.out.rl
    have HT7 := Lib.hid (show Touch Nil w w7 from HT6.out.trans' ht7.out fun b hb hs => by have := HO6.out.base' b hs; omega)
    obtain ⟨va7, vl7, vc7, rfl⟩ := HO7.out.form3
    clear ho7 ht7 hcut
    go_wp2_with fail
    go_ret
    exact ⟨_, rfl, by rw [HPF.out]; first | exact HO7.out | simpa using HO7.out, HT7.out⟩
  | false =>
    have HPF := Lib.hid (show putF key u L = TK ++ [(key, u)] ++ L.drop r from by rw [HPF.out, if_neg (by decide)])
    obtain ⟨dh, dc, hcut, hrd⟩ := HCL.out r hr
    have HRD := Lib.hid hrd
    clear hrd
    go_wp2_with (refine wpList_append_rl rfl (.tmp 30) (.tmp 33) rfl (.agg #[.slice none 0 0, .slice none 0 0]) Try.underlying26 infoPair rfl (by decide) (by decide) (by decide) (.slice va5 vl5 vc5) (.slice dh (n - r) dc) rfl HO6.out rfl w HRD.out HT6.out (Nat.le_refl _) ?s1 HT6.out.size ?s2)
    case s1 => simp; have := HLT.out; have := HNN.out; have := HN.out; omega
    intro v7 w7 ho7 ht7
    have HO7 := Lib.hid ho7.out.rl
    have HT7 := Lib.hid (show Touch Nil w w7 from HT6.out.trans' ht7.out fun b hb hs => by have := HO6.out.base' b hs; omega)
    obtain ⟨va7, vl7, vc7, rfl⟩ := HO7.out.form3
    clear ho7 ht7 hcut
    go_wp2_with fail
    go_ret
    exact ⟨_, rfl, by rw [HPF.out]; first | exact HO7.out | simpa using HO7.out, HT7.out⟩
end Go.Proofs.Ytkkpcndpjkebkaa
