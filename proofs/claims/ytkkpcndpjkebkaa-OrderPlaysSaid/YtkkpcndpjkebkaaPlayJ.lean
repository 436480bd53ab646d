import Derived.Test.YtkkpcndpjkebkaaJoin
import Derived.Test.YtkkpcndpjkebkaaRefG
/- What OrderPlays wants besides: joins that do not fit. -/
namespace Go.Proofs.Ytkkpcndpjkebkaa
open Go.ChangeShapes Go.WideShapes Go.ChangeAt Go.RowKit Go.Deep

/-- Whether lists are in order, one behind the other. -/
def fitsB (L M : Pairs) : Bool := match L.getLast?, M[0]? with
  | some p, some q => klt p.1 q.1
  | _, _ => true
theorem fits_all {L M : Pairs} (hL : Srt L) (hM : Srt M) (h : fitsB L M = true) : ∀ x ∈ L, ∀ y ∈ M, klt x.1 y.1 = true := by
  intro x hx y hy
  have hne : L ≠ [] := by rintro rfl; cases hx
  have hme : M ≠ [] := by rintro rfl; cases hy
  obtain ⟨L', p, rfl⟩ : ∃ L' p, L = L' ++ [p] := ⟨_, _, (List.dropLast_concat_getLast hne).symm⟩
  obtain ⟨q, M', rfl⟩ : ∃ q M', M = q :: M' := by cases M with | nil => exact absurd rfl hme | cons q M' => exact ⟨q, M', rfl⟩
  have hpq : klt p.1 q.1 = true := by simpa [fitsB] using h
  have h1 : x = p ∨ klt x.1 p.1 = true := by
    rcases List.mem_append.1 hx with h | h
    · exact .inr (((srt_node (l := L') (r := []) (k := p.1) (v := p.2)).1 hL).2.2.1 x h)
    · exact .inl (List.mem_singleton.1 h)
  have h2 : y = q ∨ klt q.1 y.1 = true := by
    rcases List.mem_cons.1 hy with h | h
    · exact .inl h
    · exact .inr (((srt_node (l := []) (r := M') (k := q.1) (v := q.2)).1 hM).2.2.2 y h)
  rcases h1 with rfl | h1 <;> rcases h2 with rfl | h2
  · exact hpq
  · exact klt_ko.trans _ _ _ hpq h2
  · exact klt_ko.trans _ _ _ h1 hpq
  · exact klt_ko.trans _ _ _ (klt_ko.trans _ _ _ h1 hpq) h2
/-- The definition's answer. -/
def fitsF (L M : Pairs) : Int := if fitsB L M = false then 7 else if 100000 < L.length + M.length then 5 else 0
set_option maxRecDepth 100000 in
set_option maxHeartbeats 4000000 in
theorem fitsR_any {w : World} {x y : Value} {L M : Pairs} (hx : PL w x L) (hy : PL w y M) (hL : Short L) (hM : Short M) (hn : L.length ≤ 1000000) (hm : M.length ≤ 1000000) :
    Calls Try.prog 103 #[x, y] w (fun e w' => e = .returned (.int .i64 (fitsF L M)) ∧ Touch Nil w w') := by
  obtain ⟨xa, xc, rfl⟩ := hx.form
  obtain ⟨ya, yc, rfl⟩ := hy.form
  obtain ⟨n, en⟩ : ∃ n, L.length = n := ⟨_, rfl⟩
  obtain ⟨m, em⟩ : ∃ m, M.length = m := ⟨_, rfl⟩
  have HFF := Lib.hid (show fitsF L M = if fitsB L M = false then 7 else if 100000 < n + m then 5 else 0 from by unfold fitsF; rw [en, em])
  rw [en] at hx hn ⊢
  rw [em] at hy hm ⊢
  have HX := Lib.hid hx
  have HY := Lib.hid hy
  by_cases h0 : n = 0 ∨ m = 0
  · have HF := Lib.hid (show fitsB L M = true from by
      rcases h0 with h0 | h0
      · have : L = [] := List.eq_nil_of_length_eq_zero (by omega)
        subst this; rfl
      · have : M = [] := List.eq_nil_of_length_eq_zero (by omega)
        subst this
        unfold fitsB
        cases L.getLast? <;> rfl)
    have hF := HFF.out
    rw [HF.out, if_neg (by decide)] at hF
    have HFR := Lib.hid hF
    clear hF hx hy hL hM en em
    go_enter Try.func103, Try.ntmps103
    by_cases hs : 100000 < n + m
    · have q1 : decide ((100000 : Int) < (n : Int) + (m : Int)) = true := by simp; omega
      by_cases hn0 : n = 0
      · subst hn0
        go_wp2_with fail
        go_quiet (fail)
        go_wp2_with fail
        go_ret
        exact ⟨by rw [HFR.out, if_pos hs]; rfl, (Touch.refl Nil w).drewN _⟩
      · have hm0 : m = 0 := by omega
        subst hm0
        have p1 : decide ((0 : Int) < (n : Int)) = true := by simp; omega
        have p2 : decide (0 < n) = true := by simp; omega
        go_wp2_with fail
        go_quiet (fail)
        go_wp2_with fail
        go_ret
        exact ⟨by rw [HFR.out, if_pos hs]; rfl, (Touch.refl Nil w).drewN _⟩
    · have q1 : decide ((100000 : Int) < (n : Int) + (m : Int)) = false := by simp; omega
      by_cases hn0 : n = 0
      · subst hn0
        go_wp2_with fail
        go_quiet (fail)
        go_wp2_with fail
        go_ret
        exact ⟨by rw [HFR.out, if_neg hs]; rfl, (Touch.refl Nil w).drewN _⟩
      · have hm0 : m = 0 := by omega
        subst hm0
        have p1 : decide ((0 : Int) < (n : Int)) = true := by simp; omega
        have p2 : decide (0 < n) = true := by simp; omega
        go_wp2_with fail
        go_quiet (fail)
        go_wp2_with fail
        go_ret
        exact ⟨by rw [HFR.out, if_neg hs]; rfl, (Touch.refl Nil w).drewN _⟩
  · have hn1 : 0 < n := by omega
    have hm1 : 0 < m := by omega
    obtain ⟨p, hp⟩ : ∃ p, L[n - 1]? = some p := ⟨L[n - 1]'(by omega), List.getElem?_eq_getElem _⟩
    obtain ⟨q, hq⟩ : ∃ q, M[0]? = some q := ⟨M[0]'(by omega), List.getElem?_eq_getElem _⟩
    obtain ⟨xb, xo, rfl, _, f, hc, hf⟩ := hx.at hp
    obtain ⟨yb, yo, rfl, _, g, hc', hf'⟩ := hy.at hq
    have c0 := hc 0 (by omega)
    have d0 := hc' 0 (by omega)
    rw [Nat.add_zero] at c0
    rw [Nat.zero_mul, Nat.add_zero] at d0
    have hkp : BV w (f 0) p.1 := hf 0 (by omega)
    have hkq : BV w (g 0) q.1 := hf' 0 (by omega)
    have HSP := Lib.hid (And.intro (hL p (List.mem_of_getElem? hp)).1 (hM q (List.mem_of_getElem? hq)).1)
    obtain ⟨fa, fc, ef⟩ := hkp.len'
    obtain ⟨ga, gc, eg⟩ := hkq.len'
    rw [ef] at c0 hkp
    rw [eg] at d0 hkq
    obtain ⟨z, ez⟩ : ∃ z, cmpR p.1 q.1 = z := ⟨_, rfl⟩
    have HCM := Lib.hid (fun k => compareV_any (hkp.keepN ((Touch.refl Nil w).drewN k)) (hkq.keepN ((Touch.refl Nil w).drewN k)) (by have := HSP.out.1; omega) (by have := HSP.out.2; omega))
    simp only [ez] at HCM
    have HFB := Lib.hid (show fitsB L M = decide (z < 0) from by
      have hl : L.getLast? = some p := by rw [List.getLast?_eq_getElem?, en]; exact hp
      unfold fitsB
      rw [hl, hq]
      show klt p.1 q.1 = decide (z < 0)
      rw [Bool.eq_iff_iff, klt_iff, ← cmpR_neg, ez]
      simp)
    generalize p.1.length = kl at *
    generalize q.1.length = ul at *
    have e1 : ((n - 1 : Nat) : Int) = (n : Int) - 1 := by omega
    have i1 : (n : Int) - 1 < (n : Int) := by omega
    have i2 : (0 : Int) ≤ (n : Int) - 1 := by omega
    have i3 : ((n : Int) - 1).toNat = n - 1 := by omega
    have i4 : (0 : Int) < (m : Int) := by omega
    have p1 : decide ((0 : Int) < (n : Int)) = true := by simp; omega
    have p2 : decide (0 < n) = true := by simp; omega
    have p3 : decide ((0 : Int) < (m : Int)) = true := by simp; omega
    have p4 : decide (0 < m) = true := by simp; omega
    clear hx hy hL hM en em h0 hp hq hc hf hc' hf' hkp hkq ef eg ez
    go_enter Try.func103, Try.ntmps103
    by_cases hz : z < 0
    · have hz1 : decide ((0 : Int) ≤ z) = false := by simp; omega
      by_cases hs : 100000 < n + m
      · have q1 : decide ((100000 : Int) < (n : Int) + (m : Int)) = true := by simp; omega
        go_wp2_with fail
        go_quiet ((go_at_call 58; exact Calls.quiet_of (HCM.out _)))
        go_wp2_with fail
        go_ret
        exact ⟨by rw [HFF.out, HFB.out, decide_eq_true hz, if_neg (by decide), if_pos hs]; rfl, (Touch.refl Nil w).drewN _⟩
      · have q1 : decide ((100000 : Int) < (n : Int) + (m : Int)) = false := by simp; omega
        go_wp2_with fail
        go_quiet ((go_at_call 58; exact Calls.quiet_of (HCM.out _)))
        go_wp2_with fail
        go_ret
        exact ⟨by rw [HFF.out, HFB.out, decide_eq_true hz, if_neg (by decide), if_neg hs]; rfl, (Touch.refl Nil w).drewN _⟩
    · have HZF := Lib.hid (decide_eq_false hz)
      have hz1 : decide ((0 : Int) ≤ z) = true := by simp; omega
      go_wp2_with fail
      go_quiet ((go_at_call 58; exact Calls.quiet_of (HCM.out _)))
      go_wp2_with fail
      go_ret
      exact ⟨by rw [HFF.out, HFB.out, HZF.out, if_pos rfl]; rfl, (Touch.refl Nil w).drewN _⟩
set_option maxRecDepth 100000 in
set_option maxHeartbeats 4000000 in
/-- Maps whose keys are not in order are not joined. -/
theorem join_bad {seed : Int} {R S : Nat → Prop} {w : World} {ma ba mc bc : Nat} {ra rc : Option Addr} {s u : Tree} (ha : MapAt seed R w ma ba ra s) (hc : MapAt seed S w mc bc rc u) (hne : ba ≠ bc) (hf : fitsB s.toL u.toL = false) :
    Calls Try.prog 44 #[.pointer (some ⟨ma, 0, none⟩), .pointer (some ⟨mc, 0, none⟩)] w (fun e w' => e = .returned (.tuple #[.pointer none, .int .i64 7]) ∧ Touch Nil w w') := by
  have HA := Lib.hid ha
  have HC := Lib.hid hc
  have HK := Lib.hid (fun n => kin_maps (ha.keepN ((Touch.refl Nil w).drewN n)) (hc.keepN ((Touch.refl Nil w).drewN n)))
  simp only [beq_self_eq_true] at HK
  have x0 := cells1 ha.top
  have x1 := cells1 hc.top
  obtain ⟨y0, y1⟩ := cells2 ha.body
  obtain ⟨z0, z1⟩ := cells2 hc.body
  have hE : ∀ n, (binOp .eql 99 (.pointer (some ⟨ba, 0, none⟩)) (.pointer (some ⟨bc, 0, none⟩))).run Try.prog (w.drewN n) = .ok (.bool false) (w.drewN n) := fun n => eql_bodies hne (ha.keepN ((Touch.refl Nil w).drewN n)).body (hc.keepN ((Touch.refl Nil w).drewN n)).body
  have HFB := Lib.hid hf
  clear ha hc hne hf
  go_enter Try.func44, Try.ntmps44
  go_wp2_with fail
  go_quiet ((go_at_call 45; exact Calls.quiet_of (HK.out _)))
  go_wp2_with fail
  obtain ⟨w2, ew2⟩ : ∃ w2, w.drewN nq = w2 := ⟨_, rfl⟩
  have HT2 := Lib.hid (show Touch Nil w w2 from by rw [← ew2]; exact (Touch.refl Nil w).drewN _)
  rw [ew2]
  clear ew2 hE HK
  have x0 := cell_step x0 HT2.out
  have x1 := cell_step x1 HT2.out
  have y0 := cell_step y0 HT2.out
  have y1 := cell_step y1 HT2.out
  have z0 := cell_step z0 HT2.out
  have z1 := cell_step z1 HT2.out
  go_quiet (fail)
  obtain ⟨w3, ew3⟩ : ∃ w3, w2.drewN nq = w3 := ⟨_, rfl⟩
  have HT3 := Lib.hid (show Touch Nil w w3 from by rw [← ew3]; exact HT2.out.drewN _)
  rw [ew3]
  clear ew3 x0 x1 y0 y1 z0 z1 HT2
  rcases s with _ | ⟨l, k, v, r⟩
  · have := HFB.out; simp [fitsB, Tree.toL] at this
  obtain ⟨b1, _, _, _, e1, _⟩ := HA.out.tree.node
  cases e1
  rcases u with _ | ⟨l', k', v', r'⟩
  · have := HFB.out
    unfold fitsB at this
    simp only [Tree.toL] at this
    split at this <;> simp_all
  obtain ⟨b2, _, _, _, e2, _⟩ := HC.out.tree.node
  cases e2
  have HKK := Lib.hid (show klt (lastT [] (.node l k v r)) (firstT [] (.node l' k' v' r')) = false from by
    obtain ⟨v1, L1, e1⟩ := lastT_spec (.node l k v r) [] (by simp)
    obtain ⟨v2, L2, e2⟩ := firstT_spec (.node l' k' v' r') [] (by simp)
    have := HFB.out
    rw [e1, e2] at this
    simpa [fitsB] using this)
  obtain ⟨c1, hc1⟩ := lastB_ex _ _ (by simp) (HA.out.keepN HT3.out).tree
  obtain ⟨c2, hc2⟩ := firstB_ex _ _ (by simp) (HC.out.keepN HT3.out).tree
  obtain ⟨_, _, _, _, _, _, hl⟩ := hc1.at []
  obtain ⟨_, _, _, _, _, _, hf⟩ := hc2.at []
  have HLA := Lib.hid (fun n => last_fix (hc1.keepN ((Touch.refl Nil w3).drewN n)))
  have HFI := Lib.hid (fun n => first_fix (hc2.keepN ((Touch.refl Nil w3).drewN n)))
  generalize lastT [] (.node l k v r) = k1 at *
  generalize firstT [] (.node l' k' v' r') = k2 at *
  have l0 := (node_cells hl.blk).1
  have g0 := (node_cells hf.blk).1
  obtain ⟨ib, kx, ux, rfl, _, hib, hbk, _, _⟩ := hl.item
  obtain ⟨jb, mx, vx, rfl, _, hjb, hjk, _, _⟩ := hf.item
  obtain ⟨l1, _, _⟩ := item_cells hib
  obtain ⟨g1, _, _⟩ := item_cells hjb
  obtain ⟨z, ez⟩ : ∃ z, Lib.compareBytes k1 k2 = z := ⟨_, rfl⟩
  have hz1 : decide ((0 : Int) ≤ z) = true := by
    have h := HKK.out
    unfold klt at h
    rw [ez] at h
    have h := of_decide_eq_false h
    simp; omega
  have HCM := Lib.hid (fun n => show Calls Try.prog 91 #[kx, mx] (w3.drewN n) fun e w' => e = .returned (.int .i64 z) ∧ w3.drewN n = w' from by rw [← ez]; exact compareP_any (hbk.bv.keepN ((Touch.refl Nil w3).drewN n)) (hjk.bv.keepN ((Touch.refl Nil w3).drewN n)))
  obtain ⟨ka', kn', kc', rfl⟩ := hbk.1.form
  obtain ⟨ma', mn', mc', rfl⟩ := hjk.1.form
  clear ez hc1 hc2 hl hf hib hjb hbk hjk
  go_wp2_with fail
  go_quiet (first
    | (go_at_call 92; refine Calls.quiet_of_same (v := .pointer (some ⟨c1, 0, none⟩)) ?_; exact (HLA.out _).mono fun _ _ h => ⟨h.1, h.2.symm⟩)
    | (go_at_call 93; refine Calls.quiet_of_same (v := .pointer (some ⟨c2, 0, none⟩)) ?_; exact (HFI.out _).mono fun _ _ h => ⟨h.1, h.2.symm⟩)
    | (go_at_call 91; refine Calls.quiet_of_same (v := .int .i64 z) ?_; exact (HCM.out _).mono fun _ _ h => ⟨h.1, h.2.symm⟩))
  go_wp2_with fail
  ((try simp only [Exit.inBlock, Exit.then]); refine bodyPost_ret (results_tmp2 rfl _ _ _) rfl ?_)
  exact ⟨rfl, HT3.out.drewN _⟩
end Go.Proofs.Ytkkpcndpjkebkaa
