import Derived.Test.YticddcnlafbkoaaDoorGrow2
/- add, where the number of cells changes. -/
namespace Go.Proofs.YticddcnlafbkoaaDoor
open Go.ChangeShapes Go.WideShapes Go.ChangeAt Go.RowKit Go.Deep

/-- What a body has behind a new pair. -/
def AddP (R : Nat → Prop) (bb bc0 : Nat) (seed : Int) (n C : Nat) (T0 : Cells) (p0 : Key × Key) (w : World) (e : Ending) (w' : World) : Prop :=
  e = .returned (.tuple #[]) ∧ ∃ bc vv T, Bod (fun b => R b ∨ (w.heap.size ≤ b ∧ b < w'.heap.size)) w' bb bc seed (n + 1) (cellsN (n + 1)) vv T ∧ Good seed (n + 1) (cellsN (n + 1)) T ∧ (∀ x, InT (cellsN (n + 1)) T x ↔ InT C T0 x ∨ x = p0) ∧ Touch (fun b => b = bb ∨ b = bc0) w w'

theorem Bod.widen {R R' : Nat → Prop} {w : World} {bb bc : Nat} {seed : Int} {n C : Nat} {vv : Nat → Nat → Value} {T : Cells} (h : Bod R w bb bc seed n C vv T) (hR : ∀ b, R b → b < w.heap.size → R' b) (h1 : R' bb) (h2 : R' bc) : Bod R' w bb bc seed n C vv T := by
  refine ⟨h.body, h.row, fun c hc => ?_, h1, h2⟩
  have := h.cells c hc
  have ob : ∀ x l, OB R w x l → OB R' w x l := fun x l hx => ⟨hx.1, fun b hb => ⟨hR b (hx.2 b hb).1 (hx.lt hb), (hx.2 b hb).2⟩⟩
  cases e : T c with
  | none => rw [e] at this; exact this
  | some p => rw [e] at this; exact ⟨ob _ _ this.1, ob _ _ this.2.1, this.2.2⟩

/-- The pairs of a table and one more. -/
def prsP (T : Cells) (C : Nat) (p0 : Key × Key) (i : Nat) : Key × Key := if i < (fullL T C).length then (T (nthF T C i)).getD ([], []) else p0
def prsV (vv : Nat → Nat → Value) (T : Cells) (C : Nat) (x y : Value) (i c : Nat) : Value := if i < (fullL T C).length then vv (nthF T C i) (c % 2) else if c % 2 = 0 then x else y

theorem prsP_in {T : Cells} {C : Nat} {p0 : Key × Key} {i : Nat} (hi : i < (fullL T C).length) : T (nthF T C i) = some (prsP T C p0 i) := by
  have h := (nthF_lt T C i hi).2
  unfold prsP
  rw [if_pos hi]
  cases e : T (nthF T C i) with
  | none => rw [e] at h; cases h
  | some p => rfl
theorem prsP_last {T : Cells} {C : Nat} {p0 : Key × Key} : prsP T C p0 (fullL T C).length = p0 := by unfold prsP; rw [if_neg (by omega)]
theorem prsP_ne {seed : Int} {T : Cells} {C : Nat} {p0 : Key × Key} (hC : 0 < C) (hr : Runs (bfS seed) (homS seed C) C T) (hn : ∀ v, ¬ InT C T (p0.1, v)) : ∀ i j, i < (fullL T C).length + 1 → j < (fullL T C).length + 1 → i ≠ j → (prsP T C p0 i).1 ≠ (prsP T C p0 j).1 := by
  have key : ∀ i j, i < (fullL T C).length → j < (fullL T C).length + 1 → i ≠ j → (prsP T C p0 i).1 ≠ (prsP T C p0 j).1 := by
    intro i j hi hj hne e
    have ei := prsP_in (p0 := p0) hi
    by_cases hj' : j < (fullL T C).length
    · have ej := prsP_in (p0 := p0) hj'
      have : nthF T C i = nthF T C j := hr.inj (koS seed) (homS_lt hC seed) (k := (prsP T C p0 i).1) (v := (prsP T C p0 i).2) (v' := (prsP T C p0 j).2) (nthF_lt T C i hi).1 (nthF_lt T C j hj').1 ei (by rw [e]; exact ej)
      exact hne (nthF_inj T C i j hi hj' this)
    · have : j = (fullL T C).length := by omega
      subst this
      rw [prsP_last] at e
      exact hn (prsP T C p0 i).2 ⟨_, (nthF_lt T C i hi).1, by rw [← e]; exact ei⟩
  intro i j hi hj hne
  by_cases hi' : i < (fullL T C).length
  · exact key i j hi' hj hne
  · by_cases hj' : j < (fullL T C).length
    · exact fun e => key j i hj' hi (fun h => hne h.symm) e.symm
    · omega
theorem prsP_all {T : Cells} {C : Nat} {p0 : Key × Key} (x : Key × Key) : (∃ i, i < (fullL T C).length + 1 ∧ x = prsP T C p0 i) ↔ InT C T x ∨ x = p0 := by
  constructor
  · rintro ⟨i, hi, rfl⟩
    by_cases h : i < (fullL T C).length
    · exact .inl ⟨_, (nthF_lt T C i h).1, prsP_in h⟩
    · have : i = (fullL T C).length := by omega
      subst this
      exact .inr prsP_last
  · rintro (⟨c, hc, e⟩ | rfl)
    · obtain ⟨i, hi, ei⟩ := nthF_all T C c hc (by rw [e]; rfl)
      refine ⟨i, by omega, ?_⟩
      have := prsP_in (p0 := p0) hi
      rw [ei, e] at this
      exact Option.some.inj this
    · exact ⟨_, Nat.lt_succ_self _, prsP_last.symm⟩

set_option maxRecDepth 100000 in
set_option maxHeartbeats 4000000 in
theorem add_grow (R : Nat → Prop) (bb bc : Nat) (seed : Int) (n C a0 : Nat) (vv : Nat → Nat → Value) (T0 : Cells) (p0 : Key × Key) (x y : Value) (w : World) (hB : Bod R w bb bc seed n C vv T0) (hp : CellOk R w x y (some p0))
    (hn : n < 100000) (hc : cellsN (n + 1) ≠ C) (hC : 8 ≤ C) (hC2 : C ≤ 1048576) (hg : Good seed n C T0) (hnew : ∀ v, ¬ InT C T0 (p0.1, v)) :
    Calls Tryd.prog 56 #[.pointer (some ⟨bb, 0, none⟩), .int .i64 a0, .agg #[x, y]] w (AddP R bb bc seed n C T0 p0 w) := by
  have HB := Lib.hid hB
  have HC := Lib.hid hp
  have HG := Lib.hid hg
  have HNEW := Lib.hid hnew
  have lb := hB.lb
  have c1 := hB.countC
  obtain ⟨ao0, l0, cap0, bo0, m0, cap0', rfl, rfl, _, _, _, _⟩ := hp.form
  have HCF := Lib.hid (fun w => cellsFor_any (n + 1) w (by omega))
  have hneq : (((cellsN (n + 1) : Nat) : Int) != (C : Int)) = true := by simp; omega
  have z1 : w.frozen? ⟨bb, 1, none⟩ = false := by simp [World.frozen?, hB.body]
  have HBA := Lib.hid (hB.count (n + 1))
  have hcast : ((n + 1 : Nat) : Int) = (n : Int) + 1 := rfl
  rw [hcast] at HBA HCF
  have HE : ∃ C', cellsN (n + 1) = C' := ⟨_, rfl⟩
  obtain ⟨C', eC'⟩ := HE
  have HEC := Lib.hid eC'
  rw [eC'] at HCF hneq hc
  have HQ : ∃ W, (w.setCell ⟨bb, 1, none⟩ (.int .i64 ((n : Int) + 1))).alloc (.cells #[.slice ao0 l0 cap0, .slice bo0 m0 cap0'] 79) = W := ⟨_, rfl⟩
  obtain ⟨W, eW⟩ := HQ
  have htA := (Touch.refl Nil (w.setCell ⟨bb, 1, none⟩ (.int .i64 ((n : Int) + 1)))).alloc (.cells #[.slice ao0 l0 cap0, .slice bo0 m0 cap0'] 79)
  have hbx := heap_alloc_new (w.setCell ⟨bb, 1, none⟩ (.int .i64 ((n : Int) + 1))) (.cells #[.slice ao0 l0 cap0, .slice bo0 m0 cap0'] 79)
  rw [nblk_setCell] at hbx
  rw [eW] at htA hbx
  have hrow : w.rowIs bb 72 3 (fun i => if i = 0 then .int .u64 seed else if i = 1 then .int .i64 n else .slice (some ⟨bc, 0, none⟩) C C) := ⟨_, hB.body, rfl, fun i hi => by
    have : i = 0 ∨ i = 1 ∨ i = 2 := by omega
    rcases this with rfl | rfl | rfl <;> rfl⟩
  have HBW := Lib.hid (HBA.out.1.keepN htA)
  have HTW := Lib.hid ((HBA.out.2).trans htA.of_nil)
  have HCW := Lib.hid (((hp.keep HBA.out.2 (notBytes_row hrow (by decide)) (R' := R) fun _ r => r)).keep htA (notBytes_nil _) (R' := R) fun _ r => r)
  have HBX := Lib.hid hbx
  have HEW := Lib.hid eW
  clear hB hp hg hnew htA hbx hrow eW HBA eC'
  go_enter Tryd.func56, Tryd.ntmps56
  go_wp2_with fail
  rw [HEW.out]
  have d1 := HBW.out.countC
  have d2 := HBW.out.cellsC
  rw [hcast] at d1
  go_quiet (first | (go_at_call 61; refine Calls.quiet_of_same (v := .int .i64 (C' : Int)) ?_; exact (HCF.out _).mono fun _ _ h => ⟨h.1, h.2.symm⟩))
  have HT1 := Lib.hid ((Touch.refl Nil W).drewN nq)
  have HQ : ∃ W1, W.drewN nq = W1 := ⟨_, rfl⟩
  obtain ⟨W1, e1⟩ := HQ
  rw [e1] at HT1 ⊢
  clear d1 d2 e1
  have HB1 := Lib.hid (HBW.out.keepN HT1.out)
  have hbx1 : W1.heap[w.heap.size]? = some (.cells #[.slice ao0 l0 cap0, .slice bo0 m0 cap0'] 79 (0, 0)) := (HT1.out.same _ (Array.getElem?_eq_some_iff.1 HBX.out).1 (fun c => c)).trans HBX.out
  have d3 : W1.cell? ⟨w.heap.size, 0, none⟩ = some (.slice ao0 l0 cap0) := by simp [World.cell?, hbx1]
  have d4 : W1.cell? ⟨w.heap.size, 1, none⟩ = some (.slice bo0 m0 cap0') := by simp [World.cell?, hbx1]
  clear hbx1
  go_wp2_with fail
  have HLN := Lib.hid (show (fullL T0 C).length = n from by
    have h1 := fullL_len T0 C
    have h2 := HG.out.2.2.1
    omega)
  have hws : w.heap.size ≤ W1.heap.size := Nat.le_trans HTW.out.size HT1.out.size
  have HPA := Lib.hid (show ∀ wx, Touch Nil W1 wx → Calls Tryd.prog 63 #[.pointer (some ⟨bb, 0, none⟩)] wx (fun e w3 => ∃ va vcap, e = .returned (.slice va n vcap) ∧ Hid (w3.ownsRow W1.heap.size 79 2 (.slice va n vcap) n (flat 2 (fun i c => vv (nthF T0 C i) c) n)) ∧ Hid (Touch Nil wx w3) ∧ Hid (Touch Nil W1 w3) ∧ w3.cell? ⟨w.heap.size, 0, none⟩ = some (.slice ao0 l0 cap0) ∧ w3.cell? ⟨w.heap.size, 1, none⟩ = some (.slice bo0 m0 cap0')) from fun wx ht =>
    (pairs_any (HB1.out.keepN ht) hC2).mono fun e w3 ⟨v3, he, ho, ht3⟩ => by
      rw [HLN.out] at ho
      obtain ⟨va, vcap, rfl, _⟩ := own_row ho
      have lbx := World.block_lt_of_cell? W1 _ d3
      exact ⟨va, vcap, he, Lib.hid (own_lower ho ht.size), Lib.hid ht3, Lib.hid (ht.trans ht3), (ht3.cell (Nat.lt_of_lt_of_le lbx ht.size) (fun c => c) 0).trans ((ht.cell lbx (fun c => c) 0).trans d3), (ht3.cell (Nat.lt_of_lt_of_le lbx ht.size) (fun c => c) 1).trans ((ht.cell lbx (fun c => c) 1).trans d4)⟩)
  have HCA := Lib.hid (show ∀ (wx : World) q u, ([.slice ao0 l0 cap0, .slice bo0 m0 cap0'] : List Value)[q]? = some u → (wx.alloc (.cells #[.slice ao0 l0 cap0, .slice bo0 m0 cap0'] 79)).cell? ⟨wx.heap.size, q, none⟩ = some u from fun wx q u hq => by rw [cell_new]; simpa using hq)
  have HCB := Lib.hid (show ∀ (wx w3 : World), Touch Nil wx w3 → wx.heap = (W1.alloc (.cells #[.slice ao0 l0 cap0, .slice bo0 m0 cap0'] 79)).heap → ∀ q u, ([.slice ao0 l0 cap0, .slice bo0 m0 cap0'] : List Value)[q]? = some u → w3.cell? ⟨W1.heap.size, q, none⟩ = some u from fun wx w3 ht he q u hq => by
    have hsz : W1.heap.size < wx.heap.size := by rw [he]; simp
    have hc : wx.cell? ⟨W1.heap.size, q, none⟩ = (W1.alloc (.cells #[.slice ao0 l0 cap0, .slice bo0 m0 cap0'] 79)).cell? ⟨W1.heap.size, q, none⟩ := World.cell?_of_block (by rw [he])
    rw [ht.cell hsz (fun c => c), hc, cell_new]; simpa using hq)
  have HON := Lib.hid (show ∀ u ∈ ([.slice ao0 l0 cap0, .slice bo0 m0 cap0'] : List Value), u.oneCell' = true from fun u hu => by
    simp at hu
    rcases hu with rfl | rfl <;> rfl)
  have HJ := Lib.hid (show n ≤ 1048576 by omega)
  have HPRS := Lib.hid (show ∀ w4, Touch Nil W1 w4 → ∀ i, i < n + 1 → CellOk R w4 (prsV vv T0 C (.slice ao0 l0 cap0) (.slice bo0 m0 cap0') i 0) (prsV vv T0 C (.slice ao0 l0 cap0) (.slice bo0 m0 cap0') i 1) (some (prsP T0 C p0 i)) from fun w4 ht i hi => by
    by_cases h : i < n
    · have h' : i < (fullL T0 C).length := by rw [HLN.out]; exact h
      have hc' := (HB1.out.keepN ht).cells (nthF T0 C i) (nthF_lt T0 C i h').1
      rw [prsP_in (p0 := p0) h'] at hc'
      unfold prsV
      rw [if_pos h', if_pos h']
      exact hc'
    · have h' : ¬ i < (fullL T0 C).length := by rw [HLN.out]; exact h
      have e : i = (fullL T0 C).length := by rw [HLN.out]; omega
      unfold prsV
      rw [if_neg h', if_neg h', e, prsP_last]
      exact (HCW.out.keep HT1.out (notBytes_nil _) (R' := R) fun _ r => r).keep ht (notBytes_nil _) fun _ r => r)
  have HSP := Lib.hid (show ∀ w4 v4, Hid (w4.ownsRow W1.heap.size 79 2 v4 (n + 1) (flat 2 (fun i c => vv (nthF T0 C i) c) n ++ [.slice ao0 l0 cap0, .slice bo0 m0 cap0'])) → Touch Nil W1 w4 → Calls Tryd.prog 62 #[.pointer (some ⟨bb, 0, none⟩), v4] w4 (SpreadPost R bb seed (n + 1) (n + 1) (prsP T0 C p0) w4) from fun w4 v4 ho ht => by
    obtain ⟨ao, cap, rfl, hcell⟩ := own_row ho.out
    have hbase := own_base ho.out
    have hprs := HPRS.out w4 ht
    refine spread_any (R := R) (v := prsV vv T0 C (.slice ao0 l0 cap0) (.slice bo0 m0 cap0')) (HB1.out.keepN ht).body HB1.out.rb ⟨fun h0 => ?_, hprs, fun i c => ?_⟩ (by have := prsP_ne (p0 := p0) (show 0 < C by omega) HG.out.1 HNEW.out; rw [HLN.out] at this; exact this) (by omega) (fun h0 b o e => ?_)
    · obtain ⟨g, rfl, _, hg, hc⟩ := hcell h0
      refine ⟨g, 0, rfl, hg, fun i hi c hc' => ?_⟩
      rw [show 0 + i * 2 + c = i * 2 + c by omega, hc _ (by omega)]
      have hl := flat_len 2 (fun i c => vv (nthF T0 C i) c) n
      have hc2 : c % 2 = c := by omega
      by_cases h : i < n
      · rw [List.getElem?_append_left (by omega), flat_get 2 _ n i c h hc']
        unfold prsV
        rw [if_pos (by rw [HLN.out]; exact h), hc2]
      · rw [List.getElem?_append_right (by omega), hl]
        unfold prsV
        rw [if_neg (by rw [HLN.out]; exact h), hc2]
        have : i = n := by omega
        subst this
        have hcc : c = 0 ∨ c = 1 := by omega
        rcases hcc with rfl | rfl
        · rw [show i * 2 + 0 - i * 2 = 0 by omega]; rfl
        · rw [show i * 2 + 1 - i * 2 = 1 by omega]; rfl
    · by_cases h : i < n
      · obtain ⟨a1, l1, c1, a2, l2, c2, e1, e2, _⟩ := (hprs i (by omega)).form
        unfold prsV at e1 e2 ⊢
        rw [if_pos (by rw [HLN.out]; exact h)] at e1 e2 ⊢
        have : c % 2 = 0 ∨ c % 2 = 1 := by omega
        rcases this with h | h
        · rw [h, show (0 : Nat) = 0 % 2 from rfl, e1]; rfl
        · rw [h, show (1 : Nat) = 1 % 2 from rfl, e2]; rfl
      · unfold prsV
        rw [if_neg (by rw [HLN.out]; exact h)]
        split <;> rfl
    · obtain ⟨g, e', hb, _⟩ := hcell h0
      rw [e] at e'
      cases e'
      have := HB1.out.lb
      omega)
  go_region_law (first
    | (refine step_append_one rfl (.tmp 26) (.tmp 28) 26 79 rfl W1.heap.size 2 48 _ Tryd.underlying26 infoPair rfl (Nat.succ_pos _) (by decide) (.slice va3 n vcap3) n _ rfl (own_keepN HO3.out ((Touch.refl Nil w3).alloc _)) w3.heap.size 1 rfl [.slice ao0 l0 cap0, .slice bo0 m0 cap0'] rfl (HCA.out w3) HON.out HJ.out (by have := HT3'.out.size; rw [nblk_alloc]; omega) ?_; intro v4 w4 HO4 HT4; have HT5 := Lib.hid (show Touch Nil W1 w4 from (HT3'.out.alloc _).trans' HT4.out fun b hb hs => by have := own_base HO3.out b hs; omega))
    | (refine step_append_one rfl (.tmp 26) (.tmp 28) 26 79 rfl W1.heap.size 2 48 _ Tryd.underlying26 infoPair rfl (Nat.succ_pos _) (by decide) (.slice va3 n vcap3) n _ rfl HO3.out W1.heap.size 1 rfl [.slice ao0 l0 cap0, .slice bo0 m0 cap0'] rfl (HCB.out _ w3 HT3.out rfl) HON.out HJ.out (by have := HT3'.out.size; omega) ?_; intro v4 w4 HO4 HT4; have HT5 := Lib.hid (show Touch Nil W1 w4 from HT3'.out.trans' HT4.out fun b hb hs => by have := own_base HO3.out b hs; omega))
    | (go_simp; go_at_call 63; refine (HPA.out _ ?_).mono ?_; (first | exact (Touch.refl Nil W1).drew | exact (Touch.refl Nil W1).drew.alloc _ | exact ((Touch.refl Nil W1).alloc _).drew); rintro e w3 ⟨va3, vcap3, rfl, HO3, HT3, HT3', d5, d6⟩)
    | (go_simp; go_at_call 62; refine (HSP.out _ _ HO4 HT5.out).mono ?_; rintro e w5 ⟨rfl, bc5, vv5, T5, hb5, hB5, hr5, hi5, hf5, ht5⟩))
  all_goals
    have HR := Lib.hid (show ∃ bc' vv T, Bod (fun b => R b ∨ (w.heap.size ≤ b ∧ b < w5.heap.size)) w5 bb bc' seed (n + 1) (cellsN (n + 1)) vv T ∧ Good seed (n + 1) (cellsN (n + 1)) T ∧ (∀ x, InT (cellsN (n + 1)) T x ↔ InT C T0 x ∨ x = p0) ∧ Touch (fun b => b = bb ∨ b = bc) w w5 from by
      have h45 := HT5.out.size
      refine ⟨bc5, vv5, T5, hB5.widen (fun b hb hlt => ?_) (.inl HB.out.rb) (.inr ⟨by omega, hB5.lc⟩), ⟨hr5, rfl, hf5, by omega⟩, fun x => ?_, ?_⟩
      · rcases hb with hb | rfl
        · exact .inl hb
        · exact .inr ⟨by omega, hlt⟩
      · rw [hi5 x]
        have := prsP_all (T := T0) (C := C) (p0 := p0) x
        rw [HLN.out] at this
        exact this
      · exact ((HTW.out.trans ((HT1.out.trans HT5.out).of_nil)).trans ht5).mono fun b _ e => .inl e)
    clear hB5 hr5 hi5 hf5 ht5
    go_wp2_with fail
    go_end0
    exact ⟨rfl, HR.out⟩
end Go.Proofs.YticddcnlafbkoaaDoor
