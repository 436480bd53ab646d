import Derived.Test.YtabjpejgnfeegaaPlayD
/- SlotsPlays: the cells that the law asks for and writes over. -/
namespace Go.Proofs.Ytabjpejgnfeegaa
open Go.ChangeShapes Go.WideShapes Go.ChangeAt Go.RowKit Go.Deep
attribute [local go_sem] Oper.semAt_some
theorem refcls {w : World} {ao : Option Addr} {n b C : Nat} {v : Nat → Nat → Value} {p : Nat → Key × Key} {f : Nat → Value} {seed : Int} {ord : Nat → Nat} (hrl : Rl w ao n v p) (hr : w.rowIs b 78 (C * 3) f) (hs : ∀ c, c < C → RowP v (refP seed C n ord p c) (f (c * 3)) (f (c * 3 + 1)) (f (c * 3 + 2)))
    (hp : ∀ c i, c < C → refP seed C n ord p c = some i → i < n) (hl : ∀ i, i < n → (p i).1.length ≤ 1048576 ∧ (p i).2.length ≤ 1048576) : Cls w (some ⟨b, 0, none⟩) C f (refT seed C n ord p) := by
  refine ⟨fun _ => ⟨b, 0, rfl, fun j hj => by rw [Nat.zero_add]; exact hr.cell hj⟩, fun c hc => ⟨by rw [refT_eq]; exact RowP.sees hrl (fun i e => hp c i hc e) (hs c hc), ?_⟩⟩
  rw [refT_eq]
  cases e : refP seed C n ord p c with
  | none => simp [seeK, seeV]
  | some i => exact hl i (hp c i hc e)
theorem or_u8 : ∀ (a : Fin 256) (m : Fin 4), ∃ y : Fin 256, bits BinOp.or IntKind.u8 (a.1 : Int) (m.1 : Int) = (y.1 : Int) := by decide +kernel
theorem or_byte (x m : Nat) (hm : m < 4) : ∃ y : Nat, y ≤ 255 ∧ bits BinOp.or IntKind.u8 ((x : Int) % 256) (m : Int) = (y : Int) := by
  obtain ⟨y, hy⟩ := or_u8 ⟨x % 256, Nat.mod_lt _ (by omega)⟩ ⟨m, hm⟩
  refine ⟨y.1, by have := y.2; omega, ?_⟩
  rw [show ((x : Int) % 256) = ((x % 256 : Nat) : Int) by omega]
  exact hy
theorem spl_row {lo b t n : Nat} {w w' : World} {f : Nat → Value} (h : w.rowIs b t n f) (hs : Spl lo w w') (ht : t ≠ 5) : w'.rowIs b t n f :=
  h.of_block (hs.other h.lt fun cs e => by
    rw [row_block h] at e
    injection e with e
    injection e with _ e
    exact ht e)
theorem row_bytes {b t n : Nat} {w : World} {f : Nat → Value} (h : w.rowIs b t n f) (ht : t ≠ 5) : ∀ c, Just b c → ∀ cs, w.heap[c]? ≠ some (.cells cs 5 (0, 0)) := fun c hc cs e => by
  have hc : c = b := hc
  subst hc
  rw [row_block h] at e
  injection e with e
  injection e with _ e
  exact ht e
/-- The cells that are handed out, while they are written over. -/
def Wiped (lo C : Nat) (f f' : Nat → Value) (w : World) : Prop := ∀ c, c < C → (∃ q, f' (c * 3) = .bool q) ∧ f' (c * 3 + 1) = f (c * 3 + 1) ∧ f' (c * 3 + 2) = f (c * 3 + 2) ∧ S8 lo w (f (c * 3 + 1)) ∧ S8 lo w (f (c * 3 + 2))
theorem Wiped.spl {lo C : Nat} {f f' : Nat → Value} {w w' : World} (h : Wiped lo C f f' w) (hs : Spl lo w w') : Wiped lo C f f' w' := fun c hc => ⟨(h c hc).1, (h c hc).2.1, (h c hc).2.2.1, (h c hc).2.2.2.1.spl hs, (h c hc).2.2.2.2.spl hs⟩
theorem rlOf {Z : Nat → Prop} {w : World} {la : Option Addr} {ln lc : Nat} {L : KVs} (h : PZ Z w (.slice la ln lc) L) : ∃ v, L.length = ln ∧ Rl w la L.length v (atL L) := by
  obtain ⟨ao, cap, v, e, hrl⟩ := h.toRl
  cases e
  exact ⟨v, rfl, hrl⟩

set_option maxRecDepth 100000 in
set_option maxHeartbeats 8000000 in
theorem does4 {R Z : Nat → Prop} {B0 m : Nat} {n C : Nat} {T : Cells} {L : KVs} {w : World} {p : Option Addr} {seed : Int} {la : Option Addr} {ln lc : Nat} {kd : Int} {ka va : Option Addr} {kl kc vl vc : Nat} {key val : Key} (hk : BV w (.slice ka kl kc) key) (hv : BV w (.slice va vl vc) val) (hkl : key.length ≤ 1200) (hvl : val.length ≤ 1200) (h : StR R Z B0 w (.pointer p) seed (.slice la ln lc) n C T L) (hB : B0 ≤ w.heap.size) (hm : L.length + 1 ≤ m) (hm2 : m ≤ 1000) (hkd : kd.tmod 8 = 4) :
    Calls Try.prog 33 #[.pointer p, .int .u64 seed, .slice la ln lc, .agg #[.int .i64 kd, .slice ka kl kc, .slice va vl vc], .bool true] w (DoesP B0 m (.pointer p) seed w) := by
  have HST := Lib.hid h
  have HBB := Lib.hid hB
  have HM := Lib.hid hm
  have HM2 := Lib.hid hm2
  obtain ⟨en, eC, hTT⟩ := list_good h.tab.good h.inn h.dist (by omega)
  obtain ⟨v, hv1, hv2⟩ := rlOf h.lz.pz
  have HEQ := Lib.hid (show ∀ ord, Ordr (fun i j => bfS seed (atL L i).1 (atL L j).1) L.length ord → ∀ c, c < C → T c = refT seed C L.length ord (atL L) c from fun ord ho c hc => by
    rw [hTT ord ho c hc, eC])
  have HTB := Lib.hid (show ∀ w', Touch Nil w w' → Calls Try.prog 36 #[.int .u64 seed, .slice la ln lc] w' (TablePost seed C L.length v (atL L) w') from fun w' ht => by
    have := table_any seed lc (hv2.keepN ht) (by omega) (fun i hi => by have := h.okay _ (atL_mem hi); omega)
    rw [← eC, hv1] at this
    rw [hv1]
    exact this)
  have HCB := Lib.hid (show C ≤ 300000 from h.tab.good.free.2.1)
  have HCL := Lib.hid (show ∀ w' b f ord, Touch Nil w w' → w'.rowIs b 78 (C * 3) f → (∀ c, c < C → RowP v (refP seed C L.length ord (atL L) c) (f (c * 3)) (f (c * 3 + 1)) (f (c * 3 + 2))) → Ordr (fun i j => bfS seed (atL L i).1 (atL L j).1) L.length ord → Cls w' (some ⟨b, 0, none⟩) C f (refT seed C L.length ord (atL L)) from fun w' b f ord ht hr hs ho =>
    refcls (hv2.keepN ht) hr hs (fun c i hc e => refP_lt (by have := h.tab.good.free.1; omega) (by have := h.tab.good.2.2.1; omega) ho hc e) fun i hi => by have := h.okay _ (atL_mem hi); omega)
  clear hTT en eC hv1 hv2
  clear h hB hm hm2
  have HK := Lib.hid hk
  have HV := Lib.hid hv
  have HKL := Lib.hid hkl
  have HVL := Lib.hid hvl
  clear hk hv hkl hvl
  go_enter Try.func33, Try.ntmps33
  go_wp2_with fail
  have hbx := heap_alloc_new w (.cells #[.int .i64 kd, .slice ka kl kc, .slice va vl vc] 48)
  have HT2 := Lib.hid ((Touch.refl Nil w).alloc (.cells #[.int .i64 kd, .slice ka kl kc, .slice va vl vc] 48))
  have HE : ∃ B, w.heap.size = B := ⟨_, rfl⟩
  obtain ⟨B, eB⟩ := HE
  rw [eB] at hbx ⊢
  have HEB := Lib.hid eB
  have HE : ∃ w2, w.alloc (.cells #[.int .i64 kd, .slice ka kl kc, .slice va vl vc] 48) = w2 := ⟨_, rfl⟩
  obtain ⟨w2, ew2⟩ := HE
  rw [ew2] at hbx HT2 ⊢
  have HE : ∃ N, w2.heap.size = N := ⟨_, rfl⟩
  obtain ⟨N, eN⟩ := HE
  have HNN := Lib.hid eN
  have HBX := Lib.hid hbx
  have HKW := Lib.hid (HK.out.keepN HT2.out)
  have HVW := Lib.hid (HV.out.keepN HT2.out)
  have HNB := Lib.hid (show N = B + 1 from by rw [← eN, ← ew2, nblk_alloc, eB])
  clear hbx ew2 eN eB
  refine (wpIn_wide (n := 7)).1 (region_inv (by kernel_rfl) (by kernel_rfl) (fun J a W => J.size = 10 ∧ Touch Nil w2 W ∧ ∃ SA SB v12 v13 v32 v33 v34 v35 v36 v37 v38 v39, a = { tmps := #[.pointer p, .int .u64 seed, .slice la ln lc, .agg #[.int .i64 kd, .slice ka kl kc, .slice va vl vc], .bool true, undef, undef, undef, .pointer (some ⟨B, 0, none⟩), undef, .slice none 0 0, .bool false, v12, v13, undef, undef, undef, undef, undef, undef, undef, undef, undef, undef, undef, undef, undef, undef, undef, undef, undef, undef, v32, v33, v34, v35, v36, v37, v38, v39, undef, undef, undef, undef, undef, undef, undef, undef, undef, undef, undef, undef, undef, undef, undef, undef, undef, undef, undef, undef, undef, undef, undef, undef, undef, undef, undef, undef, undef, undef, undef, undef, undef, undef, undef, undef, undef, undef, undef, undef, undef, undef, undef, undef, undef, undef, undef, undef, undef, undef, undef, undef, undef, undef, undef, undef, undef, undef, undef, undef, undef, undef, undef, undef, undef, undef, undef, undef, undef, undef, undef, undef, undef, undef, undef, undef, undef, undef, undef, undef, undef, undef, undef, undef, undef, undef, undef, undef, undef, undef, undef, undef, undef, undef, undef, undef, undef, undef, undef, undef, undef, undef, undef, undef, undef, undef, undef, undef, undef, undef, undef, undef, undef, undef, undef, undef, undef, undef, undef, undef, undef, undef, undef, undef, undef, undef, undef, undef, undef, undef, undef, undef, undef, undef, undef, undef, undef, undef, undef, undef, undef, undef, undef, undef, undef, undef, undef, undef, undef, undef, undef, undef, undef, undef, undef, undef, undef, undef], defers := [] } ∧ D1 N B key val (.slice ka kl kc) (.slice va vl vc) J W SA SB v12 v13 v32 v33 v34 v35 v36 v37 v38 v39) ?_ ?_ ?_)
  · exact ⟨rfl, (Touch.refl Nil w2).drew, fun _ => False, fun _ => False, undef, undef, undef, undef, undef, undef, undef, undef, undef, undef, rfl, { f0 := fun h _ => absurd h (by decide), f1 := fun h => absurd h (by decide), f2 := fun h => absurd h (by decide), f3 := fun h => absurd h (by decide), f4 := fun h _ => absurd h (by decide), f5 := fun h => absurd h (by decide), f6 := fun h => absurd h (by decide), f7 := fun h => absurd h (by decide), f8 := fun h => absurd h (by decide), f9 := fun h => absurd h (by decide), t := Nat.le_of_eq HNN.out.symm, sa := fun b h => h.elim, sb := fun b h => h.elim, d := fun b h => h.elim }⟩
  · rintro J a w3 ⟨hs, ht, SA, SB, v12, v13, v32, v33, v34, v35, v36, v37, v38, v39, rfl, y⟩ hall
    have hL := allL hs hall
    have hk := y.f3 (hL 3 (by decide))
    have hv := y.f7 (hL 7 (by decide))
    have e1 := (y.f8 (hL 8 (by decide))).1
    have e2 := (y.f9 (hL 9 (by decide))).1
    subst e1 e2
    obtain ⟨xa, xl, xc, rfl⟩ := hk.1.form
    obtain ⟨ya, yl, yc, rfl⟩ := hv.1.form
    have HX := Lib.hid hk.1
    have HY := Lib.hid hv.1
    have HXY := Lib.hid (show ∀ b, OwnOf (.slice xa xl xc) b → ¬ OwnOf (.slice ya yl yc) b from fun b h1 h2 => y.d b (hk.2 b h1) (hv.2 b h2))
    have HT3 := Lib.hid (HT2.out.trans ht)
    have HTN := Lib.hid ht
    have hbx := (ht.same B (lt_heap HBX.out) fun c => c).trans HBX.out
    have HBX3 := Lib.hid hbx
    have b0 : w3.cell? ⟨B, 0, none⟩ = some (.int .i64 kd) := by simp [World.cell?, hbx]
    have b1 : w3.cell? ⟨B, 1, none⟩ = some (.slice ka kl kc) := by simp [World.cell?, hbx]
    have b2 : w3.cell? ⟨B, 2, none⟩ = some (.slice va vl vc) := by simp [World.cell?, hbx]
    have HK3 := Lib.hid (HKW.out.keepN ht)
    have HV3 := Lib.hid (HVW.out.keepN ht)
    have HN3 := Lib.hid y.t
    clear y hL hall hs hk hv hbx
    go_wp2_with fail
    refine (HTB.out _ (HT3.out.alloc (.cells #[] 78))).mono ?_
    rintro e w4 ⟨b4, f4, ord, rfl, hb4, hr4, hord, hsh4, ht4⟩
    have HT4 := Lib.hid ((HT3.out.alloc (.cells #[] 78)).trans ht4)
    have HC4 := Lib.hid (HCL.out _ _ _ _ HT4.out hr4 hsh4 hord)
    have HTT := Lib.hid (HEQ.out ord hord)
    clear hb4 hr4 hord hsh4 ht4 b0 b1 b2
    go_wp2_with fail
    refine (cells_any (HST.out.tab.keepN HT4.out)).mono ?_
    rintro e w5 ⟨b5, f5, rfl, hb5, hr5, hsh5, ht5⟩
    have HT5 := Lib.hid (HT4.out.trans ht5)
    have HC5 := Lib.hid (shown_cls HST.out.tab hr5 hsh5)
    have HR5 := Lib.hid hr5
    have HLO := Lib.hid (show w.heap.size ≤ w4.heap.size from HT4.out.size)
    have HLO5 := Lib.hid hb5
    have HW5 := Lib.hid (show Wiped w4.heap.size C f5 f5 w5 from fun c hc => by
      have hl := (HC5.out.see c hc).2
      have hs := hsh5 c hc
      cases e : T c with
      | none =>
        rw [e] at hs
        obtain ⟨h1, h2, h3⟩ := hs
        exact ⟨⟨_, h1⟩, rfl, rfl, by rw [h2]; exact S8.nil _ _, by rw [h3]; exact S8.nil _ _⟩
      | some q =>
        rw [e] at hs hl
        obtain ⟨h1, h2, h3⟩ := hs
        exact ⟨⟨_, h1⟩, rfl, rfl, h2.s8 (Nat.le_refl _) (by have h4 := hl.1; simp only [seeK] at h4; omega), h3.s8 (Nat.le_refl _) (by have h4 := hl.2; simp only [seeV] at h4; omega)⟩)
    have HSM := Lib.hid (sameCells_true (c1 := C) (c2 := C) (by have := HCB.out; omega) HC5.out (HC4.out.keepN ht5) HTT.out)
    clear hb5 hr5 hsh5 ht5
    go_wp2_with fail
    refine HSM.out.mono ?_
    rintro e w6 ⟨rfl, ht6⟩
    have HT6 := Lib.hid (HT5.out.trans ht6)
    have HR6 := Lib.hid (ht6.row HR5.out (fun c => c))
    have HW6 := Lib.hid (HW5.out.spl (Spl.of_nil ht6))
    have HE : ∃ lo, w4.heap.size = lo := ⟨_, rfl⟩
    obtain ⟨lo, elo⟩ := HE
    rw [elo] at HW6 HLO HLO5
    clear ht6 HSM HC4 HC5 HW5 HR5 elo
    have hcb := HCB.out
    go_wp2_with fail
    go_loopw [27] (fun i wr => ∃ (x : Nat) (f : Nat → Value), x ≤ C ∧ i = .int .i64 (x : Int) ∧ wr.rowIs b5 78 (C * 3) f ∧ Hid (Wiped lo C f5 f wr) ∧ Hid (Touch (From lo) w6 wr)) (fun i _ => C - (intOf i).toNat)
    case atStart => exact ⟨0, f5, Nat.zero_le _, rfl, HR6.out, HW6, Lib.hid (Touch.refl _ _)⟩
    obtain ⟨x, f, hx, rfl, hrow, HWX, HTX⟩ := hrel
    obtain ⟨wx, rfl⟩ : ∃ wx : World, wx = wr := ⟨_, rfl⟩
    have HRX := Lib.hid hrow
    clear hrow
    by_cases hlt : x < C
    · obtain ⟨⟨q, g0⟩, g1, g2, s1, s2⟩ := HWX.out x hlt
      have o0 := HRX.out.cell (i := x * 3) (by omega)
      have o1 := HRX.out.cell (i := x * 3 + 1) (by omega)
      have o2 := HRX.out.cell (i := x * 3 + 2) (by omega)
      obtain ⟨p1, l1, c1, e1⟩ := s1.form
      obtain ⟨p2, l2, c2, e2⟩ := s2.form
      rw [g0] at o0
      rw [g1, e1] at o1
      rw [g2, e2] at o2
      rw [e1] at s1
      obtain ⟨m1, hm1, hor1⟩ := or_byte x 1 (by decide)
      obtain ⟨m2, hm2, hor2⟩ := or_byte x 2 (by decide)
      have hor1' : bits BinOp.or IntKind.u8 ((x : Int) % 256) 1 = (m1 : Int) := hor1
      have hor2' : bits BinOp.or IntKind.u8 ((x : Int) % 256) 2 = (m2 : Int) := hor2
      have HSP := Lib.hid (spoilS_any s1 m1 hm1)
      have HE2 := Lib.hid e2
      have HQ := Lib.hid g0
      have HG2 := Lib.hid g2
      have i1 : (x : Int) < (C : Int) := by omega
      have i2 : (0 : Int) ≤ (x : Int) := by omega
      clear s1 s2 g0 g1 g2 e1 e2 hor1 hor2 o2
      go_wp2_with fail
      refine HSP.out.mono ?_
      rintro e w7 ⟨rfl, hs7, ht7⟩
      have HR7 := Lib.hid (spl_row HRX.out hs7 (by decide))
      have HW7 := Lib.hid (HWX.out.spl hs7)
      have HT7 := Lib.hid (HTX.out.trans hs7.touch)
      have s2 := (HW7.out x hlt).2.2.2.2
      rw [HE2.out] at s2
      have HSP2 := Lib.hid (spoilS_any s2 m2 hm2)
      have o0 := HR7.out.cell (i := x * 3) (by omega)
      have o2 := HR7.out.cell (i := x * 3 + 2) (by omega)
      rw [HQ.out] at o0
      rw [HG2.out, HE2.out] at o2
      clear hs7 ht7 s2 HSP o1
      go_wp2_with fail
      refine HSP2.out.mono ?_
      rintro e w8 ⟨rfl, hs8, ht8⟩
      have HR8 := Lib.hid (spl_row HR7.out hs8 (by decide))
      have HW8 := Lib.hid (HW7.out.spl hs8)
      have HT8 := Lib.hid (HT7.out.trans hs8.touch)
      have o0 := HR8.out.cell (i := x * 3) (by omega)
      rw [HQ.out] at o0
      have z0 := HR8.out.frozen (x * 3)
      have HR9 := Lib.hid (HR8.out.set (x * 3) (.bool (!q)))
      have HTS := Lib.hid ((Touch.refl (Just b5) w8).setCell ⟨b5, x * 3, none⟩ (.bool (!q)) fun _ => rfl)
      have HB5 := Lib.hid (show lo ≤ b5 from HLO5.out)
      have HT9 := Lib.hid (HT8.out.setCell ⟨b5, x * 3, none⟩ (.bool (!q)) fun _ => HB5.out)
      have HW9 := Lib.hid (show Wiped lo C f5 (fun j => if j = x * 3 then .bool (!q) else f j) (w8.setCell ⟨b5, x * 3, none⟩ (.bool (!q))) from fun c hc => by
        obtain ⟨⟨q', h0⟩, h1, h2, h3, h4⟩ := HW8.out c hc
        refine ⟨?_, (if_neg (by omega)).trans h1, (if_neg (by omega)).trans h2, h3.keep HTS.out (row_bytes HR8.out (by decide)), h4.keep HTS.out (row_bytes HR8.out (by decide))⟩
        by_cases e : c * 3 = x * 3
        · exact ⟨_, if_pos e⟩
        · exact ⟨q', (if_neg e).trans h0⟩)
      clear hs8 ht8 HSP2
      go_wp2_with fail
      go_roundw
      case rel => exact ⟨x + 1, _, by omega, by go_num, HR9.out, HW9, HT9⟩
      case measure => simp [intOf]; omega
    · obtain rfl : x = C := by omega
      have HS9 := Lib.hid ((HST.out.keepN HT6.out).keep HTX.out fun b hb => HST.out.far (by have hb : lo ≤ b := hb; have := HLO.out; omega))
      have HT9 := Lib.hid (show Touch (From B0) w wx from HT6.out.of_nil.trans' HTX.out fun b hb hs => by have hs : lo ≤ b := hs; have := HLO.out; have := HBB.out; show B0 ≤ b; omega)
      go_wp2_with fail
      go_ret2
      exact ⟨_, _, _, rfl, ⟨R, Z, n, x, T, L, HS9.out, by have h1 := HM.out; omega⟩, HT9.out⟩
  · rintro J a W i o ho ⟨hs, ht, SA, SB, v12, v13, v32, v33, v34, v35, v36, v37, v38, v39, rfl, y⟩ hl hd K hK
    have hi : i < 10 := (Array.getElem?_eq_some_iff.1 ho).1
    have hbx := (ht.same B (lt_heap HBX.out) fun c => c).trans HBX.out
    have b1 : W.cell? ⟨B, 1, none⟩ = some (.slice ka kl kc) := by simp [World.cell?, hbx]
    have b2 : W.cell? ⟨B, 2, none⟩ = some (.slice va vl vc) := by simp [World.cell?, hbx]
    have hN := y.t
    rcases (by omega : i = 0 ∨ i = 1 ∨ i = 2 ∨ i = 3 ∨ i = 4 ∨ i = 5 ∨ i = 6 ∨ i = 7 ∨ i = 8 ∨ i = 9) with rfl | rfl | rfl | rfl | rfl | rfl | rfl | rfl | rfl | rfl
    · obtain rfl := Option.some.inj (show some _ = some o from ho)
      go_simp
      have ta := (Touch.refl Nil W).alloc (.cells #[] 5)
      refine hK _ _ ⟨by simpa using hs, ht.trans ta, (fun b => SA b ∨ b = W.heap.size), SB, _, _, _, _, _, _, _, _, _, _, rfl, { f0 := fun _ _ => ⟨(own_new W).base hN, fun b hb => .inr (by simpa [OwnOf, Value.ownBlock] using hb)⟩, f1 := fun h => y.f1 (stp h (by decide)), f2 := fun h => y.f2 (stp h (by decide)), f3 := fun h => by have k := y.f3 (stp h (by decide)); exact (k.keepN ta).wide (fun _ h => .inl h), f4 := fun h h7 => by have k := y.f4 (stp h (by decide)) (mon' h7); exact k.keepN ta, f5 := fun h => y.f5 (stp h (by decide)), f6 := fun h => y.f6 (stp h (by decide)), f7 := fun h => by have k := y.f7 (stp h (by decide)); exact k.keepN ta, f8 := fun h => ⟨(y.f8 (stp h (by decide))).1, mon (y.f8 (stp h (by decide))).2⟩, f9 := fun h => ⟨(y.f9 (stp h (by decide))).1, mon (y.f9 (stp h (by decide))).2⟩, t := by rw [nblk_alloc]; omega, sa := fun b h => by rw [nblk_alloc]; rcases h with h | h; (have := y.sa b h; omega); (subst h; omega), sb := fun b h => by rw [nblk_alloc]; have := y.sb b h; omega, d := fun b h hb => by rcases h with h | h; (exact y.d b h hb); (subst h; have := y.sb _ hb; omega) }⟩
    · obtain rfl := Option.some.inj (show some _ = some o from ho)
      go_simp
      refine hK _ _ ⟨by simpa using hs, ht, SA, SB, _, _, _, _, _, _, _, _, _, _, rfl, { f0 := fun h h3 => by have k := y.f0 (stp h (by decide)) (mon' h3); exact k, f1 := fun _ => rfl, f2 := fun h => y.f2 (stp h (by decide)), f3 := fun h => by have k := y.f3 (stp h (by decide)); exact k, f4 := fun h h7 => by have k := y.f4 (stp h (by decide)) (mon' h7); exact k, f5 := fun h => y.f5 (stp h (by decide)), f6 := fun h => y.f6 (stp h (by decide)), f7 := fun h => by have k := y.f7 (stp h (by decide)); exact k, f8 := fun h => ⟨(y.f8 (stp h (by decide))).1, mon (y.f8 (stp h (by decide))).2⟩, f9 := fun h => ⟨(y.f9 (stp h (by decide))).1, mon (y.f9 (stp h (by decide))).2⟩, t := hN, sa := y.sa, sb := y.sb, d := y.d }⟩
    · obtain rfl := Option.some.inj (show some _ = some o from ho)
      have e := (y.f1 (hd ⟨1, .data⟩ (by simp) rfl)).symm
      subst e
      go_simp
      refine hK _ _ ⟨by simpa using hs, ht, SA, SB, _, _, _, _, _, _, _, _, _, _, rfl, { f0 := fun h h3 => by have k := y.f0 (stp h (by decide)) (mon' h3); exact k, f1 := fun h => y.f1 (stp h (by decide)), f2 := fun _ => rfl, f3 := fun h => by have k := y.f3 (stp h (by decide)); exact k, f4 := fun h h7 => by have k := y.f4 (stp h (by decide)) (mon' h7); exact k, f5 := fun h => y.f5 (stp h (by decide)), f6 := fun h => y.f6 (stp h (by decide)), f7 := fun h => by have k := y.f7 (stp h (by decide)); exact k, f8 := fun h => ⟨(y.f8 (stp h (by decide))).1, mon (y.f8 (stp h (by decide))).2⟩, f9 := fun h => ⟨(y.f9 (stp h (by decide))).1, mon (y.f9 (stp h (by decide))).2⟩, t := hN, sa := y.sa, sb := y.sb, d := y.d }⟩
    · obtain rfl := Option.some.inj (show some _ = some o from ho)
      have e := (y.f2 (hd ⟨2, .data⟩ (by simp) rfl)).symm
      subst e
      have ho := y.f0 (hd ⟨0, .data⟩ (by simp) rfl) (fun h => ngd hl h)
      rw [if_pos (by simp [Region.wanted])]
      refine opIn_append_bytes (.tmp 32) (.tmp 34) rfl v32 (.slice ka kl kc) key rfl ho.1 rfl (HKW.out.keepN ht) (by have := HKL.out; omega) hN ?_
      intro v' W' h1 h2 h3
      have hx : ∀ b, SB b → ¬ OwnOf v32 b := fun b hb hs => y.d b (ho.2 b hs) hb
      have tn : Touch Nil w2 W' := ht.trans' h2 fun b hb hs => by have h4 := y.sa b (ho.2 b hs); have := HNN.out; omega
      go_simp
      refine hK _ _ ⟨by simpa using hs, tn, (fun b => SA b ∨ (W.heap.size ≤ b ∧ b < W'.heap.size)), SB, _, _, _, _, _, _, _, _, _, _, rfl, { f0 := fun h hn => absurd (set_of (i := 3) (by rw [hs]; decide)) hn, f1 := fun h => y.f1 (stp h (by decide)), f2 := fun h => y.f2 (stp h (by decide)), f3 := fun _ => ⟨h1, fun b hb => (h3 b hb).elim (fun h => .inl (ho.2 b h)) fun h => .inr ⟨h, (h1.block b hb).2⟩⟩, f4 := fun h h7 => by have k := y.f4 (stp h (by decide)) (mon' h7); exact k.keep h2 hx, f5 := fun h => y.f5 (stp h (by decide)), f6 := fun h => y.f6 (stp h (by decide)), f7 := fun h => by have k := y.f7 (stp h (by decide)); exact k.keep h2 hx, f8 := fun h => (ngd hl (y.f8 (stp h (by decide))).2).elim, f9 := fun h => ⟨(y.f9 (stp h (by decide))).1, mon (y.f9 (stp h (by decide))).2⟩, t := Nat.le_trans hN h2.size, sa := fun b h => by have := h2.size; rcases h with h | h; (have := y.sa b h; omega); omega, sb := fun b h => by have := h2.size; have := y.sb b h; omega, d := fun b h hb => by rcases h with h | h; (exact y.d b h hb); (have := y.sb b hb; omega) }⟩
    · obtain rfl := Option.some.inj (show some _ = some o from ho)
      go_simp
      have ta := (Touch.refl Nil W).alloc (.cells #[] 5)
      refine hK _ _ ⟨by simpa using hs, ht.trans ta, SA, (fun b => SB b ∨ b = W.heap.size), _, _, _, _, _, _, _, _, _, _, rfl, { f0 := fun h h3 => by have k := y.f0 (stp h (by decide)) (mon' h3); exact k.keepN ta, f1 := fun h => y.f1 (stp h (by decide)), f2 := fun h => y.f2 (stp h (by decide)), f3 := fun h => by have k := y.f3 (stp h (by decide)); exact k.keepN ta, f4 := fun _ _ => ⟨(own_new W).base hN, fun b hb => .inr (by simpa [OwnOf, Value.ownBlock] using hb)⟩, f5 := fun h => y.f5 (stp h (by decide)), f6 := fun h => y.f6 (stp h (by decide)), f7 := fun h => by have k := y.f7 (stp h (by decide)); exact (k.keepN ta).wide (fun _ h => .inl h), f8 := fun h => ⟨(y.f8 (stp h (by decide))).1, mon (y.f8 (stp h (by decide))).2⟩, f9 := fun h => ⟨(y.f9 (stp h (by decide))).1, mon (y.f9 (stp h (by decide))).2⟩, t := by rw [nblk_alloc]; omega, sa := fun b h => by rw [nblk_alloc]; have := y.sa b h; omega, sb := fun b h => by rw [nblk_alloc]; rcases h with h | h; (have := y.sb b h; omega); (subst h; omega), d := fun b h hb => by rcases hb with hb | hb; (exact y.d b h hb); (subst hb; have := y.sa _ h; omega) }⟩
    · obtain rfl := Option.some.inj (show some _ = some o from ho)
      go_simp
      refine hK _ _ ⟨by simpa using hs, ht, SA, SB, _, _, _, _, _, _, _, _, _, _, rfl, { f0 := fun h h3 => by have k := y.f0 (stp h (by decide)) (mon' h3); exact k, f1 := fun h => y.f1 (stp h (by decide)), f2 := fun h => y.f2 (stp h (by decide)), f3 := fun h => by have k := y.f3 (stp h (by decide)); exact k, f4 := fun h h7 => by have k := y.f4 (stp h (by decide)) (mon' h7); exact k, f5 := fun _ => rfl, f6 := fun h => y.f6 (stp h (by decide)), f7 := fun h => by have k := y.f7 (stp h (by decide)); exact k, f8 := fun h => ⟨(y.f8 (stp h (by decide))).1, mon (y.f8 (stp h (by decide))).2⟩, f9 := fun h => ⟨(y.f9 (stp h (by decide))).1, mon (y.f9 (stp h (by decide))).2⟩, t := hN, sa := y.sa, sb := y.sb, d := y.d }⟩
    · obtain rfl := Option.some.inj (show some _ = some o from ho)
      have e := (y.f5 (hd ⟨5, .data⟩ (by simp) rfl)).symm
      subst e
      go_simp
      refine hK _ _ ⟨by simpa using hs, ht, SA, SB, _, _, _, _, _, _, _, _, _, _, rfl, { f0 := fun h h3 => by have k := y.f0 (stp h (by decide)) (mon' h3); exact k, f1 := fun h => y.f1 (stp h (by decide)), f2 := fun h => y.f2 (stp h (by decide)), f3 := fun h => by have k := y.f3 (stp h (by decide)); exact k, f4 := fun h h7 => by have k := y.f4 (stp h (by decide)) (mon' h7); exact k, f5 := fun h => y.f5 (stp h (by decide)), f6 := fun _ => rfl, f7 := fun h => by have k := y.f7 (stp h (by decide)); exact k, f8 := fun h => ⟨(y.f8 (stp h (by decide))).1, mon (y.f8 (stp h (by decide))).2⟩, f9 := fun h => ⟨(y.f9 (stp h (by decide))).1, mon (y.f9 (stp h (by decide))).2⟩, t := hN, sa := y.sa, sb := y.sb, d := y.d }⟩
    · obtain rfl := Option.some.inj (show some _ = some o from ho)
      have e := (y.f6 (hd ⟨6, .data⟩ (by simp) rfl)).symm
      subst e
      have ho := y.f4 (hd ⟨4, .data⟩ (by simp) rfl) (fun h => ngd hl h)
      rw [if_pos (by simp [Region.wanted])]
      refine opIn_append_bytes (.tmp 36) (.tmp 38) rfl v36 (.slice va vl vc) val rfl ho.1 rfl (HVW.out.keepN ht) (by have := HVL.out; omega) hN ?_
      intro v' W' h1 h2 h3
      have hx : ∀ b, SA b → ¬ OwnOf v36 b := fun b hb hs => y.d b hb (ho.2 b hs)
      have tn : Touch Nil w2 W' := ht.trans' h2 fun b hb hs => by have h4 := y.sb b (ho.2 b hs); have := HNN.out; omega
      go_simp
      refine hK _ _ ⟨by simpa using hs, tn, SA, (fun b => SB b ∨ (W.heap.size ≤ b ∧ b < W'.heap.size)), _, _, _, _, _, _, _, _, _, _, rfl, { f0 := fun h h3 => by have k := y.f0 (stp h (by decide)) (mon' h3); exact k.keep h2 hx, f1 := fun h => y.f1 (stp h (by decide)), f2 := fun h => y.f2 (stp h (by decide)), f3 := fun h => by have k := y.f3 (stp h (by decide)); exact k.keep h2 hx, f4 := fun h hn => absurd (set_of (i := 7) (by rw [hs]; decide)) hn, f5 := fun h => y.f5 (stp h (by decide)), f6 := fun h => y.f6 (stp h (by decide)), f7 := fun _ => ⟨h1, fun b hb => (h3 b hb).elim (fun h => .inl (ho.2 b h)) fun h => .inr ⟨h, (h1.block b hb).2⟩⟩, f8 := fun h => ⟨(y.f8 (stp h (by decide))).1, mon (y.f8 (stp h (by decide))).2⟩, f9 := fun h => (ngd hl (y.f9 (stp h (by decide))).2).elim, t := Nat.le_trans hN h2.size, sa := fun b h => by have := h2.size; have := y.sa b h; omega, sb := fun b h => by have := h2.size; rcases h with h | h; (have := y.sb b h; omega); omega, d := fun b h hb => by rcases hb with hb | hb; (exact y.d b h hb); (have := y.sa b h; omega) }⟩
    · obtain rfl := Option.some.inj (show some _ = some o from ho)
      go_simp
      refine hK _ _ ⟨by simpa using hs, ht, SA, SB, _, _, _, _, _, _, _, _, _, _, rfl, { f0 := fun h h3 => by have k := y.f0 (stp h (by decide)) (mon' h3); exact k, f1 := fun h => y.f1 (stp h (by decide)), f2 := fun h => y.f2 (stp h (by decide)), f3 := fun h => by have k := y.f3 (stp h (by decide)); exact k, f4 := fun h h7 => by have k := y.f4 (stp h (by decide)) (mon' h7); exact k, f5 := fun h => y.f5 (stp h (by decide)), f6 := fun h => y.f6 (stp h (by decide)), f7 := fun h => by have k := y.f7 (stp h (by decide)); exact k, f8 := fun _ => ⟨rfl, mon (hd ⟨3, .data⟩ (by simp) rfl)⟩, f9 := fun h => ⟨(y.f9 (stp h (by decide))).1, mon (y.f9 (stp h (by decide))).2⟩, t := hN, sa := y.sa, sb := y.sb, d := y.d }⟩
    · obtain rfl := Option.some.inj (show some _ = some o from ho)
      go_simp
      refine hK _ _ ⟨by simpa using hs, ht, SA, SB, _, _, _, _, _, _, _, _, _, _, rfl, { f0 := fun h h3 => by have k := y.f0 (stp h (by decide)) (mon' h3); exact k, f1 := fun h => y.f1 (stp h (by decide)), f2 := fun h => y.f2 (stp h (by decide)), f3 := fun h => by have k := y.f3 (stp h (by decide)); exact k, f4 := fun h h7 => by have k := y.f4 (stp h (by decide)) (mon' h7); exact k, f5 := fun h => y.f5 (stp h (by decide)), f6 := fun h => y.f6 (stp h (by decide)), f7 := fun h => by have k := y.f7 (stp h (by decide)); exact k, f8 := fun h => ⟨(y.f8 (stp h (by decide))).1, mon (y.f8 (stp h (by decide))).2⟩, f9 := fun _ => ⟨rfl, mon (hd ⟨7, .data⟩ (by simp) rfl)⟩, t := hN, sa := y.sa, sb := y.sb, d := y.d }⟩

end Go.Proofs.Ytabjpejgnfeegaa
