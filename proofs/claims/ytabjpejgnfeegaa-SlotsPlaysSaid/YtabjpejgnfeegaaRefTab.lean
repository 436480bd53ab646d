import Derived.Test.YtabjpejgnfeegaaLayRef
import Derived.Test.YtabjpejgnfeegaaRunMath
import Derived.Test.YtabjpejgnfeegaaTab8
import Derived.Test.YtabjpejgnfeegaaScript
import Derived.Test.YtabjpejgnfeegaaSame
import Derived.Test.YtabjpejgnfeegaaLoad
import Derived.Test.YtabjpejgnfeegaaCut
/- The reference's table: how many cells, items, the cells. -/
namespace Go.Proofs.Ytabjpejgnfeegaa
open Go.ChangeShapes Go.WideShapes Go.ChangeAt Go.RowKit Go.Deep

set_option maxHeartbeats 1000000 in
theorem cellsR_any (n : Nat) (w : World) (hn : n ≤ 100001) :
    Calls Try.prog 65 #[.int .i64 n] w fun e w' => e = .returned (.int .i64 ((cellsN n : Nat) : Int)) ∧ w = w' := by
  have HK := Lib.hid (show cellsN n = cfR 18 n 8 from rfl)
  generalize cellsN n = r at *
  go_enter Try.func65, Try.ntmps65
  go_wp2_with fail
  go_loopw [3] (fun i wr => ∃ f c : Nat, i = .int .i64 c ∧ Hid (r = cfR f n c ∧ c * 2 ^ f = 2097152) ∧ 8 ≤ c ∧ wr = w) (fun i _ => 2097152 - (intOf i).toNat)
  case atStart => exact ⟨18, 8, rfl, Lib.hid ⟨HK.out, by decide⟩, by omega, rfl⟩
  obtain ⟨f, c, rfl, HF, hc, rfl⟩ := hrel
  have hc2 : c ≤ 2097152 := by
    have := HF.out.2
    have h2 := Nat.two_pow_pos f
    calc c = c * 1 := by omega
      _ ≤ c * 2 ^ f := Nat.mul_le_mul_left _ h2
      _ = 2097152 := this
  by_cases hlt : 3 * c < 4 * n
  · have hd : decide (3 * (c : Int) < 4 * (n : Int)) = true := by simp; omega
    have hd6 : decide ((6 : Int) < (n : Int)) = true := by rw [decide_eq_true_iff]; omega
    have hd6' : decide (6 < n) = true := by rw [decide_eq_true_iff]; omega
    go_wp2_with fail
    go_roundw
    case rel =>
      cases f with
      | zero => have := HF.out.2; simp at this; omega
      | succ f =>
        refine ⟨f, 2 * c, by go_num, Lib.hid ⟨by rw [HF.out.1]; simp [cfR, hlt], ?_⟩, by omega, by first | rfl | trivial⟩
        have := HF.out.2
        rw [Nat.pow_succ] at this
        rw [Nat.mul_comm 2 c, Nat.mul_assoc, Nat.mul_comm 2]; exact this
    case measure => simp [intOf]; omega
  · have hd : decide (3 * (c : Int) < 4 * (n : Int)) = false := by simp; omega
    have HR := Lib.hid (show c = r by
      rw [HF.out.1]
      cases f with
      | zero => rfl
      | succ f => simp [cfR, hlt])
    by_cases h6 : 6 < n
    · have hd6 : decide ((6 : Int) < (n : Int)) = true := by rw [decide_eq_true_iff]; omega
      have hd6' : decide (6 < n) = true := by rw [decide_eq_true_iff]; omega
      go_wp2_with fail
      go_ret
      exact ⟨by rw [HR.out]; rfl, rfl⟩
    · have hd6 : decide ((6 : Int) < (n : Int)) = false := by rw [decide_eq_false_iff_not]; omega
      have hd6' : decide (6 < n) = false := by rw [decide_eq_false_iff_not]; omega
      go_wp2_with fail
      go_ret
      exact ⟨by rw [HR.out]; rfl, rfl⟩

theorem infoItemT : (Try.prog.info? 32).map (fun i => (i.zero, i.size, i.bytes)) = some (some (.agg #[.int .i64 0, .int .u64 0, .slice none 0 0]), 3, 40) := by kernel_rfl
def ItemPost (seed : Int) (C : Nat) (k : Key) (kx : Value) (w : World) (e : Ending) (w' : World) : Prop := e = .returned (.agg #[.int .i64 ((homS seed C k : Nat) : Int), .int .u64 (rankK seed k), kx]) ∧ Touch Nil w w'
set_option maxRecDepth 100000 in
set_option maxHeartbeats 2000000 in
theorem item_any (seed : Int) (C : Nat) (k : Key) (kx : Value) (w : World) (hk : BV w kx k) (hkl : k.length ≤ 1048576) (hC : 0 < C) (hC2 : C ≤ 1048576) :
    Calls Try.prog 66 #[.int .u64 seed, kx, .int .i64 (C : Int)] w (ItemPost seed C k kx w) := by
  obtain ⟨ka, kc, rfl, _, hs⟩ := hk
  have HC1 := Lib.hid (fun w' (ht : Touch Nil w w') => by have := coinR_any seed 1 (ub k) ka kc w' (by simp; omega) (hs.keepN ht); rw [ub_length] at this; exact this)
  have HC2 := Lib.hid (fun w' (ht : Touch Nil w w') => by have := coinR_any seed 2 (ub k) ka kc w' (by simp; omega) (hs.keepN ht); rw [ub_length] at this; exact this)
  have hb1 := coin_bd seed 1 (ub k)
  have hb2 := coin_bd seed 2 (ub k)
  have hm := homS_cast hC seed k
  have HRK := Lib.hid (show coin seed 2 (ub k) = rankK seed k from rfl)
  have hlt := homS_lt hC seed k
  unfold ItemPost
  generalize homS seed C k = H at *
  rw [← HRK.out]
  generalize coin seed 1 (ub k) = y1 at *
  generalize coin seed 2 (ub k) = y2 at *
  have HE : ∃ kl, k.length = kl := ⟨_, rfl⟩
  obtain ⟨kl, ekl⟩ := HE
  simp only [ekl] at HC1 HC2 ⊢
  have hz : ((C : Int) == 0) = false := by simp; omega
  obtain ⟨u1, u2⟩ := hb1
  obtain ⟨u3, u4⟩ := hb2
  clear hs ekl HRK
  go_enter Try.func66, Try.ntmps66
  go_wp2_with fail
  have hm' : y1.tmod (C : Int) = (H : Int) := by rw [Int.tmod_eq_emod_of_nonneg u1]; exact hm
  have hwa : IntKind.u64.wrap (C : Int) = (C : Int) := by rw [IntKind.wrap_u64]; omega
  have hwb : IntKind.i64.wrap (H : Int) = (H : Int) := by rw [IntKind.wrap_i64]; omega
  have HCC := Lib.hid (show ∀ w' t y, ((t = 1 ∧ y = y1) ∨ (t = 2 ∧ y = y2)) → Touch Nil w w' → Calls Try.prog 14 #[.int .u64 seed, .int .i64 t, .slice ka kl kc] w' (fun e w'' => e = .returned (.int .u64 y) ∧ w' = w'') from fun w' t y h ht => by
    rcases h with ⟨rfl, rfl⟩ | ⟨rfl, rfl⟩
    · exact HC1.out w' ht
    · exact HC2.out w' ht)
  clear HC1 HC2
  go_region_with ((refine (HCC.out _ _ _ (by first | exact .inl ⟨rfl, rfl⟩ | exact .inr ⟨rfl, rfl⟩) ?_).mono ?_; (exact (((Touch.refl Nil w).alloc _).drew)); rintro e w' ⟨rfl, rfl⟩))
  all_goals
    go_wp2_with fail
    refine bodyPost_ret (v := .agg #[.int .i64 (H : Int), .int .u64 y2, .slice ka kl kc]) (by simp [results, Try.results66, go_sem]) rfl ?_
    exact ⟨rfl, ((Touch.refl Nil w).alloc _).drew⟩

/-- The pairs of the reference. -/
structure Rl (w : World) (ao : Option Addr) (n : Nat) (v : Nat → Nat → Value) (p : Nat → Key × Key) : Prop where
  cells : Items w ao n 2 v
  keys : ∀ i, i < n → BV w (v i 0) (p i).1
  vals : ∀ i, i < n → BV w (v i 1) (p i).2
  one : ∀ i c, (v i c).oneCell' = true
theorem Rl.keepN {w w' : World} {ao : Option Addr} {n : Nat} {v : Nat → Nat → Value} {p : Nat → Key × Key} (h : Rl w ao n v p) (ht : Touch Nil w w') : Rl w' ao n v p :=
  ⟨h.cells.keep (fun _ b _ _ l => ht.same b l (fun c => c)) ht.size, fun i hi => (h.keys i hi).keepN ht, fun i hi => (h.vals i hi).keepN ht, h.one⟩
/-- The cells of so many pairs, by an order of theirs. -/
def refT (seed : Int) (C n : Nat) (ord : Nat → Nat) (p : Nat → Key × Key) : Cells := layT C (fun i => homS seed C (p i).1) ord n p
def itemV (seed : Int) (C : Nat) (v : Nat → Nat → Value) (p : Nat → Key × Key) (i c : Nat) : Value := if c = 0 then .int .i64 ((homS seed C (p i).1 : Nat) : Int) else if c = 1 then .int .u64 (rankK seed (p i).1) else v i 0
/-- A cell that the reference fills. -/
def RowP (v : Nat → Nat → Value) : Option Nat → Value → Value → Value → Prop
  | none, f, y, z => f = .bool false ∧ y = .slice none 0 0 ∧ z = .slice none 0 0
  | some i, f, y, z => f = .bool true ∧ y = v i 0 ∧ z = v i 1
theorem place_in {C n : Nat} {h ord : Nat → Nat} (hC : 0 < C) (hh : ∀ i, h i < C) (hn : n ≤ C) (ho : ∀ k, k < n → ord k < n) : ∀ c, c < C → ∀ i, place C h ord n c = some i → i < n := fun c hc i e => by
  obtain ⟨j, hj, ej, _⟩ := (place_spec hC hh hn n (Nat.le_refl _)).1 c hc i e
  rw [← ej]; exact ho j hj
/-- Where the items lie in the cells of the reference. -/
def refP (seed : Int) (C n : Nat) (ord : Nat → Nat) (p : Nat → Key × Key) : Nat → Option Nat := place C (fun i => homS seed C (p i).1) ord n
theorem refT_eq (seed : Int) (C n : Nat) (ord : Nat → Nat) (p : Nat → Key × Key) (c : Nat) : refT seed C n ord p c = (refP seed C n ord p c).map p := rfl
theorem refP_lt {seed : Int} {C n : Nat} {ord : Nat → Nat} {p : Nat → Key × Key} (hC : 0 < C) (hn : n ≤ C) (ho : Ordr (fun i j => bfS seed (p i).1 (p j).1) n ord) {c i : Nat} (hc : c < C) (e : refP seed C n ord p c = some i) : i < n :=
  place_in hC (fun _ => homS_lt hC seed _) hn ho.lt' c hc i e
/-- The cells that the reference hands back. -/
def TablePost (seed : Int) (C n : Nat) (v : Nat → Nat → Value) (p : Nat → Key × Key) (w : World) (e : Ending) (w' : World) : Prop :=
  ∃ b f ord, e = .returned (.slice (some ⟨b, 0, none⟩) C C) ∧ w.heap.size ≤ b ∧ w'.rowIs b 78 (C * 3) f ∧ Ordr (fun i j => bfS seed (p i).1 (p j).1) n ord ∧
    (∀ c, c < C → RowP v (refP seed C n ord p c) (f (c * 3)) (f (c * 3 + 1)) (f (c * 3 + 2))) ∧ Touch Nil w w'
/-- What these show. -/
theorem RowP.sees {w : World} {ao : Option Addr} {n : Nat} {v : Nat → Nat → Value} {p : Nat → Key × Key} (h : Rl w ao n v p) {o : Option Nat} (ho : ∀ i, o = some i → i < n) {f y z : Value} (hr : RowP v o f y z) : Sees w f y z (o.map p) := by
  cases o with
  | none => obtain ⟨r1, r2, r3⟩ := hr; rw [r1, r2, r3]; exact ⟨rfl, BV.nil _, BV.nil _⟩
  | some i => obtain ⟨r1, r2, r3⟩ := hr; rw [r1, r2, r3]; exact ⟨rfl, h.keys i (ho i rfl), h.vals i (ho i rfl)⟩
set_option maxRecDepth 100000 in
set_option maxHeartbeats 4000000 in
theorem table_any (seed : Int) {w : World} {ao : Option Addr} {n : Nat} (cap : Nat) {v : Nat → Nat → Value} {p : Nat → Key × Key} (h : Rl w ao n v p) (hn : n ≤ 100000) (hl : ∀ i, i < n → (p i).1.length ≤ 1048576) :
    Calls Try.prog 36 #[.int .u64 seed, .slice ao n cap] w (TablePost seed (cellsN n) n v p w) := by
  have HS := Lib.hid h
  have HL := Lib.hid hl
  have HCR := Lib.hid (fun w => cellsR_any n w (by omega))
  obtain ⟨hC8, hC3, hC4, _⟩ := cellsN_spec n (by omega)
  have HE : ∃ C, cellsN n = C := ⟨_, rfl⟩
  obtain ⟨C, eC⟩ := HE
  rw [eC] at hC8 hC3 hC4 ⊢
  simp only [eC] at HCR
  clear h hl eC
  go_enter Try.func36, Try.ntmps36
  go_wp2_with fail
  refine (HCR.out _).mono ?_
  rintro e w' ⟨rfl, rfl⟩
  go_wp2_with fail
  have HO0 := Lib.hid (own_empty w 32 3)
  have HT0 := Lib.hid ((Touch.refl Nil w).alloc (.cells #[] 32))
  go_loopw [6, 7] (fun q i wx => ∃ j : Nat, j ≤ n ∧ i = .int .i64 (j : Int) ∧ wx.ownsRow w.heap.size 32 3 q j (flat 3 (itemV seed C v p) j) ∧ Touch Nil w wx) (fun _ i _ => n - (intOf i).toNat)
  case atStart => exact ⟨0, Nat.zero_le _, rfl, HO0.out, HT0.out⟩
  obtain ⟨j, hj, rfl, hown, hto⟩ := hrel
  obtain ⟨wx, rfl⟩ : ∃ wx : World, wx = wr := ⟨_, rfl⟩
  obtain ⟨pa, pcap, rfl, _⟩ := own_row hown
  have HO := Lib.hid hown
  have HT := Lib.hid hto
  clear hown hto
  by_cases hlt : j < n
  · have HSR := Lib.hid (HS.out.keepN HT.out)
    obtain ⟨b, off, rfl, hb, hcell⟩ := HSR.out.cells (by omega)
    have c0 := hcell j hlt 0 (by omega)
    rw [Nat.add_zero] at c0
    have hk := HSR.out.keys j hlt
    have HK := Lib.hid hk
    obtain ⟨a1, k1, e0, _, _⟩ := hk
    rw [e0] at c0 HK
    have HIT := Lib.hid (item_any seed C (p j).1 _ wx HK.out (HL.out j hlt) (by omega) (by omega))
    have HV := Lib.hid (show flat 3 (itemV seed C v p) (j + 1) = flat 3 (itemV seed C v p) j ++ [.int .i64 ((homS seed C (p j).1 : Nat) : Int), .int .u64 (rankK seed (p j).1), .slice a1 (p j).1.length k1] from by
      show flat 3 (itemV seed C v p) j ++ [.int .i64 ((homS seed C (p j).1 : Nat) : Int), .int .u64 (rankK seed (p j).1), v j 0] = _
      rw [e0])
    unfold ItemPost at HIT
    generalize homS seed C (p j).1 = H at *
    generalize rankK seed (p j).1 = rk at *
    generalize (p j).1.length = kl at *
    have i1 : (j : Int) < (n : Int) := by omega
    have i2 : (0 : Int) ≤ (j : Int) := by omega
    clear hcell e0 hb
    go_wp2_with fail
    refine HIT.out.mono ?_
    rintro e w4 ⟨rfl, ht4⟩
    have HT4 := Lib.hid (HT.out.trans ht4)
    have HO4 := Lib.hid (own_keepN HO.out ht4)
    clear ht4
    have HBS := Lib.hid (show w.heap.size ≤ (w4.alloc (.cells #[.int .i64 (H : Int), .int .u64 rk, .slice a1 kl k1] 32)).heap.size from by have := HT4.out.size; rw [nblk_alloc]; omega)
    have HOA := Lib.hid (show (w4.alloc (.cells #[.int .i64 (H : Int), .int .u64 rk, .slice a1 kl k1] 32)).ownsRow w.heap.size 32 3 (.slice pa j pcap) j (flat 3 (itemV seed C v p) j) from own_keepN HO4.out ((Touch.refl Nil w4).alloc _))
    have HCB := Lib.hid (show ∀ q u, ([.int .i64 (H : Int), .int .u64 rk, .slice a1 kl k1] : List Value)[q]? = some u → (w4.alloc (.cells #[.int .i64 (H : Int), .int .u64 rk, .slice a1 kl k1] 32)).cell? ⟨w4.heap.size, q, none⟩ = some u from fun q u hq => by rw [cell_new]; simpa using hq)
    have HON := Lib.hid (show ∀ u ∈ ([.int .i64 (H : Int), .int .u64 rk, .slice a1 kl k1] : List Value), u.oneCell' = true from fun u hu => by
      simp at hu
      rcases hu with rfl | rfl | rfl <;> rfl)
    have HJ := Lib.hid (show j ≤ 1048576 by omega)
    go_wp2_with (refine wpList_append_one rfl (.tmp 21) (.tmp 30) 26 32 rfl w.heap.size 3 40 _ Try.underlying26 infoItemT rfl (Nat.succ_pos _) (by decide) (.slice pa j pcap) j _ rfl HOA.out w4.heap.size 1 rfl [.int .i64 (H : Int), .int .u64 rk, .slice a1 kl k1] rfl HCB.out HON.out HJ.out HBS.out ?_)
    intro v5 w5 ho5 hT5
    obtain ⟨pa5, pcap5, rfl, _⟩ := own_row ho5.out
    have HO5 := Lib.hid (show w5.ownsRow w.heap.size 32 3 (.slice pa5 (j + 1) pcap5) (j + 1) (flat 3 (itemV seed C v p) (j + 1)) from by rw [HV.out]; exact ho5.out)
    have HT5 := Lib.hid (show Touch Nil w w5 from (HT4.out.alloc _).trans' hT5.out fun b hb hs => by have := own_base HOA.out b hs; omega)
    clear ho5 hT5
    go_wp2_with fail
    go_roundw
    case rel => exact ⟨j + 1, by omega, by go_num, HO5.out, HT5.out⟩
    case measure => simp [intOf]; omega
  · obtain rfl : j = n := by omega
    have HIT := Lib.hid (show Its wx pa j (itemV seed C v p) (fun i => ((homS seed C (p i).1 : Nat) : Int)) (fun i => rankK seed (p i).1) (fun i => (p i).1) from by
      have hsr := HS.out.keepN HT.out
      refine ⟨fun h0 => ?_, fun i hi => rfl, fun i hi => rfl, fun i hi => ⟨hsr.keys i hi, by have := HL.out i hi; omega⟩, fun i c => ?_⟩
      · obtain ⟨ao', cap', e, hc⟩ := own_row HO.out
        cases e
        obtain ⟨g, rfl, _, hg, hcell⟩ := hc h0
        refine ⟨g, 0, rfl, hg, fun i hi c hc => ?_⟩
        rw [show 0 + i * 3 + c = i * 3 + c by omega, hcell _ (by omega)]
        exact flat_get 3 _ j i c hi hc
      · unfold itemV
        (repeat' split) <;> first | rfl | exact hsr.one _ _)
    have HLAY := Lib.hid (layRef_any C pcap HIT.out (by omega) (by omega) (by omega))
    have hmk := fun w => run_make_cells C (by omega) w
    have HROW := Lib.hid (fun w => row_made w #[.bool false, .slice none 0 0, .slice none 0 0] (C * 3) 78)
    have HE : ∃ mc, madeCells #[.bool false, .slice none 0 0, .slice none 0 0] (C * 3) = mc := ⟨_, rfl⟩
    obtain ⟨mc, emc⟩ := HE
    rw [emc] at HROW
    simp only [emc] at hmk
    clear emc HO HO0 HT0
    go_wp2_with fail
    refine HLAY.out.mono ?_
    rintro e w4 ⟨bl, ord, rfl, hbl, hrl, hord, ht4⟩
    rw [home_homS seed (by omega) p] at hrl
    have HOR := Lib.hid (show Ordr (fun i k => bfS seed (p i).1 (p k).1) j ord from hord)
    have HPLT := Lib.hid (place_in (show 0 < C by omega) (h := fun i => homS seed C (p i).1) (ord := ord) (fun i => homS_lt (by omega) seed (p i).1) (show j ≤ C by omega) hord.lt')
    have HRL := Lib.hid hrl
    have HT4 := Lib.hid (HT.out.trans ht4)
    have HE : ∃ L, place C (fun i => homS seed C (p i).1) ord j = L := ⟨_, rfl⟩
    obtain ⟨L, eL⟩ := HE
    rw [eL] at HRL HPLT
    have HREF := Lib.hid (show refP seed C j ord p = L from eL)
    clear hrl hord ht4 eL HLAY HIT
    go_wp2_with fail
    have HE : ∃ bo, w4.heap.size = bo := ⟨_, rfl⟩
    obtain ⟨bo, ebo⟩ := HE
    have HROW4 := Lib.hid (HROW.out w4)
    have HTM := Lib.hid ((Touch.refl Nil w4).alloc (.cells mc 78))
    have HBO := Lib.hid (show w.heap.size ≤ bo by rw [← ebo]; exact HT4.out.size)
    have HNE := Lib.hid (show bl ≠ bo by rw [← ebo]; have := HRL.out.lt; omega)
    rw [ebo] at HROW4 ⊢
    have HRLM := Lib.hid (HTM.out.row HRL.out (fun c => c))
    have HTW := Lib.hid (HT4.out.trans HTM.out)
    clear hmk HROW ebo
    generalize w4.alloc (.cells mc 78) = w5 at *
    go_loopw [10] (fun i wr => ∃ (x : Nat) (f : Nat → Value), x ≤ C ∧ i = .int .i64 (x : Int) ∧ wr.rowIs bo 78 (C * 3) f ∧ (∀ c, c < C → (c < x → RowP v (L c) (f (c * 3)) (f (c * 3 + 1)) (f (c * 3 + 2))) ∧ (x ≤ c → f (c * 3) = .bool false ∧ f (c * 3 + 1) = .slice none 0 0 ∧ f (c * 3 + 2) = .slice none 0 0)) ∧ Touch (Just bo) w5 wr) (fun i _ => C - (intOf i).toNat)
    case atStart =>
      refine ⟨0, _, Nat.zero_le _, rfl, HROW4.out, fun c hc => ⟨fun h => by omega, fun _ => ?_⟩, Touch.refl _ _⟩
      have q0 : c * 3 % 3 = 0 := by omega
      have q1 : (c * 3 + 1) % 3 = 1 := by omega
      have q2 : (c * 3 + 2) % 3 = 2 := by omega
      simp [q0, q1, q2]
    obtain ⟨x, f, hx, rfl, hrow, hsh, hto⟩ := hrel
    obtain ⟨wy, rfl⟩ : ∃ wy : World, wy = wr := ⟨_, rfl⟩
    have HR := Lib.hid hrow
    have HSH := Lib.hid hsh
    have HTY := Lib.hid hto
    have HTWY := Lib.hid (show Touch Nil w wy from HTW.out.trans' hto fun b hb hs => by have hs : b = bo := hs; have := HBO.out; omega)
    clear hrow hsh hto
    by_cases hltx : x < C
    · have i1 : (x : Int) < (C : Int) := by omega
      have i2 : (0 : Int) ≤ (x : Int) := by omega
      have l0 := (HTY.out.row HRLM.out HNE.out).cell hltx
      cases hLx : L x with
      | none =>
        rw [hLx] at l0
        rw [show cellV (none : Option Nat) = -1 from rfl] at l0
        have dn : decide ((0 : Int) ≤ (-1 : Int)) = false := by decide
        have HLX := Lib.hid hLx
        clear hLx
        go_wp2_with fail
        go_roundw
        case rel =>
          refine ⟨x + 1, f, by omega, by go_num, HR.out, fun c hc => ⟨fun hcx => ?_, fun hcx => (HSH.out c hc).2 (by omega)⟩, HTY.out⟩
          by_cases e : c = x
          · subst e; rw [HLX.out]; exact (HSH.out c hc).2 (Nat.le_refl _)
          · exact (HSH.out c hc).1 (by omega)
        case measure => simp [intOf]; omega
      | some i =>
        rw [hLx] at l0
        rw [show cellV (some i) = (i : Int) from rfl] at l0
        have hij := HPLT.out x hltx i hLx
        have dg : decide ((0 : Int) ≤ (i : Int)) = true := by rw [decide_eq_true_iff]; omega
        have HSR := Lib.hid (HS.out.keepN HTWY.out)
        obtain ⟨b, off, rfl, hb, hcell⟩ := HSR.out.cells (by omega)
        have c0 := hcell i hij 0 (by omega)
        have c1 := hcell i hij 1 (by omega)
        rw [Nat.add_zero] at c0
        obtain ⟨a1, k1, e0, _, _⟩ := HSR.out.keys i hij
        obtain ⟨a2, k2, e1, _, _⟩ := HSR.out.vals i hij
        rw [e0] at c0
        rw [e1] at c1
        have HE0 := Lib.hid e0
        have HE1 := Lib.hid e1
        have j1 : (i : Int) < (j : Int) := by omega
        have j2 : (0 : Int) ≤ (i : Int) := by omega
        have HLX := Lib.hid hLx
        have o0 := HR.out.cell (i := x * 3) (by omega)
        have o1 := HR.out.cell (i := x * 3 + 1) (by omega)
        have o2 := HR.out.cell (i := x * 3 + 2) (by omega)
        have z0 := HR.out.frozen (x * 3)
        have z1 := HR.out.frozen (x * 3 + 1)
        have z2 := HR.out.frozen (x * 3 + 2)
        obtain ⟨s0, s1, s2⟩ := (HSH.out x hltx).2 (Nat.le_refl _)
        rw [s0] at o0
        rw [s1] at o1
        rw [s2] at o2
        generalize (p i).1.length = kl at *
        generalize (p i).2.length = vl at *
        clear hcell e0 e1 hLx hb s0 s1 s2
        go_wp2_with fail
        go_still_tail 20, mixed
        change wpList _ _ _ _ _ wy.drew
        have HR5 := Lib.hid (((HR.out.set (x * 3) (.bool true)).set (x * 3 + 1) (.slice a1 kl k1)).set (x * 3 + 2) (.slice a2 vl k2))
        have HT5 := Lib.hid (((HTY.out.drew.setCell ⟨bo, x * 3, none⟩ (.bool true) fun _ => rfl).setCell ⟨bo, x * 3 + 1, none⟩ (.slice a1 kl k1) fun _ => rfl).setCell ⟨bo, x * 3 + 2, none⟩ (.slice a2 vl k2) fun _ => rfl)
        go_wp2_with fail
        go_roundw
        case rel =>
          refine ⟨x + 1, set3 f x (.bool true) (.slice a1 kl k1) (.slice a2 vl k2), by omega, by go_num, HR5.out, fun c hc => ⟨fun hcx => ?_, fun hcx => ?_⟩, HT5.out⟩
          · by_cases e : c = x
            · subst e
              obtain ⟨r1, r2, r3⟩ := set3_at f c (.bool true) (.slice a1 kl k1) (.slice a2 vl k2)
              rw [HLX.out, r1, r2, r3]
              exact ⟨rfl, HE0.out.symm, HE1.out.symm⟩
            · obtain ⟨r1, r2, r3⟩ := set3_far f x (.bool true) (.slice a1 kl k1) (.slice a2 vl k2) e
              rw [r1, r2, r3]
              exact (HSH.out c hc).1 (by omega)
          · obtain ⟨r1, r2, r3⟩ := set3_far f x (.bool true) (.slice a1 kl k1) (.slice a2 vl k2) (c := c) (by omega)
            rw [r1, r2, r3]
            exact (HSH.out c hc).2 (by omega)
        case measure => simp [intOf]; omega
    · obtain rfl : x = C := by omega
      go_wp2_with fail
      go_ret
      exact ⟨bo, f, ord, rfl, HBO.out, HR.out, HOR.out, fun c hc => by rw [HREF.out]; exact (HSH.out c hc).1 hc, HTWY.out⟩
end Go.Proofs.Ytabjpejgnfeegaa

/- The reference's image. -/
namespace Go.Proofs.Ytabjpejgnfeegaa
open Go.ChangeShapes Go.WideShapes Go.ChangeAt Go.RowKit Go.Deep

/-- The first n bytes of a number, the least one first. -/
def leB (x : Nat) : Nat → List UInt8
  | 0 => []
  | n + 1 => leB x n ++ [lo (x / 256 ^ n)]
theorem leB_len (x : Nat) : ∀ n, (leB x n).length = n
  | 0 => rfl
  | n + 1 => by simp [leB, leB_len x n]
theorem leB_four (x : Nat) : leB x 4 = headB x := by simp [leB, headB]
theorem leB_two (x : Nat) : leB x 2 = [lo x, lo (x / 256)] := by simp [leB]
theorem lo_cells (n : Nat) : #[Value.int .u8 ((n : Int) % 256)] = ((ub [lo n]).map (Value.int .u8)).toArray := by
  simp only [ub, List.map_cons, List.map_nil, lo_int]

set_option maxRecDepth 100000 in
set_option maxHeartbeats 2000000 in
theorem littleR_any (x n : Nat) (w : World) (hn : n ≤ 8) (hx : x ≤ 18446744073709551615) :
    Calls Try.prog 80 #[.int .u64 (x : Int), .int .i64 (n : Int)] w (ClonePost (leB x n) w) := by
  have HO := Lib.hid (own_new w)
  have HT0 := Lib.hid ((Touch.refl Nil w).alloc (.cells #[] 5))
  have HX : ∃ f : Nat → Nat, f = fun k => x / 256 ^ k := ⟨_, rfl⟩
  obtain ⟨f, ef⟩ := HX
  have HFB := Lib.hid (show ∀ k, f k ≤ 18446744073709551615 by intro k; rw [ef]; exact Nat.le_trans (Nat.div_le_self _ _) hx)
  have HFL := Lib.hid (show ∀ k, leB x (k + 1) = leB x k ++ [lo (f k)] by intro k; rw [ef]; rfl)
  have HEF := Lib.hid ef
  clear ef
  go_enter Try.func80, Try.ntmps80
  go_wp2_with fail
  go_loopw [5, 6] (fun u i wr => ∃ k : Nat, k ≤ n ∧ i = .int .i64 (k : Int) ∧ OwnB w.heap.size wr u (leB x k) ∧ Touch Nil w wr) (fun _ i _ => n - (intOf i).toNat)
  case atStart => exact ⟨0, Nat.zero_le _, rfl, HO.out, HT0.out⟩
  obtain ⟨k, hk, rfl, hown, hto⟩ := hrel
  obtain ⟨ua, ul, uc, rfl⟩ := hown.form
  have HU := Lib.hid hown
  have HT := Lib.hid hto
  clear hown hto
  by_cases hlt : k < n
  · have i1 : (k : Int) < (n : Int) := by omega
    have i2 : (0 : Int) ≤ (k : Int) := by omega
    have hsh : (x : Int) / 2 ^ (8 * k) = ((f k : Nat) : Int) := by
      rw [HEF.out]
      show _ = ((x / 256 ^ k : Nat) : Int)
      rw [Int.natCast_ediv, Int.natCast_pow, Int.pow_mul]
      rfl
    have hfb := HFB.out k
    have HLN := Lib.hid (show (leB x k).length + ([lo (f k)] : List UInt8).length ≤ 1073741824 by rw [leB_len]; simp; omega)
    have HFLK := Lib.hid (HFL.out k)
    have HN := Lib.hid (own_lit wr [lo (f k)] _ (lo_cells (f k)) (by simp))
    have HOA := Lib.hid (HU.out.keepT ((Touch.refl Nil wr).alloc (.cells #[.int .u8 ((f k : Int) % 256)] 5)) (notBytes_nil _))
    have HSZ := Lib.hid (show w.heap.size ≤ (wr.alloc (.cells #[.int .u8 ((f k : Int) % 256)] 5)).heap.size by have := HT.out.size; rw [nblk_alloc]; omega)
    have HTA := Lib.hid (HT.out.alloc (.cells #[.int .u8 ((f k : Int) % 256)] 5))
    generalize f k = y at *
    go_wp2_with (refine wpList_append_bytes rfl (.tmp 13) (.tmp 19) rfl w.heap.size (.slice ua ul uc) (.slice (some ⟨wr.heap.size, 0, none⟩) 1 1) (leB x k) [lo y] ?q1 ?q2 ?q3 ?q4 ?q5 ?q6 ?q7)
    case q2 => exact HOA.out
    case q1 => rfl
    case q3 => rfl
    case q4 => exact HN.out.bv
    case q5 => exact HLN.out
    case q6 => exact HSZ.out
    intro v' w3 hO3 hT3 _
    have HT3 := Lib.hid (show Touch Nil w w3 from HTA.out.trans' hT3.out fun b hb hs => by have := (HOA.out.block b hs).1; omega)
    go_wp2_with fail
    go_roundw
    case rel => exact ⟨k + 1, by omega, by go_num, by rw [HFLK.out]; exact hO3.out, HT3.out⟩
    case measure => simp [intOf]; omega
  · obtain rfl : k = n := by omega
    go_wp2_with fail
    go_ret
    exact ⟨_, rfl, HU.out, HT.out⟩

theorem row_own {base b t n : Nat} {f : Nat → Value} {w w' : World} {v : Value} {l : List UInt8} (hown : OwnB base w v l) (ht : Touch (OwnOf v) w w') (hr : w.rowIs b t n f) (hne : t ≠ 5) : w'.rowIs b t n f :=
  ht.row hr fun hs => by
    obtain ⟨cs, z, e⟩ := hown.elem hs
    rw [row_block hr] at e
    injection e with e
    injection e with _ e
    exact hne e

def RImgPost (seed : Int) (C n : Nat) (p : Nat → Key × Key) (w : World) (e : Ending) (w' : World) : Prop :=
  ∃ u ord, e = .returned u ∧ Ordr (fun i j => bfS seed (p i).1 (p j).1) n ord ∧ OwnB w.heap.size w' u (imageB n C (refT seed C n ord p)) ∧ Touch Nil w w'
set_option maxRecDepth 100000 in
set_option maxHeartbeats 4000000 in
theorem imageR_any (seed : Int) {w : World} {ao : Option Addr} {n : Nat} (cap : Nat) {v : Nat → Nat → Value} {p : Nat → Key × Key} (h : Rl w ao n v p) (hn : n ≤ 100000) (hl : ∀ i, i < n → 1 ≤ (p i).1.length ∧ (p i).1.length ≤ 64 ∧ (p i).2.length ≤ 1000) :
    Calls Try.prog 62 #[.int .u64 seed, .slice ao n cap] w (RImgPost seed (cellsN n) n p w) := by
  have HS := Lib.hid h
  have HL := Lib.hid hl
  have HTB := Lib.hid (fun w' (ht : Touch Nil w w') => table_any seed cap (h.keepN ht) hn fun i hi => by have := hl i hi; omega)
  obtain ⟨hC8, hC3, hC4, _⟩ := cellsN_spec n (by omega)
  have HE : ∃ C, cellsN n = C := ⟨_, rfl⟩
  obtain ⟨C, eC⟩ := HE
  rw [eC] at hC8 hC3 hC4 ⊢
  simp only [eC] at HTB
  have HLI := Lib.hid (littleR_any n 4 w (by omega) (by omega))
  rw [leB_four] at HLI
  clear h hl eC
  go_enter Try.func62, Try.ntmps62
  go_wp2_with fail
  refine HLI.out.mono ?_
  rintro e w1 ⟨u1, rfl, ho1, ht1⟩
  obtain ⟨ua1, ul1, uc1, rfl⟩ := ho1.form
  have HO1 := Lib.hid ho1
  have HT1 := Lib.hid ht1
  clear ho1 ht1 HLI
  go_wp2_with fail
  refine (HTB.out _ HT1.out).mono ?_
  rintro e w3 ⟨bc, f, ord, rfl, hbc, hrow, hord, hsh, ht3⟩
  have HR3 := Lib.hid hrow
  have HORD := Lib.hid hord
  have HSH := Lib.hid hsh
  have HO3 := Lib.hid (HO1.out.keepT ht3 (notBytes_nil _))
  have HT3 := Lib.hid (HT1.out.trans ht3)
  have HPLT := Lib.hid (show ∀ c i, c < C → refP seed C n ord p c = some i → i < n from fun c i hc e => refP_lt (by omega) (by omega) hord hc e)
  have HREF := Lib.hid (fun c => refT_eq seed C n ord p c)
  have HBL := Lib.hid (bodyB_len (T := refT seed C n ord p) (C := C) (fun c hc k u e => by
    rw [HREF.out] at e
    cases ei : refP seed C n ord p c with
    | none => rw [ei] at e; cases e
    | some i =>
      rw [ei] at e
      have := HL.out i (HPLT.out c i hc ei)
      simp only [Option.map_some, Option.some.injEq] at e
      rw [e] at this
      exact this.2))
  clear hrow hord hsh ht3 HO1 HTB
  have HE : ∃ T, refT seed C n ord p = T := ⟨_, rfl⟩
  obtain ⟨T, eT⟩ := HE
  have HET := Lib.hid eT
  rw [eT] at HBL
  simp only [eT] at HREF
  clear eT
  go_wp2_with fail
  go_loopw [5, 7] (fun u i wr => ∃ x : Nat, x ≤ C ∧ i = .int .i64 (x : Int) ∧ OwnB w.heap.size wr u (headB n ++ bodyB T x) ∧ wr.rowIs bc 78 (C * 3) f ∧ Touch Nil w wr) (fun _ i _ => C - (intOf i).toNat)
  case atStart => exact ⟨0, Nat.zero_le _, rfl, by simpa [bodyB] using HO3.out, HR3.out, HT3.out⟩
  obtain ⟨x, hx, rfl, hown, hrow, hto⟩ := hrel
  obtain ⟨va, vl, vc, rfl⟩ := hown.form
  have HO := Lib.hid hown
  have HR := Lib.hid hrow
  have HT := Lib.hid hto
  clear hown hrow hto
  by_cases hlt : x < C
  · have hlen : (headB n ++ bodyB T x).length ≤ 400000000 := by
      have := HBL.out x hx
      simp [headB]; omega
    have HLEN := Lib.hid hlen
    have i1 : (x : Int) < (C : Int) := by omega
    have i2 : (0 : Int) ≤ (x : Int) := by omega
    have o0 := HR.out.cell (i := x * 3) (by omega)
    have o1 := HR.out.cell (i := x * 3 + 1) (by omega)
    have o2 := HR.out.cell (i := x * 3 + 2) (by omega)
    have hsx := HSH.out x hlt
    have hrx := HREF.out x
    clear hlen
    cases hpx : refP seed C n ord p x with
    | none =>
      rw [hpx] at hsx hrx
      obtain ⟨s0, s1, s2⟩ := hsx
      rw [s0] at o0
      have HTX := Lib.hid (show T x = none from hrx)
      clear o1 o2 s0 s1 s2 hrx hpx
      have HN := Lib.hid (own_lit wr [0] #[.int .u8 0] rfl (by simp))
      have HOA := Lib.hid (HO.out.keepT ((Touch.refl Nil wr).alloc (.cells #[.int .u8 0] 5)) (notBytes_nil _))
      have HRA := Lib.hid (((Touch.refl Nil wr).alloc (.cells #[.int .u8 0] 5)).row HR.out (fun c => c))
      have HTA := Lib.hid (HT.out.alloc (.cells #[.int .u8 0] 5))
      go_wp2_with (refine wpList_append_bytes rfl (.tmp 27) (.tmp 28) rfl w.heap.size (.slice va vl vc) (.slice (some ⟨wr.heap.size, 0, none⟩) 1 1) (headB n ++ bodyB T x) [0] ?p1 ?p2 ?p3 ?p4 ?p5 ?p6 ?p7)
      case p2 => exact HOA.out
      case p1 => rfl
      case p3 => rfl
      case p4 => exact HN.out.bv
      case p5 => have := HLEN.out; simp only [List.length_singleton]; omega
      case p6 => exact HTA.out.size
      intro v' w4 hO4 hT4 _
      have HR4 := Lib.hid (row_own HOA.out hT4.out HRA.out (by decide))
      have HT4 := Lib.hid (show Touch Nil w w4 from HTA.out.trans' hT4.out fun b hb hs => by have := (HOA.out.block b hs).1; omega)
      go_wp2_with fail
      go_roundw
      case rel => exact ⟨x + 1, by omega, by go_num, by have := hO4.out; simp only [bodyB, HTX.out, cellB]; rw [← List.append_assoc]; exact this, HR4.out, HT4.out⟩
      case measure => simp [intOf]; omega
    | some i =>
      rw [hpx] at hsx hrx
      obtain ⟨s0, s1, s2⟩ := hsx
      have hij := HPLT.out x i hlt hpx
      have HTX := Lib.hid (show T x = some ((p i).1, (p i).2) from hrx)
      obtain ⟨a1, k1, e0, _, _⟩ := HS.out.keys i hij
      obtain ⟨a2, k2, e1, _, _⟩ := HS.out.vals i hij
      have HK := Lib.hid (show BV w (.slice a1 (p i).1.length k1) (p i).1 from by rw [← e0]; exact HS.out.keys i hij)
      have HV := Lib.hid (show BV w (.slice a2 (p i).2.length k2) (p i).2 from by rw [← e1]; exact HS.out.vals i hij)
      obtain ⟨l1, l2, l3⟩ := HL.out i hij
      rw [s0] at o0
      rw [s1, e0] at o1
      rw [s2, e1] at o2
      have HF1 := Lib.hid (s1.trans e0)
      have HF2 := Lib.hid (s2.trans e1)
      clear hrx hpx s0 s1 s2 e0 e1
      have HXS := Lib.hid (show headB n ++ bodyB T (x + 1) = headB n ++ bodyB T x ++ [1, lo (p i).1.length] ++ leB (p i).2.length 2 ++ (p i).1 ++ (p i).2 from by
        simp only [bodyB, HTX.out, cellB, leB_two, List.append_assoc, List.cons_append, List.nil_append])
      have HKL := Lib.hid (show (p i).1.length = (p i).1.length from rfl)
      have HE : ∃ kk, (p i).1 = kk := ⟨_, rfl⟩
      obtain ⟨kk, ekk⟩ := HE
      have HE : ∃ vv, (p i).2 = vv := ⟨_, rfl⟩
      obtain ⟨vv, evv⟩ := HE
      rw [ekk] at HK o1 HF1 HXS l1 l2
      rw [evv] at HV o2 HF2 HXS l3
      have HE : ∃ kl, kk.length = kl := ⟨_, rfl⟩
      obtain ⟨kl, ekl⟩ := HE
      have HE : ∃ ml, vv.length = ml := ⟨_, rfl⟩
      obtain ⟨ml, eml⟩ := HE
      rw [ekl] at HK o1 HF1 HXS l1 l2
      rw [eml] at HV o2 HF2 HXS l3
      have HKK := Lib.hid ekl
      have HMM := Lib.hid eml
      clear HKL ekl eml ekk evv
      -- the mark and the length of the key
      have HN := Lib.hid (own_lit wr [1, lo kl] #[.int .u8 1, .int .u8 (kl : Int)] (by
        have e1 := lo_int kl
        simp only [ub, List.map_cons, List.map_nil, e1]
        rw [show (kl : Int) % 256 = (kl : Int) by omega]
        rfl) (by simp))
      have hta := (Touch.refl Nil wr).alloc (.cells #[.int .u8 1, .int .u8 (kl : Int)] 5)
      have HOA := Lib.hid (HO.out.keepT hta (notBytes_nil _))
      have HRA := Lib.hid (hta.row HR.out (fun c => c))
      have HTA := Lib.hid (HT.out.trans hta)
      clear hta
      go_wp2_with (refine wpList_append_bytes rfl (.tmp 30) (.tmp 38) rfl w.heap.size (.slice va vl vc) (.slice (some ⟨wr.heap.size, 0, none⟩) 2 2) (headB n ++ bodyB T x) [1, lo kl] ?y1 ?y2 ?y3 ?y4 ?y5 ?y6 ?y7)
      case y2 => exact HOA.out
      case y1 => rfl
      case y3 => rfl
      case y4 => exact HN.out.bv
      case y5 => have := HLEN.out; simp only [List.length_cons, List.length_nil]; omega
      case y6 => exact HTA.out.size
      intro v4 w4 hO4 hT4 _
      obtain ⟨va4, vl4, vc4, rfl⟩ := hO4.out.form
      have HO4 := Lib.hid (show OwnB w.heap.size w4 (.slice va4 vl4 vc4) (headB n ++ bodyB T x ++ [1, lo kl]) from by first | exact hO4.out | simpa [List.append_assoc] using hO4.out)
      have HR4 := Lib.hid (row_own HOA.out hT4.out HRA.out (by decide))
      have HT4 := Lib.hid (show Touch Nil w w4 from HTA.out.trans' hT4.out fun b hb hs => by have := (HOA.out.block b hs).1; omega)
      clear hO4 hT4 HOA HRA HTA HN o0 o1 o2
      -- the length of the value
      have o2 := HR4.out.cell (i := x * 3 + 2) (by omega)
      rw [HF2.out] at o2
      go_wp2_with fail
      refine (littleR_any ml 2 w4 (by omega) (by omega)).mono ?_
      rintro e w5 ⟨u5, rfl, hu5, ht5⟩
      obtain ⟨ua5, ul5, uc5, rfl⟩ := hu5.form
      have HU5 := Lib.hid hu5.bv
      have HOA := Lib.hid (HO4.out.keepT ht5 (notBytes_nil _))
      have HRA := Lib.hid (ht5.row HR4.out (fun c => c))
      have HTA := Lib.hid (HT4.out.trans ht5)
      clear hu5 ht5 o2 HO4 HR4 HT4
      go_wp2_with (refine wpList_append_bytes rfl (.tmp 40) (.tmp 48) rfl w.heap.size (.slice va4 vl4 vc4) (.slice ua5 ul5 uc5) (headB n ++ bodyB T x ++ [1, lo kl]) (leB ml 2) ?q1 ?q2 ?q3 ?q4 ?q5 ?q6 ?q7)
      case q2 => exact HOA.out
      case q1 => rfl
      case q3 => rfl
      case q4 => exact HU5.out
      case q5 => have := HLEN.out; rw [List.length_append, leB_len]; simp only [List.length_cons, List.length_nil]; omega
      case q6 => exact HTA.out.size
      intro v6 w6 hO6 hT6 _
      obtain ⟨va6, vl6, vc6, rfl⟩ := hO6.out.form
      have HO6 := Lib.hid (show OwnB w.heap.size w6 (.slice va6 vl6 vc6) (headB n ++ bodyB T x ++ [1, lo kl] ++ leB ml 2) from by first | exact hO6.out | simpa [List.append_assoc] using hO6.out)
      have HR6 := Lib.hid (row_own HOA.out hT6.out HRA.out (by decide))
      have HT6 := Lib.hid (show Touch Nil w w6 from HTA.out.trans' hT6.out fun b hb hs => by have := (HOA.out.block b hs).1; omega)
      clear hO6 hT6 HOA HRA HTA HU5
      -- the key
      have o1 := HR6.out.cell (i := x * 3 + 1) (by omega)
      rw [HF1.out] at o1
      have HK6 := Lib.hid (HK.out.keepN HT6.out)
      go_wp2_with (refine wpList_append_bytes rfl (.tmp 50) (.tmp 55) rfl w.heap.size (.slice va6 vl6 vc6) (.slice a1 kl k1) (headB n ++ bodyB T x ++ [1, lo kl] ++ leB ml 2) kk ?r1 ?r2 ?r3 ?r4 ?r5 ?r6 ?r7)
      case r2 => exact HO6.out
      case r1 => rfl
      case r3 => rfl
      case r4 => exact HK6.out
      case r5 => have := HLEN.out; have := HKK.out; rw [List.length_append, List.length_append, leB_len]; simp only [List.length_cons, List.length_nil]; omega
      case r6 => exact HT6.out.size
      intro v7 w7 hO7 hT7 _
      obtain ⟨va7, vl7, vc7, rfl⟩ := hO7.out.form
      have HO7 := Lib.hid (show OwnB w.heap.size w7 (.slice va7 vl7 vc7) (headB n ++ bodyB T x ++ [1, lo kl] ++ leB ml 2 ++ kk) from by first | exact hO7.out | simpa [List.append_assoc] using hO7.out)
      have HR7 := Lib.hid (row_own HO6.out hT7.out HR6.out (by decide))
      have HT7 := Lib.hid (show Touch Nil w w7 from HT6.out.trans' hT7.out fun b hb hs => by have := (HO6.out.block b hs).1; omega)
      clear hO7 hT7 HO6 HR6 HT6 HK6 o1
      -- the value
      have o2 := HR7.out.cell (i := x * 3 + 2) (by omega)
      rw [HF2.out] at o2
      have HV7 := Lib.hid (HV.out.keepN HT7.out)
      go_wp2_with (refine wpList_append_bytes rfl (.tmp 57) (.tmp 62) rfl w.heap.size (.slice va7 vl7 vc7) (.slice a2 ml k2) (headB n ++ bodyB T x ++ [1, lo kl] ++ leB ml 2 ++ kk) vv ?t1 ?t2 ?t3 ?t4 ?t5 ?t6 ?t7)
      case t2 => exact HO7.out
      case t1 => rfl
      case t3 => rfl
      case t4 => exact HV7.out
      case t5 => have := HLEN.out; have := HKK.out; have := HMM.out; rw [List.length_append, List.length_append, List.length_append, leB_len]; simp only [List.length_cons, List.length_nil]; omega
      case t6 => exact HT7.out.size
      intro v8 w8 hO8 hT8 _
      have HO8 := Lib.hid (show OwnB w.heap.size w8 v8 (headB n ++ bodyB T (x + 1)) from by rw [HXS.out]; first | exact hO8.out | simpa [List.append_assoc] using hO8.out)
      have HR8 := Lib.hid (row_own HO7.out hT8.out HR7.out (by decide))
      have HT8 := Lib.hid (show Touch Nil w w8 from HT7.out.trans' hT8.out fun b hb hs => by have := (HO7.out.block b hs).1; omega)
      clear hO8 hT8 HO7 HR7 HT7 HV7 o2
      go_wp2_with fail
      go_roundw
      case rel => exact ⟨x + 1, by omega, by go_num, HO8.out, HR8.out, HT8.out⟩
      case measure => simp [intOf]; omega
  · obtain rfl : x = C := by omega
    go_wp2_with fail
    go_ret
    exact ⟨_, ord, rfl, HORD.out, by rw [HET.out]; exact HO.out, HT.out⟩
end Go.Proofs.Ytabjpejgnfeegaa

/- The reference's number, Allowed, At. -/
namespace Go.Proofs.Ytabjpejgnfeegaa
open Go.ChangeShapes Go.WideShapes Go.ChangeAt Go.RowKit Go.Deep

def valB : List UInt8 → Nat
  | [] => 0
  | c :: l => c.toNat + 256 * valB l
theorem valB_bd : ∀ l : List UInt8, l.length ≤ 4 → valB l ≤ 4294967295
  | [], _ => by simp [valB]
  | [a], _ => by have := a.toNat_lt; simp only [valB]; omega
  | [a, b], _ => by have := a.toNat_lt; have := b.toNat_lt; simp only [valB]; omega
  | [a, b, c], _ => by have := a.toNat_lt; have := b.toNat_lt; have := c.toNat_lt; simp only [valB]; omega
  | [a, b, c, d], _ => by have := a.toNat_lt; have := b.toNat_lt; have := c.toNat_lt; have := d.toNat_lt; simp only [valB]; omega
  | a :: b :: c :: d :: e :: l, h => by simp at h
theorem valB_step {l : List UInt8} {j : Nat} (hj : j < l.length) : valB (l.drop j) = (l.getD j 0).toNat + 256 * valB (l.drop (j + 1)) := by
  rw [List.drop_eq_getElem_cons hj]
  simp [valB, List.getD_eq_getElem?_getD, hj]
theorem valB_four {l : List UInt8} (h : 4 ≤ l.length) : valB (l.take 4) = (l.getD 0 0).toNat + (l.getD 1 0).toNat * 256 + (l.getD 2 0).toNat * 65536 + (l.getD 3 0).toNat * 16777216 := by
  match l, h with
  | a :: b :: c :: d :: r, _ =>
    simp only [List.take_succ_cons, List.take_zero, valB, List.getD_cons_zero, List.getD_cons_succ]
    omega
theorem valB_two {l : List UInt8} {a : Nat} (h : a + 2 ≤ l.length) : valB ((l.take (a + 2)).drop a) = (l.getD a 0).toNat + (l.getD (a + 1) 0).toNat * 256 := by
  have e : (l.take (a + 2)).drop a = [l.getD a 0, l.getD (a + 1) 0] := by
    apply List.ext_getElem?
    intro i
    rw [List.getElem?_drop, List.getElem?_take]
    match i with
    | 0 => rw [if_pos (by omega)]; simp [List.getD_eq_getElem?_getD, show a < l.length by omega]
    | 1 => rw [if_pos (by omega)]; simp [List.getD_eq_getElem?_getD, show a + 1 < l.length by omega]
    | i + 2 => rw [if_neg (by omega)]; simp
  rw [e]
  simp only [valB]; omega

set_option maxRecDepth 100000 in
set_option maxHeartbeats 2000000 in
theorem number_any (l : List UInt8) (x : Value) (w : World) (h : BV w x l) (hl : l.length ≤ 4) :
    Calls Try.prog 71 #[x] w fun e w' => e = .returned (.int .i64 ((valB l : Nat) : Int)) ∧ w = w' := by
  obtain ⟨ao, cap, rfl, _, hs⟩ := h
  have HS := Lib.hid hs
  have HE : ∃ n, l.length = n := ⟨_, rfl⟩
  obtain ⟨n, en⟩ := HE
  have HN := Lib.hid en
  rw [en] at hl ⊢
  have HB := Lib.hid (show ∀ j, valB (l.drop j) ≤ 4294967295 from fun j => valB_bd _ (by simp; omega))
  clear hs en
  go_enter Try.func71, Try.ntmps71
  go_wp2_with fail
  go_loopw [3, 4] (fun a i wr => ∃ j : Nat, j ≤ n ∧ i = .int .i64 ((j : Int) - 1) ∧ a = .int .i64 ((valB (l.drop j) : Nat) : Int) ∧ Hid (wr = w)) (fun _ i _ => (intOf i + 1).toNat)
  case atStart => exact ⟨n, Nat.le_refl _, rfl, by rw [← HN.out, List.drop_length]; rfl, Lib.hid rfl⟩
  obtain ⟨j, hj, rfl, rfl, HW⟩ := hrel
  obtain rfl := HW.out
  by_cases h0 : 0 < j
  · obtain ⟨b, off, rfl, hc⟩ := HS.out (j - 1) (by rw [ub_length, HN.out]; omega)
    rw [ub_getD _ _ (by rw [HN.out]; omega)] at hc
    have HST := Lib.hid (valB_step (l := l) (j := j - 1) (by rw [HN.out]; omega))
    rw [show j - 1 + 1 = j by omega] at HST
    have hbd := HB.out j
    have hbd2 := HB.out (j - 1)
    have hcb := (l.getD (j - 1) 0).toNat_lt
    generalize (l.getD (j - 1) 0).toNat = y at *
    generalize valB (l.drop j) = a at *
    have hy : y ≤ 255 := by omega
    obtain ⟨m, rfl⟩ : ∃ m, j = m + 1 := ⟨j - 1, by omega⟩
    rw [show m + 1 - 1 = m by omega] at hc HST hbd2
    have e1 : ((m + 1 : Nat) : Int) - 1 = (m : Int) := by omega
    have d1 : decide ((0 : Int) ≤ (m : Int)) = true := by rw [decide_eq_true_iff]; omega
    have i1 : (m : Int) < (n : Int) := by omega
    have i2 : (0 : Int) ≤ (m : Int) := by omega
    rw [e1]
    clear e1 hcb
    go_wp2_with fail
    go_roundw
    case rel => exact ⟨m, by omega, rfl, by rw [HST.out]; first | (congr 1; omega) | go_num, Lib.hid trivial⟩
    case measure => simp [intOf]
  · obtain rfl : j = 0 := by omega
    have d1 : decide ((0 : Int) ≤ ((0 : Nat) : Int) - 1) = false := by decide
    have HE : ∃ z : Int, ((0 : Nat) : Int) - 1 = z := ⟨_, rfl⟩
    obtain ⟨z, ez⟩ := HE
    rw [ez] at d1 ⊢
    rw [List.drop_zero]
    clear ez
    go_wp2_with fail
    go_ret
    exact ⟨rfl, rfl⟩

set_option maxHeartbeats 1000000 in
theorem allowedR_any (k v c1 c2 : Nat) (ao bo : Option Addr) (w : World) (hk : k ≤ 1073741824) (hv : v ≤ 1073741824) :
    Calls Try.prog 72 #[.slice ao k c1, .slice bo v c2] w fun e w' => e = .returned (.bool (decide (1 ≤ k ∧ k ≤ 64 ∧ v ≤ 1000))) ∧ w = w' := by
  have HR := Lib.hid (show decide (1 ≤ k ∧ k ≤ 64 ∧ v ≤ 1000) = (decide ((1 : Int) ≤ (k : Int)) && (decide ((k : Int) ≤ 64) && decide ((v : Int) ≤ 1000))) by
    rw [Bool.eq_iff_iff]; simp; omega)
  generalize decide (1 ≤ k ∧ k ≤ 64 ∧ v ≤ 1000) = r at *
  cases c1 : decide ((1 : Int) ≤ (k : Int))
  all_goals
    cases c2 : decide ((k : Int) ≤ 64)
    all_goals
      cases c3 : decide ((v : Int) ≤ 1000)
      all_goals
        rw [c1, c2, c3] at HR
        go_enter Try.func72, Try.ntmps72
        go_wp2_with (go_quiet (fail))
        go_ret
        exact ⟨by rw [HR.out]; rfl, rfl⟩

/-- Where a key stands first. -/
def atF (p : Nat → Key × Key) (key : Key) (n : Nat) : Option Nat := (List.range n).find? fun i => decide ((p i).1 = key)
theorem atF_some {p : Nat → Key × Key} {key : Key} {n i : Nat} (h : atF p key n = some i) : i < n ∧ (p i).1 = key ∧ ∀ j, j < i → (p j).1 ≠ key := by
  unfold atF at h
  rw [List.find?_range_eq_some] at h
  exact ⟨by simpa using h.2.1, by simpa using h.1, fun j hj => by simpa using h.2.2 j hj⟩
theorem atF_none {p : Nat → Key × Key} {key : Key} {n : Nat} (h : atF p key n = none) : ∀ i, i < n → (p i).1 ≠ key := by
  unfold atF at h
  rw [List.find?_eq_none] at h
  exact fun i hi => by simpa using h i (by simpa using hi)
theorem atF_at {p : Nat → Key × Key} {key : Key} {n i : Nat} (hi : i < n) (h1 : (p i).1 = key) (h2 : ∀ j, j < i → (p j).1 ≠ key) : atF p key n = some i := by
  unfold atF
  rw [List.find?_range_eq_some]
  exact ⟨by simpa using h1, by simpa using hi, fun j hj => by simpa using h2 j hj⟩
theorem atF_all {p : Nat → Key × Key} {key : Key} {n : Nat} (h : ∀ i, i < n → (p i).1 ≠ key) : atF p key n = none := by
  unfold atF
  rw [List.find?_eq_none]
  exact fun i hi => by simpa using h i (by simpa using hi)
def IntT' (r : Int) (w : World) (e : Ending) (w' : World) : Prop := e = .returned (.int .i64 r) ∧ Touch Nil w w'
set_option maxRecDepth 100000 in
set_option maxHeartbeats 2000000 in
theorem at_any {w : World} {ao : Option Addr} {n : Nat} (cap : Nat) {v : Nat → Nat → Value} {p : Nat → Key × Key} (h : Rl w ao n v p) (hn : n ≤ 1048576) (hl : ∀ i, i < n → (p i).1.length ≤ 1048576) (key : Key) (kx : Value) (hk : BV w kx key) (hkl : key.length ≤ 1048576) :
    Calls Try.prog 73 #[.slice ao n cap, kx] w (IntT' (cellV (atF p key n)) w) := by
  have HS := Lib.hid h
  have HL := Lib.hid hl
  have HK := Lib.hid hk
  have HE : ∃ r, atF p key n = r := ⟨_, rfl⟩
  obtain ⟨r, er⟩ := HE
  rw [er]
  have HR := Lib.hid er
  obtain ⟨ka, kc, rfl, _, _⟩ := hk
  have HQL := Lib.hid hkl
  have HE : ∃ ql, key.length = ql := ⟨_, rfl⟩
  obtain ⟨ql, eql⟩ := HE
  rw [eql] at HK ⊢
  have HQE := Lib.hid eql
  clear h hl er hkl eql
  go_enter Try.func73, Try.ntmps73
  go_wp2_with fail
  go_loopw [5] (fun i wr => ∃ x : Nat, x ≤ n ∧ i = .int .i64 (x : Int) ∧ Hid (∀ j, j < x → (p j).1 ≠ key) ∧ Touch Nil w wr) (fun i _ => n - (intOf i).toNat)
  case atStart => exact ⟨0, Nat.zero_le _, rfl, Lib.hid fun j hj => by omega, Touch.refl _ _⟩
  obtain ⟨x, hx, rfl, HX, hto⟩ := hrel
  have HT := Lib.hid hto
  clear hto
  by_cases hlt : x < n
  · have HSR := Lib.hid (HS.out.keepN HT.out)
    obtain ⟨b, off, rfl, hb, hcell⟩ := HSR.out.cells (by omega)
    have c0 := hcell x hlt 0 (by omega)
    rw [Nat.add_zero] at c0
    obtain ⟨a1, k1, e0, _, s1⟩ := HSR.out.keys x hlt
    rw [e0] at c0
    obtain ⟨ao', cap', e, _, sq⟩ := HK.out.keepN HT.out
    injection e with e1 e2 e3
    subst e1
    have HSM := Lib.hid (same_any (p x).1 key a1 ka k1 kc wr (by have := HL.out x hlt; omega) (by have := HQL.out; omega) s1 sq)
    rw [HQE.out] at HSM
    have i1 : (x : Int) < (n : Int) := by omega
    have i2 : (0 : Int) ≤ (x : Int) := by omega
    generalize (p x).1.length = kl at *
    clear hcell e0 s1 sq hb e2 e3
    by_cases hkq : (p x).1 = key
    · rw [decide_eq_true hkq] at HSM
      have HRX := Lib.hid (show r = some x from by rw [← HR.out]; exact atF_at hlt hkq HX.out)
      clear hkq
      go_wp2_with fail
      refine HSM.out.mono ?_
      rintro e w2 ⟨rfl, ht2⟩
      go_wp2_with fail
      go_ret
      exact ⟨by rw [HRX.out]; rfl, HT.out.trans ht2⟩
    · rw [decide_eq_false hkq] at HSM
      have HKQ := Lib.hid hkq
      clear hkq
      go_wp2_with fail
      refine HSM.out.mono ?_
      rintro e w2 ⟨rfl, ht2⟩
      have HT2 := Lib.hid (HT.out.trans ht2)
      clear ht2
      go_wp2_with fail
      go_roundw
      case rel => exact ⟨x + 1, by omega, by go_num, Lib.hid fun j hj => by
        by_cases e : j = x
        · rw [e]; exact HKQ.out
        · exact HX.out j (by omega), HT2.out⟩
      case measure => simp [intOf]; omega
  · obtain rfl : x = n := by omega
    have HRX := Lib.hid (show r = none from by rw [← HR.out]; exact atF_all HX.out)
    go_wp2_with fail
    go_ret
    exact ⟨by rw [HRX.out]; rfl, HT.out⟩
end Go.Proofs.Ytabjpejgnfeegaa

/- What the reference's reading of an image rests on. -/
namespace Go.Proofs.Ytabjpejgnfeegaa
open Go.ChangeShapes Go.WideShapes Go.ChangeAt Go.RowKit Go.Deep

/-- The pairs of the first cells, as they lie. -/
def cellsL (T : Cells) : Nat → List (Key × Key)
  | 0 => []
  | c + 1 => cellsL T c ++ (T c).toList
theorem cellsL_mem {T : Cells} {q : Key × Key} : ∀ C, q ∈ cellsL T C ↔ InT C T q
  | 0 => by simp [cellsL, InT]
  | C + 1 => by
    simp only [cellsL, List.mem_append, cellsL_mem C, Option.mem_toList]
    constructor
    · rintro (⟨c, hc, e⟩ | e)
      · exact ⟨c, by omega, e⟩
      · exact ⟨C, by omega, e⟩
    · rintro ⟨c, hc, e⟩
      by_cases ec : c = C
      · right; rw [← ec]; exact e
      · left; exact ⟨c, by omega, e⟩
theorem cellsL_len {T : Cells} : ∀ C, (cellsL T C).length + frees C T = C
  | 0 => rfl
  | C + 1 => by
    have := cellsL_len (T := T) C
    simp only [cellsL, frees, List.length_append]
    cases T C <;> simp <;> omega
theorem cellsL_congr {T T' : Cells} : ∀ C, (∀ c, c < C → T c = T' c) → cellsL T C = cellsL T' C
  | 0, _ => rfl
  | C + 1, h => by simp only [cellsL]; rw [cellsL_congr C fun c hc => h c (by omega), h C (by omega)]
/-- No key lies in two of the first cells. -/
def Dis (T : Cells) (x : Nat) : Prop := ∀ c d, c < x → d < x → ∀ k v v', T c = some (k, v) → T d = some (k, v') → c = d
theorem cellsL_dis {T : Cells} : ∀ C, Dis T C → (cellsL T C).Pairwise fun a b => a.1 ≠ b.1
  | 0, _ => List.Pairwise.nil
  | C + 1, h => by
    simp only [cellsL]
    rw [List.pairwise_append]
    refine ⟨cellsL_dis C fun c d hc hd => h c d (by omega) (by omega), ?_, fun a ha b hb => ?_⟩
    · cases T C <;> simp
    · obtain ⟨c, hc, e⟩ := (cellsL_mem C).1 ha
      have hb' : T C = some b := by simpa using hb
      intro ek
      obtain ⟨ka, va⟩ := a
      obtain ⟨kb, vb⟩ := b
      simp only [] at ek
      subst ek
      have := h c C (by omega) (by omega) ka va vb e hb'
      omega
def atL (P : List (Key × Key)) (i : Nat) : Key × Key := P.getD i ([], [])
theorem atL_mem {P : List (Key × Key)} {i : Nat} (h : i < P.length) : atL P i ∈ P := by
  unfold atL
  rw [List.getD_eq_getElem?_getD, List.getElem?_eq_getElem h]
  exact List.getElem_mem h
theorem atL_ex {P : List (Key × Key)} {q : Key × Key} (h : q ∈ P) : ∃ i, i < P.length ∧ q = atL P i := by
  obtain ⟨i, hi, e⟩ := List.getElem_of_mem h
  exact ⟨i, hi, by unfold atL; rw [List.getD_eq_getElem?_getD, List.getElem?_eq_getElem hi]; exact e.symm⟩
theorem atL_ne {P : List (Key × Key)} (h : P.Pairwise fun a b => a.1 ≠ b.1) {i j : Nat} (hi : i < P.length) (hj : j < P.length) (hne : i ≠ j) : (atL P i).1 ≠ (atL P j).1 := by
  have key : ∀ i j, i < j → (hj : j < P.length) → (atL P i).1 ≠ (atL P j).1 := fun i j hij hj => by
    have := List.pairwise_iff_getElem.1 h i j (by omega) hj hij
    unfold atL
    rw [List.getD_eq_getElem?_getD, List.getD_eq_getElem?_getD, List.getElem?_eq_getElem hj, List.getElem?_eq_getElem (show i < P.length by omega)]
    exact this
  rcases Nat.lt_or_gt_of_ne hne with o | o
  · exact key i j o hj
  · exact fun e => key j i o hi e.symm
theorem atL_app {P : List (Key × Key)} {q : Key × Key} {i : Nat} : atL (P ++ [q]) i = if i < P.length then atL P i else if i = P.length then q else ([], []) := by
  unfold atL
  simp only [List.getD_eq_getElem?_getD]
  by_cases h : i < P.length
  · rw [if_pos h, List.getElem?_append_left h]
  · rw [if_neg h, List.getElem?_append_right (by omega)]
    by_cases e : i = P.length
    · rw [if_pos e, e]; simp
    · rw [if_neg e, List.getElem?_eq_none (by simp; omega)]; rfl
theorem runs_dis {seed : Int} {n C : Nat} {T : Cells} (h : Good seed n C T) : Dis T C := fun c d hc hd k v v' e1 e2 =>
  h.1.inj (koS seed) (homS_lt (C := C) (by have := h.free; omega) seed) hc hd e1 e2

theorem getD_drop (l : List UInt8) (a i : Nat) : (l.drop a).getD i 0 = l.getD (a + i) 0 := by simp [List.getD_eq_getElem?_getD]
/-- If the bytes are an image, then of the cells that were read; and the next cell stands where it is read. -/
theorem rd_same {seed : Int} {l rest : List UInt8} {N n' x : Nat} {T T' : Cells} (hl : l = headB N ++ (bodyB T x ++ rest)) (hN : N < 4294967296) (hok : ∀ c, c < x → okP (T c)) (hx : x ≤ cellsN N) (hi : IsImg seed l n' T') :
    n' = N ∧ (∀ c, c < x → T c = T' c) ∧ (x < cellsN N → okP (T' x) ∧ ∃ more, rest = cellB (T' x) ++ more) ∧ (x = cellsN N → rest = []) := by
  obtain ⟨g, o, e⟩ := hi
  rw [hl] at e
  unfold imageB at e
  obtain ⟨e1, e2⟩ := headB_inj hN (by have := g.2.2.2; omega) e
  subst e1
  by_cases h : x < cellsN N
  · obtain ⟨more, hm⟩ := bodyB_split T' x _ h
    rw [hm] at e2
    obtain ⟨e3, e4⟩ := bodyB_inj x hok (fun c hc => o c (by omega)) e2
    exact ⟨rfl, e3, fun _ => ⟨o x h, more, e4⟩, fun h' => by omega⟩
  · obtain rfl : x = cellsN N := by omega
    obtain ⟨e3, e4⟩ := bodyB_inj (r' := []) _ hok o (by simpa using e2)
    exact ⟨rfl, e3, fun h' => by omega, fun _ => e4⟩
/-- The cells of the reference are the only ones with these pairs. -/
theorem refT_good {seed : Int} {n : Nat} {ord : Nat → Nat} {p : Nat → Key × Key} (hn : n ≤ 100000) (hd : ∀ i j, i < n → j < n → i ≠ j → (p i).1 ≠ (p j).1) (ho : Ordr (fun i j => bfS seed (p i).1 (p j).1) n ord) :
    Good seed n (cellsN n) (refT seed (cellsN n) n ord p) ∧ ∀ x, InT (cellsN n) (refT seed (cellsN n) n ord p) x ↔ ∃ i, i < n ∧ x = p i := by
  obtain ⟨s1, s2, s3, _⟩ := cellsN_spec n (by omega)
  obtain ⟨a, b, c⟩ := layT_runs (koS seed) (show 0 < cellsN n by omega) (homS_lt (by omega) seed) (by omega) hd ho
  exact ⟨⟨a, rfl, c, hn⟩, b⟩
theorem refT_only {seed : Int} {n : Nat} {ord : Nat → Nat} {p : Nat → Key × Key} {T : Cells} (hn : n ≤ 100000) (hd : ∀ i j, i < n → j < n → i ≠ j → (p i).1 ≠ (p j).1) (ho : Ordr (fun i j => bfS seed (p i).1 (p j).1) n ord)
    (hg : Good seed n (cellsN n) T) (hin : ∀ x, InT (cellsN n) T x ↔ ∃ i, i < n ∧ x = p i) : ∀ c, c < cellsN n → T c = refT seed (cellsN n) n ord p c := by
  obtain ⟨g, gi⟩ := refT_good hn hd ho
  exact runs_unique (koS seed) (homS_lt (C := cellsN n) (by have := hg.free; omega) seed) hg.1 g.1 fun x => by rw [hin, gi]
end Go.Proofs.Ytabjpejgnfeegaa
