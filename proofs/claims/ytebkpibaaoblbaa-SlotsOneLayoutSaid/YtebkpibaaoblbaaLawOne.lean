/-
  SlotsOneLayout: for every number of cells, items and turn the law returns true: the same items in another order lie in the same cells.
  No condition beside the statement's own.
-/
import Derived.Test.YtebkpibaaoblbaaItems
import Derived.Test.YtebkpibaaoblbaaOpen
import Derived.Test.YtebkpibaaoblbaaAwake
import Derived.ChangeOld
import Derived.Below
namespace Go.Proofs.Ytebkpibaaoblbaa
open Go.ChangeShapes Go.WideShapes Go.ChangeAt Go.RowKit Go.Deep

theorem infoItem : (Try.prog.info? 32).map (fun i => (i.zero, i.size, i.bytes)) = some (some (.agg #[.int .i64 0, .int .u64 0, .slice none 0 0]), 3, 40) := by kernel_rfl

/-- Where the item that stands at i in the second list stands in the first one. -/
def turnP (n t i : Nat) : Nat := if t % 2 = 1 then n - 1 - (i + t / 2) % n else (i + t / 2) % n
theorem turnP_lt {n t i : Nat} (h : 0 < n) : turnP n t i < n := by
  unfold turnP
  have := Nat.mod_lt (i + t / 2) h
  split <;> omega
theorem mod_inj {n a i j : Nat} (hi : i < n) (hj : j < n) (e : (i + a) % n = (j + a) % n) : i = j := by
  have key : ∀ i j, i < n → j < n → i ≤ j → (j + a) % n = (i + a) % n → i = j := fun i j hi hj hij e => by
    have := Nat.sub_mod_eq_zero_of_mod_eq e
    rw [show j + a - (i + a) = j - i by omega, Nat.mod_eq_of_lt (by omega)] at this
    omega
  rcases Nat.le_total i j with o | o
  · exact key i j hi hj o e.symm
  · exact (key j i hj hi o e).symm
theorem turnP_inj {n t i j : Nat} (hi : i < n) (hj : j < n) (e : turnP n t i = turnP n t j) : i = j := by
  unfold turnP at e
  have h0 := Nat.mod_lt (i + t / 2) (show 0 < n by omega)
  have h2 := Nat.mod_lt (j + t / 2) (show 0 < n by omega)
  have h1 : (i + t / 2) % n = (j + t / 2) % n := by
    generalize (i + t / 2) % n = a at *
    generalize (j + t / 2) % n = b at *
    split at e <;> omega
  exact mod_inj hi hj h1
/-- A function of the numbers below n into them that takes none twice takes all. -/
theorem inj_sur : ∀ (n : Nat) (p : Nat → Nat), (∀ i, i < n → p i < n) → (∀ i j, i < n → j < n → p i = p j → i = j) → ∀ x, x < n → ∃ i, i < n ∧ p i = x
  | 0, _, _, _, x, hx => by omega
  | n + 1, p, h1, h2, x, hx => by
    by_cases e : p n = x
    · exact ⟨n, by omega, e⟩
    · have hn := h1 n (by omega)
      let q : Nat → Nat := fun i => if p i < p n then p i else p i - 1
      have hne : ∀ i, i < n → p i ≠ p n := fun i hi e => by have := h2 i n (by omega) (by omega) e; omega
      obtain ⟨i, hi, ei⟩ := inj_sur n q (fun i hi => by
          have := h1 i (by omega); have := hne i hi
          simp only [q]; split <;> omega)
        (fun i j hi hj e => by
          have := hne i hi; have := hne j hj
          refine h2 i j (by omega) (by omega) ?_
          simp only [q] at e
          (repeat' split at e) <;> omega) (if x < p n then x else x - 1) (by split <;> omega)
      refine ⟨i, by omega, ?_⟩
      have := hne i hi
      simp only [q] at ei
      (repeat' split at ei) <;> omega

/-- How many of the first c cells are taken. -/
def cntT (L : Nat → Option Nat) : Nat → Nat
  | 0 => 0
  | c + 1 => cntT L c + if (L c).isSome then 1 else 0
theorem cntT_frees (L : Nat → Option Nat) : ∀ C, cntT L C + frees C L = C
  | 0 => rfl
  | C + 1 => by
    have := cntT_frees L C
    simp only [cntT, frees]
    cases L C <;> simp <;> omega
theorem cntT_le (L : Nat → Option Nat) : ∀ c, cntT L c ≤ c
  | 0 => Nat.le_refl _
  | c + 1 => by have := cntT_le L c; simp only [cntT]; split <;> omega

/-- The cells of the items in the other order. -/
def itT (n t : Nat) (v : Nat → Nat → Value) : Nat → Nat → Value := fun j c => v (turnP n t j) c
def plT (n t : Nat) : Nat → Nat → Value := fun j _ => .int .i64 ((turnP n t j : Nat) : Int)

set_option maxRecDepth 100000 in
set_option maxHeartbeats 4000000 in
theorem lawOne_any (C : Int) (t : Nat) (ht255 : t ≤ 255) (n cap : Nat) (ao : Option Addr) (v : Nat → Nat → Value) (st rk : Nat → Int) (key : Nat → Key) (w : World) (hm : n ≤ 9223372036854775807) (hits : Its w ao n v st rk key) :
    Calls Try.prog 5 #[.int .i64 C, .slice ao n cap, .int .u8 (t : Int)] w fun e w' => e = .returned (.bool true) ∧ Below w.heap.size w w' := by
  have HITS := Lib.hid hits
  clear hits
  by_cases h1 : 200 < n
  · have d1 : decide ((200 : Int) < (n : Int)) = true := by simp; omega
    have d1' : decide (200 < n) = true := by simpa using h1
    go_enter Try.func5, Try.ntmps5
    go_wp2_with fail
    refine (awake_any _).mono ?_
    rintro e w' ⟨rfl, ht⟩
    go_wp2_with fail
    go_ret
    exact ⟨rfl, ht.below_nil⟩
  have d1 : decide ((200 : Int) < (n : Int)) = false := by simp; omega
  have d1' : decide (200 < n) = false := by simpa using h1
  by_cases h2 : C < 1
  · have d2 : decide (C < 1) = true := by simpa using h2
    go_enter Try.func5, Try.ntmps5
    go_wp2_with fail
    refine (awake_any _).mono ?_
    rintro e w' ⟨rfl, ht⟩
    go_wp2_with fail
    go_ret
    exact ⟨rfl, ht.below_nil⟩
  have d2 : decide (C < 1) = false := by simpa using h2
  by_cases h3 : 2000 < C
  · have d3 : decide (2000 < C) = true := by simpa using h3
    go_enter Try.func5, Try.ntmps5
    go_wp2_with fail
    refine (awake_any _).mono ?_
    rintro e w' ⟨rfl, ht⟩
    go_wp2_with fail
    go_ret
    exact ⟨rfl, ht.below_nil⟩
  have d3 : decide (2000 < C) = false := by simpa using h3
  by_cases h4 : C < (n : Int)
  · have d4 : decide (C < (n : Int)) = true := by simpa using h4
    go_enter Try.func5, Try.ntmps5
    go_wp2_with fail
    refine (awake_any _).mono ?_
    rintro e w' ⟨rfl, ht⟩
    go_wp2_with fail
    go_ret
    exact ⟨rfl, ht.below_nil⟩
  obtain ⟨K, rfl⟩ : ∃ K : Nat, C = (K : Int) := ⟨C.toNat, by omega⟩
  have d4 : decide ((K : Int) < (n : Int)) = false := by simp; omega
  have d4' : decide (K < n) = false := by simp; omega
  go_enter Try.func5, Try.ntmps5
  go_wp2_with fail
  go_loopw [8] (fun i wr => ∃ x : Nat, x ≤ n ∧ i = .int .i64 (x : Int) ∧ Hid (∀ i, i < x → ∀ k, k < i → key i ≠ key k) ∧ Touch Nil w wr) (fun i _ => n - (intOf i).toNat)
  case atStart => exact ⟨0, Nat.zero_le _, rfl, Lib.hid fun i hi => by omega, Touch.refl _ _⟩
  obtain ⟨x, hx, rfl, HX, hto⟩ := hrel
  have HT := Lib.hid hto
  clear hto
  by_cases hlt : x < n
  · have i1 : (x : Int) < (n : Int) := by omega
    have i2 : (0 : Int) ≤ (x : Int) := by omega
    go_wp2_with fail
    obtain ⟨wo, rfl⟩ : ∃ wo : World, wo = wr := ⟨_, rfl⟩
    go_loopw [9] (fun k wi => ∃ y : Nat, y ≤ x ∧ k = .int .i64 (y : Int) ∧ Hid (∀ k, k < y → key x ≠ key k) ∧ Touch Nil wo wi) (fun k _ => x - (intOf k).toNat)
    case atStart => exact ⟨0, Nat.zero_le _, rfl, Lib.hid fun k hk => by omega, Touch.refl _ _⟩
    obtain ⟨y, hy, rfl, HY, hto⟩ := hrel
    obtain ⟨wi, rfl⟩ : ∃ wi : World, wi = wr := ⟨_, rfl⟩
    have HTI := Lib.hid hto
    clear hto
    by_cases hly : y < x
    · have HIT := Lib.hid (HITS.out.keepN (HT.out.trans HTI.out))
      obtain ⟨b, off, rfl, hb, hcell⟩ := HIT.out.cells (by omega)
      have cx := hcell x hlt 2 (by omega)
      have cy := hcell y (by omega) 2 (by omega)
      obtain ⟨⟨a1, c1, e1, _, s1⟩, l1⟩ := HIT.out.keys x hlt
      obtain ⟨⟨a2, c2, e2, _, s2⟩, l2⟩ := HIT.out.keys y (by omega)
      rw [e1] at cx
      rw [e2] at cy
      have HSM := Lib.hid (fun k => same_q (key x) (key y) a1 a2 c1 c2 (wi.drewN k) l1 l2 (s1.keepN ((Touch.refl Nil wi).drewN k)) (s2.keepN ((Touch.refl Nil wi).drewN k)))
      have j1 : (y : Int) < (n : Int) := by omega
      have j2 : (0 : Int) ≤ (y : Int) := by omega
      clear hcell e1 e2 s1 s2 l1 l2
      by_cases hk : key x = key y
      · rw [decide_eq_true hk] at HSM
        clear hk
        go_wp2_with (go_quiet ((go_at_call 25; exact Calls.quiet_of (HSM.out _))))
        refine (awake_any _).mono ?_
        rintro e w' ⟨rfl, ht⟩
        go_wp2_with fail
        go_ret
        exact ⟨rfl, (((HT.out.trans HTI.out).drewN _).trans ht).below_nil⟩
      · have HNK := Lib.hid hk
        rw [decide_eq_false hk] at HSM
        clear hk
        go_wp2_with (go_quiet ((go_at_call 25; exact Calls.quiet_of (HSM.out _))))
        go_roundw
        case rel => exact ⟨y + 1, by omega, by go_num, Lib.hid fun k hk => by
          by_cases e : k = y
          · rw [e]; exact HNK.out
          · exact HY.out k (by omega), HTI.out.drewN _⟩
        case measure => simp [intOf]; omega
    · obtain rfl : y = x := by omega
      have j1 : ¬ ((y : Nat) : Int) < (y : Int) := by omega
      go_wp2_with fail
      go_roundw
      case rel => exact ⟨y + 1, by omega, by go_num, Lib.hid fun i hi k hk => by
        by_cases e : i = y
        · rw [e]; exact HY.out k (by omega)
        · exact HX.out i (by omega) k hk, HT.out.trans HTI.out⟩
      case measure => simp [intOf]; omega
  obtain rfl : x = n := by omega
  have HX := Lib.hid (show ∀ i j, i < x → j < x → i ≠ j → key i ≠ key j from fun i j hi hj hne e => by
    rcases Nat.lt_or_gt_of_ne hne with o | o
    · exact HX.out j hj i o e.symm
    · exact HX.out i hi j o e)
  obtain ⟨wo, rfl⟩ : ∃ wo : World, wo = wr := ⟨_, rfl⟩
  have HO1 := Lib.hid (own_lower (base' := w.heap.size) (own_keepN (own_empty wo 32 3) ((Touch.refl Nil _).alloc (.cells #[] 3))) HT.out.size)
  have HO2 := Lib.hid (own_lower (base' := w.heap.size) (own_empty (wo.alloc (.cells #[] 32)) 3 1) (by have := HT.out.size; rw [nblk_alloc]; omega))
  rw [nblk_alloc] at HO2
  have HT0 := Lib.hid ((HT.out.alloc (.cells #[] 32)).alloc (.cells #[] 3))
  go_wp2_with fail
  clear HT
  go_loopw [10, 11, 12] (fun p q i wr => ∃ j : Nat, j ≤ x ∧ i = .int .i64 (j : Int) ∧ wr.ownsRow w.heap.size 32 3 p j (flat 3 (itT x t v) j) ∧ wr.ownsRow w.heap.size 3 1 q j (flat 1 (plT x t) j) ∧ Touch Nil w wr) (fun _ _ i _ => x - (intOf i).toNat)
  case atStart => exact ⟨0, Nat.zero_le _, rfl, HO1.out, HO2.out, HT0.out⟩
  obtain ⟨j, hj, rfl, ho1, ho2, hto⟩ := hrel
  have HO1 := Lib.hid ho1
  have HO2 := Lib.hid ho2
  have HT := Lib.hid hto
  obtain ⟨ia, icap, rfl, _⟩ := own_row ho1
  obtain ⟨pa, pcap, rfl, _⟩ := own_row ho2
  clear ho1 ho2 hto
  by_cases hlt : j < x
  · have HIT := Lib.hid (HITS.out.keepN HT.out)
    obtain ⟨b, off, rfl, hb, hcell⟩ := HIT.out.cells (by omega)
    have hpl := turnP_lt (t := t) (i := j) (show 0 < x by omega)
    have HP := Lib.hid (show turnP x t j = if t % 2 = 1 then x - 1 - (j + t / 2) % x else (j + t / 2) % x from rfl)
    have hml := Nat.mod_lt (j + t / 2) (show 0 < x by omega)
    have HV := Lib.hid (show (List.range 3).map (itT x t v j) = [.int .i64 (st (turnP x t j)), .int .u64 (rk (turnP x t j)), v (turnP x t j) 2] from by
      show [v (turnP x t j) 0, v (turnP x t j) 1, v (turnP x t j) 2] = _
      rw [HIT.out.start _ hpl, HIT.out.rank _ hpl])
    have HW := Lib.hid (show (List.range 1).map (plT x t j) = [.int .i64 ((turnP x t j : Nat) : Int)] from rfl)
    have cx0 := hcell _ hpl 0 (by omega)
    have cx1 := hcell _ hpl 1 (by omega)
    have cx2 := hcell _ hpl 2 (by omega)
    rw [Nat.add_zero, HIT.out.start _ hpl] at cx0
    rw [HIT.out.rank _ hpl] at cx1
    obtain ⟨⟨a1, c1, e1, _, _⟩, _⟩ := HIT.out.keys _ hpl
    rw [e1] at cx2 HV
    have hs0 : (0 : Int) ≤ (t : Int) := by omega
    have ht2 : (t : Int) / 2 = ((t / 2 : Nat) : Int) := by omega
    have ht3 : t / 2 ≤ 127 := by omega
    have hmm : ((j : Int) + ((t / 2 : Nat) : Int)) % (x : Int) = (((j + t / 2) % x : Nat) : Int) := by rw [Int.natCast_emod, Int.natCast_add]
    have hz : ((x : Int) == 0) = false := by simp; omega
    clear hcell e1
    generalize turnP x t j = k at *
    generalize st k = s0 at *
    generalize rk k = r0 at *
    generalize (key k).length = kl at *
    generalize hm1 : (j + t / 2) % x = k1 at *
    generalize ht2e : t / 2 = t2 at *
    have i1 : (k : Int) < (x : Int) := by omega
    have i2 : (0 : Int) ≤ (k : Int) := by omega
    have HBASE := Lib.hid (HT.out.size)
    have HOA := Lib.hid (show (wr.alloc (.cells #[.int .i64 s0, .int .u64 r0, .slice a1 kl c1] 32)).ownsRow w.heap.size 32 3 (.slice ia j icap) j (flat 3 (itT x t v) j) from own_keepN HO1.out ((Touch.refl Nil wr).alloc _))
    have HCB := Lib.hid (show ∀ q u, ([.int .i64 s0, .int .u64 r0, .slice a1 kl c1] : List Value)[q]? = some u → (wr.alloc (.cells #[.int .i64 s0, .int .u64 r0, .slice a1 kl c1] 32)).cell? ⟨wr.heap.size, q, none⟩ = some u from fun q u hq => by rw [cell_new]; simpa using hq)
    have HON := Lib.hid (show ∀ u ∈ ([.int .i64 s0, .int .u64 r0, .slice a1 kl c1] : List Value), u.oneCell' = true from fun u hu => by
      simp at hu
      rcases hu with rfl | rfl | rfl <;> rfl)
    have HBS := Lib.hid (show w.heap.size ≤ (wr.alloc (.cells #[.int .i64 s0, .int .u64 r0, .slice a1 kl c1] 32)).heap.size from by have := HBASE.out; rw [nblk_alloc]; omega)
    have hj2 : j ≤ 1048576 := by omega
    have key2 : ∀ q : Int, True := fun _ => trivial
    have HOD := Lib.hid (show (t % 2 = 1 ∧ (x : Int) - 1 - (k1 : Int) = (k : Int)) ∨ (¬ t % 2 = 1 ∧ (k1 : Int) = (k : Int)) from by
      by_cases hodd : t % 2 = 1
      · left; rw [if_pos hodd] at HP; have := HP.out; exact ⟨hodd, by omega⟩
      · right; rw [if_neg hodd] at HP; have := HP.out; exact ⟨hodd, by omega⟩)
    clear hm1 ht2e HP key2
    rcases HOD.out with ⟨hodd, hkk⟩ | ⟨hodd, hkk⟩
    all_goals
      first
        | (have hb1 : ((t : Int) % 2 == 1) = true := by simp; omega)
        | (have hb1 : ((t : Int) % 2 == 1) = false := by simp; omega)
      clear hodd HOD
      go_wp2_with (refine wpList_append_one rfl (.tmp 81) (.tmp 86) 26 32 rfl w.heap.size 3 40 _ Try.underlying26 infoItem rfl (Nat.succ_pos _) (by decide) (.slice ia j icap) j _ rfl HOA.out wr.heap.size 1 rfl [.int .i64 s0, .int .u64 r0, .slice a1 kl c1] rfl HCB.out HON.out hj2 HBS.out ?_)
      intro v1 w1 ho1' hT1
      obtain ⟨ia', icap', rfl, _⟩ := own_row ho1'.out
      have HOB1 := Lib.hid (show w1.ownsRow w.heap.size 32 3 (.slice ia' (j + 1) icap') (j + 1) (flat 3 (itT x t v) (j + 1)) from by have := ho1'.out; rw [← HV.out] at this; exact this)
      have HTa := Lib.hid (show Touch Nil w w1 from (HT.out.alloc _).trans' hT1.out fun b hb hs => by have := own_base HOA.out b hs; omega)
      have HOB2 := Lib.hid (own_keep (own_keepN HO2.out ((Touch.refl Nil wr).alloc _)) hT1.out (fun b hb cs z => own_other HOA.out (by decide) b hb cs z))
      have HOC2 := Lib.hid (show (w1.alloc (.cells #[.int .i64 (k : Int)] 3)).ownsRow w.heap.size 3 1 (.slice pa j pcap) j (flat 1 (plT x t) j) from own_keepN HOB2.out ((Touch.refl Nil w1).alloc _))
      have HCB2 := Lib.hid (show ∀ q u, ([.int .i64 (k : Int)] : List Value)[q]? = some u → (w1.alloc (.cells #[.int .i64 (k : Int)] 3)).cell? ⟨w1.heap.size, q, none⟩ = some u from fun q u hq => by rw [cell_new]; simpa using hq)
      have HON2 := Lib.hid (show ∀ u ∈ ([.int .i64 (k : Int)] : List Value), u.oneCell' = true from fun u hu => by
        simp at hu
        rw [hu]; rfl)
      have HBS2 := Lib.hid (show w.heap.size ≤ (w1.alloc (.cells #[.int .i64 (k : Int)] 3)).heap.size from by have := HTa.out.size; rw [nblk_alloc]; omega)
      clear ho1' hT1 cx0 cx1 cx2
      go_wp2_with (refine wpList_append_one rfl (.tmp 88) (.tmp 90) 27 3 rfl w.heap.size 1 8 _ Try.underlying27 infoInt rfl (Nat.succ_pos _) (by decide) (.slice pa j pcap) j _ rfl HOC2.out w1.heap.size 1 rfl [.int .i64 (k : Int)] rfl HCB2.out HON2.out hj2 HBS2.out ?_)
      intro v2 w2 ho2' hT2
      obtain ⟨pa', pcap', rfl, _⟩ := own_row ho2'.out
      have HOD2 := Lib.hid (show w2.ownsRow w.heap.size 3 1 (.slice pa' (j + 1) pcap') (j + 1) (flat 1 (plT x t) (j + 1)) from by have := ho2'.out; rw [← HW.out] at this; exact this)
      have HOD1 := Lib.hid (own_keep (own_keepN HOB1.out ((Touch.refl Nil w1).alloc (.cells #[.int .i64 (k : Int)] 3))) hT2.out (fun b hb cs z => own_other HOC2.out (by decide) b hb cs z))
      have HTb := Lib.hid (show Touch Nil w w2 from (HTa.out.alloc _).trans' hT2.out fun b hb hs => by have := own_base HOC2.out b hs; omega)
      clear ho2' hT2
      go_wp2_with fail
      go_roundw
      case rel => exact ⟨j + 1, by omega, by go_num, HOD1.out, HOD2.out, HTb.out⟩
      case measure => simp [intOf]; omega
  · obtain rfl : j = x := by omega
    have HIT := Lib.hid (HITS.out.keepN HT.out)
    go_wp2_with fail
    refine (lay_any K cap HIT.out (by omega) (by omega) (by omega)).mono ?_
    rintro e w1 ⟨ba, oa, rfl, hba, hra, hoa, hTa⟩
    have HRA := Lib.hid hra
    have HOA := Lib.hid hoa
    have HTa := Lib.hid hTa
    have HIB := Lib.hid (show Its w1 ia j (itT j t v) (fun i => st (turnP j t i)) (fun i => rk (turnP j t i)) (fun i => key (turnP j t i)) from by
      have hi1 := HIT.out.keepN hTa
      refine ⟨fun h0 => ?_, fun i hi => hi1.start _ (turnP_lt (by omega)), fun i hi => hi1.rank _ (turnP_lt (by omega)), fun i hi => hi1.keys _ (turnP_lt (by omega)), fun i c => hi1.one _ _⟩
      obtain ⟨ao', cap', e, hc⟩ := own_row (own_keepN HO1.out hTa)
      cases e
      obtain ⟨g, rfl, _, hg, hcell⟩ := hc h0
      refine ⟨g, 0, rfl, hg, fun i hi c hc => ?_⟩
      rw [show 0 + i * 3 + c = i * 3 + c by omega, hcell _ (by omega)]
      exact flat_get 3 _ j i c hi hc)
    clear hra hoa hTa
    go_wp2_with fail
    refine (lay_any K icap HIB.out (by omega) (by omega) (by omega)).mono ?_
    rintro e w2 ⟨bb, ob, rfl, hbb, hrb, hob, hTb⟩
    have HLAB := Lib.hid (show place K (home K st) oa j = fun c => (place K (home K fun i => st (turnP j t i)) ob j c).map (turnP j t) from
      place_turn (ltI_swo rk key j) (fun i k hi hk hne => ltI_tot rk key (HX.out i k hi hk hne)) (fun i hi => turnP_lt (by omega)) (fun i k hi hk => turnP_inj hi hk) (inj_sur j _ (fun i hi => turnP_lt (by omega)) (fun i k hi hk => turnP_inj hi hk)) HOA.out hob)
    have HLV := Lib.hid (show ∀ c i, c < K → place K (home K fun i => st (turnP j t i)) ob j c = some i → i < j from fun c i hc e => by
      obtain ⟨q, hq, e', _⟩ := (place_spec (C := K) (n := j) (h := home K fun i => st (turnP j t i)) (ord := ob) (by omega) (fun i => home_lt (by omega) _ i) (by omega) j (Nat.le_refl _)).1 c hc i e
      rw [← e']; exact hob.lt' q hq)
    have HCT := Lib.hid (show cntT (place K (home K fun i => st (turnP j t i)) ob j) K = j from by
      have h1 := cntT_frees (place K (home K fun i => st (turnP j t i)) ob j) K
      have h2 := place_frees (C := K) (n := j) (h := home K fun i => st (turnP j t i)) (ord := ob) (by omega) (fun i => home_lt (by omega) _ i) (by omega) j (Nat.le_refl _)
      omega)
    have HRA2 := Lib.hid (hTb.row HRA.out (fun c => c))
    rw [HLAB.out] at HRA2
    have HRB := Lib.hid hrb
    have HTw := Lib.hid ((HT.out.trans HTa.out).trans hTb)
    have HOP := Lib.hid (own_keepN HO2.out (HTa.out.trans hTb))
    have HE : ∃ L, place K (home K fun i => st (turnP j t i)) ob j = L := ⟨_, rfl⟩
    obtain ⟨L, eL⟩ := HE
    rw [eL] at HLV HCT HRA2 HRB
    clear hrb hob hTb HLAB HRA HOA HTa HIB eL
    have hK : ((K : Int) != (K : Int)) = false := by simp
    have HLE := Lib.hid (cntT_le L)
    go_wp2_with fail
    go_loopw [16, 17] (fun m c wr => ∃ q : Nat, q ≤ K ∧ c = .int .i64 (q : Int) ∧ m = .int .i64 ((cntT L q : Nat) : Int) ∧ Touch Nil w2 wr) (fun _ c _ => K - (intOf c).toNat)
    case atStart => exact ⟨0, Nat.zero_le _, rfl, rfl, Touch.refl _ _⟩
    obtain ⟨q, hq, rfl, rfl, hto⟩ := hrel
    have HT2 := Lib.hid hto
    clear hto
    by_cases hlt : q < K
    · have ca := (HT2.out.row HRA2.out (fun c => c)).cell hlt
      have cb := (HT2.out.row HRB.out (fun c => c)).cell hlt
      have i1 : (q : Int) < (K : Int) := by omega
      have i2 : (0 : Int) ≤ (q : Int) := by omega
      have hle := HLE.out q
      have HNX := Lib.hid (show cntT L (q + 1) = cntT L q + if (L q).isSome then 1 else 0 from rfl)
      have HLQ := Lib.hid (HLV.out q)
      generalize cntT L q = m at *
      cases hL : L q with
      | none =>
        rw [hL] at ca cb HNX
        replace HNX := Lib.hid (show cntT L (q + 1) = m from HNX.out)
        obtain ⟨m1, em⟩ : ∃ m1 : Int, m1 = -1 := ⟨_, rfl⟩
        replace ca : wr.cell? ⟨ba, q, none⟩ = some (.int .i64 m1) := by rw [em]; exact ca
        replace cb : wr.cell? ⟨bb, q, none⟩ = some (.int .i64 m1) := by rw [em]; exact cb
        have f0 : decide (m1 < -1) = false := by simp; omega
        have f1 : decide ((j : Int) ≤ m1) = false := by simp; omega
        have f2 : decide (m1 < 0) = true := by simp; omega
        have f3 : decide (0 ≤ m1) = false := by simp; omega
        clear em
        clear hL
        go_wp2_with (go_quiet (fail))
        go_roundw
        case rel => exact ⟨q + 1, by omega, by go_num, by rw [HNX.out], HT2.out.drewN _⟩
        case measure => simp [intOf]; omega
      | some i =>
        have hij := HLQ.out i hlt hL
        rw [hL] at ca cb HNX
        replace HNX := Lib.hid (show cntT L (q + 1) = m + 1 from HNX.out)
        have hpj := turnP_lt (t := t) (i := i) (show 0 < j by omega)
        obtain ⟨_, _, e, hc⟩ := own_row (own_keepN HOP.out HT2.out)
        cases e
        obtain ⟨g, rfl, _, hg, hcell⟩ := hc (by omega)
        have cp := hcell (i * 1 + 0) (by omega)
        rw [flat_get 1 _ j i 0 hij (by omega), Nat.mul_one, Nat.add_zero] at cp
        replace cp : wr.cell? ⟨g, i, none⟩ = some (.int .i64 ((turnP j t i : Nat) : Int)) := cp
        replace ca : wr.cell? ⟨ba, q, none⟩ = some (.int .i64 ((turnP j t i : Nat) : Int)) := ca
        replace cb : wr.cell? ⟨bb, q, none⟩ = some (.int .i64 (i : Int)) := cb
        clear hcell hc hg hL
        generalize turnP j t i = k at *
        have f1 : decide ((k : Int) < -1) = false := by rw [decide_eq_false_iff_not]; omega
        have f2 : decide ((j : Int) ≤ (k : Int)) = false := by simp; omega
        have f2' : decide (j ≤ k) = false := by simp; omega
        have f3 : decide ((i : Int) < -1) = false := by rw [decide_eq_false_iff_not]; omega
        have f4 : decide ((j : Int) ≤ (i : Int)) = false := by simp; omega
        have f4' : decide (j ≤ i) = false := by simp; omega
        have f5 : decide ((k : Int) < 0) = false := by simp
        have f6 : decide ((i : Int) < 0) = false := by simp
        have f7 : decide ((0 : Int) ≤ (k : Int)) = true := by simp
        have f8 : ((k : Int) != (k : Int)) = false := by simp
        have i3 : (i : Int) < (j : Int) := by omega
        have i4 : (0 : Int) ≤ (i : Int) := by omega
        go_wp2_with (go_quiet (fail))
        go_roundw
        case rel => exact ⟨q + 1, by omega, by go_num, by rw [HNX.out]; rfl, HT2.out.drewN _⟩
        case measure => simp [intOf]; omega
    · obtain rfl : q = K := by omega
      have HCT' := Lib.hid HCT.out
      have hcn : (((cntT L q : Nat) : Int) == (j : Int)) = true := by rw [HCT.out]; simp
      go_wp2_with fail
      refine (awake_any _).mono ?_
      rintro e w' ⟨rfl, ht⟩
      go_wp2_with fail
      go_ret
      exact ⟨rfl, ((HTw.out.trans HT2.out).trans ht).below_nil⟩

set_option maxRecDepth 100000 in
theorem slotsOne_lifted (os : Os) (started : os.Started) (H : Type) (enc : TypeId × Value → H) :
    ReturnsInHanded {} Try.checked os 5 .any (Rows.slotsOneLayoutSpec.pre6 enc Try.prog Try.f5 Rows.slotsOneLayoutRow.domain false) (Rows.slotsOneLayoutSpec.post enc Try.prog Try.f5 false true false false) := by
  refine returnsInHanded_of_change (C := Try.checked) own started (by kernel_rfl) Try.func5
    (ChangeSpec.witness6 (enc := enc) (C := Try.checked) false ⟨#[], #[.int .i64 0, .slice none 0 0, .int .u8 0], []⟩ 8 (by kernel_rfl) (by kernel_rfl) (by kernel_rfl) (by kernel_rfl)) ?_
  intro W base args ds gs before hval0 hW _ _
  have hval : ∀ (j : Nat) t v, Try.f5.params[j]? = some t → args[j]? = some v → Value.okWide Try.prog W .any base t v := hval0
  have hW' := hW
  obtain ⟨p, q, hA0, hV, rfl, hfz, hnd⟩ := hW
  have hA : DataW.TrodAll enc Try.prog W 0 (fun _ => true) true Try.f5.params.toList args.toList ds p := hA0
  rw [Try.params5] at hA hval
  obtain ⟨v0, vs0, d0, ds0, p0, q0, hargs, rfl, rfl, h0, r0⟩ := trodAll_cons hA
  obtain ⟨v1, vs1, d1, ds1, p1, q1, rfl, rfl, rfl, h1, r1⟩ := trodAll_cons r0
  obtain ⟨v2, vs2, d2, ds2, p2, q2, rfl, rfl, rfl, h2, r2⟩ := trodAll_cons r1
  obtain ⟨rfl, rfl, rfl⟩ := trodAll_nil r2
  obtain rfl : args = #[v0, v1, v2] := by cases args; simp_all
  obtain ⟨rfl, rfl⟩ := trodVars_none hV
  obtain ⟨cells, rfl, rfl, rfl, w0⟩ := open_int Try.underlying3 (hval 0 3 v0 rfl rfl) h0
  obtain ⟨ao, len, cap, rfl⟩ := okWide_slice Try.underlying26 (hval 1 26 v1 rfl rfl)
  obtain ⟨turn, rfl, rfl, rfl, w2⟩ := open_int Try.underlying5 (hval 2 5 v2 rfl rfl) h2
  have k1 := h1
  have lt1 : ∀ x ∈ p1, x.block < W.heap.size := by obtain ⟨m, hm⟩ := k1; exact DataW.trod_lt m _ _ _ hm
  obtain ⟨fuel, hf⟩ := h1
  obtain ⟨hm, v, st, rk, key, hits⟩ := open_its hf
  have hw : 0 ≤ turn ∧ turn ≤ 255 := by simpa [Lit.wf, IntKind.min, IntKind.max, IntKind.signed, IntKind.bits] using w2
  obtain ⟨tn, rfl⟩ : ∃ tn : Nat, turn = (tn : Int) := ⟨turn.toNat, by omega⟩
  clear hA0 hval0
  refine (lawOne_any cells tn (by omega) len cap ao v st rk key W (by unfold maxLen at hm; omega) hits).mono fun e W' ⟨he, bel⟩ => ?_
  subst he
  exact ⟨_, rfl, _, _, _, [], _, [], hW', trodAll_mk1 (shut_bool Try.underlying4 _), (trodAll_cons_mk (shut_int Try.underlying3 w0) (trodAll_cons_mk (Below.trod laidOut (by kernel_rfl) (of_decide_eq_true (by kernel_rfl)) k1 bel lt1) (trodAll_cons_mk (shut_int Try.underlying5 w2) trodAll_mk0))), rfl, bel.frame _, fun h => by cases h⟩

theorem slotsOneLayout_holds : Rows.SlotsOneLayoutSaid :=
  OpenClaim.holds_of_wide 5 Try.f5 rfl rfl rfl rfl rfl rfl rfl ⟨rfl, rfl, rfl, rfl, rfl⟩ rfl rfl rfl rfl rfl (by kernel_rfl) Try.func5 (by kernel_rfl)
    (of_decide_eq_true (by kernel_rfl)) (by unfold Func.isWrapper; first | (rw [if_pos (by decide +kernel)]; kernel_rfl) | (rw [if_neg (by decide +kernel)]; exact ⟨rfl, rfl⟩))
    (fun os started H enc _ => slotsOne_lifted os started H enc)
end Go.Proofs.Ytebkpibaaoblbaa
