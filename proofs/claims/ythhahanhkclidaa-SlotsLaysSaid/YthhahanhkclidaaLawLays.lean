/-
  SlotsLays: for every number of cells, items and numbers the law returns true: a layout has each item where the order and the homes say, as the definition has it.
  No condition beside the statement's own.
-/
import Derived.Test.YthhahanhkclidaaLayRef
import Derived.Test.YthhahanhkclidaaLayBad
import Derived.Test.YthhahanhkclidaaLayoutN
import Derived.Test.YthhahanhkclidaaAwake
namespace Go.Proofs.Ythhahanhkclidaa
open Go.ChangeShapes Go.WideShapes Go.ChangeAt Go.RowKit Go.Deep

theorem infoItemL : (Try.prog.info? 32).map (fun i => (i.zero, i.size, i.bytes)) = some (some (.agg #[.int .i64 0, .int .u64 0, .slice none 0 0]), 3, 40) := by kernel_rfl
theorem xor_top (b : Nat) (h : b < 2 ^ 63) : b ^^^ 2 ^ 63 = 2 ^ 63 + b := by
  apply Nat.eq_of_testBit_eq
  intro j
  rw [Nat.testBit_xor, Nat.testBit_two_pow]
  rcases Nat.lt_trichotomy j 63 with hj | hj | hj
  · rw [Nat.testBit_two_pow_add_gt hj]
    have : decide (63 = j) = false := by simp; omega
    rw [this]; simp
  · subst hj
    rw [Nat.testBit_two_pow_add_eq]
    simp
  · have e1 : b.testBit j = false := Nat.testBit_lt_two_pow (Nat.lt_of_lt_of_le h (Nat.pow_le_pow_right (by decide) (by omega)))
    have e2 : (2 ^ 63 + b).testBit j = false := Nat.testBit_lt_two_pow (Nat.lt_of_lt_of_le (show 2 ^ 63 + b < 2 ^ 64 by omega) (Nat.pow_le_pow_right (by decide) (by omega)))
    have : decide (63 = j) = false := by simp; omega
    rw [e1, e2, this]; rfl
/-- The order of signed numbers as unsigned ones. -/
def rankU (x : Int) : Int := bits BinOp.xor .u64 (IntKind.u64.wrap x) 9223372036854775808
theorem rankU_eq {x : Int} (h : -9223372036854775808 ≤ x ∧ x ≤ 9223372036854775807) : rankU x = x + 9223372036854775808 := by
  unfold rankU
  have h2 : (BitVec.ofInt 64 9223372036854775808).toNat = 9223372036854775808 := by decide
  have key : ∀ a : Nat, a < 18446744073709551616 → bits BinOp.xor .u64 (a : Int) 9223372036854775808 = ((a ^^^ 9223372036854775808 : Nat) : Int) := fun a ha => by
    have h1 : (BitVec.ofInt 64 (a : Int)).toNat = a := by
      rw [BitVec.ofInt_natCast, BitVec.toNat_ofNat]; exact Nat.mod_eq_of_lt (by omega)
    have hx : a ^^^ 9223372036854775808 < 2 ^ 64 := Nat.xor_lt_two_pow (by omega) (by omega)
    show IntKind.u64.wrap ((BitVec.ofInt 64 (a : Int) ^^^ BitVec.ofInt 64 9223372036854775808).toNat : Int) = _
    rw [BitVec.toNat_xor, h1, h2, IntKind.wrap_u64]
    omega
  rw [IntKind.wrap_u64]
  by_cases hx : 0 ≤ x
  · obtain ⟨a, rfl⟩ := Int.eq_ofNat_of_zero_le hx
    rw [Int.emod_eq_of_lt (by omega) (by omega), key a (by omega)]
    have := xor_top a (by omega)
    rw [show (9223372036854775808 : Nat) = 2 ^ 63 from rfl, this]
    omega
  · obtain ⟨a, ha⟩ : ∃ a : Nat, x + 9223372036854775808 = (a : Int) := ⟨(x + 9223372036854775808).toNat, by omega⟩
    have e : x % 18446744073709551616 = ((2 ^ 63 + a : Nat) : Int) := by omega
    rw [e, key _ (by omega), ← xor_top a (by omega), show (9223372036854775808 : Nat) = 2 ^ 63 from rfl, Nat.xor_assoc, Nat.xor_self, Nat.xor_zero, ha]

/-- A layout that is handed back, by its numbers. -/
def LayAll (N : Nat) (f : Nat → Int) (w : World) (e : Ending) (w' : World) : Prop := ∃ ao cap, e = .returned (.slice ao N cap) ∧ IntsS w' ao N f ∧ Touch Nil w w'
theorem layAll_none {w : World} {f : Nat → Int} : LayAll 0 f w (.returned (.slice none 0 0)) w := ⟨_, _, rfl, fun h => by omega, Touch.refl _ _⟩
theorem layN_all {C n : Nat} {s : Nat → Int} {lt : Nat → Nat → Bool} {ord0 : Nat → Nat} {w w' : World} {e : Ending} (hw : SWO lt n) (h0 : Ordr lt n ord0) (h : LayN C n s lt w e w') : LayAll C (fun c => cellV (place C (home C s) ord0 n c)) w e w' := by
  obtain ⟨b, ord, rfl, hb, hr, ho, ht⟩ := h
  have hu := Ordr.unique hw ho h0
  refine ⟨_, _, rfl, fun _ => ⟨b, 0, rfl, fun j hj => ?_⟩, ht⟩
  rw [Nat.zero_add, hr.cell hj, place_congr n (fun k hk => hu k hk) (fun k hk => by rw [hu k hk])]

set_option maxHeartbeats 1000000 in
theorem lay_bad (cells : Int) (ao : Option Addr) (n cap : Nat) (w : World) (h : ¬ (1 ≤ cells ∧ cells ≤ 1048576 ∧ (n : Int) ≤ cells)) :
    Calls Try.prog 17 #[.int .i64 cells, .slice ao n cap] w (LayAll 0 (fun _ => 0) w) := by
  have HL := Lib.hid (fun f g w => layoutBadI cells ao n cap f g w h)
  clear h
  go_enter Try.func17, Try.ntmps17
  go_wp2_with fail
  refine (HL.out _ _ _).mono ?_
  rintro e w' ⟨rfl, rfl⟩
  go_wp2_with fail
  go_ret
  exact layAll_none
theorem lays_its {w : World} {ao : Option Addr} {n : Nat} (cap : Nat) {v : Nat → Nat → Value} {st rk : Nat → Int} {key : Nat → Key} (h : Its w ao n v st rk key) (cells : Int) (hc : cells ≤ 2000 ∨ 1048576 < cells) :
    ∃ N f, N ≤ 2000 ∧ ∀ w', Touch Nil w w' → Calls Try.prog 17 #[.int .i64 cells, .slice ao n cap] w' (LayAll N f w') ∧ Calls Try.prog 18 #[.int .i64 cells, .slice ao n cap] w' (LayAll N f w') := by
  by_cases hv : 1 ≤ cells ∧ cells ≤ 1048576 ∧ (n : Int) ≤ cells
  · obtain ⟨C, rfl⟩ : ∃ C : Nat, cells = (C : Int) := ⟨cells.toNat, by omega⟩
    obtain ⟨ord0, h0⟩ := ordr_exists (ltI_swo rk key n)
    refine ⟨C, fun c => cellV (place C (home C st) ord0 n c), by omega, fun w' ht => ⟨?_, ?_⟩⟩
    · exact (lay_any C cap (h.keepN ht) (by omega) (by omega) (by omega)).mono fun e w'' hl => layN_all (ltI_swo rk key n) h0 hl
    · exact (layRef_any C cap (h.keepN ht) (by omega) (by omega) (by omega)).mono fun e w'' hl => layN_all (ltI_swo rk key n) h0 hl
  · exact ⟨0, fun _ => 0, by omega, fun w' ht => ⟨lay_bad cells ao n cap w' hv, (layRef_none cells ao n cap w' hv).mono fun e w'' ⟨h1, h2⟩ => by rw [h1, h2]; exact layAll_none⟩⟩

/-! ### Plain numbers -/
set_option maxHeartbeats 1000000 in
theorem self_any (x : Int) (w : World) : Calls Try.prog 20 #[.int .i64 x] w fun e w' => e = .returned (.int .i64 x) ∧ w = w' := by
  go_enter Try.func20, Try.ntmps20
  go_wp2_with fail
  go_ret
  exact ⟨rfl, rfl⟩
set_option maxHeartbeats 1000000 in
theorem greater_any (x y : Int) (w : World) : Calls Try.prog 21 #[.int .i64 x, .int .i64 y] w fun e w' => e = .returned (.bool (decide (y < x))) ∧ w = w' := by
  go_enter Try.func21, Try.ntmps21
  go_wp2_with fail
  go_ret
  exact ⟨rfl, rfl⟩

def numV (f : Nat → Int) : Nat → Nat → Value := fun i _ => .int .i64 (f i)
def plainV (f : Nat → Int) : Nat → Nat → Value := fun i c => if c = 0 then .int .i64 (f i) else if c = 1 then .int .u64 (rankU (f i)) else .slice none 0 0
theorem num_sta (f : Nat → Int) (n : Nat) (w : World) : Sta 20 #[] (itemN (numV f)) f n w.heap.size (fun _ w' => Touch Nil w w') Nil where
  enter := fun args w => by simp [go_sem]
  call := fun w1 x hI hx => (self_any (f x) w1).mono fun e w' ⟨he, hw⟩ => ⟨he, by rw [← hw]; exact hI, by rw [← hw]; exact Touch.refl _ _⟩
  keep := fun _ w1 w2 hI hb => ⟨hb.os.trans hI.os, hb.tape.trans hI.tape, hb.output.trans hI.output, Nat.le_trans hI.size hb.size, fun b hb' hn => (hb.block b hb').trans (hI.same b hb' hn)⟩
  low := fun _ c => c.elim
def gtN (f : Nat → Int) (i j : Nat) : Bool := decide (f j < f i)
theorem num_bef (f : Nat → Int) (n : Nat) (w : World) : Bef 21 #[] (itemN (numV f)) (gtN f) n w.heap.size (fun w' => Touch Nil w w') Nil where
  enter := fun args w => by simp [go_sem]
  call := fun w1 x y hI hx hy => (greater_any (f x) (f y) w1).mono fun e w' ⟨he, hw⟩ => ⟨he, by rw [← hw]; exact hI, by rw [← hw]; exact Touch.refl _ _⟩
  keep := fun w1 w2 hI hb => ⟨hb.os.trans hI.os, hb.tape.trans hI.tape, hb.output.trans hI.output, Nat.le_trans hI.size hb.size, fun b hb' hn => (hb.block b hb').trans (hI.same b hb' hn)⟩
  low := fun _ c => c.elim
/-- The order of the plain numbers is that of their items. -/
theorem gt_lt {f : Nat → Int} {n : Nat} (hf : ∀ i, i < n → -9223372036854775808 ≤ f i ∧ f i ≤ 9223372036854775807) {i j : Nat} (hi : i < n) (hj : j < n) : gtN f i j = ltI (fun i => rankU (f i)) (fun _ => []) i j := by
  unfold gtN ltI befI lessB
  simp only [rankU_eq (hf i hi), rankU_eq (hf j hj), cmp_self]
  rw [Bool.eq_iff_iff]
  simp
theorem gt_swo {f : Nat → Int} {n : Nat} : SWO (gtN f) n where
  asym := fun x y _ _ h => by unfold gtN at *; simp at *; omega
  trans := fun x y z _ _ _ h k => by unfold gtN at *; simp at *; omega
  neg := fun x y z _ _ _ h k => by unfold gtN at *; simp at *; omega
theorem ordr_congr {lt lt' : Nat → Nat → Bool} {n : Nat} {ord : Nat → Nat} (h : Ordr lt n ord) (e : ∀ i j, i < n → j < n → lt i j = lt' i j) : Ordr lt' n ord := by
  refine ⟨h.lt', h.all, fun i j h0 hij hj => ?_⟩
  have := h.sorted i j h0 hij hj
  have a := h.lt' i (by omega)
  have b := h.lt' j hj
  unfold Rel at *
  rw [← e _ _ a b, ← e _ _ b a]
  exact this
theorem items_num {w : World} {ao : Option Addr} {l : List Int} (h : SlI w .i64 ao l) : Items w ao l.length 1 (numV fun i => l.getD i 0) := fun h0 => by
  obtain ⟨b, off, e, hc⟩ := h 0 h0
  subst e
  refine ⟨b, off, rfl, World.block_lt_of_cell? w _ hc, fun i hi c hc' => ?_⟩
  obtain ⟨b', off', e, hcc⟩ := h i hi
  cases e
  have : c = 0 := by omega
  subst this
  rw [Nat.mul_one, Nat.add_zero]
  exact hcc
theorem lays_num {w : World} {ao : Option Addr} {l : List Int} (cap : Nat) (h : SlI w .i64 ao l) (hf : ∀ i, i < l.length → -9223372036854775808 ≤ l.getD i 0 ∧ l.getD i 0 ≤ 9223372036854775807) (cells : Int) (hc : cells ≤ 2000 ∨ 1048576 < cells) :
    ∃ N f, N ≤ 2000 ∧ (∀ w', Touch Nil w w' → Calls Try.prog 19 #[.int .i64 cells, .slice ao l.length cap, .func (.func 20) #[] #[], .func (.func 21) #[] #[]] w' (LayAll N f w')) ∧
      ∀ w' po pc, Its w' po l.length (plainV fun i => l.getD i 0) (fun i => l.getD i 0) (fun i => rankU (l.getD i 0)) (fun _ => []) → Calls Try.prog 18 #[.int .i64 cells, .slice po l.length pc] w' (LayAll N f w') := by
  by_cases hv : 1 ≤ cells ∧ cells ≤ 1048576 ∧ (l.length : Int) ≤ cells
  · obtain ⟨C, rfl⟩ : ∃ C : Nat, cells = (C : Int) := ⟨cells.toNat, by omega⟩
    obtain ⟨ord0, h0⟩ := ordr_exists (ltI_swo (fun i => rankU (l.getD i 0)) (fun _ => []) l.length)
    refine ⟨C, fun c => cellV (place C (home C fun i => l.getD i 0) ord0 l.length c), by omega, fun w' ht => ?_, fun w' po pc hi => ?_⟩
    · have hit := items_num (h.keepN ht)
      refine (layoutN _ #[] _ #[] w'.heap.size C ao l.length cap (numV fun i => l.getD i 0) (fun i => l.getD i 0) (gtN fun i => l.getD i 0) _ Nil (num_sta _ _ w') (num_bef _ _ w') gt_swo (fun h0 b o e => by
        obtain ⟨b', o', e', hb, _⟩ := hit h0
        rw [e] at e'
        cases e'
        exact ⟨hb, fun c => c⟩) (by omega) (by omega) (by omega) (fun _ _ => rfl) w' (Nat.le_refl _) (Touch.refl _ _) hit).mono fun e w'' hl => ?_
      obtain ⟨b, ord, rfl, hb, hr, hp, hs, _, ht'⟩ := hl
      exact layN_all (lt := ltI (fun i => rankU (l.getD i 0)) (fun _ => [])) (ltI_swo _ _ _) h0 ⟨b, ord, rfl, hb, hr, ordr_congr (PermOn.ordr hp hs) fun i j hi hj => gt_lt hf hi hj, ht'⟩
    · exact (layRef_any C pc hi (by omega) (by omega) (by omega)).mono fun e w'' hl => layN_all (ltI_swo _ _ _) h0 hl
  · exact ⟨0, fun _ => 0, by omega, fun w' ht => (layoutBadN cells ao l.length cap _ _ w' hv).mono fun e w'' ⟨h1, h2⟩ => (by rw [h1, h2]; exact layAll_none), fun w' po pc _ => (layRef_none cells po l.length pc w' hv).mono fun e w'' ⟨h1, h2⟩ => by rw [h1, h2]; exact layAll_none⟩
/-- No layout without a function. -/
theorem nolay_num (cells : Int) (ao : Option Addr) (n cap : Nat) (w : World) (g : Value) : Calls Try.prog 19 #[.int .i64 cells, .slice ao n cap, .nilFunc, g] w fun e w' => e = .returned (.slice none 0 0) ∧ w' = w := by
  by_cases hv : 1 ≤ cells ∧ cells ≤ 1048576 ∧ (n : Int) ≤ cells
  · obtain ⟨C, rfl⟩ : ∃ C : Nat, cells = (C : Int) := ⟨cells.toNat, by omega⟩
    exact layoutNoStartN C ao n cap g w (by omega) (by omega) (by omega)
  · exact layoutBadN cells ao n cap _ _ w hv
theorem nolay_its (cells : Int) (ao : Option Addr) (n cap : Nat) (w : World) (f : Fn) (a b : Array Value) : Calls Try.prog 23 #[.int .i64 cells, .slice ao n cap, .func f a b, .nilFunc] w fun e w' => e = .returned (.slice none 0 0) ∧ w' = w := by
  by_cases hv : 1 ≤ cells ∧ cells ≤ 1048576 ∧ (n : Int) ≤ cells
  · obtain ⟨C, rfl⟩ : ∃ C : Nat, cells = (C : Int) := ⟨cells.toNat, by omega⟩
    exact layoutNoBeforeI C ao n cap f a b w (by omega) (by omega) (by omega)
  · exact layoutBadI cells ao n cap _ _ w hv

set_option maxRecDepth 100000 in
set_option maxHeartbeats 4000000 in
theorem lawLays_any (cells : Int) (n cap : Nat) (ao : Option Addr) (v : Nat → Nat → Value) (st rk : Nat → Int) (key : Nat → Key) (nu : List Int) (no : Option Addr) (ncap : Nat) (w : World) (hm : n ≤ 9223372036854775807) (hm2 : nu.length ≤ 9223372036854775807) (hits : Its w ao n v st rk key) (hnum : SlI w .i64 no nu)
    (hf : ∀ i, i < nu.length → -9223372036854775808 ≤ nu.getD i 0 ∧ nu.getD i 0 ≤ 9223372036854775807) :
    Calls Try.prog 4 #[.int .i64 cells, .slice ao n cap, .slice no nu.length ncap] w fun e w' => e = .returned (.bool true) ∧ Below w.heap.size w w' := by
  have HE : ∃ m, nu.length = m := ⟨_, rfl⟩
  obtain ⟨m, em⟩ := HE
  by_cases h1 : 400 < n
  · have d1 : decide ((400 : Int) < (n : Int)) = true := by simp; omega
    have d1' : decide (400 < n) = true := by simpa using h1
    rw [em]
    clear hits hnum hf em
    go_enter Try.func4, Try.ntmps4
    go_wp2_with fail
    refine (awake_any _).mono ?_
    rintro e w' ⟨rfl, ht⟩
    go_wp2_with fail
    go_ret
    exact ⟨rfl, ht.below_nil⟩
  have d1 : decide ((400 : Int) < (n : Int)) = false := by simp; omega
  have d1' : decide (400 < n) = false := by simpa using h1
  by_cases h2 : 400 < m
  · have d2 : decide ((400 : Int) < (m : Int)) = true := by simp; omega
    have d2' : decide (400 < m) = true := by simpa using h2
    rw [em]
    clear hits hnum hf em
    go_enter Try.func4, Try.ntmps4
    go_wp2_with fail
    refine (awake_any _).mono ?_
    rintro e w' ⟨rfl, ht⟩
    go_wp2_with fail
    go_ret
    exact ⟨rfl, ht.below_nil⟩
  have d2 : decide ((400 : Int) < (m : Int)) = false := by simp; omega
  have d2' : decide (400 < m) = false := by simpa using h2
  by_cases h3 : cells > 2000 ∧ cells ≤ 1048576
  · obtain ⟨h3, h4⟩ := h3
    have d3 : decide ((2000 : Int) < cells) = true := by simp; omega
    have d4 : decide (cells ≤ (1048576 : Int)) = true := by simp; omega
    rw [em]
    clear hits hnum hf em
    go_enter Try.func4, Try.ntmps4
    go_wp2_with fail
    refine (awake_any _).mono ?_
    rintro e w' ⟨rfl, ht⟩
    go_wp2_with fail
    go_ret
    exact ⟨rfl, ht.below_nil⟩
  have hc : cells ≤ 2000 ∨ 1048576 < cells := by omega
  have D : Hid True := Lib.hid trivial
  obtain ⟨N1, f1, hN1, hl1⟩ := lays_its cap hits cells hc
  obtain ⟨N2, f2, hN2, hl2, hl3⟩ := lays_num ncap hnum hf cells hc
  have HL1 := Lib.hid hl1
  have HL2 := Lib.hid hl2
  have HL3 := Lib.hid hl3
  have HNU := Lib.hid hnum
  rw [em] at HL2 HL3 ⊢
  have HEM := Lib.hid em
  clear hl1 hl2 hl3 hits hnum hf em
  have hd : decide ((2000 : Int) < cells) = false ∨ (decide ((2000 : Int) < cells) = true ∧ decide (cells ≤ (1048576 : Int)) = false) := by
    by_cases q : 2000 < cells
    · right; simp; omega
    · left; simp; omega
  rcases hd with e1 | ⟨e1, e2⟩
  all_goals
    go_enter Try.func4, Try.ntmps4
    go_wp2_with fail
    refine ((HL1.out _ (Touch.refl _ _)).1).mono ?_
    rintro e w1 ⟨a1, c1, rfl, hi1, ht1⟩
    have HI1 := Lib.hid hi1
    have HT1 := Lib.hid ht1
    clear hi1 ht1
    go_wp2_with fail
    refine ((HL1.out _ HT1.out).2).mono ?_
    rintro e w2 ⟨a2, c2, rfl, hi2, ht2⟩
    have HI2 := Lib.hid hi2
    have HT2 := Lib.hid (HT1.out.trans ht2)
    have HS2 := Lib.hid (sameI_true N1 c1 c2 a1 a2 f1 w2 (by omega) (HI1.out.keepN ht2) hi2)
    clear hi2 ht2 HI1 HI2
    go_wp2_with fail
    refine HS2.out.mono ?_
    rintro e w3 ⟨rfl, ht3⟩
    have HT3 := Lib.hid (HT2.out.trans ht3)
    clear ht3 HS2
    go_wp2_with fail
    have HO0 := Lib.hid (own_lower (own_empty w3 32 3) HT3.out.size)
    have HT0 := Lib.hid (HT3.out.alloc (.cells #[] 32))
    go_loopw [7, 8] (fun p i wx => ∃ j : Nat, j ≤ m ∧ i = .int .i64 (j : Int) ∧ wx.ownsRow w.heap.size 32 3 p j (flat 3 (plainV fun i => nu.getD i 0) j) ∧ Touch Nil w wx) (fun _ i _ => m - (intOf i).toNat)
    case atStart => exact ⟨0, Nat.zero_le _, rfl, HO0.out, HT0.out⟩
    obtain ⟨j, hj, rfl, hown, hto⟩ := hrel
    obtain ⟨wx, rfl⟩ : ∃ wx : World, wx = wr := ⟨_, rfl⟩
    obtain ⟨pa, pcap, rfl, _⟩ := own_row hown
    have HO := Lib.hid hown
    have HT := Lib.hid hto
    clear hown hto
    by_cases hlt : j < m
    · obtain ⟨b, off, rfl, k0⟩ := (HNU.out.keepN HT.out) j (by rw [HEM.out]; exact hlt)
      have i1 : (j : Int) < (m : Int) := by omega
      have i2 : (0 : Int) ≤ (j : Int) := by omega
      have HPV := Lib.hid (show flat 3 (plainV fun i => nu.getD i 0) (j + 1) = flat 3 (plainV fun i => nu.getD i 0) j ++ [.int .i64 (nu.getD j 0), .int .u64 (rankU (nu.getD j 0)), .slice none 0 0] from rfl)
      generalize nu.getD j 0 = z at *
      have HE : ∃ rz, rankU z = rz := ⟨_, rfl⟩
      obtain ⟨rz, erz⟩ := HE
      rw [erz] at HPV
      unfold rankU at erz
      go_wp2_with fail
      have HW1 := Lib.hid (HT.out.drew)
      have HBS := Lib.hid (show w.heap.size ≤ (wx.drew.alloc (.cells #[.int .i64 z, .int .u64 rz, .slice none 0 0] 32)).heap.size from by have := HW1.out.size; rw [nblk_alloc]; omega)
      have HOA := Lib.hid (show (wx.drew.alloc (.cells #[.int .i64 z, .int .u64 rz, .slice none 0 0] 32)).ownsRow w.heap.size 32 3 (.slice pa j pcap) j (flat 3 (plainV fun i => nu.getD i 0) j) from own_keepN HO.out ((Touch.refl Nil wx).drew.alloc _))
      have HCB := Lib.hid (show ∀ q u, ([.int .i64 z, .int .u64 rz, .slice none 0 0] : List Value)[q]? = some u → (wx.drew.alloc (.cells #[.int .i64 z, .int .u64 rz, .slice none 0 0] 32)).cell? ⟨wx.heap.size, q, none⟩ = some u from fun q u hq => by rw [show wx.heap.size = wx.drew.heap.size from rfl, cell_new]; simpa using hq)
      have HON := Lib.hid (show ∀ u ∈ ([.int .i64 z, .int .u64 rz, .slice none 0 0] : List Value), u.oneCell' = true from fun u hu => by
        simp at hu
        rcases hu with rfl | rfl | rfl <;> rfl)
      have HJ := Lib.hid (show j ≤ 1048576 by omega)
      go_region_law (refine step_append_one rfl (.tmp 42) (.tmp 54) 26 32 rfl w.heap.size 3 40 _ Try.underlying26 infoItemL rfl (Nat.succ_pos _) (by decide) (.slice pa j pcap) j _ rfl HOA.out wx.heap.size 1 rfl [.int .i64 z, .int .u64 rz, .slice none 0 0] rfl HCB.out HON.out HJ.out HBS.out ?_; intro v5 w5 ho5 hT5)
      all_goals
        obtain ⟨pa5, pcap5, rfl, _⟩ := own_row ho5.out
        have HO5 := Lib.hid (show w5.ownsRow w.heap.size 32 3 (.slice pa5 (j + 1) pcap5) (j + 1) (flat 3 (plainV fun i => nu.getD i 0) (j + 1)) from by rw [HPV.out]; exact ho5.out)
        have HT5 := Lib.hid (show Touch Nil w w5 from (HW1.out.alloc _).trans' hT5.out fun b hb hs => by have := own_base HOA.out b hs; omega)
        clear ho5 hT5
        go_wp2_with fail
        go_roundw
        case rel => exact ⟨j + 1, by omega, by go_num, HO5.out, HT5.out⟩
        case measure => simp [intOf]; omega
    · obtain rfl : j = m := by omega
      have HIT := Lib.hid (show ∀ w', Touch Nil wx w' → Its w' pa j (plainV fun i => nu.getD i 0) (fun i => nu.getD i 0) (fun i => rankU (nu.getD i 0)) (fun _ => []) from fun w' ht => by
        refine ⟨fun h0 => ?_, fun i hi => rfl, fun i hi => rfl, fun i hi => ⟨BV.nil _, by simp⟩, fun i c => ?_⟩
        · obtain ⟨ao', cap', e, hc⟩ := own_row (own_keepN HO.out ht)
          cases e
          obtain ⟨g, rfl, _, hg, hcell⟩ := hc h0
          refine ⟨g, 0, rfl, hg, fun i hi c hc => ?_⟩
          rw [show 0 + i * 3 + c = i * 3 + c by omega, hcell _ (by omega)]
          exact flat_get 3 _ j i c hi hc
        · unfold plainV
          (repeat' split) <;> rfl)
      clear HO HO0 HT0
      go_wp2_with fail
      refine (HL2.out _ HT.out).mono ?_
      rintro e w4 ⟨a4, c4, rfl, hi4, ht4⟩
      have HI4 := Lib.hid hi4
      have HT4 := Lib.hid ht4
      clear hi4 ht4
      go_wp2_with fail
      refine (HL3.out _ pa pcap (HIT.out _ HT4.out)).mono ?_
      rintro e w5 ⟨a5, c5, rfl, hi5, ht5⟩
      have HT5 := Lib.hid ((HT.out.trans HT4.out).trans ht5)
      have HS5 := Lib.hid (sameI_true N2 c4 c5 a4 a5 f2 w5 (by omega) (HI4.out.keepN ht5) hi5)
      clear hi5 ht5 HI4
      go_wp2_with fail
      refine HS5.out.mono ?_
      rintro e w6 ⟨rfl, ht6⟩
      have HT6 := Lib.hid (HT5.out.trans ht6)
      clear ht6 HS5
      go_wp2_with fail
      refine (nolay_num cells no j ncap _ _).mono ?_
      rintro e w7 ⟨rfl, rfl⟩
      go_wp2_with fail
      refine (awake_any _).mono ?_
      rintro e w8 ⟨rfl, ht8⟩
      have HT8 := Lib.hid (HT6.out.trans ht8)
      clear ht8
      go_wp2_with fail
      refine (nolay_its cells ao n cap _ _ _ _).mono ?_
      rintro e w9 ⟨rfl, rfl⟩
      go_wp2_with fail
      go_ret
      exact ⟨rfl, HT8.out.below_nil⟩

set_option maxRecDepth 100000 in
theorem slotsLays_lifted (os : Os) (started : os.Started) (H : Type) (enc : TypeId × Value → H) :
    ReturnsInHanded {} Try.checked os 4 .any (Rows.slotsLaysSpec.pre6 enc Try.prog Try.f4 Rows.slotsLaysRow.domain false) (Rows.slotsLaysSpec.post enc Try.prog Try.f4 false true false false) := by
  refine returnsInHanded_of_change (C := Try.checked) own started (by kernel_rfl) Try.func4
    (ChangeSpec.witness6 (enc := enc) (C := Try.checked) false ⟨#[], #[.int .i64 0, .slice none 0 0, .slice none 0 0], []⟩ 8 (by kernel_rfl) (by kernel_rfl) (by kernel_rfl) (by kernel_rfl)) ?_
  intro W base args ds gs before hval0 hW _ _
  have hval : ∀ (j : Nat) t v, Try.f4.params[j]? = some t → args[j]? = some v → Value.okWide Try.prog W .any base t v := hval0
  have hW' := hW
  obtain ⟨p, q, hA0, hV, rfl, hfz, hnd⟩ := hW
  have hA : DataW.TrodAll enc Try.prog W 0 (fun _ => true) true Try.f4.params.toList args.toList ds p := hA0
  rw [Try.params4] at hA hval
  obtain ⟨v0, vs0, d0, ds0, p0, q0, hargs, rfl, rfl, h0, r0⟩ := trodAll_cons hA
  obtain ⟨v1, vs1, d1, ds1, p1, q1, rfl, rfl, rfl, h1, r1⟩ := trodAll_cons r0
  obtain ⟨v2, vs2, d2, ds2, p2, q2, rfl, rfl, rfl, h2, r2⟩ := trodAll_cons r1
  obtain ⟨rfl, rfl, rfl⟩ := trodAll_nil r2
  obtain rfl : args = #[v0, v1, v2] := by cases args; simp_all
  obtain ⟨rfl, rfl⟩ := trodVars_none hV
  obtain ⟨cells, rfl, rfl, rfl, w0⟩ := open_int Try.underlying3 (hval 0 3 v0 rfl rfl) h0
  obtain ⟨sA, sL, sC, rfl⟩ := okWide_slice Try.underlying26 (hval 1 26 v1 rfl rfl)
  have k1 := h1
  have lt1 : ∀ x ∈ p1, x.block < W.heap.size := by obtain ⟨m, hm⟩ := k1; exact DataW.trod_lt m _ _ _ hm
  obtain ⟨fuel1, hf1⟩ := h1
  obtain ⟨sM, sV, sS, sR, sK, sH⟩ := open_its hf1
  obtain ⟨nA, nL, nC, rfl⟩ := okWide_slice Try.underlying27 (hval 2 27 v2 rfl rfl)
  have k2 := h2
  have lt2 : ∀ x ∈ p2, x.block < W.heap.size := by obtain ⟨m, hm⟩ := k2; exact DataW.trod_lt m _ _ _ hm
  obtain ⟨fuel2, hf2⟩ := h2
  obtain ⟨nI, rfl, nM, nH, nB'⟩ := open_slI Try.underlying27 Try.underlying3 (by kernel_rfl) hf2
  clear hA0 hval0
  unfold maxLen at sM
  unfold maxLen at nM
  have nB : ∀ i, i < nI.length → -9223372036854775808 ≤ nI.getD i 0 ∧ nI.getD i 0 ≤ 9223372036854775807 := fun i hi => by
    have := nB' (nI.getD i 0) (by simp [List.getD_eq_getElem?_getD, hi])
    simpa [Lit.wf, IntKind.min, IntKind.max, IntKind.signed, IntKind.bits] using this
  refine (lawLays_any cells sL sC sA sV sS sR sK nI nA nC W (by omega) (by omega) sH nH nB).mono fun e W' ⟨he, bel⟩ => ?_
  subst he
  exact ⟨_, rfl, _, _, _, [], _, [], hW', trodAll_mk1 (shut_bool Try.underlying4 _), (trodAll_cons_mk (shut_int Try.underlying3 w0) (trodAll_cons_mk (Below.trod laidOut (by kernel_rfl) (of_decide_eq_true (by kernel_rfl)) k1 bel lt1) (trodAll_cons_mk (Below.trod laidOut (by kernel_rfl) (of_decide_eq_true (by kernel_rfl)) k2 bel lt2) trodAll_mk0))), rfl, bel.frame _, fun h => by cases h⟩

theorem slotsLays_holds : Rows.SlotsLaysSaid :=
  OpenClaim.holds_of_wide 4 Try.f4 rfl rfl rfl rfl rfl rfl rfl ⟨rfl, rfl, rfl, rfl, rfl⟩ rfl rfl rfl rfl rfl (by kernel_rfl) Try.func4 (by kernel_rfl)
    (of_decide_eq_true (by kernel_rfl)) (by unfold Func.isWrapper; first | (rw [if_pos (by decide +kernel)]; kernel_rfl) | (rw [if_neg (by decide +kernel)]; exact ⟨rfl, rfl⟩))
    (fun os started H enc _ => slotsLays_lifted os started H enc)
end Go.Proofs.Ythhahanhkclidaa

