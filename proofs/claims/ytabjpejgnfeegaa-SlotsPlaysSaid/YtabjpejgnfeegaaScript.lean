import Derived.Test.YtabjpejgnfeegaaGrow5
import Derived.Test.YtabjpejgnfeegaaItems
/- Scripts; a table by its pairs. -/
namespace Go.Proofs.Ytabjpejgnfeegaa
open Go.ChangeShapes Go.WideShapes Go.ChangeAt Go.RowKit Go.Deep

/-- A script that came in: what each call is, its key, its value. -/
structure Scr (w : World) (ao : Option Addr) (n : Nat) (v : Nat → Nat → Value) (kd : Nat → Int) (key val : Nat → Key) : Prop where
  cells : Items w ao n 3 v
  kind : ∀ i, i < n → v i 0 = .int .i64 (kd i)
  keys : ∀ i, i < n → BV w (v i 1) (key i) ∧ (key i).length ≤ 9223372036854775807
  vals : ∀ i, i < n → BV w (v i 2) (val i) ∧ (val i).length ≤ 9223372036854775807
theorem Scr.keepN {w w' : World} {ao : Option Addr} {n : Nat} {v : Nat → Nat → Value} {kd : Nat → Int} {key val : Nat → Key} (h : Scr w ao n v kd key val) (ht : Touch Nil w w') : Scr w' ao n v kd key val :=
  ⟨h.cells.keep (fun _ b _ _ l => ht.same b l (fun c => c)) ht.size, h.kind, fun i hi => ⟨(h.keys i hi).1.keepN ht, (h.keys i hi).2⟩, fun i hi => ⟨(h.vals i hi).1.keepN ht, (h.vals i hi).2⟩⟩

theorem open_scr {H : Type} {enc : TypeId × Value → H} {w : World} {base : Nat} {spare : Nat → Bool} {held : Bool} {fuel : Nat} {ao : Option Addr} {len cap : Nat} {x : DataW H × List MemPlace}
    (h : DataW.trod enc Try.prog w base spare held fuel 42 [.slice ao len cap] = some x) : len ≤ maxLen ∧ ∃ v kd key val, Scr w ao len v kd key val := by
  obtain ⟨h1, h2, v, hcell, hf⟩ := open_structs Try.underlying42 Try.underlying48 (by kernel_rfl) (by kernel_rfl) (by decide) h
  obtain ⟨kd, hkd⟩ := choose_lt (α := Int) (n := len) (p := fun i n => v i 0 = .int .i64 n) fun i hi => by
    obtain ⟨n, y, e⟩ := hf i hi 0 _ rfl
    obtain ⟨z, e1, _⟩ := DataW.trod_int Try.underlying3 e
    exact ⟨z, by simpa using e1⟩
  obtain ⟨key, hkey⟩ := choose_lt (α := Key) (n := len) (p := fun i n => BV w (v i 1) n ∧ n.length ≤ maxLen) fun i hi => by
    obtain ⟨n, y, e⟩ := hf i hi 1 _ rfl
    exact open_bv Try.underlying23 Try.underlying5 (by kernel_rfl) e
  obtain ⟨val, hval⟩ := choose_lt (α := Key) (n := len) (p := fun i n => BV w (v i 2) n ∧ n.length ≤ maxLen) fun i hi => by
    obtain ⟨n, y, e⟩ := hf i hi 2 _ rfl
    exact open_bv Try.underlying23 Try.underlying5 (by kernel_rfl) e
  unfold maxLen at *
  exact ⟨by omega, v, kd, key, val, hcell, hkd, fun i hi => ⟨(hkey i hi).1, by have := (hkey i hi).2; omega⟩, fun i hi => ⟨(hval i hi).1, by have := (hval i hi).2; omega⟩⟩

/-- Whether a script is short. -/
def fewB (n : Nat) (key val : Nat → Key) : Bool := decide (n ≤ 120 ∧ ∀ i, i < n → (key i).length ≤ 1200 ∧ (val i).length ≤ 1200)

set_option maxHeartbeats 2000000 in
theorem few_any {w : World} {ao : Option Addr} {n : Nat} (cap : Nat) {v : Nat → Nat → Value} {kd : Nat → Int} {key val : Nat → Key} (h : Scr w ao n v kd key val) (hm : n ≤ 9223372036854775807) :
    Calls Try.prog 28 #[.slice ao n cap] w fun e w' => e = .returned (.bool (fewB n key val)) ∧ w = w' := by
  have HS := Lib.hid h
  clear h
  by_cases h1 : 120 < n
  · have d1 : decide ((120 : Int) < (n : Int)) = true := by rw [decide_eq_true_iff]; omega
    have d1' : decide (120 < n) = true := by simpa using h1
    have HR := Lib.hid (show fewB n key val = false from by unfold fewB; rw [decide_eq_false_iff_not]; omega)
    go_enter Try.func28, Try.ntmps28
    go_wp2_with fail
    go_ret
    exact ⟨by rw [HR.out]; rfl, rfl⟩
  have d1 : decide ((120 : Int) < (n : Int)) = false := by rw [decide_eq_false_iff_not]; omega
  have d1' : decide (120 < n) = false := by simpa using h1
  go_enter Try.func28, Try.ntmps28
  go_wp2_with fail
  go_loop [3] (fun i => ∃ x : Nat, x ≤ n ∧ i = .int .i64 (x : Int) ∧ Hid (∀ i, i < x → (key i).length ≤ 1200 ∧ (val i).length ≤ 1200)) (fun i => n - (intOf i).toNat)
  case atStart => exact ⟨0, Nat.zero_le _, rfl, Lib.hid fun i hi => by omega⟩
  case round =>
    obtain ⟨x, hx, rfl, HX⟩ := hrel
    by_cases hlt : x < n
    · obtain ⟨b, off, rfl, hb, hcell⟩ := HS.out.cells (by omega)
      have c1 := hcell x hlt 1 (by omega)
      have c2 := hcell x hlt 2 (by omega)
      obtain ⟨⟨a1, k1, e1, _, _⟩, l1⟩ := HS.out.keys x hlt
      obtain ⟨⟨a2, k2, e2, _, _⟩, l2⟩ := HS.out.vals x hlt
      rw [e1] at c1
      rw [e2] at c2
      have i1 : (x : Int) < (n : Int) := by omega
      have i2 : (0 : Int) ≤ (x : Int) := by omega
      have HE : ∃ kl, (key x).length = kl := ⟨_, rfl⟩
      obtain ⟨kl, ekl⟩ := HE
      have HE : ∃ vl, (val x).length = vl := ⟨_, rfl⟩
      obtain ⟨vl, evl⟩ := HE
      rw [ekl] at c1 l1
      rw [evl] at c2 l2
      have HKL := Lib.hid ekl
      have HVL := Lib.hid evl
      clear hcell e1 e2 ekl evl
      by_cases g1 : 1200 < kl
      · have f1 : decide ((1200 : Int) < (kl : Int)) = true := by rw [decide_eq_true_iff]; omega
        have f1' : decide (1200 < kl) = true := by simpa using g1
        have HR := Lib.hid (show fewB n key val = false from by
          unfold fewB; rw [decide_eq_false_iff_not]; rintro ⟨_, h⟩
          have := (h x hlt).1
          rw [HKL.out] at this; omega)
        go_wp2_with fail
        go_ret
        exact ⟨by rw [HR.out]; rfl, rfl⟩
      have f1 : decide ((1200 : Int) < (kl : Int)) = false := by rw [decide_eq_false_iff_not]; omega
      have f1' : decide (1200 < kl) = false := by simpa using g1
      by_cases g2 : 1200 < vl
      · have f2 : decide ((1200 : Int) < (vl : Int)) = true := by rw [decide_eq_true_iff]; omega
        have f2' : decide (1200 < vl) = true := by simpa using g2
        have HR := Lib.hid (show fewB n key val = false from by
          unfold fewB; rw [decide_eq_false_iff_not]; rintro ⟨_, h⟩
          have := (h x hlt).2
          rw [HVL.out] at this; omega)
        go_wp2_with fail
        go_ret
        exact ⟨by rw [HR.out]; rfl, rfl⟩
      have f2 : decide ((1200 : Int) < (vl : Int)) = false := by rw [decide_eq_false_iff_not]; omega
      have f2' : decide (1200 < vl) = false := by simpa using g2
      go_wp2_with fail
      go_round
      case rel => exact ⟨x + 1, by omega, by go_num, Lib.hid fun i hi => by
        by_cases e : i = x
        · rw [e, HKL.out, HVL.out]; omega
        · exact HX.out i (by omega)⟩
      case measure => simp [intOf]; omega
    · obtain rfl : x = n := by omega
      have HR := Lib.hid (show fewB x key val = true from by unfold fewB; rw [decide_eq_true_iff]; exact ⟨by omega, HX.out⟩)
      go_wp2_with fail
      go_ret
      exact ⟨by rw [HR.out]; rfl, rfl⟩

/-! ### A table by its pairs -/
/-- A table whose blocks are from B on, with at most m pairs: those of S. -/
def Tbl (B : Nat) (w : World) (t : Value) (seed : Int) (m : Nat) (S : Key × Key → Prop) : Prop := ∃ R n C T, Tab R w t seed n C T ∧ (∀ b, R b → B ≤ b) ∧ n ≤ m ∧ ∀ x, InT C T x ↔ S x
theorem Tbl.keepN {B : Nat} {w w' : World} {t : Value} {seed : Int} {m : Nat} {S : Key × Key → Prop} (h : Tbl B w t seed m S) (ht : Touch Nil w w') : Tbl B w' t seed m S := by
  obtain ⟨R, n, C, T, h1, h2⟩ := h
  exact ⟨R, n, C, T, h1.keepN ht, h2⟩
/-- What is touched lies from B on. -/
def From (B : Nat) : Nat → Prop := fun b => B ≤ b
theorem from_nil {B : Nat} {w0 w w' : World} (h : Touch Nil w0 w) (ht : Touch (From B) w w') (hB : w0.heap.size ≤ B) : Touch Nil w0 w' := h.trans' ht fun b hb hs => by have : B ≤ b := hs; omega

theorem seek_iff {R : Nat → Prop} {w : World} {t : Value} {seed : Int} {n C : Nat} {T : Cells} (h : Tab R w t seed n C T) (key v : Key) : valAt (T (seekAt (bfS seed) (homS seed C) C T key)) key = some v ↔ InT C T (key, v) := by
  obtain ⟨g1, g2, g3⟩ := h.good.free
  have hh := homS_lt (C := C) (by omega) seed
  constructor
  · intro e
    exact ⟨_, seek_lt g3 (hh key), valAt_some e⟩
  · rintro ⟨c, hc, e⟩
    rw [(seek_there (koS seed) h.good.1 (hh key) hc e).1, e]
    simp [valAt]

def allowB (key val : Key) : Bool := decide (1 ≤ key.length ∧ key.length ≤ 64 ∧ val.length ≤ 1000)
/-- The pairs behind a call that puts a pair. -/
def updS (S : Key × Key → Prop) (key val : Key) : Key × Key → Prop := fun x => if allowB key val = true then (x.1 ≠ key ∧ S x) ∨ x = (key, val) else S x
def StepP (B : Nat) (t : Value) (seed : Int) (m : Nat) (c : Int) (S' : Key × Key → Prop) (w : World) (e : Ending) (w' : World) : Prop := e = .returned (.int .i64 c) ∧ Tbl B w' t seed m S' ∧ Touch (From B) w w'

theorem put_tbl {B : Nat} {w : World} {t : Value} {seed : Int} {m : Nat} {S : Key × Key → Prop} (h : Tbl B w t seed m S) (hm : m < 100000) (hB : B ≤ w.heap.size) (key val : Key) (kx vx : Value) (hk : BV w kx key) (hv : BV w vx val) (hkl : key.length ≤ 1048576) (hvl : val.length ≤ 1048576) :
    Calls Try.prog 39 #[t, kx, vx] w (StepP B t seed (m + 1) (if allowB key val = true then 0 else 1) (updS S key val) w) := by
  obtain ⟨R, n, C, T, h1, h2, h3, h4⟩ := h
  refine (put_any h1 key val kx vx hk hv hkl hvl).mono fun e w' ⟨he, R', n', C', T', hT, ht, _, hR, hn, hc0, hc1⟩ => ?_
  have hlow : ∀ b, R' b → B ≤ b := fun b hb => (hR b hb).elim (h2 b) fun h => by omega
  have htt : Touch (From B) w w' := ht.mono fun b _ hb => h2 b hb
  unfold StepP updS
  by_cases ha : allowB key val = true
  · have ha' := of_decide_eq_true ha
    have hp : ∀ b, putErr n b key val = 0 := fun b => by unfold putErr; rw [if_neg (by simpa using ha'), if_pos (.inr (by omega))]
    rw [if_pos ha]
    refine ⟨by rw [he, hp], ⟨R', n', C', T', hT, hlow, by omega, fun x => ?_⟩, htt⟩
    show InT C' T' x ↔ (if allowB key val = true then (x.1 ≠ key ∧ S x) ∨ x = (key, val) else S x)
    rw [if_pos ha, hc0 (hp _) x, h4 x]
  · have ha' : ¬ (1 ≤ key.length ∧ key.length ≤ 64 ∧ val.length ≤ 1000) := fun h => ha (decide_eq_true h)
    have hp : ∀ b, putErr n b key val = 1 := fun b => by unfold putErr; rw [if_pos ha']
    rw [if_neg ha]
    obtain ⟨e1, e2, e3⟩ := hc1 (by rw [hp]; decide)
    subst e1 e2 e3
    refine ⟨by rw [he, hp], ⟨R', n', C', T', hT, hlow, by omega, fun x => ?_⟩, htt⟩
    show InT C' T' x ↔ (if allowB key val = true then (x.1 ≠ key ∧ S x) ∨ x = (key, val) else S x)
    rw [if_neg ha, h4 x]
open Classical in
theorem drop_tbl {B : Nat} {w : World} {t : Value} {seed : Int} {m : Nat} {S : Key × Key → Prop} (h : Tbl B w t seed m S) (hB : B ≤ w.heap.size) (key : Key) (kx : Value) (hk : BV w kx key) (hkl : key.length ≤ 1048576) :
    Calls Try.prog 38 #[t, kx] w (StepP B t seed m (if ∃ v, S (key, v) then 0 else 3) (fun x => S x ∧ x.1 ≠ key) w) := by
  obtain ⟨R, n, C, T, h1, h2, h3, h4⟩ := h
  refine (drop_any h1 key kx hk hkl).mono fun e w' ⟨he, R', n', C', T', hT, ht, _, hR, hn, hc⟩ => ?_
  refine ⟨?_, ⟨R', n', C', T', hT, fun b hb => (hR b hb).elim (h2 b) fun h => by omega, by omega, fun x => by rw [hc x, h4 x]⟩, ht.mono fun b _ hb => h2 b hb⟩
  rw [he]
  cases hv : valAt (T (seekAt (bfS seed) (homS seed C) C T key)) key with
  | none =>
    rw [if_neg]
    · rfl
    · rintro ⟨v, hs⟩
      rw [← h4, ← seek_iff h1] at hs
      rw [hv] at hs; cases hs
  | some v =>
    rw [if_pos ⟨v, (h4 _).1 ((seek_iff h1 key v).1 hv)⟩]
    rfl

/-- A new table. -/
theorem new_tbl (seed : Int) (w : World) : Calls Try.prog 37 #[.int .u64 seed] w fun e w' => ∃ bt, e = .returned (.pointer (some ⟨bt, 0, none⟩)) ∧ Tbl w.heap.size w' (.pointer (some ⟨bt, 0, none⟩)) seed 0 (fun _ => False) ∧ Touch Nil w w' := by
  refine (new_any seed w).mono fun e w' ⟨t, he, hT, ht⟩ => ?_
  have hT' := hT
  obtain ⟨⟨bt, _, _, _, rfl, _⟩, _, _⟩ := hT'
  exact ⟨bt, he, ⟨_, 0, 8, _, hT, fun b hb => hb.1, Nat.le_refl _, fun x => ⟨(fun ⟨c, _, e⟩ => by cases e), fun h => h.elim⟩⟩, ht⟩
end Go.Proofs.Ytabjpejgnfeegaa
