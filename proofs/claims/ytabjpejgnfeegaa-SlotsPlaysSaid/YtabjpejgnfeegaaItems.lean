import Derived.Test.YtabjpejgnfeegaaRef1
import Derived.Test.YtabjpejgnfeegaaOwn
import Derived.Test.YtabjpejgnfeegaaOneMath
import Derived.Test.YtabjpejgnfeegaaLayoutI
import Derived.Test.YtabjpejgnfeegaaTab1
import Derived.Test.YtabjpejgnfeegaaOpen
/- The items that a law is given; the layout of these by the program. -/
namespace Go.Proofs.Ytabjpejgnfeegaa
open Go.ChangeShapes Go.WideShapes Go.ChangeAt Go.RowKit Go.Deep

/-- Items that a law is given: where each begins, its rank, its key. -/
structure Its (w : World) (ao : Option Addr) (n : Nat) (v : Nat → Nat → Value) (st rk : Nat → Int) (key : Nat → Key) : Prop where
  cells : Items w ao n 3 v
  start : ∀ i, i < n → v i 0 = .int .i64 (st i)
  rank : ∀ i, i < n → v i 1 = .int .u64 (rk i)
  keys : ∀ i, i < n → BV w (v i 2) (key i) ∧ (key i).length ≤ 9223372036854775807
  one : ∀ i c, (v i c).oneCell' = true
theorem Its.keepN {w w' : World} {ao : Option Addr} {n : Nat} {v : Nat → Nat → Value} {st rk : Nat → Int} {key : Nat → Key} (h : Its w ao n v st rk key) (ht : Touch Nil w w') : Its w' ao n v st rk key :=
  ⟨h.cells.keep (fun _ b _ _ l => ht.same b l (fun c => c)) ht.size, h.start, h.rank, fun i hi => ⟨(h.keys i hi).1.keepN ht, (h.keys i hi).2⟩, h.one⟩

def ltI (rk : Nat → Int) (key : Nat → Key) (i j : Nat) : Bool := befI (rk i) (rk j) (key i) (key j)
theorem ltI_iff (rk : Nat → Int) (key : Nat → Key) (i j : Nat) : ltI rk key i j = true ↔ rk j < rk i ∨ (rk i = rk j ∧ Lib.compareBytes (key i) (key j) < 0) := by simp [ltI, befI, lessB]
theorem ltI_false (rk : Nat → Int) (key : Nat → Key) (i j : Nat) : ltI rk key i j = false ↔ ¬ (rk j < rk i ∨ (rk i = rk j ∧ Lib.compareBytes (key i) (key j) < 0)) := by
  rw [← ltI_iff]; simp
theorem cmp_le_trans (a b c : Key) (h : ¬ Lib.compareBytes a b < 0) (k : ¬ Lib.compareBytes b c < 0) : ¬ Lib.compareBytes a c < 0 := by
  intro g
  have h' := cmp_neg a b
  by_cases e : Lib.compareBytes a b = 0
  · rw [cmp_eq0 a b e] at g; exact k g
  · exact k (cmp_trans b a c (by omega) g)
theorem ltI_swo (rk : Nat → Int) (key : Nat → Key) (n : Nat) : SWO (ltI rk key) n where
  asym := fun x y _ _ h => by
    rw [ltI_iff] at h
    rw [ltI_false]
    have := cmp_neg (key x) (key y)
    omega
  trans := fun x y z _ _ _ h k => by
    rw [ltI_iff] at *
    rcases h with h | ⟨h, h'⟩ <;> rcases k with k | ⟨k, k'⟩
    · left; omega
    · left; omega
    · left; omega
    · right; exact ⟨by omega, cmp_trans _ _ _ h' k'⟩
  neg := fun x y z _ _ _ h k => by
    rw [ltI_false] at *
    intro g
    rcases g with g | ⟨g, g'⟩
    · omega
    · have e1 : rk x = rk y := by omega
      have e2 : rk y = rk z := by omega
      exact cmp_le_trans _ _ _ (fun c => h (.inr ⟨e1, c⟩)) (fun c => k (.inr ⟨e2, c⟩)) g'
theorem ltI_tot (rk : Nat → Int) (key : Nat → Key) {i j : Nat} (h : key i ≠ key j) : ltI rk key i j = true ∨ ltI rk key j i = true := by
  rw [ltI_iff, ltI_iff]
  have hn := cmp_neg (key i) (key j)
  have hne : Lib.compareBytes (key i) (key j) ≠ 0 := fun e => h (cmp_eq0 _ _ e)
  omega

/-- A layout that is handed back. -/
def LayN (C n : Nat) (s : Nat → Int) (lt : Nat → Nat → Bool) (w : World) (e : Ending) (w' : World) : Prop :=
  ∃ b ord, e = .returned (.slice (some ⟨b, 0, none⟩) C C) ∧ w.heap.size ≤ b ∧ w'.rowIs b 3 C (fun c => .int .i64 (cellV (place C (home C s) ord n c))) ∧ Ordr lt n ord ∧ Touch Nil w w'

theorem its_sta {w : World} {ao : Option Addr} {n : Nat} {v : Nat → Nat → Value} {st rk : Nat → Int} {key : Nat → Key} (h : Its w ao n v st rk key) : Sta 45 #[] (itemI v) st n w.heap.size (fun _ w' => Touch Nil w w') Nil where
  enter := fun args w => by simp [go_sem]
  call := fun w1 x hI hx => by
    have hs := start_any (st x) (v x 1) (v x 2) w1 (h.one x 1) (h.one x 2)
    show Calls _ _ #[itemI v x] _ _
    rw [show itemI v x = .agg #[.int .i64 (st x), v x 1, v x 2] from by unfold itemI; rw [h.start x hx]]
    exact hs.mono fun e w' ⟨he, ht⟩ => ⟨he, hI.trans ht, ht⟩
  keep := fun _ w1 w2 hI hb => ⟨hb.os.trans hI.os, hb.tape.trans hI.tape, hb.output.trans hI.output, Nat.le_trans hI.size hb.size, fun b hb' hn => (hb.block b hb').trans (hI.same b hb' hn)⟩
  low := fun _ c => c.elim
theorem its_bef {w : World} {ao : Option Addr} {n : Nat} {v : Nat → Nat → Value} {st rk : Nat → Int} {key : Nat → Key} (h : Its w ao n v st rk key) : Bef 44 #[] (itemI v) (ltI rk key) n w.heap.size (fun w' => Touch Nil w w') Nil where
  enter := fun args w => by simp [go_sem]
  call := fun w1 x y hI hx hy => by
    obtain ⟨⟨a1, c1, e1, _, s1⟩, l1⟩ := h.keys x hx
    obtain ⟨⟨a2, c2, e2, _, s2⟩, l2⟩ := h.keys y hy
    have hs := before_any (rk x) (rk y) (key x) (key y) (v x 0) (v y 0) a1 a2 c1 c2 w1 (h.one x 0) (h.one y 0) l1 l2 (s1.keepN hI) (s2.keepN hI)
    show Calls _ _ #[itemI v x, itemI v y] _ _
    rw [show itemI v x = .agg #[v x 0, .int .u64 (rk x), .slice a1 (key x).length c1] from by unfold itemI; rw [h.rank x hx, e1], show itemI v y = .agg #[v y 0, .int .u64 (rk y), .slice a2 (key y).length c2] from by unfold itemI; rw [h.rank y hy, e2]]
    exact hs.mono fun e w' ⟨he, ht⟩ => ⟨he, hI.trans ht, ht⟩
  keep := fun w1 w2 hI hb => ⟨hb.os.trans hI.os, hb.tape.trans hI.tape, hb.output.trans hI.output, Nat.le_trans hI.size hb.size, fun b hb' hn => (hb.block b hb').trans (hI.same b hb' hn)⟩
  low := fun _ c => c.elim

set_option maxHeartbeats 1000000 in
theorem lay_any (C : Nat) {w : World} {ao : Option Addr} {n : Nat} (cap : Nat) {v : Nat → Nat → Value} {st rk : Nat → Int} {key : Nat → Key} (h : Its w ao n v st rk key) (hC : 1 ≤ C) (hC2 : C ≤ 1048576) (hn : n ≤ C) :
    Calls Try.prog 17 #[.int .i64 C, .slice ao n cap] w (LayN C n st (ltI rk key) w) := by
  have HL := Lib.hid (layoutI _ #[] _ #[] w.heap.size C ao n cap v st (ltI rk key) _ Nil (its_sta h) (its_bef h) (ltI_swo rk key n) (fun h0 b o e => by
    obtain ⟨b', o', e', hb, _⟩ := h.cells h0
    rw [e] at e'
    cases e'
    exact ⟨hb, fun c => c⟩) hC hC2 hn h.one w (Nat.le_refl _) (Touch.refl _ _) h.cells)
  clear h
  go_enter Try.func17, Try.ntmps17
  go_wp2_with fail
  refine HL.out.mono ?_
  rintro e w' ⟨b, ord, rfl, hb, hr, hp, hs, ht, _⟩
  have HR := Lib.hid hr
  have HP := Lib.hid hp
  have HS := Lib.hid hs
  have HT := Lib.hid ht
  clear hr hp hs ht HL
  go_wp2_with fail
  go_ret
  exact ⟨b, ord, rfl, hb, HR.out, PermOn.ordr HP.out HS.out, HT.out⟩

theorem open_its {H : Type} {enc : TypeId × Value → H} {w : World} {base : Nat} {spare : Nat → Bool} {held : Bool} {fuel : Nat} {ao : Option Addr} {len cap : Nat} {x : DataW H × List MemPlace}
    (h : DataW.trod enc Try.prog w base spare held fuel 26 [.slice ao len cap] = some x) : len ≤ maxLen ∧ ∃ v st rk key, Its w ao len v st rk key := by
  obtain ⟨h1, h2, v, hcell, hf⟩ := open_structs Try.underlying26 Try.underlying32 (by kernel_rfl) (by kernel_rfl) (by decide) h
  obtain ⟨st, hst⟩ := choose_lt (α := Int) (n := len) (p := fun i n => v i 0 = .int .i64 n) fun i hi => by
    obtain ⟨n, y, e⟩ := hf i hi 0 _ rfl
    obtain ⟨z, e1, _⟩ := DataW.trod_int Try.underlying3 e
    exact ⟨z, by simpa using e1⟩
  obtain ⟨rk, hrk⟩ := choose_lt (α := Int) (n := len) (p := fun i n => v i 1 = .int .u64 n) fun i hi => by
    obtain ⟨n, y, e⟩ := hf i hi 1 _ rfl
    obtain ⟨z, e1, _⟩ := DataW.trod_int Try.underlying22 e
    exact ⟨z, by simpa using e1⟩
  obtain ⟨key, hkey⟩ := choose_lt (α := Key) (n := len) (p := fun i n => BV w (v i 2) n ∧ n.length ≤ maxLen) fun i hi => by
    obtain ⟨n, y, e⟩ := hf i hi 2 _ rfl
    exact open_bv Try.underlying23 Try.underlying5 (by kernel_rfl) e
  refine ⟨by omega, fun i c => if i < len ∧ c < 3 then v i c else .bool false, st, rk, key, fun h0 => ?_, fun i hi => ?_, fun i hi => ?_, fun i hi => ?_, fun i c => ?_⟩
  · obtain ⟨b, off, e, hb, hc⟩ := hcell h0
    refine ⟨b, off, e, hb, fun i hi c hc' => ?_⟩
    rw [if_pos ⟨hi, hc'⟩]
    exact hc i hi c hc'
  · rw [if_pos ⟨hi, by omega⟩]; exact hst i hi
  · rw [if_pos ⟨hi, by omega⟩]; exact hrk i hi
  · rw [if_pos ⟨hi, by omega⟩]
    have := hkey i hi
    unfold maxLen at this
    exact ⟨this.1, by omega⟩
  · show (if i < len ∧ c < 3 then v i c else .bool false).oneCell' = true
    split
    · rename_i h
      have : c = 0 ∨ c = 1 ∨ c = 2 := by omega
      rcases this with rfl | rfl | rfl
      · rw [hst i h.1]; rfl
      · rw [hrk i h.1]; rfl
      · obtain ⟨⟨_, _, e, _⟩, _⟩ := hkey i h.1
        rw [e]; rfl
    · rfl
end Go.Proofs.Ytabjpejgnfeegaa
