import Derived.Test.YtkkpcndpjkebkaaOwnB
import Derived.Deep.Slices
import Derived.Test.YtkkpcndpjkebkaaMap
import Derived.Laws.Bits64b
import Derived.Laws.BitsLemmas
import Derived.Test.YtkkpcndpjkebkaaMapW
import Derived.OwnWalk
import Derived.Test.YtkkpcndpjkebkaaNodeD
/- Bytes are cut (layer 1's XCut has this too). -/
namespace Go.Proofs.Ytkkpcndpjkebkaa
open Go.ChangeShapes Go.WideShapes Go.ChangeAt Go.RowKit Go.Deep


/-- Bytes in a slice whose room is at least its length. -/
def BC (w : World) (x : Value) (l : List UInt8) : Prop :=
  ∃ ao n cap, x = .slice ao n cap ∧ n = l.length ∧ n ≤ cap ∧ (ao = none → n = 0 ∧ cap = 0) ∧ SlI w .u8 ao (ub l)
theorem BC.bv {w : World} {x : Value} {l : List UInt8} (h : BC w x l) : BV w x l := by
  obtain ⟨ao, n, cap, rfl, rfl, _, h1, h2⟩ := h
  exact ⟨ao, cap, rfl, fun e => ⟨List.eq_nil_of_length_eq_zero (h1 e).1, (h1 e).2⟩, h2⟩
theorem BC.keep {S : Nat → Prop} {w w' : World} {x : Value} {l : List UInt8} (h : BC w x l) (ht : Touch S w w') (hS : ∀ b, OwnOf x b → ¬ S b) : BC w' x l := by
  obtain ⟨ao, n, cap, rfl, rfl, h0, h1, h2⟩ := h
  refine ⟨ao, _, cap, rfl, rfl, h0, h1, h2.keep ht fun a e _ => ?_⟩
  subst e
  exact hS a.block rfl
theorem BC.keepN {w w' : World} {x : Value} {l : List UInt8} (h : BC w x l) (ht : Touch Nil w w') : BC w' x l := h.keep ht fun _ _ c => c
theorem OwnB.bc {base : Nat} {w : World} {v : Value} {l : List UInt8} (h : OwnB base w v l) : BC w v l := by
  have hb := h.bv
  obtain ⟨hlen, ⟨rfl, hn⟩ | ⟨g, cap, cur, rfl, _, _, hc, _⟩⟩ := h
  · obtain ⟨ao, c, e, h1, h2⟩ := hb
    injection e with e1 _ _
    subst e1
    exact ⟨none, 0, 0, rfl, hn.symm, Nat.le_refl _, fun _ => ⟨rfl, rfl⟩, h2⟩
  · obtain ⟨ao, c, e, h1, h2⟩ := hb
    cases e
    exact ⟨_, _, _, rfl, rfl, hc, fun e => (by cases e), h2⟩

theorem elemB : Try.prog.elem 29 = 5 := by kernel_rfl
theorem slT : Try.prog.underlying 29 = some (.slice (Try.prog.elem 29)) := by rw [elemB]; exact Try.underlying29
theorem sizeB (w : World) : (sizeOf 5).run Try.prog w = .ok 1 w := by
  simp [sizeOf, go_sem]
  rfl

theorem bc_sub {w : World} {ao : Option Addr} {n cap : Nat} {l : List UInt8} (h : BC w (.slice ao n cap) l) {lo hi mx : Nat} (h1 : lo ≤ hi) (h2 : hi ≤ n) (h3 : hi ≤ mx) (h4 : mx ≤ cap) :
    BC w (.slice (if mx = lo then ao else ao.map (·.add (lo * 1))) (hi - lo) (mx - lo)) ((l.take hi).drop lo) := by
  obtain ⟨ao', n', cap', e, rfl, h0, hn, hs⟩ := h
  cases e
  refine ⟨_, _, _, rfl, by simp; omega, by omega, fun e => ?_, fun i hi' => ?_⟩
  · have : ao = none := by
      split at e
      · exact e
      · cases ao with
        | none => rfl
        | some a => cases e
    have := hn this
    omega
  · simp at hi'
    obtain ⟨b, off, ea, hc⟩ := hs (lo + i) (by simp; omega)
    subst ea
    rw [if_neg (by omega)]
    refine ⟨b, off + lo, by rw [Option.map_some, add_plain, Nat.mul_one], ?_⟩
    rw [show off + lo + i = off + (lo + i) from by omega, hc]
    rw [ub_getD _ _ (by omega), ub_getD _ _ (by simp; omega)]
    simp only [List.getD_eq_getElem?_getD, List.getElem?_drop]
    rw [List.getElem?_take, if_pos (by omega)]

/-- s[k:]. -/
theorem cut_l {w : World} {ao : Option Addr} {n cap : Nat} {l : List UInt8} (h : BC w (.slice ao n cap) l) {k : Nat} (hk : k ≤ n) :
    ∃ ao' n' cap', (∀ W, (Instr.slice 29 (.slice ao n cap) (some (.int .i64 (k : Int))) none none).run Try.prog W = .ok (.slice ao' n' cap') W) ∧ BC w (.slice ao' n' cap') (l.drop k) ∧ n' + k = n := by
  have hl : n = l.length := by obtain ⟨_, _, _, e, h1, _⟩ := h; cases e; exact h1
  have hc : n ≤ cap := by obtain ⟨_, _, _, e, _, h1, _⟩ := h; cases e; exact h1
  refine ⟨_, _, _, fun W => ?_, by have := bc_sub h (lo := k) (hi := n) (mx := cap) hk (Nat.le_refl _) hc (Nat.le_refl _); rw [hl, List.take_length] at this; exact this, by omega⟩
  rw [run_slice_l _ _ _ _ _ slT _ _ (by omega) (by omega), elemB, sizeB]
  simp only [Result.andThen, sliced, Int.toNat_natCast]
  rw [hl]
/-- s[:k]. -/
theorem cut_h {w : World} {ao : Option Addr} {n cap : Nat} {l : List UInt8} (h : BC w (.slice ao n cap) l) {k : Nat} (hk : k ≤ n) :
    ∃ ao' n' cap', (∀ W, (Instr.slice 29 (.slice ao n cap) none (some (.int .i64 (k : Int))) none).run Try.prog W = .ok (.slice ao' n' cap') W) ∧ BC w (.slice ao' n' cap') (l.take k) ∧ n' = k := by
  have hl : n = l.length := by obtain ⟨_, _, _, e, h1, _⟩ := h; cases e; exact h1
  have hc : n ≤ cap := by obtain ⟨_, _, _, e, _, h1, _⟩ := h; cases e; exact h1
  refine ⟨_, _, _, fun W => ?_, by have := bc_sub h (lo := 0) (hi := k) (mx := cap) (by omega) hk (by omega) (Nat.le_refl _); rw [List.drop_zero] at this; exact this, by omega⟩
  rw [run_slice_h _ _ _ _ _ slT _ _ (by omega) (by omega), elemB, sizeB]
  simp only [Result.andThen, sliced, Int.toNat_natCast]
/-- s[i:j]. -/
theorem cut_lh {w : World} {ao : Option Addr} {n cap : Nat} {l : List UInt8} (h : BC w (.slice ao n cap) l) {i j : Nat} (hi : i ≤ j) (hj : j ≤ n) :
    ∃ ao' n' cap', (∀ W, (Instr.slice 29 (.slice ao n cap) (some (.int .i64 (i : Int))) (some (.int .i64 (j : Int))) none).run Try.prog W = .ok (.slice ao' n' cap') W) ∧ BC w (.slice ao' n' cap') ((l.take j).drop i) ∧ n' + i = j := by
  have hc : n ≤ cap := by obtain ⟨_, _, _, e, _, h1, _⟩ := h; cases e; exact h1
  refine ⟨_, _, _, fun W => ?_, bc_sub h (lo := i) (hi := j) (mx := cap) hi hj (by omega) (Nat.le_refl _), by omega⟩
  rw [run_slice_lh _ _ _ _ _ slT _ _ _ _ (by omega) (by omega) (by omega), elemB, sizeB]
  simp only [Result.andThen, sliced, Int.toNat_natCast]
end Go.Proofs.Ytkkpcndpjkebkaa

/- The reader of an image: so many bytes are taken. -/
namespace Go.Proofs.Ytkkpcndpjkebkaa
open Go.ChangeShapes Go.WideShapes Go.ChangeAt Go.RowKit Go.Deep

/-- A reader in memory. -/
def RdAt (seed : Int) (w : World) (rb : Nat) (rx lx : Value) : Prop := w.heap[rb]? = some (.cells #[.int .u64 seed, rx, lx] 146 (0, 0))
theorem RdAt.cells {seed : Int} {w : World} {rb : Nat} {rx lx : Value} (h : RdAt seed w rb rx lx) : w.cell? ⟨rb, 0, none⟩ = some (.int .u64 seed) ∧ w.cell? ⟨rb, 1, none⟩ = some rx ∧ w.cell? ⟨rb, 2, none⟩ = some lx ∧ w.frozen? ⟨rb, 1, none⟩ = false ∧ w.frozen? ⟨rb, 2, none⟩ = false := by
  unfold RdAt at h
  refine ⟨?_, ?_, ?_, ?_, ?_⟩ <;> simp [World.cell?, World.frozen?, h]
theorem RdAt.keepN {seed : Int} {w w' : World} {rb : Nat} {rx lx : Value} (h : RdAt seed w rb rx lx) (ht : Touch Nil w w') : RdAt seed w' rb rx lx := (ht.same rb (lt_of_heap h) (fun c => c)).trans h
theorem set_cell3 {b t : Nat} {x y z v : Value} {w : World} (h : w.heap[b]? = some (.cells #[x, y, z] t (0, 0))) : (w.setCell ⟨b, 1, none⟩ v).heap[b]? = some (.cells #[x, v, z] t (0, 0)) := by
  have hrow : w.rowIs b t 3 (fun i => if i = 0 then x else if i = 1 then y else z) := ⟨_, h, rfl, fun i hi => by
    have : i = 0 ∨ i = 1 ∨ i = 2 := by omega
    rcases this with rfl | rfl | rfl <;> rfl⟩
  exact row_block ((hrow.set 1 v).congr (g := fun i => if i = 0 then x else if i = 1 then v else z) fun i hi => by
    have : i = 0 ∨ i = 1 ∨ i = 2 := by omega
    rcases this with rfl | rfl | rfl <;> rfl)
/-- Bytes do not lie in a reader. -/
theorem BC.keepR {seed : Int} {w w' : World} {rb : Nat} {ra la : Option Addr} {rn rc ln lc : Nat} {x : Value} {l : Key} (h : BC w x l) (hr : RdAt seed w rb (.slice ra rn rc) (.slice la ln lc)) (ht : Touch (Just rb) w w') : BC w' x l := by
  obtain ⟨ao, n, cap, rfl, rfl, h0, h1, h2⟩ := h
  refine ⟨ao, _, cap, rfl, rfl, h0, h1, h2.keep ht fun a e hp hs => ?_⟩
  obtain ⟨b, off, e', hc⟩ := h2 0 hp
  rw [e] at e'
  cases e'
  have hs : b = rb := hs
  subst hs
  unfold RdAt at hr
  simp only [World.cell?, hr] at hc
  match off, hc with
  | 0, hc => simp at hc
  | 1, hc => simp at hc
  | 2, hc => simp at hc
  | o + 3, hc => simp at hc
/-- So many bytes, and the rest. -/
def TakePost (seed : Int) (rb k : Nat) (l : Key) (lx : Value) (w : World) (e : Ending) (w' : World) : Prop :=
  (l.length < k ∧ e = .returned (.tuple #[.slice none 0 0, .bool false]) ∧ w = w') ∨
  (k ≤ l.length ∧ ∃ a c a2 n2 c2, e = .returned (.tuple #[.slice a k c, .bool true]) ∧ BC w' (.slice a k c) (l.take k) ∧ RdAt seed w' rb (.slice a2 n2 c2) lx ∧ BC w' (.slice a2 n2 c2) (l.drop k) ∧ n2 + k = l.length ∧ Touch (Just rb) w w')
set_option maxRecDepth 100000 in
set_option maxHeartbeats 2000000 in
theorem take_any {seed : Int} {w : World} {rb : Nat} {ra la : Option Addr} {rn rc ln lc k : Nat} {l : Key} (h : RdAt seed w rb (.slice ra rn rc) (.slice la ln lc)) (hb : BC w (.slice ra rn rc) l) :
    Calls Try.prog 107 #[.pointer (some ⟨rb, 0, none⟩), .int .i64 (k : Int)] w (TakePost seed rb k l (.slice la ln lc) w) := by
  have hl : rn = l.length := by obtain ⟨_, _, _, e, h1, _⟩ := hb; cases e; exact h1
  have HR := Lib.hid h
  have HB := Lib.hid hb
  obtain ⟨x0, x1, x2, f1, f2⟩ := h.cells
  by_cases hlt : rn < k
  · have q1 : decide ((rn : Int) < (k : Int)) = true := by simp; omega
    have q2 : decide (rn < k) = true := by simpa using hlt
    have HX := Lib.hid (And.intro hl hlt)
    clear h hb hl hlt
    go_enter Try.func107, Try.ntmps107
    go_wp2_with fail
    ((try simp only [Exit.inBlock, Exit.then]); refine bodyPost_ret (results_tmp2 rfl _ _ _) rfl ?_)
    exact .inl ⟨by have := HX.out; omega, rfl, rfl⟩
  · have q1 : decide ((rn : Int) < (k : Int)) = false := by simp; omega
    have q2 : decide (rn < k) = false := by simpa using hlt
    obtain ⟨a, n', c, hcut, hta, hn1⟩ := cut_h hb (k := k) (by omega)
    rw [hn1] at hta
    simp only [hn1] at hcut
    obtain ⟨a2, n2, c2, hcut2, htd, hn2⟩ := cut_l hb (k := k) (by omega)
    have HX := Lib.hid (show k ≤ l.length ∧ n2 + k = l.length from by omega)
    have HTA := Lib.hid hta
    have HTD := Lib.hid htd
    clear h hb hl hta htd hn2 hn1
    go_enter Try.func107, Try.ntmps107
    go_wp2_with fail
    go_region
    obtain ⟨w1, ew1⟩ : ∃ w1, (w.setCell ⟨rb, 1, none⟩ (.slice a2 n2 c2)).drew = w1 := ⟨_, rfl⟩
    have HT1 := Lib.hid (show Touch (Just rb) w w1 from by rw [← ew1]; exact ((Touch.refl (Just rb) w).setCell ⟨rb, 1, none⟩ _ fun _ => rfl).drew)
    have HR1 := Lib.hid (show RdAt seed w1 rb (.slice a2 n2 c2) (.slice la ln lc) from by rw [← ew1]; exact set_cell3 HR.out)
    rw [ew1]
    clear ew1 x0 x1 x2 f1 f2
    go_wp2_with fail
    ((try simp only [Exit.inBlock, Exit.then]); refine bodyPost_ret (results_tmp2 rfl _ _ _) rfl ?_)
    exact .inr ⟨HX.out.1, _, _, _, _, _, rfl, HTA.out.keepR HR.out HT1.out, HR1.out, HTD.out.keepR HR.out HT1.out, HX.out.2, HT1.out⟩
end Go.Proofs.Ytkkpcndpjkebkaa

/- The reader of an image: a number of four bytes. -/
namespace Go.Proofs.Ytkkpcndpjkebkaa
open Go.ChangeShapes Go.WideShapes Go.ChangeAt Go.RowKit Go.Deep

theorem bits_or_i64_nat (a b : Nat) (ha : a < 9223372036854775808) (hb : b < 9223372036854775808) : bits .or .i64 (a : Int) (b : Int) = ((a ||| b : Nat) : Int) := by
  have hx : a ||| b < 2 ^ 63 := Nat.or_lt_two_pow (by omega) (by omega)
  have h1 : (BitVec.ofInt 64 (a : Int)).toNat = a := by
    rw [BitVec.ofInt_natCast, BitVec.toNat_ofNat]; exact Nat.mod_eq_of_lt (by omega)
  have h2 : (BitVec.ofInt 64 (b : Int)).toNat = b := by
    rw [BitVec.ofInt_natCast, BitVec.toNat_ofNat]; exact Nat.mod_eq_of_lt (by omega)
  show IntKind.i64.wrap ((BitVec.ofInt 64 (a : Int) ||| BitVec.ofInt 64 (b : Int)).toNat : Int) = _
  rw [BitVec.toNat_or, h1, h2, IntKind.wrap_i64]
  omega
/-- The number that bytes tell, the least one first. -/
def numN : Key → Nat
  | [] => 0
  | x :: l => x.toNat + 256 * numN l
theorem numN_snoc (x : UInt8) : ∀ l : Key, numN (l ++ [x]) = numN l + 256 ^ l.length * x.toNat
  | [] => by simp [numN]
  | y :: l => by simp only [List.cons_append, numN, numN_snoc x l, List.length_cons, Nat.pow_succ, Nat.mul_add]; rw [Nat.mul_comm (256 ^ l.length) 256, Nat.mul_assoc]; omega
theorem numN_lt : ∀ l : Key, numN l < 256 ^ l.length
  | [] => by simp [numN]
  | y :: l => by
    have := numN_lt l
    have h2 := y.toNat_lt
    simp only [numN, List.length_cons, Nat.pow_succ]
    omega
theorem or_add (a x s : Nat) (h : a < 2 ^ s) : a ||| (2 ^ s * x) = a + 2 ^ s * x := by
  rw [Nat.or_comm, ← Nat.two_pow_add_eq_or_of_lt h, Nat.add_comm]
theorem or_step (v u y : Nat) (h : v < 256 ^ y) (hu : u < 256) (hy : y < 4) : bits .or .i64 (v : Int) ((256 ^ y * u : Nat) : Int) = ((v + 256 ^ y * u : Nat) : Int) := by
  have e : (256 : Nat) ^ y = 2 ^ (8 * y) := by rw [show (256 : Nat) = 2 ^ 8 from rfl, ← Nat.pow_mul]
  have h4 : y = 0 ∨ y = 1 ∨ y = 2 ∨ y = 3 := by omega
  rw [bits_or_i64_nat _ _ (by rcases h4 with rfl | rfl | rfl | rfl <;> simp at h ⊢ <;> omega) (by rcases h4 with rfl | rfl | rfl | rfl <;> simp <;> omega), e, or_add _ _ _ (by rw [← e]; exact h)]
/-- The number of four bytes, and the rest. -/
def NumPost (seed : Int) (rb : Nat) (l : Key) (lx : Value) (w : World) (e : Ending) (w' : World) : Prop :=
  (l.length < 4 ∧ e = .returned (.tuple #[.int .i64 0, .bool false]) ∧ w = w') ∨
  (4 ≤ l.length ∧ ∃ a2 n2 c2, e = .returned (.tuple #[.int .i64 ((numN (l.take 4) : Nat) : Int), .bool true]) ∧ RdAt seed w' rb (.slice a2 n2 c2) lx ∧ BC w' (.slice a2 n2 c2) (l.drop 4) ∧ n2 + 4 = l.length ∧ Touch (Just rb) w w')
set_option maxRecDepth 100000 in
set_option maxHeartbeats 2000000 in
theorem number_any {seed : Int} {w : World} {rb : Nat} {ra la : Option Addr} {rn rc ln lc : Nat} {l : Key} (h : RdAt seed w rb (.slice ra rn rc) (.slice la ln lc)) (hb : BC w (.slice ra rn rc) l) :
    Calls Try.prog 81 #[.pointer (some ⟨rb, 0, none⟩), .int .i64 4] w (NumPost seed rb l (.slice la ln lc) w) := by
  have HT := Lib.hid (take_any (k := 4) h hb)
  clear h hb
  go_enter Try.func81, Try.ntmps81
  go_wp2_with fail
  refine HT.out.mono ?_
  rintro e w1 (⟨h1, rfl, rfl⟩ | ⟨h1, a, c, a2, n2, c2, rfl, hta, hr, htd, hn2, ht1⟩)
  · go_wp2_with fail
    go_loopw [4, 7, 8, 17] (fun x _ _ i wr => w = wr ∧ x = .int .i64 0 ∧ i = .int .i64 0) (fun _ _ _ _ _ => 0)
    case atStart => exact ⟨rfl, rfl, rfl⟩
    obtain ⟨rfl, rfl, rfl⟩ := hrel
    go_wp2_with fail
    ((try simp only [Exit.inBlock, Exit.then]); refine bodyPost_ret (results_tmp2 rfl _ _ _) rfl ?_)
    exact .inl ⟨h1, rfl, rfl⟩
  · have HTA := Lib.hid hta
    have HX := Lib.hid (And.intro h1 (And.intro hr (And.intro htd (And.intro hn2 ht1))))
    have HLN := Lib.hid (show (l.take 4).length = 4 from by rw [List.length_take]; omega)
    obtain ⟨t, et⟩ : ∃ t, l.take 4 = t := ⟨_, rfl⟩
    have HET := Lib.hid et
    rw [et] at HTA HLN
    clear h1 hta hr htd hn2 ht1 HT et
    go_wp2_with fail
    go_loopw [4, 7, 8, 17] (fun x _ _ i wr => ∃ y : Nat, w1 = wr ∧ y ≤ 4 ∧ x = .int .i64 ((numN (t.take y) : Nat) : Int) ∧ i = .int .i64 (y : Int)) (fun _ _ _ i _ => 4 - (intOf i).toNat)
    case atStart => exact ⟨0, rfl, by omega, rfl, rfl⟩
    obtain ⟨y, rfl, hy, rfl, rfl⟩ := hrel
    by_cases hlt : y < 4
    · obtain ⟨ao, n, cap, e, hn, _, _, hsl⟩ := HTA.out
      cases e
      have hln := HLN.out
      obtain ⟨b, off, rfl, hc⟩ := hsl y (by simp [ub]; omega)
      rw [ub_getD t y (by omega)] at hc
      obtain ⟨z, ez⟩ : ∃ z, t.getD y 0 = z := ⟨_, rfl⟩
      have hz : z.toNat < 256 := z.toNat_lt
      have HSN := Lib.hid (show numN (t.take (y + 1)) = numN (t.take y) + 256 ^ y * z.toNat from by
        have hl := HLN.out
        rw [List.take_add_one, List.getElem?_eq_getElem (by omega), Option.toList_some, numN_snoc, List.length_take, Nat.min_eq_left (by omega), ← ez, List.getD_eq_getElem?_getD, List.getElem?_eq_getElem (by omega)]
        rfl)
      have hlt2 : numN (t.take y) < 256 ^ y := by
        have := numN_lt (t.take y)
        rwa [List.length_take, HLN.out, Nat.min_eq_left (by omega)] at this
      rw [ez] at hc
      obtain ⟨u, eu⟩ : ∃ u, z.toNat = u := ⟨_, rfl⟩
      obtain ⟨v, ev⟩ : ∃ v, numN (t.take y) = v := ⟨_, rfl⟩
      rw [eu] at hc hz
      rw [ev] at hlt2
      rw [eu, ev] at HSN
      simp only [ev]
      have i1 : (y : Int) < 4 := by omega
      have i2 : (0 : Int) ≤ (y : Int) := by omega
      clear hsl hn ez eu ev
      have hy4 : y = 0 ∨ y = 1 ∨ y = 2 ∨ y = 3 := by omega
      rcases hy4 with rfl | rfl | rfl | rfl
      · simp only [Nat.add_zero] at hc
        go_wp2_with fail
        have e := or_step v u 0 hlt2 hz (by omega)
        rw [← HSN.out] at e
        refine ⟨⟨1, trivial, by omega, ?_, rfl⟩, by simp [intOf]⟩
        refine congrArg _ ?_
        rw [← e]
        refine congrArg _ ?_
        simp
        try omega
      · skip
        go_wp2_with fail
        have e := or_step v u 1 hlt2 hz (by omega)
        rw [← HSN.out] at e
        refine ⟨⟨2, trivial, by omega, ?_, rfl⟩, by simp [intOf]⟩
        refine congrArg _ ?_
        rw [← e]
        refine congrArg _ ?_
        simp
        try omega
      · skip
        go_wp2_with fail
        have e := or_step v u 2 hlt2 hz (by omega)
        rw [← HSN.out] at e
        refine ⟨⟨3, trivial, by omega, ?_, rfl⟩, by simp [intOf]⟩
        refine congrArg _ ?_
        rw [← e]
        refine congrArg _ ?_
        simp
        try omega
      · skip
        go_wp2_with fail
        have e := or_step v u 3 hlt2 hz (by omega)
        rw [← HSN.out] at e
        refine ⟨⟨4, trivial, by omega, ?_, rfl⟩, by simp [intOf]⟩
        refine congrArg _ ?_
        rw [← e]
        refine congrArg _ ?_
        simp
        try omega
    · obtain rfl : y = 4 := by omega
      have hln := HLN.out
      rw [List.take_of_length_le (by omega)]
      go_wp2_with fail
      ((try simp only [Exit.inBlock, Exit.then]); refine bodyPost_ret (results_tmp2 rfl _ _ _) rfl ?_)
      exact .inr ⟨HX.out.1, _, _, _, by rw [HET.out]; rfl, HX.out.2.1, HX.out.2.2.1, HX.out.2.2.2.1, HX.out.2.2.2.2⟩
end Go.Proofs.Ytkkpcndpjkebkaa

/- The reader of an image: an item. -/
namespace Go.Proofs.Ytkkpcndpjkebkaa
open Go.ChangeShapes Go.WideShapes Go.ChangeAt Go.RowKit Go.Deep

/-- What bytes tell of a node: which children it has, its pair, and the bytes behind it. -/
def parseI (l : Key) : Option (UInt8 × Key × Key × Key) :=
  if l.length < 4 then none
  else if 3 < (l.getD 0 0).toNat then none
  else if (l.drop 4).length < (l.getD 1 0).toNat + ((l.getD 2 0).toNat + 256 * (l.getD 3 0).toNat) then none
  else if allowB (l.getD 1 0).toNat ((l.getD 2 0).toNat + 256 * (l.getD 3 0).toNat) = false then none
  else some (l.getD 0 0, (l.drop 4).take (l.getD 1 0).toNat, ((l.drop 4).take ((l.getD 1 0).toNat + ((l.getD 2 0).toNat + 256 * (l.getD 3 0).toNat))).drop (l.getD 1 0).toNat, (l.drop 4).drop ((l.getD 1 0).toNat + ((l.getD 2 0).toNat + 256 * (l.getD 3 0).toNat)))
theorem BC.at4 {w : World} {a : Option Addr} {c : Nat} {t : Key} (h : BC w (.slice a 4 c) t) : ∃ b off, a = some ⟨b, off, none⟩ ∧ w.cell? ⟨b, off, none⟩ = some (.int .u8 (((t.getD 0 0).toNat : Nat) : Int)) ∧ w.cell? ⟨b, off + 1, none⟩ = some (.int .u8 (((t.getD 1 0).toNat : Nat) : Int)) ∧ w.cell? ⟨b, off + 2, none⟩ = some (.int .u8 (((t.getD 2 0).toNat : Nat) : Int)) ∧ w.cell? ⟨b, off + 3, none⟩ = some (.int .u8 (((t.getD 3 0).toNat : Nat) : Int)) := by
  obtain ⟨ao, n, cap, e, hn, _, _, hsl⟩ := h
  cases e
  have g : ∀ i, i < 4 → ∃ b off, a = some ⟨b, off, none⟩ ∧ w.cell? ⟨b, off + i, none⟩ = some (.int .u8 (((t.getD i 0).toNat : Nat) : Int)) := fun i hi => by
    obtain ⟨b, off, e, hc⟩ := hsl i (by simp [ub]; omega)
    rw [ub_getD t i (by omega)] at hc
    exact ⟨b, off, e, hc⟩
  obtain ⟨b, off, rfl, h0⟩ := g 0 (by omega)
  obtain ⟨b1, o1, e1, h1⟩ := g 1 (by omega)
  obtain ⟨b2, o2, e2, h2⟩ := g 2 (by omega)
  obtain ⟨b3, o3, e3, h3⟩ := g 3 (by omega)
  cases e1
  cases e2
  cases e3
  exact ⟨b, off, rfl, by simpa using h0, h1, h2, h3⟩
def ReadI (seed : Int) (R : Nat → Prop) (rb : Nat) (l : Key) (lx : Value) (w : World) (e : Ending) (w' : World) : Prop :=
  (parseI l = none ∧ e = .returned (.tuple #[.int .u8 0, .pointer none, .bool false]) ∧ Touch (Just rb) w w') ∨
  (∃ c k u l' iv a2 n2 c2, parseI l = some (c, k, u, l') ∧ e = .returned (.tuple #[.int .u8 ((c.toNat : Nat) : Int), iv, .bool true]) ∧ ItemAt seed R w' iv k u ∧ RdAt seed w' rb (.slice a2 n2 c2) lx ∧ BC w' (.slice a2 n2 c2) l' ∧ Touch (Just rb) w w')
theorem parse_eq {l t d : Key} {k0 k1 k2 k3 : Nat} (et : l.take 4 = t) (ed : l.drop 4 = d) (h : 4 ≤ l.length) (e0 : (t.getD 0 0).toNat = k0) (e1 : (t.getD 1 0).toNat = k1) (e2 : (t.getD 2 0).toNat = k2) (e3 : (t.getD 3 0).toNat = k3) :
    parseI l = if 3 < k0 then none else if d.length < k1 + (k2 + 256 * k3) then none else if allowB k1 (k2 + 256 * k3) = false then none else some (t.getD 0 0, d.take k1, (d.take (k1 + (k2 + 256 * k3))).drop k1, d.drop (k1 + (k2 + 256 * k3))) := by
  have g : ∀ i, i < 4 → l.getD i 0 = t.getD i 0 := fun i hi => by
    rw [← et]
    simp only [List.getD_eq_getElem?_getD]
    rw [List.getElem?_take, if_pos hi]
  unfold parseI
  rw [if_neg (by omega), g 0 (by omega), g 1 (by omega), g 2 (by omega), g 3 (by omega), ed, e0, e1, e2, e3]
set_option maxRecDepth 100000 in
set_option maxHeartbeats 2000000 in
theorem item_any {seed : Int} {R : Nat → Prop} {w : World} {rb : Nat} {ra la : Option Addr} {rn rc ln lc : Nat} {l : Key} (h : RdAt seed w rb (.slice ra rn rc) (.slice la ln lc)) (hb : BC w (.slice ra rn rc) l) (hR : ∀ b, w.heap.size ≤ b → R b) :
    Calls Try.prog 108 #[.pointer (some ⟨rb, 0, none⟩)] w (ReadI seed R rb l (.slice la ln lc) w) := by
  have HT := Lib.hid (take_any (k := 4) h hb)
  have HRR := Lib.hid hR
  clear h hb hR
  go_enter Try.func108, Try.ntmps108
  go_wp2_with fail
  refine HT.out.mono ?_
  rintro e w1 (⟨h1, rfl, rfl⟩ | ⟨h1, a, c, a2, n2, c2, rfl, hta, hr, htd, hn2, ht1⟩)
  · go_wp2_with fail
    ((try simp only [Exit.inBlock, Exit.then]); refine bodyPost_ret (results_tmp3 rfl _ _ _) rfl ?_)
    exact .inl ⟨by unfold parseI; rw [if_pos h1], rfl, Touch.refl _ _⟩
  · obtain ⟨b, off, rfl, x0, x1, x2, x3⟩ := hta.at4
    have HTA := Lib.hid hta
    have HR1 := Lib.hid hr
    have HTD := Lib.hid htd
    have HT1 := Lib.hid ht1
    obtain ⟨t, et⟩ : ∃ t, l.take 4 = t := ⟨_, rfl⟩
    obtain ⟨d, ed⟩ : ∃ d, l.drop 4 = d := ⟨_, rfl⟩
    rw [et] at HTA x0 x1 x2 x3
    rw [ed] at HTD
    have HE := Lib.hid (And.intro et (And.intro ed (And.intro h1 hn2)))
    obtain ⟨k0, e0⟩ : ∃ k0, (t.getD 0 0).toNat = k0 := ⟨_, rfl⟩
    obtain ⟨k1, e1⟩ : ∃ k1, (t.getD 1 0).toNat = k1 := ⟨_, rfl⟩
    obtain ⟨k2, e2⟩ : ∃ k2, (t.getD 2 0).toNat = k2 := ⟨_, rfl⟩
    obtain ⟨k3, e3⟩ : ∃ k3, (t.getD 3 0).toNat = k3 := ⟨_, rfl⟩
    rw [e0] at x0
    rw [e1] at x1
    rw [e2] at x2
    rw [e3] at x3
    have l0 : k0 < 256 := by rw [← e0]; exact (t.getD 0 0).toNat_lt
    have l1 : k1 < 256 := by rw [← e1]; exact (t.getD 1 0).toNat_lt
    have l2 : k2 < 256 := by rw [← e2]; exact (t.getD 2 0).toNat_lt
    have l3 : k3 < 256 := by rw [← e3]; exact (t.getD 3 0).toNat_lt
    have HPQ := Lib.hid (parse_eq et ed h1 e0 e1 e2 e3)
    have HV := Lib.hid e0
    clear HT hta hr htd ht1 h1 hn2 et ed e0 e1 e2 e3
    by_cases hk0 : 3 < k0
    · have q1 : decide ((3 : Int) < (k0 : Int)) = true := by simp; omega
      have q2 : decide (3 < k0) = true := by simpa using hk0
      go_wp2_with fail
      ((try simp only [Exit.inBlock, Exit.then]); refine bodyPost_ret (results_tmp3 rfl _ _ _) rfl ?_)
      exact .inl ⟨by rw [HPQ.out, if_pos hk0], rfl, HT1.out⟩
    · have q1 : decide ((3 : Int) < (k0 : Int)) = false := by simp; omega
      have q2 : decide (3 < k0) = false := by simpa using hk0
      have hor := or_step k2 k3 1 (by omega) l3 (by omega)
      obtain ⟨v, ev⟩ : ∃ v, k2 + 256 * k3 = v := ⟨_, rfl⟩
      have hor' : bits BinOp.or IntKind.i64 (k2 : Int) ((k3 : Int) * 256) = (v : Int) := by
        rw [← ev, show ((k3 : Int) * 256) = ((256 ^ 1 * k3 : Nat) : Int) from by omega, hor]
      have hv : v ≤ 65535 := by omega
      have HPR := Lib.hid (show parseI l = if d.length < k1 + v then none else if allowB k1 v = false then none else some (t.getD 0 0, d.take k1, (d.take (k1 + v)).drop k1, d.drop (k1 + v)) from by rw [HPQ.out, if_neg hk0, ev])
      clear hor HPQ
      go_wp2_with fail
      go_quiet (fail)
      obtain ⟨w2, ew2⟩ : ∃ w2, w1.drewN nq = w2 := ⟨_, rfl⟩
      have HT2 := Lib.hid (show Touch Nil w1 w2 from by rw [← ew2]; exact (Touch.refl Nil w1).drewN _)
      rw [ew2]
      have HTK := Lib.hid (take_any (k := k1 + v) (HR1.out.keepN HT2.out) (HTD.out.keepN HT2.out))
      rw [show ((k1 + v : Nat) : Int) = (k1 : Int) + (v : Int) from by omega] at HTK
      have HAL := Lib.hid (fun w => allowedP_any k1 v w (by omega) (by omega))
      clear ew2 x0 x1 x2 x3 hor' ev q1 q2 l2 l3
      go_wp2_with fail
      refine HTK.out.mono ?_
      rintro e w3 (⟨h3, rfl, rfl⟩ | ⟨h3, a3, c3, a4, n4, c4, rfl, hta3, hr3, htd3, hn4, ht3⟩)
      · go_wp2_with fail
        ((try simp only [Exit.inBlock, Exit.then]); refine bodyPost_ret (results_tmp3 rfl _ _ _) rfl ?_)
        exact .inl ⟨by rw [HPR.out, if_pos h3], rfl, HT1.out.trans HT2.out.of_nil⟩
      · have HT3 := Lib.hid (show Touch (Just rb) w w3 from (HT1.out.trans HT2.out.of_nil).trans ht3)
        have HR3 := Lib.hid hr3
        have HTD3 := Lib.hid htd3
        have HTA3 := Lib.hid hta3
        have HH3 := Lib.hid ((HTA.out.keepN HT2.out).keepR (HR1.out.keepN HT2.out) ht3)
        have HL3 := Lib.hid h3
        clear h3 hta3 hr3 htd3 hn4 ht3 HTK
        cases hal : allowB k1 v with
        | false =>
          simp only [hal] at HAL
          go_wp2_with fail
          refine (HAL.out _).mono ?_
          rintro e w' ⟨rfl, rfl⟩
          go_wp2_with fail
          ((try simp only [Exit.inBlock, Exit.then]); refine bodyPost_ret (results_tmp3 rfl _ _ _) rfl ?_)
          exact .inl ⟨by rw [HPR.out, if_neg (by have := HL3.out; omega), if_pos hal], rfl, HT3.out⟩
        | true =>
          simp only [hal] at HAL
          obtain ⟨b9, o9, e9, y0, _, _, _⟩ := HH3.out.at4
          cases e9
          rw [HV.out] at y0
          obtain ⟨s0, _, _, _, _⟩ := HR3.out.cells
          obtain ⟨a5, n5, c5, hcut, hk5, hn5⟩ := cut_h HTA3.out (k := k1) (by omega)
          simp only [hn5] at hcut
          obtain ⟨a6, n6, c6, hcut6, hu6, hn6⟩ := cut_l HTA3.out (k := k1) (by omega)
          have HOK := Lib.hid (show okK ((d.take (k1 + v)).take k1) ((d.take (k1 + v)).drop k1) from okK_iff.1 (by
            rw [List.length_take, List.length_drop, List.length_take, Nat.min_eq_left (a := k1 + v) HL3.out, Nat.min_eq_left (by omega), Nat.add_sub_cancel_left]
            exact hal))
          have HNI := Lib.hid (fun w' (ht : Touch Nil w3 w') => newItem_any seed R (hk5.keepN ht).bv (hu6.keepN ht).bv HOK.out (fun b hb => HRR.out b (Nat.le_trans HT3.out.size (Nat.le_trans ht.size hb))))
          rw [hn5] at HNI
          clear hk5 hn5 hu6 hn6
          go_wp2_with fail
          refine (HAL.out _).mono ?_
          rintro e w4 ⟨rfl, hw⟩
          rw [← hw]
          clear hw
          go_wp2_with fail
          go_region_with (first
            | (go_at_call 98; refine (HNI.out _ (Touch.refl Nil w3).drew).mono ?_; rintro e w5 ⟨iv, rfl, hi, ht5⟩; obtain ⟨ib, rfl⟩ := hi.form; have HI := Lib.hid hi; have y0' := cell_step y0 ((Touch.refl Nil w3).drew.trans ht5); have s0' := cell_step s0 ((Touch.refl Nil w3).drew.trans ht5); have HT5 := Lib.hid ((Touch.refl Nil w3).drew.trans ht5); clear hi ht5))
          all_goals
            go_wp2_with fail
            ((try simp only [Exit.inBlock, Exit.then]); refine bodyPost_ret (results_tmp3 rfl _ _ _) rfl ?_)
            exact .inr ⟨t.getD 0 0, _, _, _, _, _, _, _, by rw [HPR.out, if_neg (by have := HL3.out; omega), if_neg (by rw [hal]; simp)], by rw [HV.out]; rfl, by have h := HI.out; rw [List.take_take, Nat.min_eq_left (by omega)] at h; exact h, HR3.out.keepN HT5.out, HTD3.out.keepN HT5.out, HT3.out.trans HT5.out.of_nil⟩
end Go.Proofs.Ytkkpcndpjkebkaa

/- The reader of an image: a tree of nodes (the mathematics; the walk is not begun). -/
namespace Go.Proofs.Ytkkpcndpjkebkaa
open Go.ChangeShapes Go.WideShapes Go.ChangeAt Go.RowKit Go.Deep

/-- Whether a key may stand below a top. -/
def topB (seed : Int) (top : Option Key) (k : Key) : Bool := match top with | none => true | some p => abv seed p k
/-- What bytes tell of a node and those below it, below a top, behind a key: the tree, the last key and the bytes behind it. -/
def parseT (seed : Int) : Nat → Option Key → Bool → Key → Key → Option (Tree × Key × Key)
  | _, _, false, last, l => some (.nil, last, l)
  | 0, _, true, _, _ => none
  | n + 1, top, true, last, l =>
    match parseI l with
    | none => none
    | some (c, k, u, l1) =>
      if topB seed top k = false then none
      else match parseT seed n (some k) (c.toNat % 2 == 1) last l1 with
        | none => none
        | some (tl, last2, l2) =>
          if klt last2 k = false then none
          else match parseT seed n (some k) (2 ≤ c.toNat) k l2 with
            | none => none
            | some (tr, last3, l3) => some (.node tl k u tr, last3, l3)
theorem parseI_some {l l1 k u : Key} {c : UInt8} (h : parseI l = some (c, k, u, l1)) : okK k u ∧ c.toNat ≤ 3 ∧ l = [c, lo k.length, lo u.length, lo (u.length / 256)] ++ k ++ u ++ l1 := by
  unfold parseI at h
  split at h
  · cases h
  next h1 =>
  split at h
  · cases h
  next h2 =>
  split at h
  · cases h
  next h3 =>
  split at h
  · cases h
  next h4 =>
  have h4 : allowB (l.getD 1 0).toNat ((l.getD 2 0).toNat + 256 * (l.getD 3 0).toNat) = true := by simpa using h4
  obtain ⟨x0, x1, x2, x3, d, rfl⟩ : ∃ x0 x1 x2 x3 d, l = x0 :: x1 :: x2 :: x3 :: d := by
    match l, Nat.le_of_not_lt h1 with
    | x0 :: x1 :: x2 :: x3 :: d, _ => exact ⟨x0, x1, x2, x3, d, rfl⟩
  · skip
    simp only [List.getD_eq_getElem?_getD, List.getElem?_cons_zero, List.getElem?_cons_succ, Option.getD_some, List.drop_succ_cons, List.drop_zero] at h h2 h3 h4
    injection h with h
    injection h with hc h
    injection h with hk h
    injection h with hu hl
    have e1 : k.length = x1.toNat := by rw [← hk, List.length_take]; omega
    have e2 : u.length = x2.toNat + 256 * x3.toNat := by rw [← hu, List.length_drop, List.length_take]; omega
    have b1 := x1.toNat_lt
    have b2 := x2.toNat_lt
    have b3 := x3.toNat_lt
    subst hc
    refine ⟨okK_iff.1 (by rw [e1, e2]; exact h4), by omega, ?_⟩
    have f1 : lo k.length = x1 := UInt8.toNat_inj.1 (by rw [lo_nat, e1]; omega)
    have f2 : lo u.length = x2 := UInt8.toNat_inj.1 (by rw [lo_nat, e2]; omega)
    have f3 : lo (u.length / 256) = x3 := UInt8.toNat_inj.1 (by rw [lo_nat, e2]; omega)
    rw [f1, f2, f3]
    simp only [List.cons_append, List.nil_append, List.append_assoc]
    congr 4
    rw [← hl, ← hk, ← hu, ← List.append_assoc]
    have g : List.take x1.toNat d ++ List.drop x1.toNat (List.take (x1.toNat + (x2.toNat + 256 * x3.toNat)) d) = List.take (x1.toNat + (x2.toNat + 256 * x3.toNat)) d := by
      have := List.take_append_drop x1.toNat (List.take (x1.toNat + (x2.toNat + 256 * x3.toNat)) d)
      rwa [List.take_take, Nat.min_eq_left (by omega)] at this
    rw [g, List.take_append_drop]
theorem parseT_size (seed : Int) : ∀ (n : Nat) {top : Option Key} {b : Bool} {last l last' l' : Key} {t : Tree}, parseT seed n top b last l = some (t, last', l') → t.size + l'.length ≤ l.length := by
  intro n
  induction n with
  | zero =>
    intro top b last l last' l' t h
    cases b with
    | false => simp only [parseT, Option.some.injEq, Prod.mk.injEq] at h; obtain ⟨rfl, _, rfl⟩ := h; simp [Tree.size]
    | true => simp [parseT] at h
  | succ n ih =>
    intro top b last l last' l' t h
    cases b with
    | false => simp only [parseT, Option.some.injEq, Prod.mk.injEq] at h; obtain ⟨rfl, _, rfl⟩ := h; simp [Tree.size]
    | true =>
      unfold parseT at h
      split at h
      · cases h
      next c k u l1 hi =>
      have hp := (parseI_some hi).2.2
      split at h
      · cases h
      split at h
      · cases h
      next tl last2 l2 h1 =>
      split at h
      · cases h
      split at h
      · cases h
      next tr last3 l3 h2 =>
      injection h with h
      injection h with ht h
      injection h with _ hl
      have a1 := ih h1
      have a2 := ih h2
      rw [← ht, ← hl, hp]
      simp only [Tree.size, List.length_append, List.length_cons, List.length_nil]
      omega
end Go.Proofs.Ytkkpcndpjkebkaa

/- The reader of an image: a tree of nodes. -/
namespace Go.Proofs.Ytkkpcndpjkebkaa
open Go.ChangeShapes Go.WideShapes Go.ChangeAt Go.RowKit Go.Deep

theorem BV.keepR {seed : Int} {w w' : World} {rb : Nat} {ra la : Option Addr} {rn rc ln lc : Nat} {x : Value} {l : Key} (h : BV w x l) (hr : RdAt seed w rb (.slice ra rn rc) (.slice la ln lc)) (ht : Touch (Just rb) w w') : BV w' x l := by
  obtain ⟨ao, cap, rfl, h1, h2⟩ := h
  refine ⟨ao, cap, rfl, h1, h2.keep ht fun a e hp hs => ?_⟩
  obtain ⟨b, off, e', hc⟩ := h2 0 hp
  rw [e] at e'
  cases e'
  have hs : b = rb := hs
  subst hs
  unfold RdAt at hr
  simp only [World.cell?, hr] at hc
  match off, hc with
  | 0, hc => simp at hc
  | 1, hc => simp at hc
  | 2, hc => simp at hc
  | o + 3, hc => simp at hc
theorem set_cell3c {b t : Nat} {x y z v : Value} {w : World} (h : w.heap[b]? = some (.cells #[x, y, z] t (0, 0))) : (w.setCell ⟨b, 2, none⟩ v).heap[b]? = some (.cells #[x, y, v] t (0, 0)) := by
  have hrow : w.rowIs b t 3 (fun i => if i = 0 then x else if i = 1 then y else z) := ⟨_, h, rfl, fun i hi => by
    have : i = 0 ∨ i = 1 ∨ i = 2 := by omega
    rcases this with rfl | rfl | rfl <;> rfl⟩
  exact row_block ((hrow.set 2 v).congr (g := fun i => if i = 0 then x else if i = 1 then y else v) fun i hi => by
    have : i = 0 ∨ i = 1 ∨ i = 2 := by omega
    rcases this with rfl | rfl | rfl <;> rfl)
def TopV (seed : Int) (R : Nat → Prop) (w : World) (tv : Value) : Option Key → Prop
  | none => tv = .pointer none
  | some p => ∃ u, ItemAt seed R w tv p u
def NodesP (seed : Int) (R : Nat → Prop) (rb : Nat) (res : Option (Tree × Key × Key)) (w : World) (e : Ending) (w' : World) : Prop :=
  (res = none ∧ e = .returned (.tuple #[.pointer none, .bool false]) ∧ Touch (Just rb) w w') ∨
  (∃ t last l v ra rn rc la ln lc, res = some (t, last, l) ∧ e = .returned (.tuple #[v, .bool true]) ∧ TreeAt seed R w' t v ∧ RdAt seed w' rb (.slice ra rn rc) (.slice la ln lc) ∧ BC w' (.slice ra rn rc) l ∧ BV w' (.slice la ln lc) last ∧ Touch (Just rb) w w')
theorem and_bits (c : UInt8) (h : c.toNat ≤ 3) : ∃ m1 m2 : Int, bits BinOp.and IntKind.u8 ((c.toNat : Nat) : Int) 1 = m1 ∧ bits BinOp.and IntKind.u8 ((c.toNat : Nat) : Int) 2 = m2 ∧ (m1 != 0) = (c.toNat % 2 == 1) ∧ (m2 != 0) = decide (2 ≤ c.toNat) := by
  have hc : c.toNat = 0 ∨ c.toNat = 1 ∨ c.toNat = 2 ∨ c.toNat = 3 := by omega
  rcases hc with e | e | e | e <;> rw [e] <;> exact ⟨_, _, rfl, rfl, by decide, by decide⟩
set_option maxRecDepth 100000 in
set_option maxHeartbeats 4000000 in
theorem nodesL_any {seed : Int} {R : Nat → Prop} {rb : Nat} (hRb : ¬ R rb) : ∀ (n : Nat) {w : World} {top : Option Key} {tv : Value} {bo : Bool} {last l : Key} {ra la : Option Addr} {rn rc ln lc : Nat}, l.length ≤ n → l.length ≤ 1000000000 → RdAt seed w rb (.slice ra rn rc) (.slice la ln lc) → BC w (.slice ra rn rc) l → BV w (.slice la ln lc) last → TopV seed R w tv top → (∀ b, w.heap.size ≤ b → R b) →
    Calls Try.prog 82 #[.pointer (some ⟨rb, 0, none⟩), tv, .bool bo] w (NodesP seed R rb (parseT seed n top bo last l) w) := by
  intro n
  induction n with
  | zero =>
    intro w top tv bo last l ra la rn rc ln lc hn hm hr hb hl ht hR
    have htv : ∃ ta, tv = .pointer ta := by
      cases top with
      | none => exact ⟨_, ht⟩
      | some p => obtain ⟨u, hi⟩ := ht; obtain ⟨ib, e⟩ := hi.form; exact ⟨_, e⟩
    obtain ⟨ta, rfl⟩ := htv
    cases bo with
    | false =>
      have HX := Lib.hid (And.intro hr (And.intro hb hl))
      clear hr hb hl ht hR
      go_enter Try.func82, Try.ntmps82
      go_wp2_with fail
      ((try simp only [Exit.inBlock, Exit.then]); refine bodyPost_ret (results_tmp2 rfl _ _ _) rfl ?_)
      exact .inr ⟨.nil, last, l, _, _, _, _, _, _, _, by simp [parseT], rfl, rfl, HX.out.1, HX.out.2.1, HX.out.2.2, Touch.refl _ _⟩
    | true =>
      have HI := Lib.hid (item_any hr hb hR)
      have hp : parseI l = none := by unfold parseI; rw [if_pos (by omega)]
      clear hr hb hl ht hR
      go_enter Try.func82, Try.ntmps82
      go_wp2_with fail
      refine HI.out.mono ?_
      rintro e w1 (⟨h1, rfl, ht1⟩ | ⟨c, k, u, l1, iv, a2, n2, c2, hq, _⟩)
      · go_wp2_with fail
        ((try simp only [Exit.inBlock, Exit.then]); refine bodyPost_ret (results_tmp2 rfl _ _ _) rfl ?_)
        exact .inl ⟨by simp [parseT], rfl, ht1⟩
      · rw [hp] at hq; cases hq
  | succ n ih =>
    intro w top tv bo last l ra la rn rc ln lc hn hm hr hb hl ht hR
    have htv : ∃ ta, tv = .pointer ta := by
      cases top with
      | none => exact ⟨_, ht⟩
      | some p => obtain ⟨u, hi⟩ := ht; obtain ⟨ib, e⟩ := hi.form; exact ⟨_, e⟩
    obtain ⟨ta, rfl⟩ := htv
    cases bo with
    | false =>
      have HX := Lib.hid (And.intro hr (And.intro hb hl))
      clear hr hb hl ht hR ih
      go_enter Try.func82, Try.ntmps82
      go_wp2_with fail
      ((try simp only [Exit.inBlock, Exit.then]); refine bodyPost_ret (results_tmp2 rfl _ _ _) rfl ?_)
      exact .inr ⟨.nil, last, l, _, _, _, _, _, _, _, by simp [parseT], rfl, rfl, HX.out.1, HX.out.2.1, HX.out.2.2, Touch.refl _ _⟩
    | true =>
      have HI := Lib.hid (item_any hr hb hR)
      have HTOP := Lib.hid ht
      have HLA := Lib.hid hl
      have HRR := Lib.hid hR
      have HRD := Lib.hid hr
      have HN := Lib.hid (And.intro hn hm)
      have HRB := Lib.hid (show ∀ b, R b → ¬ Just rb b from fun b hb c => hRb (by have c : b = rb := c; rw [← c]; exact hb))
      clear hr hb hl ht hR hn hm
      go_enter Try.func82, Try.ntmps82
      go_wp2_with fail
      refine HI.out.mono ?_
      rintro e w1 (⟨h1, rfl, ht1⟩ | ⟨c, k, u, l1, iv, a2, n2, c2, hp, rfl, hi, hr1, hb1, ht1⟩)
      · go_wp2_with fail
        ((try simp only [Exit.inBlock, Exit.then]); refine bodyPost_ret (results_tmp2 rfl _ _ _) rfl ?_)
        exact .inl ⟨by simp [parseT, h1], rfl, ht1⟩
      obtain ⟨ib, rfl⟩ := hi.form
      have hsz := (parseI_some hp).2.2
      have HC := Lib.hid (and_bits c (parseI_some hp).2.1)
      have HL1 := Lib.hid (show l1.length ≤ n ∧ l1.length ≤ 1000000000 from by
        have e := congrArg List.length hsz
        simp only [List.length_append, List.length_cons, List.length_nil] at e
        have := HN.out
        omega)
      have HPT := Lib.hid (show parseT seed (n + 1) top true last l = (if topB seed top k = false then none else match parseT seed n (some k) (c.toNat % 2 == 1) last l1 with
        | none => none
        | some (tl, last2, l2) => if klt last2 k = false then none else match parseT seed n (some k) (2 ≤ c.toNat) k l2 with
          | none => none
          | some (tr, last3, l3) => some (.node tl k u tr, last3, l3)) from by first | (simp only [parseT, hp]; done) | (simp only [parseT, hp]; rfl))
      have HIT := Lib.hid hi
      have HR1 := Lib.hid hr1
      have HB1 := Lib.hid hb1
      have HT1 := Lib.hid ht1
      have HL1V := Lib.hid (HLA.out.keepR HRD.out ht1)
      obtain ⟨m1, m2, b1, b2, b3, b4⟩ := HC.out
      clear hp hi hr1 hb1 ht1 hsz HI HN HC
      cases hq : topB seed top k with
      | false =>
        cases top with
        | none => simp [topB] at hq
        | some p =>
          obtain ⟨tu, hti⟩ := HTOP.out
          obtain ⟨tb, e⟩ := hti.form
          cases e
          have HAB := Lib.hid (above_any (hti.keep HT1.out HRB.out) HIT.out)
          rw [show abv seed p k = false from hq] at HAB
          clear hti
          go_wp2_with fail
          refine HAB.out.mono ?_
          rintro e w' ⟨rfl, k2, rfl⟩
          go_wp2_with fail
          ((try simp only [Exit.inBlock, Exit.then]); refine bodyPost_ret (results_tmp2 rfl _ _ _) rfl ?_)
          exact .inl ⟨by rw [HPT.out, hq]; rfl, rfl, HT1.out.drewN _⟩
      | true =>
      have HQ := Lib.hid hq
      rcases top with _ | p
      case' none =>
        obtain rfl : ta = none := by have h : Value.pointer ta = .pointer none := HTOP.out; cases h; rfl
        clear hq
        go_wp2_with fail
        obtain ⟨w2, ew2⟩ : ∃ w2, w1.drewN 0 = w2 := ⟨_, rfl⟩
        have HT2 := Lib.hid (show Touch Nil w1 w2 from by rw [← ew2]; exact (Touch.refl Nil w1).drewN _)
        rw [show w1.drewN 0 = w1 from rfl] at ew2
        rw [ew2]
        clear ew2
      case' some =>
        obtain ⟨tu, hti⟩ := HTOP.out
        obtain ⟨tb, e⟩ := hti.form
        cases e
        have HAB := Lib.hid (above_any (hti.keep HT1.out HRB.out) HIT.out)
        rw [show abv seed p k = true from hq] at HAB
        clear hti hq
        go_wp2_with fail
        refine HAB.out.mono ?_
        rintro e w' ⟨rfl, k2, rfl⟩
        obtain ⟨w2, ew2⟩ : ∃ w2, w1.drewN k2 = w2 := ⟨_, rfl⟩
        have HT2 := Lib.hid (show Touch Nil w1 w2 from by rw [← ew2]; exact (Touch.refl Nil w1).drewN _)
        rw [ew2]
        clear ew2 HAB
        go_wp2_with fail
      all_goals
        refine (ih (top := some k) HL1.out.1 HL1.out.2 (HR1.out.keepN HT2.out) (HB1.out.keepN HT2.out) (HL1V.out.keepN HT2.out) ⟨u, HIT.out.keepN HT2.out⟩ (fun b hb => HRR.out b (Nat.le_trans HT1.out.size (Nat.le_trans HT2.out.size hb)))).mono ?_
        rintro e w3 (⟨g1, rfl, ht3⟩ | ⟨tl, last2, l2, v, ra3, rn3, rc3, la3, ln3, lc3, g1, rfl, htl, hr3, hb3, hl3, ht3⟩)
        · have HT3 := Lib.hid ((HT1.out.trans HT2.out.of_nil).trans ht3)
          have HG := Lib.hid g1
          clear ht3 g1
          go_wp2_with fail
          go_quiet (fail)
          go_wp2_with fail
          ((try simp only [Exit.inBlock, Exit.then]); refine bodyPost_ret (results_tmp2 rfl _ _ _) rfl ?_)
          exact .inl ⟨by rw [HPT.out, HQ.out, if_neg (by simp), HG.out], rfl, HT3.out.drewN _⟩
        · obtain ⟨va, rfl⟩ := htl.form
          have HTL := Lib.hid htl
          have HR3 := Lib.hid hr3
          have HB3 := Lib.hid hb3
          have HL3 := Lib.hid hl3
          have HT3 := Lib.hid ((HT1.out.trans HT2.out.of_nil).trans ht3)
          have HIT3 := Lib.hid (HIT.out.keep (HT2.out.of_nil.trans ht3) HRB.out)
          have HG := Lib.hid g1
          obtain ⟨ib', kx, ux, e, _, hib, hkk, _, _⟩ := HIT3.out
          cases e
          obtain ⟨i0, _, _⟩ := item_cells hib
          obtain ⟨ka, kn, kc, rfl⟩ := hkk.1.form
          have HKB := Lib.hid hkk.bv
          obtain ⟨s0, s1, s2, f1, f2⟩ := hr3.cells
          obtain ⟨z, ez⟩ : ∃ z, Lib.compareBytes last2 k = z := ⟨_, rfl⟩
          have HCM := Lib.hid (fun n => show Calls Try.prog 91 #[.slice la3 ln3 lc3, .slice ka kn kc] (w3.drewN n) fun e w' => e = .returned (.int .i64 z) ∧ w3.drewN n = w' from by rw [← ez]; exact compareP_any (HL3.out.keepN ((Touch.refl Nil w3).drewN n)) (HKB.out.keepN ((Touch.refl Nil w3).drewN n)))
          have hkz : klt last2 k = decide (z < 0) := by unfold klt; rw [ez]
          clear htl hr3 hb3 hl3 ht3 g1 hib hkk ez
          cases hd : decide (z < 0) with
          | false =>
            have hz : decide ((0 : Int) ≤ z) = true := by have := of_decide_eq_false hd; simp; omega
            have HK := Lib.hid (hkz.trans hd)
            clear hkz hd
            go_wp2_with fail
            go_quiet ((go_at_call 91; refine Calls.quiet_of_same (v := .int .i64 z) ?_; exact (HCM.out _).mono fun _ _ h => ⟨h.1, h.2.symm⟩))
            go_wp2_with fail
            ((try simp only [Exit.inBlock, Exit.then]); refine bodyPost_ret (results_tmp2 rfl _ _ _) rfl ?_)
            exact .inl ⟨by rw [HPT.out, HQ.out, if_neg (by simp), HG.out]; simp only [HK.out, if_true], rfl, HT3.out.drewN _⟩
          | true =>
            have hz : decide ((0 : Int) ≤ z) = false := by have := of_decide_eq_true hd; simp; omega
            have HK := Lib.hid (hkz.trans hd)
            clear hkz hd
            go_wp2_with fail
            go_quiet ((go_at_call 91; refine Calls.quiet_of_same (v := .int .i64 z) ?_; exact (HCM.out _).mono fun _ _ h => ⟨h.1, h.2.symm⟩))
            obtain ⟨w4, ew4⟩ : ∃ w4, w3.drewN nq = w4 := ⟨_, rfl⟩
            have HT4 := Lib.hid (show Touch Nil w3 w4 from by rw [← ew4]; exact (Touch.refl Nil w3).drewN _)
            rw [ew4]
            obtain ⟨s0', s1', s2', f1', f2'⟩ := (HR3.out.keepN HT4.out).cells
            have i0' := cell_step i0 HT4.out
            clear ew4 s0 s1 s2 f1 f2 i0 HCM
            go_wp2_with fail
            obtain ⟨w5, ew5⟩ : ∃ w5, w4.setCell ⟨rb, 2, none⟩ (.slice ka kn kc) = w5 := ⟨_, rfl⟩
            have HT5 := Lib.hid (show Touch (Just rb) w4 w5 from by rw [← ew5]; exact (Touch.refl (Just rb) w4).setCell ⟨rb, 2, none⟩ _ fun _ => rfl)
            have HR5 := Lib.hid (show RdAt seed w5 rb (.slice ra3 rn3 rc3) (.slice ka kn kc) from by rw [← ew5]; exact set_cell3c (HR3.out.keepN HT4.out))
            have HB5 := Lib.hid ((HB3.out.keepN HT4.out).keepR (HR3.out.keepN HT4.out) HT5.out)
            have HK5 := Lib.hid ((HKB.out.keepN HT4.out).keepR (HR3.out.keepN HT4.out) HT5.out)
            have HI5 := Lib.hid ((HIT3.out.keepN HT4.out).keep HT5.out HRB.out)
            have HTL5 := Lib.hid ((HTL.out.keepN HT4.out).keep HT5.out HRB.out)
            have HW5 := Lib.hid (show Touch (Just rb) w w5 from (HT3.out.trans HT4.out.of_nil).trans HT5.out)
            have HS2 := Lib.hid (parseT_size seed n HG.out)
            rw [ew5]
            clear ew5 s0' s1' s2' f1' f2' i0'
            refine (ih (top := some k) (by have := HS2.out; have := HL1.out; omega) (by have := HS2.out; have := HL1.out; omega) HR5.out HB5.out HK5.out ⟨u, HI5.out⟩ (fun b hb => HRR.out b (Nat.le_trans HW5.out.size hb))).mono ?_
            rintro e w6 (⟨g2, rfl, ht6⟩ | ⟨tr, last3, l3, vr, ra6, rn6, rc6, la6, ln6, lc6, g2, rfl, htr, hr6, hb6, hl6, ht6⟩)
            · have HG2 := Lib.hid g2
              have HT6 := Lib.hid (HW5.out.trans ht6)
              clear g2 ht6
              go_wp2_with fail
              ((try simp only [Exit.inBlock, Exit.then]); refine bodyPost_ret (results_tmp2 rfl _ _ _) rfl ?_)
              exact .inl ⟨by rw [HPT.out, HQ.out, if_neg (by simp), HG.out]; simp only [HK.out, HG2.out]; rfl, rfl, HT6.out⟩
            · obtain ⟨vra, rfl⟩ := htr.form
              have HG2 := Lib.hid g2
              have HT6 := Lib.hid (HW5.out.trans ht6)
              have HX6 := Lib.hid (And.intro hr6 (And.intro hb6 hl6))
              have HS3 := Lib.hid (parseT_size seed n g2)
              have HNN := Lib.hid (newNode_any (HI5.out.keep ht6 HRB.out) (HTL5.out.keep ht6 HRB.out) htr (fun b hb => HRR.out b (Nat.le_trans HT6.out.size hb)) (by have := HS2.out; have := HS3.out; have := HL1.out; omega))
              obtain ⟨s0, s1, s2, f1, f2⟩ := hr6.cells
              clear g2 ht6 htr hr6 hb6 hl6 s1 s2 f1 f2
              go_wp2_with fail
              refine HNN.out.mono ?_
              rintro e w7 ⟨v7, rfl, h7, ht7⟩
              obtain ⟨va7, rfl⟩ := h7.form
              have H7 := Lib.hid (And.intro h7 ht7)
              clear h7 ht7
              go_wp2_with fail
              ((try simp only [Exit.inBlock, Exit.then]); refine bodyPost_ret (results_tmp2 rfl _ _ _) rfl ?_)
              exact .inr ⟨.node tl k u tr, last3, l3, _, _, _, _, _, _, _, by rw [HPT.out, HQ.out, if_neg (by simp), HG.out]; simp only [HK.out, HG2.out]; rfl, rfl, H7.out.1, HX6.out.1.keepN H7.out.2, HX6.out.2.1.keepN H7.out.2, HX6.out.2.2.keepN H7.out.2, HT6.out.trans H7.out.2.of_nil⟩
end Go.Proofs.Ytkkpcndpjkebkaa
