import Derived.Test.YthhahanhkclidaaLoadMath
import Derived.Deep.Slices
/- Bytes that are cut: a slice of bytes with its room. -/
namespace Go.Proofs.Ythhahanhkclidaa
open Go.ChangeShapes Go.WideShapes Go.ChangeAt Go.RowKit Go.Deep

/-- Bytes in a slice whose room is at least its length. -/
def BC (w : World) (x : Value) (l : List UInt8) : Prop :=
  ∃ ao n cap, x = .slice ao n cap ∧ n = l.length ∧ n ≤ cap ∧ (ao = none → n = 0 ∧ cap = 0) ∧ SlI w .u8 ao (ub l)
theorem BC.bv {w : World} {x : Value} {l : List UInt8} (h : BC w x l) : BV w x l := by
  obtain ⟨ao, n, cap, rfl, rfl, _, h1, h2⟩ := h
  exact ⟨ao, cap, rfl, fun e => ⟨List.eq_nil_of_length_eq_zero (h1 e).1, (h1 e).2⟩, h2⟩
theorem BC.keep {S : Nat → Prop} {w w' : World} {x : Value} {l : List UInt8} (h : BC w x l) (ht : Touch S w w') (hS : ∀ b, OwnOf x b → ¬ S b) : BC w' x l := by
  obtain ⟨ao, n, cap, rfl, rfl, h0, h1, h2⟩ := h
  refine ⟨ao, _, cap, rfl, rfl, h0, h1, h2.keep ht fun a e _ => ?_⟩
  subst e
  exact hS a.block rfl
theorem BC.keepN {w w' : World} {x : Value} {l : List UInt8} (h : BC w x l) (ht : Touch Nil w w') : BC w' x l := h.keep ht fun _ _ c => c
theorem OwnB.bc {base : Nat} {w : World} {v : Value} {l : List UInt8} (h : OwnB base w v l) : BC w v l := by
  have hb := h.bv
  obtain ⟨hlen, ⟨rfl, hn⟩ | ⟨g, cap, cur, rfl, _, _, hc, _⟩⟩ := h
  · obtain ⟨ao, c, e, h1, h2⟩ := hb
    injection e with e1 _ _
    subst e1
    exact ⟨none, 0, 0, rfl, hn.symm, Nat.le_refl _, fun _ => ⟨rfl, rfl⟩, h2⟩
  · obtain ⟨ao, c, e, h1, h2⟩ := hb
    cases e
    exact ⟨_, _, _, rfl, rfl, hc, fun e => (by cases e), h2⟩

theorem elemB : Try.prog.elem 23 = 5 := by kernel_rfl
theorem slT : Try.prog.underlying 23 = some (.slice (Try.prog.elem 23)) := by rw [elemB]; exact Try.underlying23
theorem sizeB (w : World) : (sizeOf 5).run Try.prog w = .ok 1 w := by
  simp [sizeOf, go_sem]
  rfl

theorem bc_sub {w : World} {ao : Option Addr} {n cap : Nat} {l : List UInt8} (h : BC w (.slice ao n cap) l) {lo hi mx : Nat} (h1 : lo ≤ hi) (h2 : hi ≤ n) (h3 : hi ≤ mx) (h4 : mx ≤ cap) :
    BC w (.slice (if mx = lo then ao else ao.map (·.add (lo * 1))) (hi - lo) (mx - lo)) ((l.take hi).drop lo) := by
  obtain ⟨ao', n', cap', e, rfl, h0, hn, hs⟩ := h
  cases e
  refine ⟨_, _, _, rfl, by simp; omega, by omega, fun e => ?_, fun i hi' => ?_⟩
  · have : ao = none := by
      split at e
      · exact e
      · cases ao with
        | none => rfl
        | some a => cases e
    have := hn this
    omega
  · simp at hi'
    obtain ⟨b, off, ea, hc⟩ := hs (lo + i) (by simp; omega)
    subst ea
    rw [if_neg (by omega)]
    refine ⟨b, off + lo, by rw [Option.map_some, add_plain, Nat.mul_one], ?_⟩
    rw [show off + lo + i = off + (lo + i) from by omega, hc]
    rw [ub_getD _ _ (by omega), ub_getD _ _ (by simp; omega)]
    simp only [List.getD_eq_getElem?_getD, List.getElem?_drop]
    rw [List.getElem?_take, if_pos (by omega)]

/-- s[k:]. -/
theorem cut_l {w : World} {ao : Option Addr} {n cap : Nat} {l : List UInt8} (h : BC w (.slice ao n cap) l) {k : Nat} (hk : k ≤ n) :
    ∃ ao' n' cap', (∀ W, (Instr.slice 23 (.slice ao n cap) (some (.int .i64 (k : Int))) none none).run Try.prog W = .ok (.slice ao' n' cap') W) ∧ BC w (.slice ao' n' cap') (l.drop k) ∧ n' + k = n := by
  have hl : n = l.length := by obtain ⟨_, _, _, e, h1, _⟩ := h; cases e; exact h1
  have hc : n ≤ cap := by obtain ⟨_, _, _, e, _, h1, _⟩ := h; cases e; exact h1
  refine ⟨_, _, _, fun W => ?_, by have := bc_sub h (lo := k) (hi := n) (mx := cap) hk (Nat.le_refl _) hc (Nat.le_refl _); rw [hl, List.take_length] at this; exact this, by omega⟩
  rw [run_slice_l _ _ _ _ _ slT _ _ (by omega) (by omega), elemB, sizeB]
  simp only [Result.andThen, sliced, Int.toNat_natCast]
  rw [hl]
/-- s[:k]. -/
theorem cut_h {w : World} {ao : Option Addr} {n cap : Nat} {l : List UInt8} (h : BC w (.slice ao n cap) l) {k : Nat} (hk : k ≤ n) :
    ∃ ao' n' cap', (∀ W, (Instr.slice 23 (.slice ao n cap) none (some (.int .i64 (k : Int))) none).run Try.prog W = .ok (.slice ao' n' cap') W) ∧ BC w (.slice ao' n' cap') (l.take k) ∧ n' = k := by
  have hl : n = l.length := by obtain ⟨_, _, _, e, h1, _⟩ := h; cases e; exact h1
  have hc : n ≤ cap := by obtain ⟨_, _, _, e, _, h1, _⟩ := h; cases e; exact h1
  refine ⟨_, _, _, fun W => ?_, by have := bc_sub h (lo := 0) (hi := k) (mx := cap) (by omega) hk (by omega) (Nat.le_refl _); rw [List.drop_zero] at this; exact this, by omega⟩
  rw [run_slice_h _ _ _ _ _ slT _ _ (by omega) (by omega), elemB, sizeB]
  simp only [Result.andThen, sliced, Int.toNat_natCast]
/-- s[i:j]. -/
theorem cut_lh {w : World} {ao : Option Addr} {n cap : Nat} {l : List UInt8} (h : BC w (.slice ao n cap) l) {i j : Nat} (hi : i ≤ j) (hj : j ≤ n) :
    ∃ ao' n' cap', (∀ W, (Instr.slice 23 (.slice ao n cap) (some (.int .i64 (i : Int))) (some (.int .i64 (j : Int))) none).run Try.prog W = .ok (.slice ao' n' cap') W) ∧ BC w (.slice ao' n' cap') ((l.take j).drop i) ∧ n' + i = j := by
  have hc : n ≤ cap := by obtain ⟨_, _, _, e, _, h1, _⟩ := h; cases e; exact h1
  refine ⟨_, _, _, fun W => ?_, bc_sub h (lo := i) (hi := j) (mx := cap) hi hj (by omega) (Nat.le_refl _), by omega⟩
  rw [run_slice_lh _ _ _ _ _ slT _ _ _ _ (by omega) (by omega) (by omega), elemB, sizeB]
  simp only [Result.andThen, sliced, Int.toNat_natCast]
end Go.Proofs.Ythhahanhkclidaa
