import Derived.Test.YticddcnlafbkoaaDoorVcmp
import Derived.Test.YticddcnlafbkoaaDoorVrseal
/- Two vaults at once; deeds of other names. -/
namespace Go.Proofs.YticddcnlafbkoaaDoor
open Go.ChangeShapes Go.WideShapes Go.ChangeAt Go.RowKit Go.Deep

theorem ba_key {a b : ByteArray} (h : a.data.toList = b.data.toList) : a = b := by cases a; cases b; simp_all [Array.toList_inj]
theorem stepS_apart {S S' : Pads} {k0 : Key} (h : ∀ k, k ≠ k0 → S' k = S k) (kd : Int) (nm : ByteArray) (da pa : Key) (hn : nm.data.toList ≠ k0) : (∀ k, k ≠ k0 → stepS S' kd nm da pa k = stepS S kd nm da pa k) ∧ stepS S' kd nm da pa k0 = S' k0 := by
  unfold stepS
  by_cases h0 : kd = 0
  · simp only [h0, if_true]
    unfold putN
    rw [h _ hn]
    by_cases c : okPut nm da.length pa.length = true ∧ S nm.data.toList = none
    · rw [if_pos c, if_pos c]
      refine ⟨fun k hk => ?_, ?_⟩
      · unfold putS; split
        · rfl
        · exact h k hk
      · unfold putS; rw [if_neg (Ne.symm hn)]
    · rw [if_neg c, if_neg c]
      exact ⟨h, rfl⟩
  · rw [if_neg h0, if_neg h0]
    by_cases h2 : kd = 2
    · rw [if_pos h2, if_pos h2]
      refine ⟨fun k hk => ?_, ?_⟩
      · unfold delS; split
        · rfl
        · exact h k hk
      · unfold delS; rw [if_neg (Ne.symm hn)]
    · rw [if_neg h2, if_neg h2]
      exact ⟨h, rfl⟩
theorem doneS_apart {S S' : Pads} {nm0 : ByteArray} (h : ∀ k, k ≠ nm0.data.toList → S' k = S k) (kd : Nat → Int) (nm : Nat → ByteArray) (da pa : Nat → Key) : ∀ n, goodD nm0 n nm da pa → (∀ k, k ≠ nm0.data.toList → doneS S' kd nm da pa n k = doneS S kd nm da pa n k) ∧ doneS S' kd nm da pa n nm0.data.toList = S' nm0.data.toList
  | 0, _ => ⟨h, rfl⟩
  | n + 1, hg => by
    obtain ⟨h1, h2⟩ := doneS_apart h kd nm da pa n fun i hi => hg i (by omega)
    have hn : (nm n).data.toList ≠ nm0.data.toList := fun e => (hg n (by omega)).2.2.2 (ba_key e)
    obtain ⟨g1, g2⟩ := stepS_apart h1 (kd n) (nm n) (da n) (pa n) hn
    exact ⟨g1, g2.trans h2⟩
theorem doneS_keep {S : Pads} {nm0 : ByteArray} (kd : Nat → Int) (nm : Nat → ByteArray) (da pa : Nat → Key) (n : Nat) (hg : goodD nm0 n nm da pa) : doneS S kd nm da pa n nm0.data.toList = S nm0.data.toList := (doneS_apart (fun _ _ => rfl) kd nm da pa n hg).2
/-- What was put and forgotten leaves no trace. -/
theorem forgotten {S S' : Pads} {nm0 : ByteArray} (h : ∀ k, k ≠ nm0.data.toList → S' k = S k) (h0 : S nm0.data.toList = none) (kd : Nat → Int) (nm : Nat → ByteArray) (da pa : Nat → Key) (n : Nat) (hg : goodD nm0 n nm da pa) : delS (doneS S' kd nm da pa n) nm0.data.toList = doneS S kd nm da pa n := by
  funext k
  unfold delS
  by_cases e : k = nm0.data.toList
  · rw [if_pos e, e, doneS_keep kd nm da pa n hg, h0]
  · rw [if_neg e, (doneS_apart h kd nm da pa n hg).1 k e]

theorem xor_back7 : ∀ a b : Key, a.length = b.length → xorL (xorL a b) b = a
  | [], [], _ => rfl
  | x :: a, y :: b, h => by
    have h2 : xorL (xorL a b) b = a := xor_back7 a b (by simpa using h)
    show (x ^^^ y ^^^ y) :: xorL (xorL a b) b = x :: a
    rw [h2, UInt8.xor_assoc, UInt8.xor_self, UInt8.xor_zero]
  | [], _ :: _, h => by cases h
  | _ :: _, [], h => by cases h
theorem touch_drewN7 (w : World) (k : Nat) : Touch Nil w (w.drewN k) := ⟨rfl, rfl, rfl, Nat.le_refl _, fun _ _ _ => rfl⟩

/-- A new vault. -/
def NewG (seed : Int) (w : World) (e : Ending) (w' : World) : Prop := ∃ R bv, e = .returned (.pointer (some ⟨bv, 0, none⟩)) ∧ VT R w' bv seed 0 (fun _ => none) ∧ (∀ b, R b → w.heap.size ≤ b) ∧ w.heap.size ≤ bv ∧ Touch Nil w w'
theorem new_gen (seed : Int) (w : World) : Calls Tryd.prog 6 #[.int .u64 seed] w (NewG seed w) :=
  (newVault_any seed w).mono fun e w' ⟨R, bv, tp, he, hT, hR, hbR, hbv, hc, ht⟩ => ⟨R, bv, he, ⟨⟨tp, 0, 8, _, hT, Nat.le_refl _, fun x => ⟨fun ⟨c, _, e⟩ => (by cases e), fun e => by cases e⟩, hc⟩, hbR, fun k v e => by cases e⟩, hR, hbv, ht⟩
/-- No pad has an empty name. -/
theorem VT.noEmpty {R : Nat → Prop} {w : World} {bv : Nat} {seed : Int} {m : Nat} {S : Pads} (h : VT R w bv seed m S) : S [] = none := by
  obtain ⟨⟨tp, n, C, T, hT, _, hS, _⟩, _⟩ := h
  cases e : S [] with
  | none => rfl
  | some v =>
    obtain ⟨c, hc, ec⟩ := (hS ([], v)).2 e
    obtain ⟨⟨_, _, _, vv, _, _, _, hB⟩, _, _⟩ := hT
    have := (hB.pair hc ec).2.2.1
    simp at this

/-- Two vaults, apart, and blocks that neither has. -/
structure P2 (w0 : World) (Z : Nat → Prop) (W : World) (R1 R2 : Nat → Prop) (b1 b2 : Nat) (seed : Int) (m1 m2 : Nat) (S1 S2 : Pads) : Prop where
  v1 : VT R1 W b1 seed m1 S1
  v2 : VT R2 W b2 seed m2 S2
  d : ∀ b, R1 b → ¬ R2 b
  n1 : ¬ R1 b2
  n2 : ¬ R2 b1
  l1 : ∀ b, R1 b → w0.heap.size ≤ b
  l2 : ∀ b, R2 b → w0.heap.size ≤ b
  t : Touch Nil w0 W
  z : ∀ b, Z b → b < W.heap.size ∧ ¬ R1 b ∧ ¬ R2 b
section
variable {w0 W W' : World} {Z R1 R2 R' : Nat → Prop} {b1 b2 : Nat} {seed : Int} {m1 m2 m' : Nat} {S1 S2 S' : Pads}
theorem P2.keepN (h : P2 w0 Z W R1 R2 b1 b2 seed m1 m2 S1 S2) (ht : Touch Nil W W') : P2 w0 Z W' R1 R2 b1 b2 seed m1 m2 S1 S2 :=
  ⟨h.v1.keepN ht, h.v2.keepN ht, h.d, h.n1, h.n2, h.l1, h.l2, h.t.trans ht, fun b hb => ⟨Nat.lt_of_lt_of_le (h.z b hb).1 ht.size, (h.z b hb).2⟩⟩
theorem P2.swap (h : P2 w0 Z W R1 R2 b1 b2 seed m1 m2 S1 S2) : P2 w0 Z W R2 R1 b2 b1 seed m2 m1 S2 S1 :=
  ⟨h.v2, h.v1, fun b hb h1 => h.d b h1 hb, h.n2, h.n1, h.l2, h.l1, h.t, fun b hb => ⟨(h.z b hb).1, (h.z b hb).2.2, (h.z b hb).2.1⟩⟩
theorem P2.step (h : P2 w0 Z W R1 R2 b1 b2 seed m1 m2 S1 S2) (hv : VT R' W' b1 seed m' S') (ht : Touch R1 W W') (hR : ∀ b, R' b → R1 b ∨ W.heap.size ≤ b) : P2 w0 Z W' R' R2 b1 b2 seed m' m2 S' S2 :=
  ⟨hv, h.v2.keep ht (fun b hb h1 => h.d b h1 hb) h.n1, fun b hb h2 => (hR b hb).elim (fun c => h.d b c h2) fun c => by have := h.v2.low b h2; omega,
    fun hb => (hR _ hb).elim h.n1 fun c => by have := h.v2.lt; omega, h.n2, fun b hb => (hR b hb).elim (h.l1 b) fun c => Nat.le_trans h.t.size c, h.l2,
    h.t.trans' ht fun b hb hs => by have := h.l1 b hs; omega,
    fun b hb => ⟨Nat.lt_of_lt_of_le (h.z b hb).1 ht.size, fun hr => (hR b hr).elim (h.z b hb).2.1 fun c => by have := (h.z b hb).1; omega, (h.z b hb).2.2⟩⟩
theorem P2.zone (h : P2 w0 Z W R1 R2 b1 b2 seed m1 m2 S1 S2) (Z' : Nat → Prop) (hz : ∀ b, Z' b → b < W.heap.size ∧ ¬ R1 b ∧ ¬ R2 b) : P2 w0 Z' W R1 R2 b1 b2 seed m1 m2 S1 S2 := { h with z := hz }
theorem P2.new1 (w0 : World) {seed : Int} (ht : Touch Nil w0 W) (h1 : VT R1 W b1 seed 0 S1) (hl : ∀ b, R1 b → w0.heap.size ≤ b) (hv : VT R' W' b2 seed 0 S2) (hR : ∀ b, R' b → W.heap.size ≤ b) (hb : W.heap.size ≤ b2) (ht' : Touch Nil W W') : P2 w0 (fun _ => False) W' R1 R' b1 b2 seed 0 0 S1 S2 :=
  ⟨h1.keepN ht', hv, fun b hb h2 => by have := h1.low b hb; have := hR b h2; omega, fun h => by have := h1.low _ h; omega, fun h => by have := h1.lt; have := hR _ h; omega, hl, fun b hb => Nat.le_trans ht.size (hR b hb), ht.trans ht', fun b hb => hb.elim⟩
end
section
variable {R : Nat → Prop} {w : World} {bv : Nat} {seed : Int} {m : Nat} {S : Pads}
theorem vput_yes (h : VT R w bv seed m S) (hm : m < 100000) (nm : ByteArray) (hs : nm.size ≤ 1048576) {da pa : Option Addr} {dl dc pl pc : Nat} {data pad : Key} (hd : BV w (.slice da dl dc) data) (hdR : 0 < data.length → ∀ b, OwnOf (.slice da dl dc) b → ¬ R b) (hp : BV w (.slice pa pl pc) pad) (hpR : 0 < pad.length → ∀ b, OwnOf (.slice pa pl pc) b → ¬ R b) (hok : okPut nm dl pl = true) (hno : S nm.data.toList = none) :
    Calls Tryd.prog 8 #[.pointer (some ⟨bv, 0, none⟩), .string nm, .slice da dl dc, .slice pa pl pc] w fun e w' => ∃ xa xn xc R', e = .returned (.tuple #[.agg #[.string nm, .slice xa xn xc], .int .i64 0]) ∧ VT R' w' bv seed (m + 1) (putS S nm.data.toList ([1] ++ pad)) ∧ Touch R w w' ∧ (∀ b, R' b → R b ∨ w.heap.size ≤ b) ∧ OwnB w.heap.size w' (.slice xa xn xc) (xorL data pad) ∧ ∀ k, OwnOf (.slice xa xn xc) k → ¬ R' k :=
  (vput_gen h hm nm hs hd hdR hp hpR).mono fun e w' ⟨s, xa, xn, xc, R', he, hv, ht, hR, hc0, _⟩ => by
    have e1 : putE S nm dl pl = 0 := by unfold putE; rw [hok, hno]; rfl
    have e2 : putN S nm dl pl pad = putS S nm.data.toList ([1] ++ pad) := by unfold putN; rw [if_pos ⟨hok, hno⟩]
    obtain ⟨rfl, ho, hx⟩ := hc0 e1
    rw [e1] at he
    rw [e2] at hv
    exact ⟨xa, xn, xc, R', he, hv, ht, hR, ho, hx⟩
end
end Go.Proofs.YticddcnlafbkoaaDoor
