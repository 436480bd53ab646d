import Derived.Test.YticddcnlafbkoaaDoorVopen
/- What the law's deeds do to a vault. -/
namespace Go.Proofs.YticddcnlafbkoaaDoor
open Go.ChangeShapes Go.WideShapes Go.ChangeAt Go.RowKit Go.Deep
attribute [local go_sem] Oper.semAt_some

theorem bv_low {w : World} {x : Value} {l : Key} (h : BV w x l) (hl : 0 < l.length) : ∀ b, OwnOf x b → b < w.heap.size := by
  obtain ⟨ao, cap, rfl, h1, h2⟩ := h
  intro b hb
  obtain ⟨b', off, e, hc⟩ := h2 0 (by simpa using hl)
  subst e
  have hb : some b = some b' := hb
  cases hb
  exact World.block_lt_of_cell? w _ hc
theorem ba_ne {a b : ByteArray} (h : a ≠ b) : (a.toList == b.toList) = false := by
  rw [Lib.toList_data, Lib.toList_data, beq_eq_false_iff_ne]
  intro h2
  exact h (by cases a; cases b; simp_all [Array.toList_inj])

/-- Deeds that came in. -/
structure Dds (w : World) (ao : Option Addr) (n : Nat) (v : Nat → Nat → Value) (kd : Nat → Int) (nm : Nat → ByteArray) (da pa : Nat → Key) : Prop where
  cells : Items w ao n 4 v
  kind : ∀ i, i < n → v i 0 = .int .i64 (kd i)
  names : ∀ i, i < n → v i 1 = .string (nm i) ∧ (nm i).size ≤ 9223372036854775807
  data : ∀ i, i < n → BV w (v i 2) (da i) ∧ (da i).length ≤ 9223372036854775807
  pads : ∀ i, i < n → BV w (v i 3) (pa i) ∧ (pa i).length ≤ 9223372036854775807
theorem Dds.keepN {w w' : World} {ao : Option Addr} {n : Nat} {v : Nat → Nat → Value} {kd : Nat → Int} {nm : Nat → ByteArray} {da pa : Nat → Key} (h : Dds w ao n v kd nm da pa) (ht : Touch Nil w w') : Dds w' ao n v kd nm da pa :=
  ⟨h.cells.keep (fun _ b _ _ l => ht.same b l (fun c => c)) ht.size, h.kind, h.names, fun i hi => ⟨(h.data i hi).1.keepN ht, (h.data i hi).2⟩, fun i hi => ⟨(h.pads i hi).1.keepN ht, (h.pads i hi).2⟩⟩
def goodD (nm0 : ByteArray) (n : Nat) (nm : Nat → ByteArray) (da pa : Nat → Key) : Prop := ∀ i, i < n → (da i).length ≤ 2000 ∧ (pa i).length ≤ 2000 ∧ (nm i).size ≤ 2000 ∧ nm i ≠ nm0
/-- The pads behind a deed. -/
def stepS (S : Pads) (kd : Int) (nm : ByteArray) (da pa : Key) : Pads := if kd = 0 then putN S nm da.length pa.length pa else if kd = 2 then delS S nm.data.toList else S
def doneS (S : Pads) (kd : Nat → Int) (nm : Nat → ByteArray) (da pa : Nat → Key) : Nat → Pads
  | 0 => S
  | n + 1 => stepS (doneS S kd nm da pa n) (kd n) (nm n) (da n) (pa n)
def DoneG (R : Nat → Prop) (bv : Nat) (seed : Int) (m : Nat) (S : Pads) (nm0 : ByteArray) (n : Nat) (kd : Nat → Int) (nm : Nat → ByteArray) (da pa : Nat → Key) (w : World) (e : Ending) (w' : World) : Prop :=
  ∃ b, e = .returned (.bool b) ∧ Touch R w w' ∧ (b = true → goodD nm0 n nm da pa ∧ ∃ R', VT R' w' bv seed (m + n) (doneS S kd nm da pa n) ∧ ∀ b, R' b → R b ∨ w.heap.size ≤ b)
/-- Where the deeds stand. -/
structure DI (w0 w : World) (R : Nat → Prop) (bv : Nat) (seed : Int) (m : Nat) (S : Pads) (nm0 : ByteArray) (kd : Nat → Int) (nm : Nat → ByteArray) (da pa : Nat → Key) (x : Nat) (W : World) : Prop where
  t0 : Touch Nil w0 W
  t : Touch R w W
  good : goodD nm0 x nm da pa
  ex : ∃ R', VT R' W bv seed (m + x) (doneS S kd nm da pa x) ∧ (∀ b, R' b → R b ∨ w.heap.size ≤ b)
theorem DI.next {w0 w : World} {R : Nat → Prop} {bv : Nat} {seed : Int} {m : Nat} {S : Pads} {nm0 : ByteArray} {kd : Nat → Int} {nm : Nat → ByteArray} {da pa : Nat → Key} {x : Nat} {W W1 W2 : World} {R' R2 : Nat → Prop} {S2 : Pads} (h : DI w0 w R bv seed m S nm0 kd nm da pa x W) (hlow : ∀ b, R b → w0.heap.size ≤ b) (hs0 : w0.heap.size ≤ w.heap.size) (ht : Touch Nil W W1) (hR' : ∀ b, R' b → R b ∨ w.heap.size ≤ b) (ht2 : Touch R' W1 W2) (hvt2 : VT R2 W2 bv seed (m + x + 1) S2) (hS2 : doneS S kd nm da pa (x + 1) = S2) (hR2 : ∀ b, R2 b → R' b ∨ W1.heap.size ≤ b) (hg : goodD nm0 (x + 1) nm da pa) : DI w0 w R bv seed m S nm0 kd nm da pa (x + 1) W2 where
  t0 := (h.t0.trans ht).trans' ht2 fun b hb hs => by
    rcases hR' b hs with c | c
    · have := hlow b c; omega
    · omega
  t := (h.t.trans ht.of_nil).trans' ht2 fun b hb hs => (hR' b hs).elim (fun c => c) fun c => by omega
  good := hg
  ex := ⟨R2, by rw [hS2]; exact hvt2, fun b hb => (hR2 b hb).elim (hR' b) fun c => .inr (by have := h.t.size; have := ht.size; omega)⟩
set_option maxRecDepth 100000 in
set_option maxHeartbeats 8000000 in
theorem done_any {w0 w : World} {R : Nat → Prop} {bv : Nat} {seed : Int} {m : Nat} {S : Pads} (h : VT R w bv seed m S) (hm : m ≤ 1000) (ht0 : Touch Nil w0 w) (hlow : ∀ b, R b → w0.heap.size ≤ b) (nm0 : ByteArray) {ao : Option Addr} {n : Nat} (cap : Nat) (hn : n ≤ 60) {v : Nat → Nat → Value} {kd : Nat → Int} {nm : Nat → ByteArray} {da pa : Nat → Key} (hds : Dds w0 ao n v kd nm da pa) :
    Calls Tryd.prog 18 #[.pointer (some ⟨bv, 0, none⟩), .string nm0, .slice ao n cap] w (DoneG R bv seed m S nm0 n kd nm da pa w) := by
  have HI := Lib.hid (show DI w0 w R bv seed m S nm0 kd nm da pa 0 w from ⟨ht0, Touch.refl _ _, fun i hi => absurd hi (Nat.not_lt_zero _), R, h, fun b hb => .inl hb⟩)
  have HLO := Lib.hid hlow
  have HDS := Lib.hid hds
  have HM := Lib.hid hm
  have HS0 := Lib.hid ht0.size
  clear h ht0 hlow hds hm
  go_enter Tryd.func18, Tryd.ntmps18
  go_wp2_with fail
  go_loopw [11] (fun i wr => ∃ x : Nat, x ≤ n ∧ i = .int .i64 (x : Int) ∧ DI w0 w R bv seed m S nm0 kd nm da pa x wr) (fun i _ => n - (intOf i).toNat)
  case atStart => exact ⟨0, Nat.zero_le _, rfl, HI.out⟩
  obtain ⟨x, hx, rfl, hdi⟩ := hrel
  have HD := Lib.hid hdi
  clear hdi HI
  by_cases hlt : x < n
  · have HSR := Lib.hid (HDS.out.keepN HD.out.t0)
    obtain ⟨b, off, rfl, hb, hcell⟩ := HSR.out.cells (by omega)
    have c0 := hcell x hlt 0 (by omega)
    have c1 := hcell x hlt 1 (by omega)
    have c2 := hcell x hlt 2 (by omega)
    have c3 := hcell x hlt 3 (by omega)
    rw [Nat.add_zero] at c0
    rw [HSR.out.kind x hlt] at c0
    rw [(HSR.out.names x hlt).1] at c1
    have HNS := Lib.hid (HSR.out.names x hlt).2
    obtain ⟨a1, k1, e1, g1, g1'⟩ := (HSR.out.data x hlt).1
    obtain ⟨a2, k2, e2, g2, g2'⟩ := (HSR.out.pads x hlt).1
    rw [e1] at c2
    rw [e2] at c3
    have HK := Lib.hid (show BV wr (.slice a1 (da x).length k1) (da x) from ⟨a1, k1, rfl, g1, g1'⟩)
    have HV := Lib.hid (show BV wr (.slice a2 (pa x).length k2) (pa x) from ⟨a2, k2, rfl, g2, g2'⟩)
    have HK0 := Lib.hid (show BV w0 (.slice a1 (da x).length k1) (da x) from by have := (HDS.out.data x hlt).1; rwa [e1] at this)
    have HV0 := Lib.hid (show BV w0 (.slice a2 (pa x).length k2) (pa x) from by have := (HDS.out.pads x hlt).1; rwa [e2] at this)
    have i1 : (x : Int) < (n : Int) := by omega
    have i2 : (0 : Int) ≤ (x : Int) := by omega
    clear hcell e1 e2 g1 g1' g2 g2' hb
    have HST := Lib.hid (show doneS S kd nm da pa (x + 1) = stepS (doneS S kd nm da pa x) (kd x) (nm x) (da x) (pa x) from rfl)
    have HGO := Lib.hid (show (da x).length ≤ 2000 → (pa x).length ≤ 2000 → (nm x).size ≤ 2000 → nm x ≠ nm0 → goodD nm0 (x + 1) nm da pa from fun h1 h2 h3 h4 i hi => by
      rcases Nat.lt_succ_iff_lt_or_eq.1 hi with h | rfl
      · exact HD.out.good i h
      · exact ⟨h1, h2, h3, h4⟩)
    have HE : ∃ dl, (da x).length = dl := ⟨_, rfl⟩
    obtain ⟨dl, edl⟩ := HE
    have HE : ∃ pl, (pa x).length = pl := ⟨_, rfl⟩
    obtain ⟨pl, epl⟩ := HE
    have HE : ∃ kx, kd x = kx := ⟨_, rfl⟩
    obtain ⟨kx, ekx⟩ := HE
    have HE : ∃ nx, nm x = nx := ⟨_, rfl⟩
    obtain ⟨nx, enx⟩ := HE
    rw [edl] at c2 HK HK0 HGO
    rw [epl] at c3 HV HV0 HGO
    rw [ekx] at c0 HST
    rw [enx] at c1 HNS HGO HST
    have HDL := Lib.hid (And.intro edl epl)
    clear edl epl ekx enx
    have HTA := Lib.hid ((Touch.refl Nil wr).alloc (.cells #[.int .i64 kx, .string nx, .slice a1 dl k1, .slice a2 pl k2] 29))
    by_cases q1 : (2000 : Int) < (dl : Int)
    · have d1 : decide ((2000 : Int) < (dl : Int)) = true := decide_eq_true q1
      clear q1
      go_wp2_with fail
      go_ret
      exact ⟨false, rfl, HD.out.t.trans HTA.out.of_nil, fun e => by cases e⟩
    have d1 : decide ((2000 : Int) < (dl : Int)) = false := decide_eq_false q1
    have HQ1 := Lib.hid q1
    by_cases q2 : (2000 : Int) < (pl : Int)
    · have d2 : decide ((2000 : Int) < (pl : Int)) = true := decide_eq_true q2
      clear q1 q2
      go_wp2_with fail
      go_ret
      exact ⟨false, rfl, HD.out.t.trans HTA.out.of_nil, fun e => by cases e⟩
    have d2 : decide ((2000 : Int) < (pl : Int)) = false := decide_eq_false q2
    have HQ2 := Lib.hid q2
    by_cases q3 : (2000 : Int) < (nx.size : Int)
    · have d3 : decide ((2000 : Int) < (nx.size : Int)) = true := decide_eq_true q3
      clear q1 q2 q3
      go_wp2_with fail
      go_ret
      exact ⟨false, rfl, HD.out.t.trans HTA.out.of_nil, fun e => by cases e⟩
    have d3 : decide ((2000 : Int) < (nx.size : Int)) = false := decide_eq_false q3
    have HQ3 := Lib.hid q3
    by_cases q4 : nx = nm0
    · subst q4
      clear q1 q2 q3
      go_wp2_with fail
      go_ret
      exact ⟨false, rfl, HD.out.t.trans HTA.out.of_nil, fun e => by cases e⟩
    have HQ4 := Lib.hid q4
    have d4 : (nx.toList == nm0.toList) = false := ba_ne q4
    clear q1 q2 q3
    have HG := Lib.hid (HGO.out (by have := HQ1.out; omega) (by have := HQ2.out; omega) (by have := HQ3.out; omega) HQ4.out)
    obtain ⟨R', hvt, hR'⟩ := HD.out.ex
    have HVT := Lib.hid (hvt.keepN HTA.out)
    have HNB := Lib.hid (show ¬ R' wr.heap.size from fun h => by have := hvt.low _ h; omega)
    have HR' := Lib.hid hR'
    have HFR := Lib.hid (show ∀ b, R' b → w0.heap.size ≤ b from fun b hb => (hR' b hb).elim (HLO.out b) fun c => Nat.le_trans HS0.out c)
    clear hvt hR'
    by_cases k0 : kx = 0
    · subst k0
      have HPUT := Lib.hid (vput_gen HVT.out (by have := HM.out; omega) nx (by have := HQ3.out; omega) (HK.out.keepN HTA.out) (fun h b hb hr => by have h1 := bv_low HK0.out h b hb; have h2 := HFR.out b hr; omega) (HV.out.keepN HTA.out) (fun h b hb hr => by have h1 := bv_low HV0.out h b hb; have h2 := HFR.out b hr; omega))
      go_wp2_with fail
      refine HPUT.out.mono ?_
      rintro e w3 ⟨s, xa, xn, xc, R2, rfl, hvt2, ht2, hR2, _, _⟩
      have HN := Lib.hid (HD.out.next HLO.out HS0.out HTA.out HR'.out ht2 hvt2 (by rw [HST.out]; unfold stepS; rw [if_pos rfl, HDL.out.1, HDL.out.2]) hR2 HG.out)
      have h8 := (ht2.same wr.heap.size (by simp) HNB.out).trans (heap_alloc_new wr (.cells #[.int .i64 0, .string nx, .slice a1 dl k1, .slice a2 pl k2] 29))
      have b0 : w3.cell? ⟨wr.heap.size, 0, none⟩ = some (.int .i64 0) := by simp [World.cell?, h8]
      clear hvt2 ht2 hR2 HPUT h8
      go_wp2_with fail
      go_roundw
      case rel => exact ⟨x + 1, by omega, by go_num, HN.out⟩
      case measure => simp [intOf]; omega
    have n0 : (kx == (0 : Int)) = false := by rw [beq_eq_false_iff_ne]; exact k0
    have HK0N := Lib.hid k0
    by_cases k2' : kx = 2
    · subst k2'
      have HFG := Lib.hid (fun W' (ht : Touch Nil (wr.alloc (.cells #[.int .i64 2, .string nx, .slice a1 dl k1, .slice a2 pl k2] 29)) W') => forget_any (HVT.out.keepN ht) nx rfl (by have := HQ3.out; simp; omega))
      clear k0
      go_wp2_with fail
      refine (HFG.out _ (Touch.refl _ _)).mono ?_
      rintro e w3 ⟨rfl, R2, hvt2, ht2, hR2⟩
      have HN := Lib.hid (HD.out.next HLO.out HS0.out HTA.out HR'.out ht2 (hvt2.mono (by omega)) (by rw [HST.out]; unfold stepS; rw [if_neg (by decide), if_pos rfl]) hR2 HG.out)
      clear hvt2 ht2 hR2 HFG
      go_wp2_with fail
      go_roundw
      case rel => exact ⟨x + 1, by omega, by go_num, HN.out⟩
      case measure => simp [intOf]; omega
    · have n2 : (kx == (2 : Int)) = false := by rw [beq_eq_false_iff_ne]; exact k2'
      have HN := Lib.hid (HD.out.next HLO.out HS0.out HTA.out HR'.out (Touch.refl R' _) (HVT.out.mono (by omega)) (by rw [HST.out]; unfold stepS; rw [if_neg k0, if_neg k2']) (fun b hb => .inl hb) HG.out)
      clear k0 k2'
      go_wp2_with fail
      go_roundw
      case rel => exact ⟨x + 1, by omega, by go_num, HN.out⟩
      case measure => simp [intOf]; omega
  · obtain rfl : x = n := by omega
    go_wp2_with fail
    go_ret
    exact ⟨true, rfl, HD.out.t, fun _ => ⟨HD.out.good, HD.out.ex⟩⟩
end Go.Proofs.YticddcnlafbkoaaDoor
