import Derived.Deep.QuietTactic
import Derived.BigQuiet
import Derived.Test.YticddcnlafbkoaaDoorVxor
/- What explains sealed bytes. -/
namespace Go.Proofs.YticddcnlafbkoaaDoor
open Go.ChangeShapes Go.WideShapes Go.ChangeAt Go.RowKit Go.Deep

/-- What Explain leaves. -/
def ExplP (a b : Key) (w : World) (e : Ending) (w' : World) : Prop :=
  Touch Nil w w' ∧ (a.length = b.length → ∃ v, e = .returned (.tuple #[v, .int .i64 0]) ∧ OwnB w.heap.size w' v (xorL a b)) ∧ (a.length ≠ b.length → e = .returned (.tuple #[.slice none 0 0, .int .i64 1]))
set_option maxRecDepth 100000 in
set_option maxHeartbeats 2000000 in
theorem explain_any {w : World} {nm : ByteArray} {x y : Value} {a b : Key} (hx : BV w x a) (hy : BV w y b) (hm : a.length ≤ 140737488351232) : Calls Tryd.prog 19 #[.agg #[.string nm, x], y] w (ExplP a b w) := by
  have HX := Lib.hid hx
  have HY := Lib.hid hy
  obtain ⟨xo, xc, rfl, _, _⟩ := hx
  obtain ⟨yo, yc, rfl, _, _⟩ := hy
  have HM := Lib.hid hm
  clear hm
  obtain ⟨W1, eW1⟩ : ∃ W1, w.alloc (.cells #[.string nm, .slice xo a.length xc] 32) = W1 := ⟨_, rfl⟩
  have HT1 := Lib.hid (show Touch Nil w W1 from by rw [← eW1]; exact (Touch.refl Nil w).alloc _)
  obtain ⟨g, eg⟩ : ∃ g, w.heap.size = g := ⟨_, rfl⟩
  have HG := Lib.hid eg
  have hb : W1.heap[g]? = some (.cells #[.string nm, .slice xo a.length xc] 32 (0, 0)) := by rw [← eW1, ← eg]; exact heap_alloc_new _ _
  have k1 : W1.cell? ⟨g, 1, none⟩ = some (.slice xo a.length xc) := by simp [World.cell?, hb]
  by_cases hl : a.length = b.length
  · have HXO := Lib.hid (xor_any (HX.out.keepN HT1.out) (HY.out.keepN HT1.out) hl HM.out)
    have q : ((b.length : Int) != (a.length : Int)) = false := by simp [hl]
    have q' : ((a.length : Int) != (a.length : Int)) = false := by simp
    have HL := Lib.hid hl
    rw [← hl] at HXO q
    rw [← hl]
    obtain ⟨al, eal⟩ : ∃ al, a.length = al := ⟨_, rfl⟩
    rw [eal] at HXO q q' k1 eW1 ⊢
    clear hb hl eal
    go_enter Tryd.func19, Tryd.ntmps19
    go_wp2_with fail
    refine HXO.out.mono ?_
    rintro e w2 ⟨v, rfl, hv, ht⟩
    obtain ⟨va, vn, vc, rfl⟩ := hv.form
    have HV := Lib.hid hv
    have HT2 := Lib.hid ht
    clear hv ht
    go_wp2_with fail
    go_ret2
    exact ⟨HT1.out.trans HT2.out, fun _ => ⟨_, rfl, HV.out.base HT1.out.size⟩, fun h => absurd HL.out h⟩
  · have q : ((b.length : Int) != (a.length : Int)) = true := by simp; omega
    have HL := Lib.hid hl
    clear hb hl
    go_enter Tryd.func19, Tryd.ntmps19
    go_wp2_with fail
    go_ret2
    exact ⟨HT1.out, fun h => absurd h HL.out, fun _ => rfl⟩
set_option maxRecDepth 100000 in
set_option maxHeartbeats 4000000 in
/-- The law's own: the pad explains the bytes. -/
theorem explains_any {w : World} {x y z : Value} {a b c : Key} (hx : BV w x a) (hy : BV w y b) (hz : BV w z c) (hl : a.length = b.length) (hl2 : a.length = c.length) (he : xorL a b = c) (hm : a.length ≤ 140737488351232) : Calls Tryd.prog 20 #[x, y, z] w fun e w' => e = .returned (.bool true) ∧ ∃ k, w' = w.drewN k := by
  have HX := Lib.hid hx
  have HY := Lib.hid hy
  have HZ := Lib.hid hz
  obtain ⟨xo, xc, rfl, _, _⟩ := hx
  obtain ⟨yo, yc, rfl, _, _⟩ := hy
  obtain ⟨zo, zc, rfl, _, _⟩ := hz
  obtain ⟨n, en⟩ : ∃ n, a.length = n := ⟨_, rfl⟩
  have HLN := Lib.hid (show a.length = n ∧ b.length = n ∧ c.length = n from ⟨en, hl.symm.trans en, hl2.symm.trans en⟩)
  have HM := Lib.hid (show n ≤ 140737488351232 from by omega)
  have HE := Lib.hid he
  rw [show b.length = n from HLN.out.2.1, show c.length = n from HLN.out.2.2, en]
  clear hl hl2 hm en he
  have q : ((n : Int) != (n : Int)) = false := by simp
  go_enter Tryd.func20, Tryd.ntmps20
  go_wp2_with fail
  go_loopw [15] (fun s wr => ∃ (i : Nat), i ≤ n ∧ s = .int .i64 (i : Int) ∧ Hid (∃ k, wr = w.drewN k)) (fun s _ => n - (intOf s).toNat)
  case atStart => exact ⟨0, Nat.zero_le _, rfl, Lib.hid ⟨0, rfl⟩⟩
  obtain ⟨i, hi, rfl, HK⟩ := hrel
  by_cases hlt : i < n
  · obtain ⟨k, hk⟩ := HK.out
    have tw : Touch Nil w wr := by rw [hk]; exact (Touch.refl Nil w).drewN k
    have ha : i < a.length := by rw [HLN.out.1]; exact hlt
    have hb : i < b.length := by rw [HLN.out.2.1]; exact hlt
    have hc : i < c.length := by rw [HLN.out.2.2]; exact hlt
    obtain ⟨_, _, ex, _, sx⟩ := HX.out.keepN tw
    cases ex
    obtain ⟨_, _, ey, _, sy⟩ := HY.out.keepN tw
    cases ey
    obtain ⟨_, _, ez, _, sz⟩ := HZ.out.keepN tw
    cases ez
    obtain ⟨bx, ox, rfl, cx⟩ := sx i (by simpa using ha)
    obtain ⟨by', oy, rfl, cy⟩ := sy i (by simpa using hb)
    obtain ⟨bz, oz, rfl, cz⟩ := sz i (by simpa using hc)
    rw [ub_getD a i ha] at cx
    rw [ub_getD b i hb] at cy
    rw [ub_getD c i hc, ← HE.out, xorL_get ha hb, ← bits_xor8] at cz
    have j1 : (i : Int) < (n : Int) := by omega
    have j2 : (0 : Int) ≤ (i : Int) := by omega
    have hnm : n ≤ 140737488351232 := HM.out
    have hxl := (a.getD i 0).toNat_lt
    have hyl := (b.getD i 0).toNat_lt
    have HKK := Lib.hid hk
    generalize (a.getD i 0).toNat = x1 at *
    generalize (b.getD i 0).toNat = y1 at *
    clear sx sy sz ha hb hc tw hk
    go_wp2_with (go_quiet (fail))
    go_roundw
    case rel => exact ⟨i + 1, by omega, by go_num, Lib.hid (by rw [HKK.out]; exact ⟨_, World.drewN_drewN ..⟩)⟩
    case measure => simp [intOf]; omega
  · obtain rfl : i = n := by omega
    have i1 : ¬ ((i : Int) < (i : Int)) := by omega
    go_wp2_with fail
    go_ret
    exact ⟨rfl, HK.out⟩
end Go.Proofs.YticddcnlafbkoaaDoor
