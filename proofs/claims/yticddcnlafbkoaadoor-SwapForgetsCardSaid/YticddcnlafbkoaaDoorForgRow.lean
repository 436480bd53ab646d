import Derived.Test.YticddcnlafbkoaaDoorLawForg
import Derived.Test.YticddcnlafbkoaaDoorOpen
import Derived.Test.YticddcnlafbkoaaDoorRows
import Derived.Lay
import Derived.LaidMore
import Derived.LaidLaws
import Derived.JoinedOf
import Derived.OpenShut
import Derived.SizedLaws
import Derived.ChangeMaps5
import Derived.RowKit
/-
  SwapForgets: the row. The two listed tables are not read by the walk: strings.Trim's cutset is ASCII.
-/
namespace Go.Proofs.YticddcnlafbkoaaDoor
open Go.ChangeShapes Go.WideShapes Go.ChangeAt Go.RowKit Go.Deep Go.ChangeMaps

theorem len_reach {H : Type} {enc : TypeId × Value → H} {P : Program} {w : World} {base : Nat} {spare : Nat → Bool} {held : Bool} {t e : TypeId} {fuel : Nat} {ao : Option Addr} {len cap : Nat} {d : DataW H} {p : List MemPlace} (ht : P.underlying t = some (.slice e)) (hb : 1 ≤ P.bytesOf e)
    (hz : ∀ a b, d = .slice a b → (a.length + b.length) * P.bytesOf e ≤ reachBytes) (h : DataW.trod enc P w base spare held fuel t [.slice ao len cap] = some (d, p)) : len ≤ reachBytes := by
  rcases DataW.trod_slice ht h with ⟨hcs, _⟩ | ⟨a, len', cap', elems, rest, n, _, hcs, hx, hb', hl, hm, hlen, _⟩
  · simp at hcs
    omega
  · simp at hcs
    obtain ⟨rfl, rfl, rfl⟩ := hcs
    have h1 := hz _ _ (Prod.mk.inj hx).1
    simp only [List.length_map] at h1
    have h2 : (elems.length + rest.length) * 1 ≤ (elems.length + rest.length) * P.bytesOf e := Nat.mul_le_mul_left _ hb
    omega
theorem open_dds {H : Type} {enc : TypeId × Value → H} {w : World} {base : Nat} {spare : Nat → Bool} {held : Bool} {fuel : Nat} {ao : Option Addr} {len cap : Nat} {x : DataW H × List MemPlace}
    (h : DataW.trod enc Tryd.prog w base spare held fuel 23 [.slice ao len cap] = some x) : ∃ v kd nm da pa, Dds w ao len v kd nm da pa := by
  obtain ⟨h1, h2, v, hcell, hf⟩ := open_structs Tryd.underlying23 Tryd.underlying29 (by kernel_rfl) (by kernel_rfl) (by decide) h
  obtain ⟨kd, hkd⟩ := choose_lt (α := Int) (n := len) (p := fun i n => v i 0 = .int .i64 n) fun i hi => by
    obtain ⟨n, y, e⟩ := hf i hi 0 _ rfl
    obtain ⟨z, e1, _⟩ := DataW.trod_int Tryd.underlying3 e
    exact ⟨z, by simpa using e1⟩
  obtain ⟨nm, hnm⟩ := choose_lt (α := ByteArray) (n := len) (p := fun i n => v i 1 = .string n ∧ n.size ≤ maxLen) fun i hi => by
    obtain ⟨n, y, e⟩ := hf i hi 1 _ rfl
    obtain ⟨z, e1, _, e3⟩ := DataW.trod_string Tryd.underlying9 e
    exact ⟨z, by simpa using e1, e3⟩
  obtain ⟨da, hda⟩ := choose_lt (α := Key) (n := len) (p := fun i n => BV w (v i 2) n ∧ n.length ≤ maxLen) fun i hi => by
    obtain ⟨n, y, e⟩ := hf i hi 2 _ rfl
    exact open_bv Tryd.underlying27 Tryd.underlying5 (by kernel_rfl) e
  obtain ⟨pa, hpa⟩ := choose_lt (α := Key) (n := len) (p := fun i n => BV w (v i 3) n ∧ n.length ≤ maxLen) fun i hi => by
    obtain ⟨n, y, e⟩ := hf i hi 3 _ rfl
    exact open_bv Tryd.underlying27 Tryd.underlying5 (by kernel_rfl) e
  unfold maxLen at *
  exact ⟨v, kd, nm, da, pa, hcell, hkd, fun i hi => ⟨(hnm i hi).1, by have := (hnm i hi).2; omega⟩, fun i hi => ⟨(hda i hi).1, by have := (hda i hi).2; omega⟩, fun i hi => ⟨(hpa i hi).1, by have := (hpa i hi).2; omega⟩⟩

set_option maxRecDepth 100000 in
theorem swapForgets_lifted (os : Os) (started : os.Started) (H : Type) (enc : TypeId × Value → H) :
    ReturnsInHanded {} Tryd.checked os 4 .any (fun w args => (Rows.swapForgetsSpec.pre enc Tryd.prog Tryd.f4 [] false w args ∧ laidMetH Tryd.prog Rows.swapForgetsRow.laid w) ∧ sizedMet enc Tryd.prog Tryd.f4 (OpenSpec.ofChange Rows.swapForgetsSpec) false w args)
      (Rows.swapForgetsSpec.post enc Tryd.prog Tryd.f4 false true false false) := by
  refine returnsInHanded_of_change_and (C := Tryd.checked) (X := fun w _ => laidMetH Tryd.prog Rows.swapForgetsRow.laid w) (fun _ _ _ hh h => h.of_heap hh) own started (by kernel_rfl) Tryd.func4
    (ChangeSpec.witness_shaped (enc := enc) (C := Tryd.checked) (os := os) (X := fun w _ => laidMetH Tryd.prog Rows.swapForgetsRow.laid w) false (World.laidAll Tryd.prog os Rows.swapForgetsRow.laid) #[.int .u64 0, .string ⟨#[]⟩, .slice none 0 0, .slice none 0 0, .slice none 0 0, .slice none 0 0] 8 (World.laidAll_os _ _ _)
      (World.shaped_of_ZipB (by kernel_rfl) (by kernel_rfl)) (by kernel_rfl) (by kernel_rfl) (by kernel_rfl)
      (by rw [MakeChecks.laidMetH_plain _ _ _ (by kernel_rfl)]; exact laidMet_laidAll _ (by kernel_rfl) (by kernel_rfl))) ?_
  intro W base args ds gs before hval0 hW _ hsz0 _ _
  have hsz : (DataW.weightsEach Tryd.prog (Tryd.f4.params.toList ++ Rows.swapForgetsSpec.plain.varTypes Tryd.prog) (ds ++ gs)).all (· ≤ reachBytes) = true := hsz0
  clear hsz0
  have hval : ∀ (j : Nat) t v, Tryd.f4.params[j]? = some t → args[j]? = some v → Value.okWide Tryd.prog W .any base t v := hval0
  have hW' := hW
  obtain ⟨p, q, hA0, hV, rfl, hfz, hnd⟩ := hW
  have hA : DataW.TrodAll enc Tryd.prog W 0 (fun _ => true) true Tryd.f4.params.toList args.toList ds p := hA0
  rw [Tryd.params4] at hA hval hsz
  obtain ⟨v0, vs0, d0, ds0, p0, q0, hargs, rfl, rfl, h0, r0⟩ := trodAll_cons hA
  obtain ⟨v1, vs1, d1, ds1, p1, q1, rfl, rfl, rfl, h1, r1⟩ := trodAll_cons r0
  obtain ⟨v2, vs2, d2, ds2, p2, q2, rfl, rfl, rfl, h2, r2⟩ := trodAll_cons r1
  obtain ⟨v3, vs3, d3, ds3, p3, q3, rfl, rfl, rfl, h3, r3⟩ := trodAll_cons r2
  obtain ⟨v4, vs4, d4, ds4, p4, q4, rfl, rfl, rfl, h4, r4⟩ := trodAll_cons r3
  obtain ⟨v5, vs5, d5, ds5, p5, q5, rfl, rfl, rfl, h5, r5⟩ := trodAll_cons r4
  obtain ⟨rfl, rfl, rfl⟩ := trodAll_nil r5
  obtain rfl : args = #[v0, v1, v2, v3, v4, v5] := by cases args; simp_all
  obtain ⟨rfl, rfl⟩ := trodVars_none hV
  obtain ⟨seed, rfl, rfl, rfl, w0⟩ := open_int Tryd.underlying22 (hval 0 22 v0 rfl rfl) h0
  obtain ⟨nm, rfl, rfl, rfl, hnm⟩ := open_string Tryd.underlying9 (hval 1 9 v1 rfl rfl) h1
  have bD : 1 ≤ Tryd.prog.bytesOf 29 := of_decide_eq_true (by kernel_rfl)
  have z4 : ∀ a b, d4 = .slice a b → (a.length + b.length) * Tryd.prog.bytesOf 29 ≤ reachBytes := fun a b e => sized_slice hsz (j := 4) (t := 23) (e := 29) (elems := a) (spare := b) rfl (by rw [e]; rfl) Tryd.underlying23
  have z5 : ∀ a b, d5 = .slice a b → (a.length + b.length) * Tryd.prog.bytesOf 29 ≤ reachBytes := fun a b e => sized_slice hsz (j := 5) (t := 23) (e := 29) (elems := a) (spare := b) rfl (by rw [e]; rfl) Tryd.underlying23
  obtain ⟨a2, l2, c2, rfl⟩ := okWide_slice Tryd.underlying27 (hval 2 27 v2 rfl rfl)
  have k2 := h2
  have lt2 : ∀ x ∈ p2, x.block < W.heap.size := by obtain ⟨m, hm⟩ := k2; exact DataW.trod_lt m _ _ _ hm
  obtain ⟨f2, hf2⟩ := h2
  obtain ⟨b2, hb2, _⟩ := open_bv Tryd.underlying27 Tryd.underlying5 (by kernel_rfl) hf2
  obtain ⟨a3, l3, c3, rfl⟩ := okWide_slice Tryd.underlying27 (hval 3 27 v3 rfl rfl)
  have k3 := h3
  have lt3 : ∀ x ∈ p3, x.block < W.heap.size := by obtain ⟨m, hm⟩ := k3; exact DataW.trod_lt m _ _ _ hm
  obtain ⟨f3, hf3⟩ := h3
  obtain ⟨b3, hb3, _⟩ := open_bv Tryd.underlying27 Tryd.underlying5 (by kernel_rfl) hf3
  obtain ⟨a4, l4, c4, rfl⟩ := okWide_slice Tryd.underlying23 (hval 4 23 v4 rfl rfl)
  have k4 := h4
  have lt4 : ∀ x ∈ p4, x.block < W.heap.size := by obtain ⟨m, hm⟩ := k4; exact DataW.trod_lt m _ _ _ hm
  obtain ⟨f4, hf4⟩ := h4
  have hn4 := len_reach Tryd.underlying23 bD z4 hf4
  obtain ⟨vv4, kd4, nm4, da4, pa4, hd4⟩ := open_dds hf4
  obtain ⟨a5, l5, c5, rfl⟩ := okWide_slice Tryd.underlying23 (hval 5 23 v5 rfl rfl)
  have k5 := h5
  have lt5 : ∀ x ∈ p5, x.block < W.heap.size := by obtain ⟨m, hm⟩ := k5; exact DataW.trod_lt m _ _ _ hm
  obtain ⟨f5, hf5⟩ := h5
  have hn5 := len_reach Tryd.underlying23 bD z5 hf5
  obtain ⟨vv5, kd5, nm5, da5, pa5, hd5⟩ := open_dds hf5
  clear hA0 hval0 hsz
  refine (lawForgets_any seed nm hb2 hb3 hd4 hd5 hnm hn4 hn5).mono fun e W' ⟨he, ht⟩ => ?_
  subst he
  have bel := ht.below_nil
  exact ⟨_, rfl, _, _, _, [], _, [], hW', trodAll_mk1 (shut_bool Tryd.underlying4 _), (trodAll_cons_mk (shut_int Tryd.underlying22 w0) (trodAll_cons_mk (shut_string Tryd.underlying9 hnm) (trodAll_cons_mk (Below.trod laidOut (by kernel_rfl) (of_decide_eq_true (by kernel_rfl)) k2 bel lt2) (trodAll_cons_mk (Below.trod laidOut (by kernel_rfl) (of_decide_eq_true (by kernel_rfl)) k3 bel lt3) (trodAll_cons_mk (Below.trod laidOut (by kernel_rfl) (of_decide_eq_true (by kernel_rfl)) k4 bel lt4) (trodAll_cons_mk (Below.trod laidOut (by kernel_rfl) (of_decide_eq_true (by kernel_rfl)) k5 bel lt5) trodAll_mk0)))))), rfl, bel.frame _, fun h => by cases h⟩

theorem swapForgets_holds : Rows.SwapForgetsSaid :=
  OpenClaim.holds_of_wide 4 Tryd.f4 rfl rfl rfl rfl rfl rfl rfl ⟨rfl, rfl, rfl, rfl, rfl⟩ rfl rfl rfl rfl rfl (by kernel_rfl) Tryd.func4 (by kernel_rfl)
    (of_decide_eq_true (by kernel_rfl)) (by unfold Func.isWrapper; first | (rw [if_pos (by decide +kernel)]; kernel_rfl) | (rw [if_neg (by decide +kernel)]; exact ⟨rfl, rfl⟩))
    (fun os started H enc _ => swapForgets_lifted os started H enc)
end Go.Proofs.YticddcnlafbkoaaDoor
