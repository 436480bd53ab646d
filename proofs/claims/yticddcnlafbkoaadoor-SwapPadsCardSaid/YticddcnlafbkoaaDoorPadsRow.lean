import Derived.Test.YticddcnlafbkoaaDoorLawPads
import Derived.Test.YticddcnlafbkoaaDoorRows
import Derived.Lay
import Derived.LaidMore
import Derived.LaidLaws
import Derived.JoinedOf
import Derived.OpenShut
import Derived.SizedLaws
import Derived.ChangeMaps5
import Derived.RowKit
/-
  SwapPads: the row. The two listed tables are not read by the walk: strings.Trim's cutset is ASCII.
-/
namespace Go.Proofs.YticddcnlafbkoaaDoor
open Go.ChangeShapes Go.WideShapes Go.ChangeAt Go.RowKit Go.Deep Go.ChangeMaps

theorem wf_ub {l : List Int} (h : ∀ n ∈ l, (Lit.int .u8 n).wf = true) : ∃ k : List UInt8, l = ub k := by
  refine ⟨l.map fun n => UInt8.ofNat n.toNat, ?_⟩
  unfold ub
  rw [List.map_map]
  conv => lhs; rw [← List.map_id l]
  refine List.map_congr_left fun n hn => ?_
  have := h n hn
  simp [Lit.wf, IntKind.min, IntKind.max, IntKind.signed, IntKind.bits] at this
  show n = (((UInt8.ofNat n.toNat).toNat : Nat) : Int)
  rw [UInt8.toNat_ofNat']
  omega
section
variable {H : Type} {enc : TypeId × Value → H} {P : Program} {w : World} {base : Nat} {spare : Nat → Bool} {held : Bool}
/-- Bytes that came in, no more than the reach. -/
theorem open_bz {t e : TypeId} {fuel : Nat} {v : Value} {d : DataW H} {p : List MemPlace} (ht : P.underlying t = some (.slice e)) (he : P.underlying e = some (.int .u8)) (hc : P.cellsOf e = 1)
    (hz : ∀ a b, d = .slice a b → a.length + b.length ≤ reachBytes) (h : DataW.trod enc P w base spare held fuel t [v] = some (d, p)) : ∃ k : List UInt8, BV w v k ∧ k.length ≤ reachBytes := by
  have hv : ∃ ao len cap, v = .slice ao len cap ∧ (ao = none → len = 0 ∧ cap = 0) ∧ len ≤ reachBytes := by
    rcases open_ints ht he hc h with ⟨hcs, _⟩ | ⟨a, len, cap, zs, hcs, _, hl, hm, hzl, hx, _⟩
    · exact ⟨none, 0, 0, by simpa using hcs, fun _ => ⟨rfl, rfl⟩, Nat.zero_le _⟩
    · refine ⟨some a, len, cap, by simpa using hcs, (fun h => by cases h), ?_⟩
      have := hz _ _ (Prod.mk.inj hx).1
      simp only [lits, List.length_map, List.length_take, List.length_drop] at this
      have : len ≤ zs.length := by rw [hzl]; split <;> omega
      omega
  obtain ⟨ao, len, cap, rfl, hn, hr⟩ := hv
  obtain ⟨l, rfl, hm, hs, hw⟩ := open_slI ht he hc h
  obtain ⟨k, rfl⟩ := wf_ub hw
  have hk : (ub k).length = k.length := by simp [ub]
  rw [hk] at hn hr ⊢
  refine ⟨k, ⟨ao, cap, rfl, fun e => ?_, hs⟩, hr⟩
  obtain ⟨h1, h2⟩ := hn e
  exact ⟨List.length_eq_zero_iff.1 h1, h2⟩
end

set_option maxRecDepth 100000 in
theorem swapPads_lifted (os : Os) (started : os.Started) (H : Type) (enc : TypeId × Value → H) :
    ReturnsInHanded {} Tryd.checked os 5 .any (fun w args => (Rows.swapPadsSpec.pre enc Tryd.prog Tryd.f5 [] false w args ∧ laidMetH Tryd.prog Rows.swapPadsRow.laid w) ∧ sizedMet enc Tryd.prog Tryd.f5 (OpenSpec.ofChange Rows.swapPadsSpec) false w args)
      (Rows.swapPadsSpec.post enc Tryd.prog Tryd.f5 false true false false) := by
  refine returnsInHanded_of_change_and (C := Tryd.checked) (X := fun w _ => laidMetH Tryd.prog Rows.swapPadsRow.laid w) (fun _ _ _ hh h => h.of_heap hh) own started (by kernel_rfl) Tryd.func5
    (ChangeSpec.witness_shaped (enc := enc) (C := Tryd.checked) (os := os) (X := fun w _ => laidMetH Tryd.prog Rows.swapPadsRow.laid w) false (World.laidAll Tryd.prog os Rows.swapPadsRow.laid) #[.int .u64 0, .string ⟨#[]⟩, .slice none 0 0, .slice none 0 0, .slice none 0 0] 8 (World.laidAll_os _ _ _)
      (World.shaped_of_ZipB (by kernel_rfl) (by kernel_rfl)) (by kernel_rfl) (by kernel_rfl) (by kernel_rfl)
      (by rw [MakeChecks.laidMetH_plain _ _ _ (by kernel_rfl)]; exact laidMet_laidAll _ (by kernel_rfl) (by kernel_rfl))) ?_
  intro W base args ds gs before hval0 hW _ hsz0 _ _
  have hsz : (DataW.weightsEach Tryd.prog (Tryd.f5.params.toList ++ Rows.swapPadsSpec.plain.varTypes Tryd.prog) (ds ++ gs)).all (· ≤ reachBytes) = true := hsz0
  clear hsz0
  have hval : ∀ (j : Nat) t v, Tryd.f5.params[j]? = some t → args[j]? = some v → Value.okWide Tryd.prog W .any base t v := hval0
  have hW' := hW
  obtain ⟨p, q, hA0, hV, rfl, hfz, hnd⟩ := hW
  have hA : DataW.TrodAll enc Tryd.prog W 0 (fun _ => true) true Tryd.f5.params.toList args.toList ds p := hA0
  rw [Tryd.params5] at hA hval hsz
  obtain ⟨v0, vs0, d0, ds0, p0, q0, hargs, rfl, rfl, h0, r0⟩ := trodAll_cons hA
  obtain ⟨v1, vs1, d1, ds1, p1, q1, rfl, rfl, rfl, h1, r1⟩ := trodAll_cons r0
  obtain ⟨v2, vs2, d2, ds2, p2, q2, rfl, rfl, rfl, h2, r2⟩ := trodAll_cons r1
  obtain ⟨v3, vs3, d3, ds3, p3, q3, rfl, rfl, rfl, h3, r3⟩ := trodAll_cons r2
  obtain ⟨v4, vs4, d4, ds4, p4, q4, rfl, rfl, rfl, h4, r4⟩ := trodAll_cons r3
  obtain ⟨rfl, rfl, rfl⟩ := trodAll_nil r4
  obtain rfl : args = #[v0, v1, v2, v3, v4] := by cases args; simp_all
  obtain ⟨rfl, rfl⟩ := trodVars_none hV
  obtain ⟨seed, rfl, rfl, rfl, w0⟩ := open_int Tryd.underlying22 (hval 0 22 v0 rfl rfl) h0
  obtain ⟨nm, rfl, rfl, rfl, hnm⟩ := open_string Tryd.underlying9 (hval 1 9 v1 rfl rfl) h1
  have b5 : Tryd.prog.bytesOf 5 = 1 := by kernel_rfl
  have z2 : ∀ a b, d2 = .slice a b → a.length + b.length ≤ reachBytes := fun a b e => by
    have := sized_slice hsz (j := 2) (t := 27) (e := 5) (elems := a) (spare := b) rfl (by rw [e]; rfl) Tryd.underlying27
    rwa [b5, Nat.mul_one] at this
  have z3 : ∀ a b, d3 = .slice a b → a.length + b.length ≤ reachBytes := fun a b e => by
    have := sized_slice hsz (j := 3) (t := 27) (e := 5) (elems := a) (spare := b) rfl (by rw [e]; rfl) Tryd.underlying27
    rwa [b5, Nat.mul_one] at this
  have z4 : ∀ a b, d4 = .slice a b → a.length + b.length ≤ reachBytes := fun a b e => by
    have := sized_slice hsz (j := 4) (t := 27) (e := 5) (elems := a) (spare := b) rfl (by rw [e]; rfl) Tryd.underlying27
    rwa [b5, Nat.mul_one] at this
  obtain ⟨a2, l2, c2, rfl⟩ := okWide_slice Tryd.underlying27 (hval 2 27 v2 rfl rfl)
  obtain ⟨a3, l3, c3, rfl⟩ := okWide_slice Tryd.underlying27 (hval 3 27 v3 rfl rfl)
  obtain ⟨a4, l4, c4, rfl⟩ := okWide_slice Tryd.underlying27 (hval 4 27 v4 rfl rfl)
  have k2 := h2
  have k3 := h3
  have k4 := h4
  have lt2 : ∀ x ∈ p2, x.block < W.heap.size := by obtain ⟨m, hm⟩ := k2; exact DataW.trod_lt m _ _ _ hm
  have lt3 : ∀ x ∈ p3, x.block < W.heap.size := by obtain ⟨m, hm⟩ := k3; exact DataW.trod_lt m _ _ _ hm
  have lt4 : ∀ x ∈ p4, x.block < W.heap.size := by obtain ⟨m, hm⟩ := k4; exact DataW.trod_lt m _ _ _ hm
  obtain ⟨f2, hf2⟩ := h2
  obtain ⟨f3, hf3⟩ := h3
  obtain ⟨f4, hf4⟩ := h4
  obtain ⟨ka, hka, hla⟩ := open_bz Tryd.underlying27 Tryd.underlying5 (by kernel_rfl) z2 hf2
  obtain ⟨kb, hkb, hlb⟩ := open_bz Tryd.underlying27 Tryd.underlying5 (by kernel_rfl) z3 hf3
  obtain ⟨kc, hkc, hlc⟩ := open_bz Tryd.underlying27 Tryd.underlying5 (by kernel_rfl) z4 hf4
  clear hA0 hval0 hsz
  refine (lawPads_any seed nm hka hkb hkc hnm hla).mono fun e W' ⟨he, ht⟩ => ?_
  subst he
  have bel := ht.below_nil
  exact ⟨_, rfl, _, _, _, [], _, [], hW', trodAll_mk1 (shut_bool Tryd.underlying4 _), (trodAll_cons_mk (shut_int Tryd.underlying22 w0) (trodAll_cons_mk (shut_string Tryd.underlying9 hnm) (trodAll_cons_mk (Below.trod laidOut (by kernel_rfl) (of_decide_eq_true (by kernel_rfl)) k2 bel lt2) (trodAll_cons_mk (Below.trod laidOut (by kernel_rfl) (of_decide_eq_true (by kernel_rfl)) k3 bel lt3) (trodAll_cons_mk (Below.trod laidOut (by kernel_rfl) (of_decide_eq_true (by kernel_rfl)) k4 bel lt4) trodAll_mk0))))), rfl, bel.frame _, fun h => by cases h⟩

theorem swapPads_holds : Rows.SwapPadsSaid :=
  OpenClaim.holds_of_wide 5 Tryd.f5 rfl rfl rfl rfl rfl rfl rfl ⟨rfl, rfl, rfl, rfl, rfl⟩ rfl rfl rfl rfl rfl (by kernel_rfl) Tryd.func5 (by kernel_rfl)
    (of_decide_eq_true (by kernel_rfl)) (by unfold Func.isWrapper; first | (rw [if_pos (by decide +kernel)]; kernel_rfl) | (rw [if_neg (by decide +kernel)]; exact ⟨rfl, rfl⟩))
    (fun os started H enc _ => swapPads_lifted os started H enc)
end Go.Proofs.YticddcnlafbkoaaDoor
