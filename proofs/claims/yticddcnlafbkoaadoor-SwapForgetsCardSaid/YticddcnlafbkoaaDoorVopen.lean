import Derived.Test.YticddcnlafbkoaaDoorVgen
/- What a vault's functions do to every input: Put, Forget, Image, Open. -/
namespace Go.Proofs.YticddcnlafbkoaaDoor
open Go.ChangeShapes Go.WideShapes Go.ChangeAt Go.RowKit Go.Deep
attribute [local go_sem] Oper.semAt_some

theorem field_pads (x : Value) (W : World) : (Instr.field 58 (.agg #[x]) 0).run Tryd.prog W = .ok x W := by kernel_rfl
/-- What is found. -/
def FO (o : Option Key) (w : World) (x c : Value) : Prop := match o with
  | none => x = .slice none 0 0 ∧ c = .int .i64 3
  | some p => (∃ xa xn xc, x = .slice xa xn xc) ∧ BV w x p ∧ c = .int .i64 0
theorem FO.keepN {o : Option Key} {w w' : World} {x c : Value} (h : FO o w x c) (ht : Touch Nil w w') : FO o w' x c := by
  cases o with
  | none => exact h
  | some p => exact ⟨h.1, h.2.1.keepN ht, h.2.2⟩
def FindP (o : Option Key) (w : World) (e : Ending) (w' : World) : Prop := ∃ x c, e = .returned (.tuple #[x, c]) ∧ FO o w' x c ∧ Touch Nil w w'
structure O1 (o : Option Key) (B bv : Nat) (tp : Option Addr) (nm : ByteArray) (w1 : World) (J : Array Bool) (W : World) (x c v6 v7 v8 v9 v10 v11 v12 v13 v14 v15 : Value) : Prop where
  f0 : J.getD 0 false = true → v9 = .pointer (some ⟨bv, 0, none⟩)
  f1 : J.getD 1 false = true → v10 = .agg #[.pointer tp]
  f2 : J.getD 2 false = true → v11 = .pointer (some ⟨B, 0, none⟩)
  f3 : J.getD 3 false = true → v12 = .string nm
  f4 : J.getD 4 false = true → v13 = .tuple #[x, c] ∧ FO o W x c
  f5 : J.getD 5 false = true → v8 = .tuple #[x, c] ∧ J.getD 4 false = true
  f6 : J.getD 6 false = true → v14 = x ∧ J.getD 4 false = true
  f7 : J.getD 7 false = true → v15 = c ∧ J.getD 4 false = true
  f8 : J.getD 8 false = true → v6 = x ∧ J.getD 4 false = true
  f9 : J.getD 9 false = true → v7 = c ∧ J.getD 4 false = true
  t : Touch Nil w1 W
def DropG (R : Nat → Prop) (bv : Nat) (seed : Int) (m : Nat) (S : Pads) (key : Key) (w : World) (e : Ending) (w' : World) : Prop :=
  e = .returned (.int .i64 (dropErr (S key).isSome)) ∧ ∃ R', VT R' w' bv seed m (delS S key) ∧ Touch R w w' ∧ ∀ b, R' b → R b ∨ w.heap.size ≤ b
def putE (S : Pads) (nm : ByteArray) (dl pl : Nat) : Int := if okPut nm dl pl = true then (if (S nm.data.toList).isSome = true then 4 else 0) else 1
def putN (S : Pads) (nm : ByteArray) (dl pl : Nat) (pad : Key) : Pads := if okPut nm dl pl = true ∧ S nm.data.toList = none then putS S nm.data.toList ([1] ++ pad) else S
def VPutG (R : Nat → Prop) (bv : Nat) (seed : Int) (m : Nat) (S : Pads) (nm : ByteArray) (dl pl : Nat) (data pad : Key) (w : World) (e : Ending) (w' : World) : Prop :=
  ∃ s xa xn xc R', e = .returned (.tuple #[.agg #[.string s, .slice xa xn xc], .int .i64 (putE S nm dl pl)]) ∧ VT R' w' bv seed (m + 1) (putN S nm dl pl pad) ∧ Touch R w w' ∧ (∀ b, R' b → R b ∨ w.heap.size ≤ b) ∧
    (putE S nm dl pl = 0 → s = nm ∧ OwnB w.heap.size w' (.slice xa xn xc) (xorL data pad) ∧ ∀ k, OwnOf (.slice xa xn xc) k → ¬ R' k) ∧ (putE S nm dl pl ≠ 0 → s = ⟨#[]⟩ ∧ xa = none ∧ xn = 0 ∧ xc = 0)
def ImgG (R : Nat → Prop) (bv : Nat) (seed : Int) (m : Nat) (S : Pads) (w : World) (e : Ending) (w' : World) : Prop := ∃ v n C T, e = .returned v ∧ n ≤ m ∧ (∀ x, InT C T x ↔ S x.1 = some x.2) ∧ (∃ t, Tab R w t seed n C T) ∧ OwnB w.heap.size w' v (imageB n C T) ∧ Touch Nil w w'
def OpenP (o : Option Key) (l : Key) (w : World) (e : Ending) (w' : World) : Prop := Touch Nil w w' ∧ (o = none → e = .returned (.tuple #[.slice none 0 0, .int .i64 3])) ∧ ∀ p, o = some p → ∃ v, e = .returned (.tuple #[v, .int .i64 0]) ∧ OwnB w.heap.size w' v (xorL l p)
section
variable {R : Nat → Prop} {w : World} {tp : Option Addr} {seed : Int} {n C bv m : Nat} {T : Cells} {S : Pads}
theorem find_all (h : Tab R w (.pointer tp) seed n C T) (nm : ByteArray) {key : Key} (hke : nm.data.toList = key) (hkl : key.length ≤ 1048576) (o : Option Key) (hno : valAt (T (seekAt (bfS seed) (homS seed C) C T key)) key = o.map ([1] ++ ·)) :
    Calls Tryd.prog 30 #[.agg #[.pointer tp], .string nm] w (FindP o w) := by
  cases o with
  | none => exact (find_none h nm hke hkl hno).mono fun e w' ⟨he, ht⟩ => ⟨_, _, he, ⟨rfl, rfl⟩, ht⟩
  | some p => exact (find_some h nm hke hkl hno).mono fun e w' ⟨xa, xn, xc, he, hb, ht⟩ => ⟨_, _, he, ⟨⟨xa, xn, xc, rfl⟩, hb, rfl⟩, ht⟩
theorem VT.touch {R' : Nat → Prop} {w' : World} {n' C' m' : Nat} {T' : Cells} {S' : Pads} (h : VT R w bv seed m S) {tp0 : Option Addr} (hv : w.heap[bv]? = some (.cells #[.pointer tp0] 60 (0, 0))) (hT : Tab R' w' (.pointer tp0) seed n' C' T') (hn : n' ≤ m') (hS : ∀ x, InT C' T' x ↔ S' x.1 = some x.2) (ht : Touch R w w') (hR : ∀ b, R' b → R b ∨ w.heap.size ≤ b) (hm : ∀ k v, S' k = some v → ∃ p, v = [1] ++ p) : VT R' w' bv seed m' S' :=
  ⟨⟨tp0, n', C', T', hT, hn, hS, (ht.same _ (lt_heap hv) h.apart).trans hv⟩, fun hb => (hR _ hb).elim h.apart fun e => by have := lt_heap hv; omega, hm⟩
theorem mark_del (h : ∀ k v, S k = some v → ∃ p, v = [1] ++ p) (key : Key) : ∀ k v, delS S key k = some v → ∃ p, v = [1] ++ p := fun k v e => by
  unfold delS at e
  split at e
  · cases e
  · exact h k v e
theorem mark_put (h : ∀ k v, S k = some v → ∃ p, v = [1] ++ p) (key pad : Key) : ∀ k v, putS S key ([1] ++ pad) k = some v → ∃ p, v = [1] ++ p := fun k v e => by
  unfold putS at e
  split at e
  · exact ⟨pad, (Option.some.inj e).symm⟩
  · exact h k v e
set_option maxRecDepth 100000 in
set_option maxHeartbeats 1000000 in
theorem forget_any (h : VT R w bv seed m S) (nm : ByteArray) {key : Key} (hke : nm.data.toList = key) (hkl : key.length ≤ 1048576) :
    Calls Tryd.prog 14 #[.pointer (some ⟨bv, 0, none⟩), .string nm] w (DropG R bv seed m S key w) := by
  have HVT := Lib.hid h
  obtain ⟨⟨tp, n, C, T, hT, hn, hS, hv⟩, hbR, hmk⟩ := h
  have HD := Lib.hid (fun w' (ht : Touch Nil w w') kx (hk : BV w' kx key) => drop_any (hT.keepN ht) key kx hk hkl)
  have HS := Lib.hid (seek_S hT hS key)
  have HSS := Lib.hid hS
  have HV := Lib.hid hv
  have HN := Lib.hid hn
  have HM := Lib.hid hmk
  have HFP := Lib.hid (field_pads (.pointer tp))
  have HKE := Lib.hid hke
  clear hT hS hn hbR hmk hke hkl hv
  go_enter Tryd.func14, Tryd.ntmps14
  go_wp2_with fail
  refine (kept_any HV.out).mono ?_
  rintro e w1 ⟨rfl, ht1⟩
  obtain ⟨cc, w2, hcv, tc, hbv, _⟩ := conv_name nm w1
  rw [HKE.out] at hbv
  have HT2 := Lib.hid (ht1.trans tc)
  obtain ⟨ns, ens⟩ : ∃ ns, nm.size = ns := ⟨_, rfl⟩
  rw [ens] at hcv hbv
  have HB := Lib.hid hbv
  have hfp := HFP.out
  clear ht1 tc hbv ens
  go_wp2_with fail
  refine (HD.out _ HT2.out _ HB.out).mono ?_
  rintro e w3 ⟨he, R', n', C', T', hT', ht', _, hR', hn', hin⟩
  rw [HS.out] at he
  subst he
  have HR := Lib.hid (show DropG R bv seed m S key w (.returned (.int .i64 (dropErr (S key).isSome))) w3 from ⟨rfl, R', HVT.out.touch HV.out hT' (Nat.le_trans hn' HN.out) (del_set HSS.out hin) (HT2.out.of_nil.trans ht') (fun b hb => (hR' b hb).imp (fun h => h) fun h => Nat.le_trans HT2.out.size h) (mark_del HM.out key), HT2.out.of_nil.trans ht', fun b hb => (hR' b hb).imp (fun h => h) fun h => Nat.le_trans HT2.out.size h⟩)
  clear hT' ht' hR' hn' hin
  go_wp2_with fail
  go_ret
  exact HR.out
set_option maxRecDepth 100000 in
set_option maxHeartbeats 1000000 in
theorem vimage_any (h : VT R w bv seed m S) : Calls Tryd.prog 16 #[.pointer (some ⟨bv, 0, none⟩)] w (ImgG R bv seed m S w) := by
  obtain ⟨⟨tp, n, C, T, hT, hn, hS, hv⟩, hbR, hmk⟩ := h
  have HI := Lib.hid (fun w' (ht : Touch Nil w w') => image_any (hT.keepN ht))
  have HTT := Lib.hid hT
  have HSS := Lib.hid hS
  have HV := Lib.hid hv
  have HN := Lib.hid hn
  have hfp := field_pads (.pointer tp)
  clear hT hS hn hbR hmk hv
  go_enter Tryd.func16, Tryd.ntmps16
  go_wp2_with fail
  refine (kept_any HV.out).mono ?_
  rintro e w1 ⟨rfl, ht1⟩
  have HT1 := Lib.hid ht1
  clear ht1
  go_wp2_with fail
  refine (HI.out _ HT1.out).mono ?_
  rintro e w2 ⟨v, rfl, hv, ht2⟩
  have HO := Lib.hid (hv.base HT1.out.size)
  have HT2 := Lib.hid (HT1.out.trans ht2)
  clear hv ht2
  go_wp2_with fail
  go_ret
  exact ⟨v, n, C, T, rfl, HN.out, HSS.out, ⟨_, HTT.out⟩, HO.out, HT2.out⟩
theorem vput_gen (h : VT R w bv seed m S) (hm : m < 100000) (nm : ByteArray) (hs : nm.size ≤ 1048576) {da pa : Option Addr} {dl dc pl pc : Nat} {data pad : Key} (hd : BV w (.slice da dl dc) data) (hdR : 0 < data.length → ∀ b, OwnOf (.slice da dl dc) b → ¬ R b) (hp : BV w (.slice pa pl pc) pad) (hpR : 0 < pad.length → ∀ b, OwnOf (.slice pa pl pc) b → ¬ R b) :
    Calls Tryd.prog 8 #[.pointer (some ⟨bv, 0, none⟩), .string nm, .slice da dl dc, .slice pa pl pc] w (VPutG R bv seed m S nm dl pl data pad w) := by
  have hh := h
  obtain ⟨⟨tp, n, C, T, hT, hn, hS, hv⟩, hbR, hmk⟩ := h
  have hsk := seek_S hT hS nm.data.toList
  cases hok : okPut nm dl pl with
  | false =>
    refine (vput_bad w _ nm (by omega) da pa dl dc pl pc hok).mono fun e w' ⟨he, ht⟩ => ?_
    have e1 : putE S nm dl pl = 1 := by unfold putE; rw [hok]; rfl
    have e2 : putN S nm dl pl pad = S := by unfold putN; rw [hok]; rfl
    refine ⟨⟨#[]⟩, none, 0, 0, R, by rw [he, e1], by rw [e2]; exact (hh.keepN ht).mono (by omega), ht.of_nil, fun b hb => .inl hb, (fun e => by rw [e1] at e; cases e), fun _ => ⟨rfl, rfl, rfl, rfl⟩⟩
  | true =>
    cases hk : S nm.data.toList with
    | some v =>
      obtain ⟨p, rfl⟩ := hmk _ _ hk
      rw [hk] at hsk
      refine (vput_twice hT hv nm hs rfl hsk da pa dl dc pl pc hok).mono fun e w' ⟨he, ht⟩ => ?_
      have e1 : putE S nm dl pl = 4 := by unfold putE; rw [hok, hk]; rfl
      have e2 : putN S nm dl pl pad = S := by unfold putN; rw [if_neg (by rw [hk]; simp)]
      refine ⟨⟨#[]⟩, none, 0, 0, R, by rw [he, e1], by rw [e2]; exact (hh.keepN ht).mono (by omega), ht.of_nil, fun b hb => .inl hb, (fun e => by rw [e1] at e; cases e), fun _ => ⟨rfl, rfl, rfl, rfl⟩⟩
    | none =>
      rw [hk] at hsk
      have hok' := hok
      unfold okPut at hok'
      simp only [Bool.and_eq_true, decide_eq_true_eq] at hok'
      obtain ⟨hN, hdl, hp9⟩ := hok'
      subst hdl
      refine (vput_any hT hv hbR nm hN rfl hsk (by omega) hd hdR hp hpR hp9).mono fun e w' ⟨xa, xn, xc, R', n', C', T', he, hown, hT', ht', hR', hn', hin, hox⟩ => ?_
      have e1 : putE S nm dl dl = 0 := by unfold putE; rw [hok, hk]; rfl
      have e2 : putN S nm dl dl pad = putS S nm.data.toList ([1] ++ pad) := by unfold putN; rw [if_pos ⟨hok, hk⟩]
      have hvt : VT R' w' bv seed (m + 1) (putS S nm.data.toList ([1] ++ pad)) := hh.touch hv hT' (by omega) (put_set hS hin) ht' hR' (mark_put hmk _ pad)
      refine ⟨nm, xa, xn, xc, R', by rw [he, e1], by rw [e2]; exact hvt, ht', hR', fun _ => ⟨rfl, hown, hox⟩, fun e => absurd e1 e⟩
set_option maxRecDepth 100000 in
set_option maxHeartbeats 4000000 in
theorem open_any (h : VT R w bv seed m S) (nm : ByteArray) (hs : nm.size ≤ 1048576) (o : Option Key) (hno : S nm.data.toList = o.map ([1] ++ ·)) {la : Option Addr} {ln lc : Nat} {l : Key} (hl : BV w (.slice la ln lc) l) (hlen : ∀ p, o = some p → l.length = p.length) (hlm : l.length ≤ 1000000) :
    Calls Tryd.prog 12 #[.pointer (some ⟨bv, 0, none⟩), .agg #[.string nm, .slice la ln lc]] w (OpenP o l w) := by
  obtain ⟨⟨tp, n, C, T, hT, hn, hS, hv⟩, hbR, hmk⟩ := h
  have HF := Lib.hid (fun w' (ht : Touch Nil w w') => find_all (hT.keepN ht) nm rfl (by simp; omega) o ((seek_S hT hS _).trans hno))
  have HV := Lib.hid hv
  have HL := Lib.hid hl
  have HLN := Lib.hid hlen
  have HLM := Lib.hid hlm
  have HX := Lib.hid (show ln = l.length from by obtain ⟨_, _, e, _⟩ := hl; injection e)
  have hbx := heap_alloc_new w (.cells #[.string nm, .slice la ln lc] 32)
  have HTA := Lib.hid ((Touch.refl Nil w).alloc (.cells #[.string nm, .slice la ln lc] 32))
  obtain ⟨w1, ew1⟩ : ∃ w1, w.alloc (.cells #[.string nm, .slice la ln lc] 32) = w1 := ⟨_, rfl⟩
  rw [ew1] at hbx HTA
  obtain ⟨B, eB⟩ : ∃ B, w.heap.size = B := ⟨_, rfl⟩
  rw [eB] at hbx
  have HBX := Lib.hid hbx
  clear hT hS hn hbR hmk hv hno hl hlen hs hbx hlm
  go_enter Tryd.func12, Tryd.ntmps12
  go_wp2_with fail
  rw [eB] at *
  refine (wpIn_wide (n := 7)).1 (region_inv (by kernel_rfl) (by kernel_rfl) (fun J a W => J.size = 10 ∧ ∃ x c v6 v7 v8 v9 v10 v11 v12 v13 v14 v15, a = { tmps := #[.pointer (some ⟨bv, 0, none⟩), .agg #[.string nm, .slice la ln lc], undef, .pointer (some ⟨B, 0, none⟩), .slice none 0 0, .int .i64 0, v6, v7, v8, v9, v10, v11, v12, v13, v14, v15, undef, undef, undef, undef, undef, undef, undef, undef, undef, undef, undef, undef, undef], defers := [] } ∧ O1 o B bv tp nm w1 J W x c v6 v7 v8 v9 v10 v11 v12 v13 v14 v15) ?_ ?_ ?_)
  · exact ⟨rfl, undef, undef, undef, undef, undef, undef, undef, undef, undef, undef, undef, undef, rfl, { f0 := fun h => absurd h (by decide), f1 := fun h => absurd h (by decide), f2 := fun h => absurd h (by decide), f3 := fun h => absurd h (by decide), f4 := fun h => absurd h (by decide), f5 := fun h => absurd h (by decide), f6 := fun h => absurd h (by decide), f7 := fun h => absurd h (by decide), f8 := fun h => absurd h (by decide), f9 := fun h => absurd h (by decide), t := (Touch.refl Nil w1).drew }⟩
  · rintro J a w3 ⟨hs, x, c, v6, v7, v8, v9, v10, v11, v12, v13, v14, v15, rfl, y⟩ hall
    have hL := allL hs hall
    obtain ⟨_, hfo⟩ := y.f4 (hL 4 (by decide))
    have e6 := (y.f8 (hL 8 (by decide))).1
    have e7 := (y.f9 (hL 9 (by decide))).1
    subst e6
    subst e7
    have ht := y.t
    have HT3 := Lib.hid (HTA.out.trans ht)
    have h3 := (ht.same B (lt_heap HBX.out) fun c => c).trans HBX.out
    have b0 : w3.cell? ⟨B, 0, none⟩ = some (.string nm) := by simp [World.cell?, h3]
    have b1 : w3.cell? ⟨B, 1, none⟩ = some (.slice la ln lc) := by simp [World.cell?, h3]
    clear y hL hall hs ht h3
    cases o with
    | none =>
      obtain ⟨rfl, rfl⟩ := hfo
      go_wp2_with fail
      go_ret2
      exact ⟨HT3.out, fun _ => rfl, (fun p e => by cases e)⟩
    | some p =>
      obtain ⟨⟨xa, xn, xc, rfl⟩, hb, rfl⟩ := hfo
      have hxn : xn = p.length := by obtain ⟨_, _, e, _⟩ := hb; injection e
      have hln : ln = xn := by have := HX.out; have := HLN.out p rfl; omega
      subst hln
      have HB := Lib.hid hb
      have q : ((ln : Int) != (ln : Int)) = false := by simp
      clear hb hxn
      go_wp2_with fail
      refine (xor_any (HL.out.keepN HT3.out) HB.out (HLN.out p rfl) (by have := HLM.out; omega)).mono ?_
      rintro e w4 ⟨v, rfl, hv, ht4⟩
      have HO := Lib.hid (hv.base HT3.out.size)
      have HT4 := Lib.hid (HT3.out.trans ht4)
      clear hv ht4
      go_wp2_with fail
      go_ret2
      exact ⟨HT4.out, (fun e => by cases e), fun p' e => by cases e; exact ⟨v, rfl, HO.out⟩⟩
  · rintro J a W i o' ho ⟨hs, x, c, v6, v7, v8, v9, v10, v11, v12, v13, v14, v15, rfl, y⟩ hl hd K hK
    have hi : i < 10 := (Array.getElem?_eq_some_iff.1 ho).1
    rcases (by omega : i = 0 ∨ i = 1 ∨ i = 2 ∨ i = 3 ∨ i = 4 ∨ i = 5 ∨ i = 6 ∨ i = 7 ∨ i = 8 ∨ i = 9) with rfl | rfl | rfl | rfl | rfl | rfl | rfl | rfl | rfl | rfl
    · obtain rfl := Option.some.inj (show some _ = some o' from ho)
      go_simp
      refine hK _ _ ⟨by simpa using hs, x, c, _, _, _, _, _, _, _, _, _, _, rfl, { f0 := fun _ => rfl, f1 := fun h => y.f1 (stp h (by decide)), f2 := fun h => y.f2 (stp h (by decide)), f3 := fun h => y.f3 (stp h (by decide)), f4 := fun h => by have k := y.f4 (stp h (by decide)); exact k, f5 := fun h => ⟨(y.f5 (stp h (by decide))).1, mon (y.f5 (stp h (by decide))).2⟩, f6 := fun h => ⟨(y.f6 (stp h (by decide))).1, mon (y.f6 (stp h (by decide))).2⟩, f7 := fun h => ⟨(y.f7 (stp h (by decide))).1, mon (y.f7 (stp h (by decide))).2⟩, f8 := fun h => ⟨(y.f8 (stp h (by decide))).1, mon (y.f8 (stp h (by decide))).2⟩, f9 := fun h => ⟨(y.f9 (stp h (by decide))).1, mon (y.f9 (stp h (by decide))).2⟩, t := y.t }⟩
    · obtain rfl := Option.some.inj (show some _ = some o' from ho)
      have e := (y.f0 (hd ⟨0, .data⟩ (by simp) rfl)).symm
      subst e
      have hc := Lib.hid (kept_any ((y.t.same bv (Nat.lt_of_lt_of_le (lt_heap HV.out) HTA.out.size) fun c => c).trans ((HTA.out.same bv (lt_heap HV.out) fun c => c).trans HV.out)))
      have hte := Lib.hid y.t
      go_simp
      gi_wp2_with ((try refine ⟨trivial, ?_⟩); gi_at_call 24; refine (callsIn_wide.2 hc.out).mono ?_; rintro e W'' ⟨rfl, htk⟩)
      exact ⟨by simpa using hs, x, c, _, _, _, _, _, _, _, _, _, _, rfl, { f0 := fun h => y.f0 (stp h (by decide)), f1 := fun _ => rfl, f2 := fun h => y.f2 (stp h (by decide)), f3 := fun h => y.f3 (stp h (by decide)), f4 := fun h => by have k := y.f4 (stp h (by decide)); exact ⟨k.1, k.2.keepN htk⟩, f5 := fun h => ⟨(y.f5 (stp h (by decide))).1, mon (y.f5 (stp h (by decide))).2⟩, f6 := fun h => ⟨(y.f6 (stp h (by decide))).1, mon (y.f6 (stp h (by decide))).2⟩, f7 := fun h => ⟨(y.f7 (stp h (by decide))).1, mon (y.f7 (stp h (by decide))).2⟩, f8 := fun h => ⟨(y.f8 (stp h (by decide))).1, mon (y.f8 (stp h (by decide))).2⟩, f9 := fun h => ⟨(y.f9 (stp h (by decide))).1, mon (y.f9 (stp h (by decide))).2⟩, t := hte.out.trans htk }⟩
    · obtain rfl := Option.some.inj (show some _ = some o' from ho)
      go_simp
      refine hK _ _ ⟨by simpa using hs, x, c, _, _, _, _, _, _, _, _, _, _, rfl, { f0 := fun h => y.f0 (stp h (by decide)), f1 := fun h => y.f1 (stp h (by decide)), f2 := fun _ => rfl, f3 := fun h => y.f3 (stp h (by decide)), f4 := fun h => by have k := y.f4 (stp h (by decide)); exact k, f5 := fun h => ⟨(y.f5 (stp h (by decide))).1, mon (y.f5 (stp h (by decide))).2⟩, f6 := fun h => ⟨(y.f6 (stp h (by decide))).1, mon (y.f6 (stp h (by decide))).2⟩, f7 := fun h => ⟨(y.f7 (stp h (by decide))).1, mon (y.f7 (stp h (by decide))).2⟩, f8 := fun h => ⟨(y.f8 (stp h (by decide))).1, mon (y.f8 (stp h (by decide))).2⟩, f9 := fun h => ⟨(y.f9 (stp h (by decide))).1, mon (y.f9 (stp h (by decide))).2⟩, t := y.t }⟩
    · obtain rfl := Option.some.inj (show some _ = some o' from ho)
      have e := (y.f2 (hd ⟨2, .data⟩ (by simp) rfl)).symm
      subst e
      have b0 : W.cell? ⟨B, 0, none⟩ = some (.string nm) := by have hbx := (((y.t).same B (lt_heap HBX.out) fun c => c).trans HBX.out); simp [World.cell?, hbx]
      go_simp
      refine hK _ _ ⟨by simpa using hs, x, c, _, _, _, _, _, _, _, _, _, _, rfl, { f0 := fun h => y.f0 (stp h (by decide)), f1 := fun h => y.f1 (stp h (by decide)), f2 := fun h => y.f2 (stp h (by decide)), f3 := fun _ => rfl, f4 := fun h => by have k := y.f4 (stp h (by decide)); exact k, f5 := fun h => ⟨(y.f5 (stp h (by decide))).1, mon (y.f5 (stp h (by decide))).2⟩, f6 := fun h => ⟨(y.f6 (stp h (by decide))).1, mon (y.f6 (stp h (by decide))).2⟩, f7 := fun h => ⟨(y.f7 (stp h (by decide))).1, mon (y.f7 (stp h (by decide))).2⟩, f8 := fun h => ⟨(y.f8 (stp h (by decide))).1, mon (y.f8 (stp h (by decide))).2⟩, f9 := fun h => ⟨(y.f9 (stp h (by decide))).1, mon (y.f9 (stp h (by decide))).2⟩, t := y.t }⟩
    · obtain rfl := Option.some.inj (show some _ = some o' from ho)
      have l1 := hd ⟨1, .data⟩ (by simp) rfl
      have l3 := hd ⟨3, .data⟩ (by simp) rfl
      have e := (y.f1 l1).symm
      subst e
      have e := (y.f3 l3).symm
      subst e
      have hc := Lib.hid (HF.out _ (HTA.out.trans y.t))
      have hte := Lib.hid y.t
      go_simp
      gi_wp2_with ((try refine ⟨trivial, ?_⟩); gi_at_call 30; refine (callsIn_wide.2 hc.out).mono ?_; rintro e W'' ⟨x', c', rfl, hfo, htk⟩)
      exact ⟨by simpa using hs, x', c', _, _, _, _, _, _, _, _, _, _, rfl, { f0 := fun h => y.f0 (stp h (by decide)), f1 := fun h => y.f1 (stp h (by decide)), f2 := fun h => y.f2 (stp h (by decide)), f3 := fun h => y.f3 (stp h (by decide)), f4 := fun _ => ⟨rfl, hfo⟩, f5 := fun h => (ngd hl (y.f5 (stp h (by decide))).2).elim, f6 := fun h => (ngd hl (y.f6 (stp h (by decide))).2).elim, f7 := fun h => (ngd hl (y.f7 (stp h (by decide))).2).elim, f8 := fun h => (ngd hl (y.f8 (stp h (by decide))).2).elim, f9 := fun h => (ngd hl (y.f9 (stp h (by decide))).2).elim, t := hte.out.trans htk }⟩
    · obtain rfl := Option.some.inj (show some _ = some o' from ho)
      have l4 := hd ⟨4, .data⟩ (by simp) rfl
      go_simp
      refine hK _ _ ⟨by simpa using hs, x, c, _, _, _, _, _, _, _, _, _, _, rfl, { f0 := fun h => y.f0 (stp h (by decide)), f1 := fun h => y.f1 (stp h (by decide)), f2 := fun h => y.f2 (stp h (by decide)), f3 := fun h => y.f3 (stp h (by decide)), f4 := fun h => by have k := y.f4 (stp h (by decide)); exact k, f5 := fun _ => ⟨(y.f4 l4).1, mon l4⟩, f6 := fun h => ⟨(y.f6 (stp h (by decide))).1, mon (y.f6 (stp h (by decide))).2⟩, f7 := fun h => ⟨(y.f7 (stp h (by decide))).1, mon (y.f7 (stp h (by decide))).2⟩, f8 := fun h => ⟨(y.f8 (stp h (by decide))).1, mon (y.f8 (stp h (by decide))).2⟩, f9 := fun h => ⟨(y.f9 (stp h (by decide))).1, mon (y.f9 (stp h (by decide))).2⟩, t := y.t }⟩
    · obtain rfl := Option.some.inj (show some _ = some o' from ho)
      have l5 := hd ⟨5, .data⟩ (by simp) rfl
      obtain ⟨e, l4⟩ := y.f5 l5
      subst e
      go_simp
      refine hK _ _ ⟨by simpa using hs, x, c, _, _, _, _, _, _, _, _, _, _, rfl, { f0 := fun h => y.f0 (stp h (by decide)), f1 := fun h => y.f1 (stp h (by decide)), f2 := fun h => y.f2 (stp h (by decide)), f3 := fun h => y.f3 (stp h (by decide)), f4 := fun h => by have k := y.f4 (stp h (by decide)); exact k, f5 := fun _ => ⟨rfl, mon l4⟩, f6 := fun _ => ⟨rfl, mon l4⟩, f7 := fun h => ⟨(y.f7 (stp h (by decide))).1, mon (y.f7 (stp h (by decide))).2⟩, f8 := fun h => ⟨(y.f8 (stp h (by decide))).1, mon (y.f8 (stp h (by decide))).2⟩, f9 := fun h => ⟨(y.f9 (stp h (by decide))).1, mon (y.f9 (stp h (by decide))).2⟩, t := y.t }⟩
    · obtain rfl := Option.some.inj (show some _ = some o' from ho)
      have l5 := hd ⟨5, .data⟩ (by simp) rfl
      obtain ⟨e, l4⟩ := y.f5 l5
      subst e
      go_simp
      refine hK _ _ ⟨by simpa using hs, x, c, _, _, _, _, _, _, _, _, _, _, rfl, { f0 := fun h => y.f0 (stp h (by decide)), f1 := fun h => y.f1 (stp h (by decide)), f2 := fun h => y.f2 (stp h (by decide)), f3 := fun h => y.f3 (stp h (by decide)), f4 := fun h => by have k := y.f4 (stp h (by decide)); exact k, f5 := fun _ => ⟨rfl, mon l4⟩, f6 := fun h => ⟨(y.f6 (stp h (by decide))).1, mon (y.f6 (stp h (by decide))).2⟩, f7 := fun _ => ⟨rfl, mon l4⟩, f8 := fun h => ⟨(y.f8 (stp h (by decide))).1, mon (y.f8 (stp h (by decide))).2⟩, f9 := fun h => ⟨(y.f9 (stp h (by decide))).1, mon (y.f9 (stp h (by decide))).2⟩, t := y.t }⟩
    · obtain rfl := Option.some.inj (show some _ = some o' from ho)
      have l := hd ⟨6, .data⟩ (by simp) rfl
      obtain ⟨e, l4⟩ := y.f6 l
      go_simp
      refine hK _ _ ⟨by simpa using hs, x, c, _, _, _, _, _, _, _, _, _, _, rfl, { f0 := fun h => y.f0 (stp h (by decide)), f1 := fun h => y.f1 (stp h (by decide)), f2 := fun h => y.f2 (stp h (by decide)), f3 := fun h => y.f3 (stp h (by decide)), f4 := fun h => by have k := y.f4 (stp h (by decide)); exact k, f5 := fun h => ⟨(y.f5 (stp h (by decide))).1, mon (y.f5 (stp h (by decide))).2⟩, f6 := fun _ => ⟨rfl, mon l4⟩, f7 := fun h => ⟨(y.f7 (stp h (by decide))).1, mon (y.f7 (stp h (by decide))).2⟩, f8 := fun _ => ⟨rfl, mon l4⟩, f9 := fun h => ⟨(y.f9 (stp h (by decide))).1, mon (y.f9 (stp h (by decide))).2⟩, t := y.t }⟩
    · obtain rfl := Option.some.inj (show some _ = some o' from ho)
      have l := hd ⟨7, .data⟩ (by simp) rfl
      obtain ⟨e, l4⟩ := y.f7 l
      go_simp
      refine hK _ _ ⟨by simpa using hs, x, c, _, _, _, _, _, _, _, _, _, _, rfl, { f0 := fun h => y.f0 (stp h (by decide)), f1 := fun h => y.f1 (stp h (by decide)), f2 := fun h => y.f2 (stp h (by decide)), f3 := fun h => y.f3 (stp h (by decide)), f4 := fun h => by have k := y.f4 (stp h (by decide)); exact k, f5 := fun h => ⟨(y.f5 (stp h (by decide))).1, mon (y.f5 (stp h (by decide))).2⟩, f6 := fun h => ⟨(y.f6 (stp h (by decide))).1, mon (y.f6 (stp h (by decide))).2⟩, f7 := fun _ => ⟨rfl, mon l4⟩, f8 := fun h => ⟨(y.f8 (stp h (by decide))).1, mon (y.f8 (stp h (by decide))).2⟩, f9 := fun _ => ⟨rfl, mon l4⟩, t := y.t }⟩
end
end Go.Proofs.YticddcnlafbkoaaDoor
