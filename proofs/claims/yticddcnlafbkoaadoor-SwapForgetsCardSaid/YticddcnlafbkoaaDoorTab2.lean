import Derived.Test.YticddcnlafbkoaaDoorTab1
/- Looking for a key. -/
namespace Go.Proofs.YticddcnlafbkoaaDoor
open Go.ChangeShapes Go.WideShapes Go.ChangeAt Go.RowKit Go.Deep

def SeekPost (a looks : Nat) (there : Bool) (w : World) (e : Ending) (w' : World) : Prop := e = .returned (.tuple #[.int .i64 a, .int .i64 looks, .bool there]) ∧ Touch Nil w w'

set_option maxRecDepth 100000 in
set_option maxHeartbeats 4000000 in
theorem seek_any (R : Nat → Prop) (bb bc : Nat) (seed : Int) (n C : Nat) (vv : Nat → Nat → Value) (T : Cells) (key : Key) (kx : Value) (w : World) (hB : Bod R w bb bc seed n C vv T) (hk : BV w kx key) (hkl : key.length ≤ 1048576)
    (hC : 0 < C) (hC2 : C ≤ 1048576) (hf : ∃ x, x < C ∧ T x = none) :
    Calls Tryd.prog 42 #[.pointer (some ⟨bb, 0, none⟩), kx] w (SeekPost (seekAt (bfS seed) (homS seed C) C T key) (seekN (bfS seed) (homS seed C) C T key + 1) (hasKey (T (seekAt (bfS seed) (homS seed C) C T key)) key) w) := by
  have hh := homS_lt hC seed key
  have HSP := Lib.hid (seek_spec (bf := bfS seed) (k := key) hf hh)
  have HPOS := Lib.hid (show seekAt (bfS seed) (homS seed C) C T key = pos C (homS seed C key) (seekN (bfS seed) (homS seed C) C T key) from rfl)
  generalize seekAt (bfS seed) (homS seed C) C T key = A at *
  generalize seekN (bfS seed) (homS seed C) C T key = N at *
  have HBV := Lib.hid hk
  obtain ⟨ka, kcap, rfl, hkn, hks⟩ := hk
  have HKS := Lib.hid hks
  have HB := Lib.hid hB
  have HHOME := Lib.hid (fun w1 (h : SlI w1 .u8 ka (ub key)) => home_any seed key ka kcap C w1 hC hC2 hkl h)
  have HHL := Lib.hid hh
  have HF := Lib.hid hf
  clear hkn hks hB hh hf
  have s0 := HB.out.seedC
  have s2 := HB.out.cellsC
  go_enter Tryd.func42, Tryd.ntmps42
  go_wp2_with fail
  go_still_tail 10, mixed
  change wpList _ _ _ _ _ w.drew
  have HT0 := Lib.hid ((Touch.refl Nil w).drew)
  have HKS0 := Lib.hid (HKS.out.keepN HT0.out)
  clear s0 s2
  generalize w.drew = w0 at *
  go_wp2_with fail
  refine (HHOME.out _ HKS0.out).mono ?_
  rintro e w1 ⟨rfl, rfl⟩
  clear HHOME
  go_wp2_with fail
  go_loopw [4, 5] (fun i j wr => ∃ t u a : Nat, Hid (t ≤ N) ∧ Hid (u = t + 1) ∧ Hid (a = pos C (homS seed C key) t) ∧ i = .int .i64 (a : Int) ∧ j = .int .i64 (u : Int) ∧ Touch Nil w wr) (fun _ j _ => N + 2 - (intOf j).toNat)
  case atStart => exact ⟨0, 1, homS seed C key, Lib.hid (Nat.zero_le _), Lib.hid rfl, Lib.hid (pos_zero HHL.out).symm, rfl, rfl, HT0.out⟩
  obtain ⟨t, u, a, htN, HU, HAP, rfl, rfl, hto⟩ := hrel
  have HN := Lib.hid HSP.out.1
  have htC : t < C := by have := HN.out; have := htN.out; omega
  have ha : a < C := by rw [HAP.out]; exact pos_lt HHL.out htC
  have HST := Lib.hid (show t < N → stops (bfS seed) key (T a) = false from by rw [HAP.out]; exact HSP.out.2.2 t)
  have HEND := Lib.hid (show stops (bfS seed) key (T a) = true → t = N from fun h => by
    rcases Nat.lt_or_ge t N with c | c
    · rw [HST.out c] at h; cases h
    · have := htN.out; omega)
  have HNX := Lib.hid (show t + 1 < C → nx C a = pos C (homS seed C key) (t + 1) from by rw [HAP.out]; exact pos_nx HHL.out)
  have HA := Lib.hid (show t = N → A = a from fun h => by rw [HAP.out, h]; exact HPOS.out)
  have HT := Lib.hid hto
  clear hto
  have HBr := Lib.hid (HB.out.keepN HT.out)
  obtain ⟨ao, l, cap, bo, m, cap', e0, e1, hfree, hl64, hm1000⟩ := HBr.out.slice ha
  have s2 := HBr.out.cellsC
  have k0 := HBr.out.keyC ha
  have k1 := HBr.out.valC ha
  rw [e0] at k0
  rw [e1] at k1
  have HE0 := Lib.hid e0
  have HFR := Lib.hid hfree
  clear e0 e1 hfree
  have i1 : (a : Int) < (C : Int) := by omega
  have i2 : (0 : Int) ≤ (a : Int) := by omega
  go_wp2_with fail
  refine (isFree_any ao l cap (.slice bo m cap') _ (by omega)).mono ?_
  rintro e w2 ⟨rfl, hT2⟩
  have HT2 := Lib.hid ((HT.out.alloc _).trans hT2)
  have b0 : w2.cell? ⟨wr.heap.size, 0, none⟩ = some (.slice ao l cap) := by rw [hT2.cell (by simp) (fun c => c)]; simp only [World.cell?]; rw [heap_alloc_new]; rfl
  have HB2 := Lib.hid (HB.out.keepN HT2.out)
  have HKS2 := Lib.hid (HKS.out.keepN HT2.out)
  clear k0 k1 s2 hT2
  cases hTa : T a with
  | none =>
    have hl0 : decide (l = 0) = true := by rw [HFR.out, hTa]; rfl
    have HR := Lib.hid (HEND.out (by rw [hTa]; rfl))
    have HTa := Lib.hid hTa
    clear hTa
    go_wp2_with fail
    ((try simp only [Exit.inBlock, Exit.then]); refine bodyPost_ret (results_tmp3 rfl _ _ _) rfl ?_)
    exact ⟨by rw [HA.out HR.out, HTa.out, ← HR.out, ← HU.out]; rfl, HT2.out⟩
  | some p =>
    obtain ⟨k', v'⟩ := p
    have hl0 : decide (l = 0) = false := by rw [HFR.out, hTa]; rfl
    obtain ⟨⟨hbv, _⟩, _, _, hk64, _⟩ := HB2.out.pair ha hTa
    rw [HE0.out] at hbv
    obtain ⟨ao', cap'', e, _, hs'⟩ := hbv
    obtain ⟨rfl, hl, rfl⟩ : ao = ao' ∧ l = k'.length ∧ cap = cap'' := by injection e with e1 e2 e3; exact ⟨e1, e2, e3⟩
    have HS' := Lib.hid hs'
    have HTa := Lib.hid hTa
    have HEQ := Lib.hid (bytesEqual_any k' key ao ka cap kcap w2 hs' HKS2.out)
    rw [← hl] at HEQ
    have HL := Lib.hid hl
    clear e hs' hTa hl
    by_cases hkk : k' = key
    · have hd : decide (k' = key) = true := by simpa using hkk
      have HR := Lib.hid (HEND.out (by rw [HTa.out]; simp [stops, hkk]))
      have HKK := Lib.hid hkk
      clear hkk
      go_wp2_with fail
      refine HEQ.out.mono ?_
      rintro e w3 ⟨rfl, rfl⟩
      go_wp2_with fail
      ((try simp only [Exit.inBlock, Exit.then]); refine bodyPost_ret (results_tmp3 rfl _ _ _) rfl ?_)
      exact ⟨by rw [HA.out HR.out, HTa.out, ← HR.out, ← HU.out, HKK.out]; simp [hasKey], HT2.out⟩
    · have hd : decide (k' = key) = false := by simpa using hkk
      have HKK := Lib.hid hkk
      clear hkk
      have s0 := HB2.out.seedC
      go_wp2_with fail
      refine HEQ.out.mono ?_
      rintro e w3 ⟨rfl, rfl⟩
      clear HEQ
      go_wp2_with fail
      go_still_tail 7, mixed
      change wpList _ _ _ _ _ w2.drew
      have HT3 := Lib.hid (HT2.out.drew)
      have HB3 := Lib.hid (HB.out.keepN HT3.out)
      have HKS3 := Lib.hid (HKS.out.keepN HT3.out)
      have HS3 := Lib.hid (HS'.out.keepN ((Touch.refl Nil w2).drew))
      clear b0 s0 HB2 HKS2 HT2 HS'
      generalize w2.drew = w3 at *
      have s2 := HB3.out.cellsC
      have HCB := Lib.hid (comesBefore_any seed key k' ka ao kcap cap w3 hkl (by omega) HKS3.out HS3.out)
      rw [← HL.out] at HCB
      cases hbf : bfS seed key k'
      · have HR := Lib.hid (show t < N by
          rcases Nat.lt_or_ge t N with c | c
          · exact c
          · exfalso
            have e : t = N := by have := htN.out; omega
            have := HSP.out.2.1
            rw [HA.out e, HTa.out] at this
            simp [stops, hbf, HKK.out] at this)
        have HBF := Lib.hid hbf
        rw [hbf] at HCB
        clear hbf
        have hu : u ≤ 1048577 := by have := HU.out; omega
        go_wp2_with fail
        refine HCB.out.mono ?_
        rintro e w4 ⟨rfl, rfl⟩
        clear HCB
        go_wp2_with fail
        refine (next_any bb bc a C w3 s2 ha hC2).mono ?_
        rintro e w4 ⟨rfl, rfl⟩
        go_wp2_with fail
        go_roundw
        case rel => exact ⟨t + 1, u + 1, nx C a, Lib.hid HR.out, Lib.hid (by rw [HU.out]), Lib.hid (HNX.out (by have := HR.out; have := HN.out; omega)), rfl, by go_num, HT3.out⟩
        case measure => simp [intOf]; have := HU.out; have := HR.out; omega
      · have HR := Lib.hid (HEND.out (by rw [HTa.out]; simp [stops, hbf]))
        rw [hbf] at HCB
        clear hbf
        go_wp2_with fail
        refine HCB.out.mono ?_
        rintro e w4 ⟨rfl, rfl⟩
        clear HCB
        go_wp2_with fail
        ((try simp only [Exit.inBlock, Exit.then]); refine bodyPost_ret (results_tmp3 rfl _ _ _) rfl ?_)
        exact ⟨by rw [HA.out HR.out, HTa.out, ← HR.out, ← HU.out]; simp [hasKey, HKK.out], HT3.out⟩
end Go.Proofs.YticddcnlafbkoaaDoor
