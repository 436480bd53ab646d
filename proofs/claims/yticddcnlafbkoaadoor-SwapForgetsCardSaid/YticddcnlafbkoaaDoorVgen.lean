import Derived.Test.YticddcnlafbkoaaDoorVset
/- What a vault's functions do to every input. -/
namespace Go.Proofs.YticddcnlafbkoaaDoor
open Go.ChangeShapes Go.WideShapes Go.ChangeAt Go.RowKit Go.Deep
attribute [local go_sem] Oper.semAt_some

def FindS (p : Key) (w : World) (e : Ending) (w' : World) : Prop := ∃ xa xn xc, e = .returned (.tuple #[.slice xa xn xc, .int .i64 0]) ∧ BV w' (.slice xa xn xc) p ∧ Touch Nil w w'
section
variable {R : Nat → Prop} {w : World} {tp : Option Addr} {seed : Int} {n C bv : Nat} {T : Cells}
set_option maxRecDepth 100000 in
set_option maxHeartbeats 400000 in
theorem find_some (h : Tab R w (.pointer tp) seed n C T) (nm : ByteArray) {key p : Key} (hke : nm.data.toList = key) (hkl : key.length ≤ 1048576) (hno : valAt (T (seekAt (bfS seed) (homS seed C) C T key)) key = some ([1] ++ p)) :
    Calls Tryd.prog 30 #[.agg #[.pointer tp], .string nm] w (FindS p w) := by
  obtain ⟨cc, W', hcv, tc, hbv, _⟩ := conv_name nm (w.alloc (.cells #[.pointer tp] 58))
  obtain ⟨bb, ebb⟩ : ∃ bb, (w.alloc (.cells #[.pointer tp] 58)).heap.size = bb := ⟨_, rfl⟩
  rw [hke] at hbv
  rw [ebb] at hcv hbv
  clear ebb
  have hsz : nm.size = key.length := by rw [← hke]; simp
  rw [hsz] at hcv hbv
  clear hsz
  have HT := Lib.hid (((Touch.refl Nil w).alloc (.cells #[.pointer tp] 58)).trans tc)
  have hg := get_any (h.keepN HT.out) key _ hbv hkl
  rw [hno] at hg
  have HG := Lib.hid hg
  have b0 : (w.alloc (.cells #[.pointer tp] 58)).cell? ⟨w.heap.size, 0, none⟩ = some (.pointer tp) := by rw [cell_new]; rfl
  clear hg h hno hbv tc
  go_enter Tryd.func30, Tryd.ntmps30
  go_wp2_with fail
  refine HG.out.mono ?_
  rintro e w3 ⟨_, hs3, ht3⟩
  obtain ⟨x, rfl, hx⟩ := hs3 _ rfl
  obtain ⟨xa, xn, xc, rfl⟩ := hx.form
  have hlen : xn = p.length + 1 := by
    obtain ⟨_, _, e1, _⟩ := hx.bv
    injection e1 with _ e2 _
  obtain ⟨xa', xn', xc', hrun, hbc, hn'⟩ := cut_l hx.bc (k := 1) (by omega)
  have hrun' : ∀ W, (Instr.slice 27 (.slice xa xn xc) (some (.int .i64 1)) none none).run Tryd.prog W = .ok (.slice xa' xn' xc') W := hrun
  have HB := Lib.hid hbc
  have HT3 := Lib.hid (HT.out.trans ht3)
  clear hs3 ht3 hrun hbc hn' hlen hx
  go_wp2_with fail
  go_ret2
  refine ⟨_, _, _, rfl, ?_, HT3.out⟩
  have := HB.out.bv
  simpa using this
set_option maxRecDepth 100000 in
set_option maxHeartbeats 1000000 in
theorem add_twice (h : Tab R w (.pointer tp) seed n C T) (nm : ByteArray) {key p : Key} (hke : nm.data.toList = key) (hkl : key.length ≤ 1048576) (hno : valAt (T (seekAt (bfS seed) (homS seed C) C T key)) key = some ([1] ++ p)) (v : Value) :
    Calls Tryd.prog 25 #[.agg #[.pointer tp], .string nm, v] w fun e w' => e = .returned (.int .i64 4) ∧ Touch Nil w w' := by
  have HF := Lib.hid (fun w' (ht : Touch Nil w w') => find_some (h.keepN ht) nm hke (by omega) hno)
  clear h hno
  go_enter Tryd.func25, Tryd.ntmps25
  have HTA := Lib.hid ((Touch.refl Nil w).alloc (.cells #[.pointer tp] 58))
  have b0 : (w.alloc (.cells #[.pointer tp] 58)).cell? ⟨w.heap.size, 0, none⟩ = some (.pointer tp) := by rw [cell_new]; rfl
  go_wp2_with fail
  refine (HF.out _ HTA.out).mono ?_
  rintro e w2 ⟨xa, xn, xc, rfl, _, ht2⟩
  have HT2 := Lib.hid (HTA.out.trans ht2)
  clear ht2
  go_wp2_with fail
  go_ret
  exact ⟨rfl, HT2.out⟩

/-- What a record must be to be sealed. -/
def okPut (nm : ByteArray) (dl pl : Nat) : Bool := namedB nm && (decide (dl = pl) && decide (pl ≤ 999))
def PutNo (c : Int) (w : World) (e : Ending) (w' : World) : Prop := e = .returned (.tuple #[.agg #[.string ⟨#[]⟩, .slice none 0 0], .int .i64 c]) ∧ Touch Nil w w'
set_option maxRecDepth 100000 in
set_option maxHeartbeats 2000000 in
theorem vput_bad (w : World) (v : Value) (nm : ByteArray) (hs : nm.size ≤ 9223372036854775807) (da pa : Option Addr) (dl dc pl pc : Nat) (hok : okPut nm dl pl = false) :
    Calls Tryd.prog 8 #[v, .string nm, .slice da dl dc, .slice pa pl pc] w (PutNo 1 w) := by
  have HIS := Lib.hid (fun w => isName_any nm w hs)
  have h8 := heap_alloc_new w (.cells #[.string ⟨#[]⟩, .slice none 0 0] 32)
  have HTA := Lib.hid ((Touch.refl Nil w).alloc (.cells #[.string ⟨#[]⟩, .slice none 0 0] 32))
  have fin : ∀ w1, Touch Nil (w.alloc (.cells #[.string ⟨#[]⟩, .slice none 0 0] 32)) w1 → ∀ x0 x1, Touch Nil w ((w1.setCell ⟨w.heap.size, 0, none⟩ x0).setCell ⟨w.heap.size, 1, none⟩ x1) := fun w1 ht x0 x1 =>
    (HTA.out.trans ht).trans' (((Touch.refl (Just w.heap.size) w1).setCell ⟨w.heap.size, 0, none⟩ x0 fun _ => rfl).setCell ⟨w.heap.size, 1, none⟩ x1 fun _ => rfl) (fun b hb hs => by have hs : b = w.heap.size := hs; omega)
  have HFIN := Lib.hid fin
  clear fin
  go_enter Tryd.func8, Tryd.ntmps8
  go_wp2_with fail
  refine (HIS.out _).mono ?_
  rintro e w1 ⟨rfl, ht1⟩
  have H81 := Lib.hid ((ht1.same _ (by simp) (fun c => c)).trans h8)
  have HF1 := Lib.hid (HFIN.out w1 ht1)
  clear ht1 HFIN HTA
  have HE : ∃ b8, w.heap.size = b8 := ⟨_, rfl⟩
  obtain ⟨b8, e8⟩ := HE
  rw [e8] at H81 HF1 ⊢
  have c0 : w1.cell? ⟨b8, 0, none⟩ = some (.string ⟨#[]⟩) := by have h := H81.out; simp [World.cell?, h]
  have c1 : w1.cell? ⟨b8, 1, none⟩ = some (.slice none 0 0) := by have h := H81.out; simp [World.cell?, h]
  have z0 : w1.frozen? ⟨b8, 0, none⟩ = false := by have h := H81.out; simp [World.frozen?, h]
  have z1 : w1.frozen? ⟨b8, 1, none⟩ = false := by have h := H81.out; simp [World.frozen?, h]
  clear e8 h8
  unfold okPut at hok
  cases hN : namedB nm
  · clear hok
    go_wp2_with fail
    (try simp only [Exit.inBlock, Exit.then])
    refine bodyPost_ret (resS rfl rfl (put2_heap H81.out)) rfl ?_
    exact ⟨rfl, HF1.out _ _⟩
  · rw [hN, Bool.true_and] at hok
    by_cases hdl : dl = pl
    · subst hdl
      have h9 : ¬ dl ≤ 999 := by simpa using hok
      have d2 : ((dl : Int) != (dl : Int)) = false := by simp
      have d1 : decide ((999 : Int) < (dl : Int)) = true := by rw [decide_eq_true_iff]; omega
      clear hok h9
      go_wp2_with fail
      (try simp only [Exit.inBlock, Exit.then])
      refine bodyPost_ret (resS rfl rfl (put2_heap H81.out)) rfl ?_
      exact ⟨rfl, HF1.out _ _⟩
    · have d2 : ((dl : Int) != (pl : Int)) = true := by rw [bne_iff_ne]; omega
      clear hok hdl
      go_wp2_with fail
      (try simp only [Exit.inBlock, Exit.then])
      refine bodyPost_ret (resS rfl rfl (put2_heap H81.out)) rfl ?_
      exact ⟨rfl, HF1.out _ _⟩
set_option maxRecDepth 100000 in
set_option maxHeartbeats 2000000 in
theorem vput_twice (hT : Tab R w (.pointer tp) seed n C T) (hv : w.heap[bv]? = some (.cells #[.pointer tp] 60 (0, 0))) (nm : ByteArray) (hs : nm.size ≤ 1048576) {key p : Key} (hke : nm.data.toList = key) (hno : valAt (T (seekAt (bfS seed) (homS seed C) C T key)) key = some ([1] ++ p)) (da pa : Option Addr) (dl dc pl pc : Nat) (hok : okPut nm dl pl = true) :
    Calls Tryd.prog 8 #[.pointer (some ⟨bv, 0, none⟩), .string nm, .slice da dl dc, .slice pa pl pc] w (PutNo 4 w) := by
  have hkl : key.length ≤ 1048576 := by
    have : key.length = nm.size := by rw [← hke]; simp
    omega
  unfold okPut at hok
  simp only [Bool.and_eq_true, decide_eq_true_eq] at hok
  obtain ⟨hN, hdl, hp9⟩ := hok
  subst hdl
  have HIS := Lib.hid (fun w => isName_any nm w (by omega))
  rw [hN] at HIS
  have HV := Lib.hid hv
  have HADD := Lib.hid (fun w' (ht : Touch Nil w w') v => add_twice (hT.keepN ht) nm hke hkl hno v)
  have h8 := heap_alloc_new w (.cells #[.string ⟨#[]⟩, .slice none 0 0] 32)
  have HTA := Lib.hid ((Touch.refl Nil w).alloc (.cells #[.string ⟨#[]⟩, .slice none 0 0] 32))
  have fin : ∀ w1, Touch Nil w w1 → ∀ x0 x1, Touch Nil w ((w1.setCell ⟨w.heap.size, 0, none⟩ x0).setCell ⟨w.heap.size, 1, none⟩ x1) := fun w1 ht x0 x1 =>
    ht.trans' (((Touch.refl (Just w.heap.size) w1).setCell ⟨w.heap.size, 0, none⟩ x0 fun _ => rfl).setCell ⟨w.heap.size, 1, none⟩ x1 fun _ => rfl) (fun b hb hs => by have hs : b = w.heap.size := hs; omega)
  have HFIN := Lib.hid fin
  have d1 : decide ((999 : Int) < (dl : Int)) = false := by rw [decide_eq_false_iff_not]; omega
  have d2 : ((dl : Int) != (dl : Int)) = false := by simp
  clear fin hT hv hno hs hke hkl hN hp9
  go_enter Tryd.func8, Tryd.ntmps8
  go_wp2_with fail
  refine (HIS.out _).mono ?_
  rintro e w1 ⟨rfl, ht1⟩
  have HT1 := Lib.hid (HTA.out.trans ht1)
  have H81 := Lib.hid ((ht1.same _ (by simp) (fun c => c)).trans h8)
  have HE : ∃ b8, w.heap.size = b8 := ⟨_, rfl⟩
  obtain ⟨b8, e8⟩ := HE
  rw [e8] at H81 HFIN ⊢
  clear ht1 h8 e8
  go_wp2_with fail
  refine (kept_any ((HT1.out.same bv (lt_heap HV.out) (fun c => c)).trans HV.out)).mono ?_
  rintro e w2 ⟨rfl, ht2⟩
  have HT2 := Lib.hid (HT1.out.trans ht2)
  have H82 := Lib.hid ((ht2.same b8 (lt_heap H81.out) (fun c => c)).trans H81.out)
  clear ht2
  go_wp2_with fail
  refine (HADD.out _ HT2.out _).mono ?_
  rintro e w3 ⟨rfl, ht3⟩
  have HF3 := Lib.hid (HFIN.out w3 (HT2.out.trans ht3))
  have H83 := Lib.hid ((ht3.same b8 (lt_heap H82.out) (fun c => c)).trans H82.out)
  have c0 : w3.cell? ⟨b8, 0, none⟩ = some (.string ⟨#[]⟩) := by have h := H83.out; simp [World.cell?, h]
  have c1 : w3.cell? ⟨b8, 1, none⟩ = some (.slice none 0 0) := by have h := H83.out; simp [World.cell?, h]
  have z0 : w3.frozen? ⟨b8, 0, none⟩ = false := by have h := H83.out; simp [World.frozen?, h]
  have z1 : w3.frozen? ⟨b8, 1, none⟩ = false := by have h := H83.out; simp [World.frozen?, h]
  clear ht3 HFIN
  go_wp2_with fail
  (try simp only [Exit.inBlock, Exit.then])
  refine bodyPost_ret (resS rfl rfl (put2_heap H83.out)) rfl ?_
  exact ⟨rfl, HF3.out _ _⟩
end
end Go.Proofs.YticddcnlafbkoaaDoor
