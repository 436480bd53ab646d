import Derived.Test.YticddcnlafbkoaaDoorVrput
/- What the definition of a vault does to no pads: Put. -/
namespace Go.Proofs.YticddcnlafbkoaaDoor
open Go.ChangeShapes Go.WideShapes Go.ChangeAt Go.RowKit Go.Deep
attribute [local go_sem] Oper.semAt_some

theorem results_cell2 {fn : Func} {p u u2 : Tmp} {ty : TypeId} (h : fn.results = #[.cell p ty, .tmp u, .tmp u2]) (tmps : Array Value) (P : Program) (w : World) :
    (results fn tmps).run P w =
      ((asAddr (tmps.getD p undef)).run P w).andThen fun a w₁ => ((loadVar ty a).run P w₁).andThen fun v w₂ => .ok (.tuple #[v, tmps.getD u undef, tmps.getD u2 undef]) w₂ := by
  simp only [results, h]
  simp [Sem.run_bind, Result.andThen]
theorem resS3 {w : World} {b : Nat} {x0 x1 : Value} {fn : Func} {p u u2 : Tmp} (hr : fn.results = #[.cell p 32, .tmp u, .tmp u2]) {tmps : Array Value} (hp : tmps.getD p undef = .pointer (some ⟨b, 0, none⟩)) (h : w.heap[b]? = some (.cells #[x0, x1] 32 (0, 0))) :
    (results fn tmps).run Tryd.prog w = .ok (.tuple #[.agg #[x0, x1], tmps.getD u undef, tmps.getD u2 undef]) w := by
  rw [results_cell2 hr, hp]
  have h1 := run_loadVar_row (P := Tryd.prog) w b 32 32 #[x0, x1] (0, 0) _ h Tryd.underlying32 rfl (by kernel_rfl)
  simp [asAddr, Result.andThen, Sem.run_pure, h1]
def RPutP (c : Int) (w : World) (e : Ending) (w' : World) : Prop := ∃ s xa xn xc v, e = .returned (.tuple #[.agg #[.string s, .slice xa xn xc], v, .int .i64 c]) ∧ Touch Nil w w'
set_option maxRecDepth 100000 in
set_option maxHeartbeats 4000000 in
theorem put7_nil {w : World} (nm : ByteArray) (hs : nm.size ≤ 1048576) {da pa : Option Addr} {dl dc pl pc : Nat} {data pad : Key} (hd : BV w (.slice da dl dc) data) (hp : BV w (.slice pa pl pc) pad) :
    Calls Tryd.prog 9 #[.slice none 0 0, .string nm, .slice da dl dc, .slice pa pl pc] w (RPutP (if okPut nm dl pl = true then 0 else 1) w) := by
  have HIS := Lib.hid (fun w => named_any (w := w) (nm := nm) (by omega))
  have HD := Lib.hid hd
  have HP := Lib.hid hp
  have HDL := Lib.hid (show dl = data.length from by obtain ⟨_, _, e, _⟩ := hd; injection e)
  have HPL := Lib.hid (show pl = pad.length from by obtain ⟨_, _, e, _⟩ := hp; injection e)
  have HNS := Lib.hid hs
  have h8 := heap_alloc_new w (.cells #[.string ⟨#[]⟩, .slice none 0 0] 32)
  have HTA := Lib.hid ((Touch.refl Nil w).alloc (.cells #[.string ⟨#[]⟩, .slice none 0 0] 32))
  have HFIN := Lib.hid (show ∀ w1, Touch Nil w w1 → ∀ x0 x1, Touch Nil w ((w1.setCell ⟨w.heap.size, 0, none⟩ x0).setCell ⟨w.heap.size, 1, none⟩ x1) from fun w1 ht x0 x1 =>
    ht.trans' (((Touch.refl (Just w.heap.size) w1).setCell ⟨w.heap.size, 0, none⟩ x0 fun _ => rfl).setCell ⟨w.heap.size, 1, none⟩ x1 fun _ => rfl) (fun b hb hs => by have hs : b = w.heap.size := hs; omega))
  have HE : ∃ b8, w.heap.size = b8 := ⟨_, rfl⟩
  obtain ⟨b8, e8⟩ := HE
  rw [e8] at h8 HFIN
  have H80 := Lib.hid h8
  obtain ⟨w1, ew1⟩ : ∃ w1, w.alloc (.cells #[.string ⟨#[]⟩, .slice none 0 0] 32) = w1 := ⟨_, rfl⟩
  rw [ew1] at HTA H80
  obtain ⟨c, ec⟩ : ∃ c : Int, (if okPut nm dl pl = true then 0 else 1) = c := ⟨_, rfl⟩
  rw [ec]
  have HC := Lib.hid ec
  clear hd hp hs h8 ec
  go_enter Tryd.func9, Tryd.ntmps9
  go_wp2_with fail
  refine (HIS.out _).mono ?_
  rintro e w1' ⟨rfl, rfl⟩
  have c0 : w1.cell? ⟨b8, 0, none⟩ = some (.string ⟨#[]⟩) := by have h := H80.out; simp [World.cell?, h]
  have c1 : w1.cell? ⟨b8, 1, none⟩ = some (.slice none 0 0) := by have h := H80.out; simp [World.cell?, h]
  have z0 : w1.frozen? ⟨b8, 0, none⟩ = false := by have h := H80.out; simp [World.frozen?, h]
  have z1 : w1.frozen? ⟨b8, 1, none⟩ = false := by have h := H80.out; simp [World.frozen?, h]
  clear e8
  have HOK := Lib.hid (show okPut nm dl pl = (namedB nm && (decide (dl = pl) && decide (pl ≤ 999))) from rfl)
  cases hN : namedB nm
  · rw [hN] at HOK
    go_wp2_with fail
    (try simp only [Exit.inBlock, Exit.then])
    refine bodyPost_ret (resS3 rfl rfl (put2_heap H80.out)) rfl ?_
    have hc := HC.out
    rw [HOK.out] at hc
    subst hc
    exact ⟨_, _, _, _, _, rfl, HFIN.out _ HTA.out _ _⟩
  rw [hN] at HOK
  by_cases hdl : dl = pl
  rotate_left
  · have d2 : ((dl : Int) != (pl : Int)) = true := by rw [bne_iff_ne]; omega
    have HO2 := Lib.hid (show okPut nm dl pl = false from by rw [HOK.out]; simp [hdl])
    clear hdl
    go_wp2_with fail
    (try simp only [Exit.inBlock, Exit.then])
    refine bodyPost_ret (resS3 rfl rfl (put2_heap H80.out)) rfl ?_
    have hc := HC.out
    rw [HO2.out] at hc
    subst hc
    exact ⟨_, _, _, _, _, rfl, HFIN.out _ HTA.out _ _⟩
  subst hdl
  have d2 : ((dl : Int) != (dl : Int)) = false := by simp
  by_cases h9 : (999 : Int) < (dl : Int)
  · have d1 : decide ((999 : Int) < (dl : Int)) = true := decide_eq_true h9
    have HO2 := Lib.hid (show okPut nm dl dl = false from by rw [HOK.out]; simp; omega)
    clear h9
    go_wp2_with fail
    (try simp only [Exit.inBlock, Exit.then])
    refine bodyPost_ret (resS3 rfl rfl (put2_heap H80.out)) rfl ?_
    have hc := HC.out
    rw [HO2.out] at hc
    subst hc
    exact ⟨_, _, _, _, _, rfl, HFIN.out _ HTA.out _ _⟩
  have d1 : decide ((999 : Int) < (dl : Int)) = false := decide_eq_false h9
  have HO2 := Lib.hid (show okPut nm dl dl = true from by rw [HOK.out]; simp; omega)
  have H99 := Lib.hid (show dl ≤ 999 from by omega)
  clear h9 c0 c1 z0 z1
  obtain ⟨cc, w2, hcv, tc, hbv, _⟩ := conv_name nm w1
  have HT2 := Lib.hid (HTA.out.trans tc)
  obtain ⟨cb, ecb⟩ : ∃ cb, w1.heap.size = cb := ⟨_, rfl⟩
  rw [ecb] at hcv
  have H82 := Lib.hid ((tc.same b8 (lt_heap H80.out) (fun c => c)).trans H80.out)
  clear tc hbv ecb
  go_wp2_with fail
  refine (has_nil _ w2).mono ?_
  rintro e w3 ⟨rfl, ht⟩
  have HT3 := Lib.hid (HT2.out.trans ht)
  have H83 := Lib.hid ((ht.same b8 (lt_heap H82.out) (fun c => c)).trans H82.out)
  clear ht hcv
  have HOL := Lib.hid (own_lit w3 [1] #[.int .u8 1] (by simp [ub]) (by decide))
  have HTB := Lib.hid ((Touch.refl Nil w3).alloc (.cells #[.int .u8 1] 5))
  go_wp2_with (refine wpList_append_bytes rfl (.tmp 40) (.tmp 41) rfl w3.heap.size _ _ [1] pad rfl HOL.out rfl ((HP.out.keepN HT3.out).keepN HTB.out) (by have := HPL.out; have := H99.out; simp; omega) (by simp) ?_)
  intro v4 w4 hv4 ht4 _
  have HV4 := Lib.hid hv4.out.bv
  have HX4 := Lib.hid (show Touch Nil w3 w4 from HTB.out.trans' ht4.out fun b hb hs => by have h1 := HOL.out.block b hs; omega)
  have HT4 := Lib.hid (HT3.out.trans HX4.out)
  have H84 := Lib.hid ((HX4.out.same b8 (lt_heap H83.out) (fun c => c)).trans H83.out)
  clear hv4 ht4
  go_wp2_with fail
  refine (xorR_any (HD.out.keepN HT4.out) (HP.out.keepN HT4.out) (by have := HPL.out; have := HDL.out; omega) (by have := HDL.out; have := H99.out; omega)).mono ?_
  rintro e w5 ⟨v5, rfl, hv5, ht5⟩
  obtain ⟨x1, x2, x3, rfl⟩ := hv5.form
  have HT5 := Lib.hid (HT4.out.trans ht5)
  have HV5 := Lib.hid (HV4.out.keepN ht5)
  have H85 := Lib.hid ((ht5.same b8 (lt_heap H84.out) (fun c => c)).trans H84.out)
  clear hv5 ht5
  obtain ⟨cc2, w6, hcv, tc, hbv, _⟩ := conv_name nm w5
  have HT6 := Lib.hid (HT5.out.trans tc)
  have HV6 := Lib.hid (HV5.out.keepN tc)
  have H86 := Lib.hid ((tc.same b8 (lt_heap H85.out) (fun c => c)).trans H85.out)
  obtain ⟨cb2, ecb⟩ : ∃ cb, w5.heap.size = cb := ⟨_, rfl⟩
  rw [ecb] at hcv hbv
  have HBV := Lib.hid hbv
  clear tc hbv ecb
  go_wp2_with fail
  refine (put_nil HBV.out HV6.out (by have := HNS.out; simp; omega) (by have := HPL.out; have := H99.out; simp; omega)).mono ?_
  rintro e w7 ⟨⟨v7, rfl⟩, ht⟩
  have HT7 := Lib.hid (HT6.out.trans ht)
  have H87 := Lib.hid ((ht.same b8 (lt_heap H86.out) (fun c => c)).trans H86.out)
  have c0 : w7.cell? ⟨b8, 0, none⟩ = some (.string ⟨#[]⟩) := by have h := H87.out; simp [World.cell?, h]
  have c1 : w7.cell? ⟨b8, 1, none⟩ = some (.slice none 0 0) := by have h := H87.out; simp [World.cell?, h]
  have z0 : w7.frozen? ⟨b8, 0, none⟩ = false := by have h := H87.out; simp [World.frozen?, h]
  have z1 : w7.frozen? ⟨b8, 1, none⟩ = false := by have h := H87.out; simp [World.frozen?, h]
  clear ht hcv
  go_wp2_with fail
  (try simp only [Exit.inBlock, Exit.then])
  refine bodyPost_ret (resS3 rfl rfl (put2_heap H87.out)) rfl ?_
  have hc := HC.out
  rw [HO2.out] at hc
  subst hc
  exact ⟨_, _, _, _, _, rfl, HFIN.out _ HT7.out _ _⟩
end Go.Proofs.YticddcnlafbkoaaDoor
