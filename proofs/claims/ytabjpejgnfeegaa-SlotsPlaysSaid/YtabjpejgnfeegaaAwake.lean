import Derived.Test.YtabjpejgnfeegaaTab8
/- awake: a few calls whose results are told. -/
namespace Go.Proofs.Ytabjpejgnfeegaa
open Go.ChangeShapes Go.WideShapes Go.ChangeAt Go.RowKit Go.Deep

def one : Key × Key := ([97], [120, 121])
theorem cell_one {seed : Int} {T : Cells} (h : Fin1 seed 8 (fun _ => none) one T) : ∀ c, c < 8 → T c = none ∨ T c = some one := by
  intro c hc
  cases e : T c with
  | none => exact .inl rfl
  | some p =>
    right
    rcases (h.2.1 p).1 ⟨c, hc, e⟩ with ⟨d, _, e'⟩ | e'
    · cases e'
    · rw [e']
theorem body_one {T : Cells} (h : ∀ c, c < 8 → T c = none ∨ T c = some one) : ∀ x, x ≤ 8 → (bodyB T x).length + 6 * frees x T = 7 * x
  | 0, _ => rfl
  | x + 1, hx => by
    have := body_one h x (by omega)
    simp only [bodyB, List.length_append, frees]
    rcases h x (by omega) with e | e
    · rw [e]; simp [cellB]; omega
    · rw [e]; simp [cellB, one]; omega
theorem image_one {seed : Int} {T : Cells} (h : Fin1 seed 8 (fun _ => none) one T) : (imageB 1 8 T).length = 18 := by
  have h1 := body_one (cell_one h) 8 (by omega)
  have h2 := h.2.2
  rw [freesNone] at h2
  simp only [imageB, List.length_append, headB, List.length_cons, List.length_nil]
  omega
theorem image_none : (imageB 0 8 (fun _ => none)).length = 12 := by decide
theorem seek_one {seed : Int} {T : Cells} (h : Fin1 seed 8 (fun _ => none) one T) : seekN (bfS seed) (homS seed 8) 8 T [97] = 0 ∧ valAt (T (seekAt (bfS seed) (homS seed 8) 8 T [97])) [97] = some [120, 121] := by
  have hh := homS_lt (C := 8) (by omega) seed [97]
  obtain ⟨c, hc, e⟩ := (h.2.1 one).2 (.inr rfl)
  obtain ⟨h1, h2⟩ := seek_there (k := [97]) (v := [120, 121]) (koS seed) h.1 hh hc e
  constructor
  · rw [h2]
    rcases Nat.eq_zero_or_pos (sto 8 (homS seed 8 [97]) c) with g | g
    · exact g
    · exfalso
      obtain ⟨k', v', a, b⟩ := h.1 c hc [97] [120, 121] e 0 g
      rcases cell_one h (pos 8 (homS seed 8 [97]) 0) (pos_lt hh (by omega)) with q | q
      · rw [q] at a; cases a
      · rw [q] at a
        cases a
        rw [(koS seed).irrefl] at b
        cases b
  · rw [h1, e]; rfl
theorem cells_eight : cellsN (0 + 1) = 8 := by decide
theorem own1 (w : World) : BV (w.alloc (.cells #[.int .u8 97] 5)) (.slice (some ⟨w.heap.size, 0, none⟩) 1 1) [97] := (own_lit w [97] #[.int .u8 97] rfl (by simp)).bv
theorem own2 (w : World) : BV (w.alloc (.cells #[.int .u8 120, .int .u8 121] 5)) (.slice (some ⟨w.heap.size, 0, none⟩) 2 2) [120, 121] := (own_lit w [120, 121] #[.int .u8 120, .int .u8 121] rfl (by simp)).bv

set_option maxRecDepth 100000 in
set_option maxHeartbeats 4000000 in
theorem awake_any (w : World) : Calls Try.prog 15 #[] w (BoolN true w) := by
  have HCO := Lib.hid (fun w' => by have := coinP_any 0 0 [] none 0 w' (by simp) (slI_nil _ _ _); rw [show coin 0 0 [] = 16294208416658607535 by decide +kernel] at this; exact this)
  go_enter Try.func15, Try.ntmps15
  go_wp2_with fail
  refine (new_any 5 w).mono ?_
  rintro e w1 ⟨t, rfl, hTab, hT1⟩
  obtain ⟨bt, htf⟩ : ∃ bt, t = .pointer (some ⟨bt, 0, none⟩) := by obtain ⟨⟨bt, _, _, _, e, _⟩, _, _⟩ := hTab; exact ⟨bt, e⟩
  subst htf
  have HTab := Lib.hid hTab
  have HT1 := Lib.hid hT1
  clear hTab hT1
  go_wp2_with fail
  refine (HCO.out w1).mono ?_
  rintro e w2 ⟨rfl, rfl⟩
  clear HCO
  go_wp2_with fail
  refine (len_any HTab.out).mono ?_
  rintro e w2 ⟨rfl, rfl⟩
  go_wp2_with fail
  refine (cells_any HTab.out).mono ?_
  rintro e w2 ⟨cb, f, rfl, _, _, _, hT2⟩
  have HTab2 := Lib.hid (HTab.out.keepN hT2)
  have HT2 := Lib.hid (HT1.out.trans hT2)
  clear hT2
  go_wp2_with fail
  refine (image_any HTab2.out).mono ?_
  rintro e w3 ⟨v, rfl, hv, hT3⟩
  have hvf : ∃ ao cap, v = .slice ao 12 cap := by obtain ⟨ao, cap, e, _⟩ := hv.bv; rw [image_none] at e; exact ⟨ao, cap, e⟩
  obtain ⟨vao, vcap, rfl⟩ := hvf
  have HTab3 := Lib.hid (HTab2.out.keepN hT3)
  have HT3 := Lib.hid (HT2.out.trans hT3)
  clear hT3 hv
  have HK := Lib.hid (show BV ((w3.alloc (.cells #[.int .u8 97] 5)).alloc (.cells #[.int .u8 120, .int .u8 121] 5)) (.slice (some ⟨w3.heap.size, 0, none⟩) 1 1) [97] from (own1 w3).keepN ((Touch.refl _ _).alloc _))
  have HV := Lib.hid (show BV ((w3.alloc (.cells #[.int .u8 97] 5)).alloc (.cells #[.int .u8 120, .int .u8 121] 5)) (.slice (some ⟨w3.heap.size + 1, 0, none⟩) 2 2) [120, 121] from by have := own2 (w3.alloc (.cells #[.int .u8 97] 5)); rw [nblk_alloc] at this; exact this)
  have HT4 := Lib.hid ((HT3.out.alloc (.cells #[.int .u8 97] 5)).alloc (.cells #[.int .u8 120, .int .u8 121] 5))
  have HTab4 := Lib.hid (HTab3.out.keepN (((Touch.refl Nil w3).alloc (.cells #[.int .u8 97] 5)).alloc (.cells #[.int .u8 120, .int .u8 121] 5)))
  go_wp2_with fail
  refine (put_new HTab4.out [97] [120, 121] _ _ HK.out HV.out (by decide) (by decide) (by decide) rfl (by omega) cells_eight).mono ?_
  rintro e w5 ⟨rfl, R', T', hTab5, hfin, hT5, _⟩
  have HFIN := Lib.hid (show Fin1 5 8 (fun _ => none) one T' from hfin)
  have HT5 := Lib.hid (HT4.out.trans' hT5 fun b hb hs => by have := hs.1; omega)
  have HTab5 := Lib.hid (show Tab R' w5 (.pointer (some ⟨bt, 0, none⟩)) 5 1 8 T' from hTab5)
  clear hTab5 hfin hT5 HTab4 HK HV
  go_wp2_with fail
  refine (len_any HTab5.out).mono ?_
  rintro e w6 ⟨rfl, rfl⟩
  go_wp2_with fail
  refine (image_any HTab5.out).mono ?_
  rintro e w6 ⟨v, rfl, hv, hT6⟩
  have hvf : ∃ ao cap, v = .slice ao 18 cap := by obtain ⟨ao, cap, e, _⟩ := hv.bv; rw [image_one HFIN.out] at e; exact ⟨ao, cap, e⟩
  obtain ⟨uao, ucap, rfl⟩ := hvf
  have HTab6 := Lib.hid ((HTab5.out.keepN hT6).keepN ((Touch.refl Nil w6).alloc (.cells #[.int .u8 97] 5)))
  have HT6 := Lib.hid ((HT5.out.trans hT6).alloc (.cells #[.int .u8 97] 5))
  have HLK := Lib.hid (by have := looks_any HTab6.out [97] _ (own1 w6) (by decide); rw [(seek_one HFIN.out).1] at this; exact this)
  clear hT6 hv
  go_wp2_with fail
  refine HLK.out.mono ?_
  rintro e w7 ⟨rfl, hT7⟩
  have HTab7 := Lib.hid ((HTab6.out.keepN hT7).keepN ((Touch.refl Nil w7).alloc (.cells #[.int .u8 97] 5)))
  have HT7 := Lib.hid ((HT6.out.trans hT7).alloc (.cells #[.int .u8 97] 5))
  have HGT := Lib.hid (by have := get_any HTab7.out [97] _ (own1 w7) (by decide); rw [(seek_one HFIN.out).2] at this; exact this)
  clear hT7 HLK
  go_wp2_with fail
  refine HGT.out.mono ?_
  rintro e w8 ⟨_, hs, hT8⟩
  obtain ⟨x, rfl, hx⟩ := hs _ rfl
  obtain ⟨xao, xcap, rfl, _, hsl⟩ := hx.bv
  obtain ⟨xb, xo, rfl, hc⟩ := hsl 1 (by simp)
  have hc1 : w8.cell? ⟨xb, xo + 1, none⟩ = some (.int .u8 121) := by rw [hc]; rfl
  have HT8 := Lib.hid (HT7.out.trans hT8)
  clear hs hx hsl hc hT8 HGT
  simp only [List.length_cons, List.length_nil]
  go_wp2_with fail
  go_ret
  exact ⟨rfl, HT8.out⟩
end Go.Proofs.Ytabjpejgnfeegaa
