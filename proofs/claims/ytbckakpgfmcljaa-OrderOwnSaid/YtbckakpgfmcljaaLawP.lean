import Derived.Test.YtbckakpgfmcljaaLawB
/- The law's put: all pairs of a list into a map. -/
namespace Go.Proofs.Ytbckakpgfmcljaa
open Go.ChangeShapes Go.WideShapes Go.ChangeAt Go.RowKit Go.Deep

def PutsPost (seed : Int) (R : Nat → Prop) (mb bb : Nat) (L S : Pairs) (w : World) (e : Ending) (w' : World) : Prop :=
  e = .returned (.bool true) ∧ (∃ R' ra t, MapAt seed R' w' mb bb ra t ∧ t.toL = insAll L S ∧ (∀ b, R' b → R b ∨ (w.heap.size ≤ b ∧ b < w'.heap.size))) ∧ Touch (Just bb) w w'
/-- One more pair. -/
theorem puts_step {seed : Int} {R R1 : Nat → Prop} {w wr W w' : World} {mb bb : Nat} {ra1 : Option Addr} {t1 : Tree} {M S : Pairs} {p : Key × Key} (hm : MapAt seed R1 wr mb bb ra1 t1) (he : t1.toL = insAll M S) (hr : ∀ b, R1 b → R b ∨ (w.heap.size ≤ b ∧ b < wr.heap.size)) (ht : Touch (Just bb) w wr) (hw : Touch Nil wr W) (hp : (∃ ra, MapAt seed (Up R1 W w') w' mb bb ra (insT (abv seed) p.1 p.2 t1)) ∧ Touch (Just bb) W w') :
    (∃ R' ra t, MapAt seed R' w' mb bb ra t ∧ t.toL = insAll (M ++ [p]) S ∧ (∀ b, R' b → R b ∨ (w.heap.size ≤ b ∧ b < w'.heap.size))) ∧ Touch (Just bb) w w' := by
  obtain ⟨⟨ra, h⟩, h2⟩ := hp
  refine ⟨⟨_, ra, _, h, by rw [ins_toL (abv_ko seed) _ _ hm.srt hm.heap, he, insAll_snoc], fun b hb => ?_⟩, (ht.trans hw.of_nil).trans h2⟩
  have s1 := ht.size
  have s2 := hw.size
  have s3 := h2.size
  rcases hb with hb | ⟨hb, hb'⟩
  · rcases hr b hb with c | ⟨c, c'⟩
    · exact .inl c
    · exact .inr ⟨c, by omega⟩
  · exact .inr ⟨by omega, hb'⟩

set_option maxRecDepth 100000 in
set_option maxHeartbeats 4000000 in
theorem puts_any {seed : Int} {R : Nat → Prop} {w : World} {mb bb : Nat} {ra : Option Addr} {t : Tree} {x : Value} {L : Pairs} (h : MapAt seed R w mb bb ra t) (hl : PL w x L) (ho : OkL L) (hsz : t.size + L.length ≤ 99999) (hR : ∀ b, R b → b < w.heap.size) :
    Calls Try.prog 23 #[.pointer (some ⟨mb, 0, none⟩), x, .bool false] w (PutsPost seed R mb bb L t.toL w) := by
  obtain ⟨ao, cap, rfl⟩ := hl.form
  have HP := Lib.hid hl
  have HM := Lib.hid h
  have HO := Lib.hid ho
  have HR := Lib.hid hR
  have HE : ∃ n, L.length = n := ⟨_, rfl⟩
  obtain ⟨n, en⟩ := HE
  have HTZ := Lib.hid (size_toL t)
  rw [en] at HP hsz ⊢
  have HN := Lib.hid en
  have HSZ := Lib.hid hsz
  have hn : n ≤ 100000 := by omega
  have HBY := Lib.hid h.bodyish
  generalize hS : t.toL = S at *
  have HS := Lib.hid hS
  clear h hl ho en hsz hR hS
  go_enter Try.func23, Try.ntmps23
  go_wp2_with fail
  go_loopw [7] (fun i wr => ∃ (y : Nat) (R1 : Nat → Prop) (ra1 : Option Addr) (t1 : Tree), y ≤ n ∧ i = .int .i64 (y : Int) ∧ Hid (MapAt seed R1 wr mb bb ra1 t1 ∧ t1.toL = insAll (L.take y) S ∧ (∀ b, R1 b → R b ∨ (w.heap.size ≤ b ∧ b < wr.heap.size))) ∧ Touch (Just bb) w wr) (fun i _ => n - (intOf i).toNat)
  case atStart => exact ⟨0, R, ra, t, Nat.zero_le _, rfl, Lib.hid ⟨HM.out, by rw [HS.out]; rfl, fun b hb => .inl hb⟩, Touch.refl _ _⟩
  obtain ⟨y, R1, ra1, t1, hy, rfl, HX, hto⟩ := hrel
  have HT := Lib.hid hto
  clear hto
  by_cases hlt : y < n
  · have HPR := Lib.hid (HP.out.keepB HT.out HBY.out)
    obtain ⟨p, hp⟩ : ∃ p, L[y]? = some p := ⟨L[y]'(by have := HN.out; omega), List.getElem?_eq_getElem _⟩
    obtain ⟨b, off, rfl, hb, f, hc, hf⟩ := HPR.out.at hp
    have c0 := hc 0 (by omega)
    have c1 := hc 1 (by omega)
    rw [Nat.add_zero] at c0
    obtain ⟨fa, fc, ef⟩ := (show BV wr (f 0) p.1 from hf 0 (by omega)).len'
    obtain ⟨ga, gc, eg⟩ := (show BV wr (f 1) p.2 from hf 1 (by omega)).len'
    have HK := Lib.hid (show BV wr (f 0) p.1 from hf 0 (by omega))
    have HU := Lib.hid (show BV wr (f 1) p.2 from hf 1 (by omega))
    rw [ef] at c0 HK
    rw [eg] at c1 HU
    have HOK := Lib.hid (HO.out _ (List.mem_of_getElem? hp))
    have HTS := Lib.hid (show L.take (y + 1) = L.take y ++ [p] from by rw [List.take_add_one, hp]; rfl)
    have HTZ1 := Lib.hid (show t1.size < 100000 from by
      rw [size_toL, HX.out.2.1]
      have h1 := insAll_len (L.take y) S
      rw [List.length_take] at h1
      have h2 := HTZ.out
      have h3 := HSZ.out
      omega)
    have hta := (Touch.refl Nil wr).alloc (.cells #[.slice fa p.1.length fc, .slice ga p.2.length gc] 45)
    have HTA := Lib.hid hta
    have HPU := Lib.hid (put_map (HX.out.1.keepN hta) (HK.out.keepN hta) (HU.out.keepN hta) (okK_iff.2 HOK.out) HTZ1.out)
    generalize p.1.length = kl at *
    generalize p.2.length = ul at *
    have i1 : (y : Int) < (n : Int) := by omega
    have i2 : (0 : Int) ≤ (y : Int) := by omega
    have t0 : decide (y < n) = true := by simpa using hlt
    have e0 : (((0 : Int)) != 0) = false := rfl
    clear hc hf ef eg hp hta
    go_wp2_with fail
    refine HPU.out.mono ?_
    rintro e w2 ⟨rfl, hm2, ht2⟩
    have H2 := Lib.hid (puts_step HX.out.1 HX.out.2.1 HX.out.2.2 HT.out HTA.out ⟨hm2, ht2⟩)
    clear hm2 ht2
    go_wp2_with fail
    obtain ⟨⟨R2, ra2, t2, q1, q2, q3⟩, q4⟩ := H2.out
    have Q := Lib.hid (And.intro q1 (And.intro q2 q3))
    have Q4 := Lib.hid q4
    clear q1 q2 q3 q4 H2
    go_roundw
    case rel => exact ⟨y + 1, R2, ra2, t2, by omega, by go_num, Lib.hid ⟨Q.out.1, by rw [HTS.out]; exact Q.out.2.1, Q.out.2.2⟩, Q4.out⟩
    case measure => simp [intOf]; omega
  · obtain rfl : y = n := by omega
    have HF := Lib.hid (show L.take y = L from List.take_of_length_le (by  have := HN.out; omega))
    have tq : decide (y < y) = false := by simp
    go_wp2_with fail
    go_ret
    exact ⟨rfl, ⟨R1, ra1, t1, HX.out.1, by have := HX.out.2.1; rw [HF.out] at this; exact this, HX.out.2.2⟩, HT.out⟩

set_option maxRecDepth 100000 in
set_option maxHeartbeats 4000000 in
theorem putsB_any {seed : Int} {R : Nat → Prop} {w : World} {mb bb : Nat} {ra : Option Addr} {t : Tree} {x : Value} {L : Pairs} (h : MapAt seed R w mb bb ra t) (hl : PL w x L) (ho : OkL L) (hsz : t.size + L.length ≤ 99999) (hR : ∀ b, R b → b < w.heap.size) :
    Calls Try.prog 23 #[.pointer (some ⟨mb, 0, none⟩), x, .bool true] w (PutsPost seed R mb bb L.reverse t.toL w) := by
  obtain ⟨ao, cap, rfl⟩ := hl.form
  have HP := Lib.hid hl
  have HM := Lib.hid h
  have HO := Lib.hid ho
  have HR := Lib.hid hR
  have HE : ∃ n, L.length = n := ⟨_, rfl⟩
  obtain ⟨n, en⟩ := HE
  have HTZ := Lib.hid (size_toL t)
  rw [en] at HP hsz ⊢
  have HN := Lib.hid en
  have HSZ := Lib.hid hsz
  have hn : n ≤ 100000 := by omega
  have HBY := Lib.hid h.bodyish
  generalize hS : t.toL = S at *
  have HS := Lib.hid hS
  clear h hl ho en hsz hR hS
  go_enter Try.func23, Try.ntmps23
  go_wp2_with fail
  go_loopw [7] (fun i wr => ∃ (y : Nat) (R1 : Nat → Prop) (ra1 : Option Addr) (t1 : Tree), y ≤ n ∧ i = .int .i64 (y : Int) ∧ Hid (MapAt seed R1 wr mb bb ra1 t1 ∧ t1.toL = insAll (L.reverse.take y) S ∧ (∀ b, R1 b → R b ∨ (w.heap.size ≤ b ∧ b < wr.heap.size))) ∧ Touch (Just bb) w wr) (fun i _ => n - (intOf i).toNat)
  case atStart => exact ⟨0, R, ra, t, Nat.zero_le _, rfl, Lib.hid ⟨HM.out, by rw [HS.out]; rfl, fun b hb => .inl hb⟩, Touch.refl _ _⟩
  obtain ⟨y, R1, ra1, t1, hy, rfl, HX, hto⟩ := hrel
  have HT := Lib.hid hto
  clear hto
  by_cases hlt : y < n
  · have HPR := Lib.hid (HP.out.keepB HT.out HBY.out)
    obtain ⟨p, hp⟩ : ∃ p, L[y]? = some p := ⟨L[y]'(by have := HN.out; omega), List.getElem?_eq_getElem _⟩
    obtain ⟨z, hz⟩ : ∃ z : Nat, z = n - 1 - y := ⟨_, rfl⟩
    have hzn : z < n := by omega
    have hzc : (n : Int) - 1 - (y : Int) = (z : Int) := by omega
    obtain ⟨p2, hp2⟩ : ∃ p, L[z]? = some p := ⟨L[z]'(by have := HN.out; omega), List.getElem?_eq_getElem _⟩
    have hrv : L.reverse[y]? = some p2 := by rw [List.getElem?_reverse (by have := HN.out; omega)]; rw [show L.length - 1 - y = z by have := HN.out; omega]; exact hp2
    obtain ⟨b, off, rfl, hb, f, hc, hf⟩ := HPR.out.at hp
    have c0 := hc 0 (by omega)
    have c1 := hc 1 (by omega)
    rw [Nat.add_zero] at c0
    obtain ⟨fa, fc, ef⟩ := (show BV wr (f 0) p.1 from hf 0 (by omega)).len'
    obtain ⟨ga, gc, eg⟩ := (show BV wr (f 1) p.2 from hf 1 (by omega)).len'
    have HK := Lib.hid (show BV wr (f 0) p.1 from hf 0 (by omega))
    have HU := Lib.hid (show BV wr (f 1) p.2 from hf 1 (by omega))
    rw [ef] at c0 HK
    rw [eg] at c1 HU
    obtain ⟨b', off', e2, hb2, f2, hc2, hf2⟩ := HPR.out.at hp2
    cases e2
    have d0 := hc2 0 (by omega)
    have d1 := hc2 1 (by omega)
    rw [Nat.add_zero] at d0
    obtain ⟨fa2, fc2, ef2⟩ := (show BV wr (f2 0) p2.1 from hf2 0 (by omega)).len'
    obtain ⟨ga2, gc2, eg2⟩ := (show BV wr (f2 1) p2.2 from hf2 1 (by omega)).len'
    have HK2 := Lib.hid (show BV wr (f2 0) p2.1 from hf2 0 (by omega))
    have HU2 := Lib.hid (show BV wr (f2 1) p2.2 from hf2 1 (by omega))
    rw [ef2] at d0 HK2
    rw [eg2] at d1 HU2
    have hz0 : (0 : Int) ≤ (z : Int) := by omega
    have hzi : (z : Int) < (n : Int) := by omega
    clear hc2 hf2 ef2 eg2 hz
    have HOK := Lib.hid (HO.out _ (List.mem_of_getElem? hp2))
    have HTS := Lib.hid (show L.reverse.take (y + 1) = L.reverse.take y ++ [p2] from by rw [List.take_add_one, hrv]; rfl)
    have HTZ1 := Lib.hid (show t1.size < 100000 from by
      rw [size_toL, HX.out.2.1]
      have h1 := insAll_len (L.reverse.take y) S
      rw [List.length_take] at h1
      have h2 := HTZ.out
      have h3 := HSZ.out
      omega)
    have hta := (Touch.refl Nil wr).alloc (.cells #[.slice fa2 p2.1.length fc2, .slice ga2 p2.2.length gc2] 45)
    have HTA := Lib.hid hta
    have HPU := Lib.hid (put_map (HX.out.1.keepN hta) (HK2.out.keepN hta) (HU2.out.keepN hta) (okK_iff.2 HOK.out) HTZ1.out)
    generalize p.1.length = kl at *
    generalize p.2.length = ul at *
    generalize p2.1.length = kl2 at *
    generalize p2.2.length = ul2 at *
    have i1 : (y : Int) < (n : Int) := by omega
    have i2 : (0 : Int) ≤ (y : Int) := by omega
    have t0 : decide (y < n) = true := by simpa using hlt
    have e0 : (((0 : Int)) != 0) = false := rfl
    clear hc hf ef eg hp hta hrv hp2
    go_wp2_with fail
    refine HPU.out.mono ?_
    rintro e w2 ⟨rfl, hm2, ht2⟩
    have H2 := Lib.hid (puts_step HX.out.1 HX.out.2.1 HX.out.2.2 HT.out HTA.out ⟨hm2, ht2⟩)
    clear hm2 ht2
    go_wp2_with fail
    obtain ⟨⟨R2, ra2, t2, q1, q2, q3⟩, q4⟩ := H2.out
    have Q := Lib.hid (And.intro q1 (And.intro q2 q3))
    have Q4 := Lib.hid q4
    clear q1 q2 q3 q4 H2
    go_roundw
    case rel => exact ⟨y + 1, R2, ra2, t2, by omega, by go_num, Lib.hid ⟨Q.out.1, by rw [HTS.out]; exact Q.out.2.1, Q.out.2.2⟩, Q4.out⟩
    case measure => simp [intOf]; omega
  · obtain rfl : y = n := by omega
    have HF := Lib.hid (show L.reverse.take y = L.reverse from List.take_of_length_le (by rw [List.length_reverse]; have := HN.out; omega))
    have tq : decide (y < y) = false := by simp
    go_wp2_with fail
    go_ret
    exact ⟨rfl, ⟨R1, ra1, t1, HX.out.1, by have := HX.out.2.1; rw [HF.out] at this; exact this, HX.out.2.2⟩, HT.out⟩
end Go.Proofs.Ytbckakpgfmcljaa
