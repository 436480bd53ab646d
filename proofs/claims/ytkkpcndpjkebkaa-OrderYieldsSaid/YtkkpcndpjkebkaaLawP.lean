import Derived.Test.YtkkpcndpjkebkaaRefP
import Derived.Test.YtkkpcndpjkebkaaMapW
/- What the laws do with pairs: they are put in order, and into a map. -/
namespace Go.Proofs.Ytkkpcndpjkebkaa
open Go.ChangeShapes Go.WideShapes Go.ChangeAt Go.RowKit Go.Deep

/-! ### A map's own block holds no bytes and no slices -/
def Bodyish (w : World) (b : Nat) : Prop := ∃ s p T z, w.heap[b]? = some (.cells #[.int .u64 s, .pointer p] T z)
theorem Bodyish.cell {w : World} {b o : Nat} {x : Value} (h : Bodyish w b) (hc : w.cell? ⟨b, o, none⟩ = some x) : (∃ s, x = .int .u64 s) ∨ ∃ p, x = .pointer p := by
  obtain ⟨s, p, T, z, e⟩ := h
  simp only [World.cell?, e] at hc
  match o, hc with
  | 0, hc => simp at hc; exact .inl ⟨s, hc.symm⟩
  | 1, hc => simp at hc; exact .inr ⟨p, hc.symm⟩
  | o + 2, hc => simp at hc
theorem MapAt.bodyish {seed : Int} {R : Nat → Prop} {w : World} {mb bb : Nat} {ra : Option Addr} {t : Tree} (h : MapAt seed R w mb bb ra t) : Bodyish w bb := ⟨_, _, _, _, h.body⟩
theorem BV.keepB {w w' : World} {bb : Nat} {x : Value} {l : Key} (h : BV w x l) (ht : Touch (Just bb) w w') (hb : Bodyish w bb) : BV w' x l := by
  obtain ⟨ao, cap, rfl, h1, h2⟩ := h
  refine ⟨ao, cap, rfl, h1, h2.keep ht fun a e hp hs => ?_⟩
  obtain ⟨b, off, e', hc⟩ := h2 0 hp
  rw [e] at e'
  cases e'
  have hs : b = bb := hs
  subst hs
  rcases hb.cell hc with ⟨s, e⟩ | ⟨p, e⟩ <;> cases e
theorem FV.keepB {w w' : World} {bb : Nat} {x : Value} {f : Fv} (h : FV w x f) (ht : Touch (Just bb) w w') (hb : Bodyish w bb) : FV w' x f := by
  cases f with
  | b l => exact BV.keepB h ht hb
  | u n => exact h
  | i n => exact h
  | f c => exact h
  | o lo l =>
    refine ⟨BV.keepB h.1 ht hb, fun hl b ho => ⟨(h.2 hl b ho).1, (h.2 hl b ho).2.keep ht fun hs => ?_⟩⟩
    have hs : b = bb := hs
    subst hs
    obtain ⟨ao, cap, rfl, _, h2⟩ := h.1
    obtain ⟨b', off, e, hc⟩ := h2 0 (by have := List.length_pos_iff.2 hl; simpa using this)
    subst e
    obtain rfl : b = b' := by simpa [OwnOf, Value.ownBlock] using ho
    rcases hb.cell hc with ⟨s, e⟩ | ⟨p, e⟩ <;> cases e
theorem RL.keepB {α : Type} {k : Nat} {fld : α → Nat → Fv} {w w' : World} {bb : Nat} {x : Value} {L : List α} (h : RL k fld w x L) (ht : Touch (Just bb) w w') (hb : Bodyish w bb) (hk : 0 < k) (hf : ∀ a, ∃ l, fld a 0 = .b l) : RL k fld w' x L := by
  obtain ⟨ao, cap, v, rfl, h1, h2, h3, h4⟩ := h
  refine ⟨ao, cap, v, rfl, h1, h2, fun h0 => ?_, fun i a ha c hc => (h4 i a ha c hc).keepB ht hb⟩
  obtain ⟨b, off, e, hlt, hc⟩ := h3 h0
  have hne : b ≠ bb := fun e => by
    subst e
    have hl : L[0]? = some L[0] := List.getElem?_eq_getElem h0
    obtain ⟨l, el⟩ := hf L[0]
    have h5 := h4 0 _ hl 0 hk
    rw [el] at h5
    obtain ⟨_, _, e6, _⟩ := h5
    have := hc 0 h0 0 hk
    rw [e6] at this
    rcases hb.cell this with ⟨s, e⟩ | ⟨p, e⟩ <;> cases e
  exact ⟨b, off, e, Nat.lt_of_lt_of_le hlt ht.size, fun i hi c hcc => (ht.cell hlt (fun e => hne e) _).trans (hc i hi c hcc)⟩
theorem PL.keepB {w w' : World} {bb : Nat} {x : Value} {L : Pairs} (h : PL w x L) (ht : Touch (Just bb) w w') (hb : Bodyish w bb) : PL w' x L := RL.keepB h ht hb (by omega) fun a => ⟨a.1, rfl⟩

/-! ### All pairs of a list, one after another -/
def insAll (L S : Pairs) : Pairs := L.foldl (fun S p => insL p.1 p.2 S) S
theorem insAll_snoc (L : Pairs) (p : Key × Key) (S : Pairs) : insAll (L ++ [p]) S = insL p.1 p.2 (insAll L S) := by simp [insAll]
theorem insAll_srt : ∀ (L : Pairs) {S : Pairs}, Srt S → Srt (insAll L S)
  | [], _, h => h
  | p :: L, _, h => insAll_srt L (insL_srt p.1 p.2 h)
theorem insAll_mem : ∀ (L : Pairs) {S : Pairs} {x : Key × Key}, x ∈ insAll L S → x ∈ L ∨ x ∈ S
  | [], _, _, h => .inr h
  | p :: L, S, x, h => by
    rcases insAll_mem L h with h | h
    · exact .inl (List.mem_cons_of_mem _ h)
    · rcases insL_mem.1 h with e | e
      · exact .inl (by rw [e]; simp)
      · exact .inr e.1
theorem insL_len (k v : Key) (L : Pairs) : (insL k v L).length ≤ L.length + 1 := by
  have h : ∀ L : Pairs, (L.filter (fun x => klt x.1 k)).length + (L.filter (fun x => klt k x.1)).length ≤ L.length := by
    intro L
    induction L with
    | nil => simp
    | cons p L ih =>
      simp only [List.filter_cons, List.length_cons]
      cases c : klt p.1 k with
      | true => rw [klt_ko.asym c]; simp; omega
      | false => cases d : klt k p.1 <;> simp <;> omega
  have := h L
  simp only [insL, List.length_append, List.length_cons]
  omega
theorem insAll_len : ∀ (L S : Pairs), (insAll L S).length ≤ S.length + L.length
  | [], S => by simp [insAll]
  | p :: L, S => by
    have h1 := insAll_len L (insL p.1 p.2 S)
    have h2 := insL_len p.1 p.2 S
    simp only [List.length_cons]
    have e : insAll (p :: L) S = insAll L (insL p.1 p.2 S) := rfl
    rw [e]; omega
def OkL (L : Pairs) : Prop := ∀ p ∈ L, okK p.1 p.2
theorem OkL.short {L : Pairs} (h : OkL L) : Short L := fun p hp => by have := h p hp; exact ⟨by have := this.2.1; omega, by have := this.2.2; omega⟩
theorem OkL.ins {L S : Pairs} (h : OkL L) (hs : OkL S) : OkL (insAll L S) := fun p hp => (insAll_mem L hp).elim (h p) (hs p)

/-- Two cells, and what has been touched. -/
abbrev LdB (b o : Nat) (x y : Value) (w0 w' : World) : Prop := w'.cell? ⟨b, o, none⟩ = some x ∧ w'.cell? ⟨b, o + 1, none⟩ = some y ∧ Hid (Touch Nil w0 w')
theorem LdB.step {b o : Nat} {x y : Value} {w0 w w' : World} (h : LdB b o x y w0 w) (ht : Touch Nil w w') : LdB b o x y w0 w' := ⟨cell_step h.1 ht, cell_step h.2.1 ht, Lib.hid (h.2.2.out.trans ht)⟩

set_option maxHeartbeats 1000000 in
/-- Allowed, whatever the lengths. -/
theorem allowedW_any (k v c1 c2 : Nat) (ao bo : Option Addr) (w : World) (hk : k ≤ 9223372036854775807) (hv : v ≤ 9223372036854775807) :
    Calls Try.prog 46 #[.slice ao k c1, .slice bo v c2] w fun e w' => e = .returned (.bool (allowB k v)) ∧ w = w' := by
  have HR := Lib.hid (show allowB k v = (decide ((1 : Int) ≤ (k : Int)) && (decide ((k : Int) ≤ 64) && decide ((v : Int) ≤ 1000))) by
    unfold allowB; rw [Bool.eq_iff_iff]; simp; omega)
  generalize allowB k v = r at *
  cases c1 : decide ((1 : Int) ≤ (k : Int))
  all_goals
    cases c2 : decide ((k : Int) ≤ 64)
    all_goals
      cases c3 : decide ((v : Int) ≤ 1000)
      all_goals
        rw [c1, c2, c3] at HR
        go_enter Try.func46, Try.ntmps46
        go_wp2_with (go_quiet (fail))
        go_ret
        exact ⟨by rw [HR.out]; rfl, rfl⟩
def RisePost (L : Pairs) (w : World) (e : Ending) (w' : World) : Prop := ∃ x ok, e = .returned (.tuple #[x, .bool ok]) ∧ (∃ ao n cap, x = .slice ao n cap) ∧ (ok = true → L.length ≤ 400 ∧ OkL L ∧ PL w' x (insAll L [])) ∧ Touch Nil w w'
set_option maxRecDepth 100000 in
set_option maxHeartbeats 4000000 in
theorem rising_any {w : World} {x : Value} {L : Pairs} (h : PL w x L) (hn : L.length ≤ 9223372036854775807) (hm : ∀ p ∈ L, p.1.length ≤ 9223372036854775807 ∧ p.2.length ≤ 9223372036854775807) :
    Calls Try.prog 22 #[x] w (RisePost L w) := by
  obtain ⟨ao, cap, rfl⟩ := h.form
  have HP := Lib.hid h
  have HM := Lib.hid hm
  have HE : ∃ n, L.length = n := ⟨_, rfl⟩
  obtain ⟨n, en⟩ := HE
  rw [en] at HP hn ⊢
  have HN := Lib.hid en
  clear h en hm
  by_cases h1 : 400 < n
  · have d1 : decide ((400 : Int) < (n : Int)) = true := by rw [decide_eq_true_iff]; omega
    have d1' : decide (400 < n) = true := by simpa using h1
    go_enter Try.func22, Try.ntmps22
    go_wp2_with fail
    go_ret2
    exact ⟨_, _, rfl, ⟨_, _, _, rfl⟩, fun e => by (cases e), Touch.refl _ _⟩
  have d1 : decide ((400 : Int) < (n : Int)) = false := by rw [decide_eq_false_iff_not]; omega
  have d1' : decide (400 < n) = false := by simpa using h1
  go_enter Try.func22, Try.ntmps22
  go_wp2_with fail
  go_loopw [4, 5] (fun o i wr => ∃ (y : Nat) (oa : Option Addr) (ol oc : Nat), y ≤ n ∧ i = .int .i64 (y : Int) ∧ o = .slice oa ol oc ∧ Hid (PL wr o (insAll (L.take y) []) ∧ OkL (L.take y)) ∧ Touch Nil w wr) (fun _ i _ => n - (intOf i).toNat)
  case atStart => exact ⟨0, none, 0, 0, Nat.zero_le _, rfl, rfl, Lib.hid ⟨RL.nil, fun p hp => by simp at hp⟩, Touch.refl _ _⟩
  obtain ⟨y, oa, ol, oc, hy, rfl, rfl, HO, hto⟩ := hrel
  have HT := Lib.hid hto
  clear hto
  by_cases hlt : y < n
  · obtain ⟨p, hp⟩ : ∃ p, L[y]? = some p := ⟨L[y]'(by have := HN.out; omega), List.getElem?_eq_getElem _⟩
    have HPR := Lib.hid (HP.out.keepN HT.out)
    obtain ⟨b, off, rfl, hb, f, hc, hf⟩ := HPR.out.at hp
    have c0 := hc 0 (by omega)
    have c1 := hc 1 (by omega)
    rw [Nat.add_zero] at c0
    have hk0 : BV wr (f 0) p.1 := hf 0 (by omega)
    have hu0 : BV wr (f 1) p.2 := hf 1 (by omega)
    have HPM := Lib.hid (HM.out p (List.mem_of_getElem? hp))
    have HKB := Lib.hid hk0
    have HUB := Lib.hid hu0
    obtain ⟨fa, fc, ef⟩ := hk0.len'
    obtain ⟨ga, gc, eg⟩ := hu0.len'
    rw [ef] at c0 HKB
    rw [eg] at c1 HUB
    have HPE := Lib.hid hp
    have HTS := Lib.hid (show L.take (y + 1) = L.take y ++ [p] from by rw [List.take_add_one, hp]; rfl)
    have hpm := HPM.out
    have HBIG := Lib.hid (fun w' (hbig : p.1.length ≤ 1073741824 ∧ p.2.length ≤ 1073741824) => allowedR_any p.1.length p.2.length fc gc fa ga w' hbig.1 hbig.2)
    have i1 : (y : Int) < (n : Int) := by omega
    have i2 : (0 : Int) ≤ (y : Int) := by omega
    have HST := Lib.hid (show LdB b (off + y * 2) (.slice fa p.1.length fc) (.slice ga p.2.length gc) wr wr from ⟨c0, c1, Lib.hid (Touch.refl _ _)⟩)
    clear hc hf hk0 hu0 ef eg hp hpm
    have HAW : ∃ q : Bool, Hid (q = allowB p.1.length p.2.length) := ⟨_, Lib.hid rfl⟩
    obtain ⟨q, HQ⟩ := HAW
    have HAL := Lib.hid (fun w' => show Calls Try.prog 46 #[.slice fa p.1.length fc, .slice ga p.2.length gc] w' (fun e w'' => e = .returned (.bool q) ∧ w' = w'') from by
      rw [HQ.out]; exact allowedW_any p.1.length p.2.length fc gc fa ga w' HPM.out.1 HPM.out.2)
    have HPT := Lib.hid (show ∀ w', Touch Nil wr w' → q = true → Calls Try.prog 50 #[.slice oa ol oc, .slice fa p.1.length fc, .slice ga p.2.length gc] w' (ListP (putF p.1 p.2 (insAll (L.take y) [])) w') from fun w' ht hq => by
      have hok : okK p.1 p.2 := okK_iff.1 (by rw [← HQ.out, hq])
      exact putR_any (HO.out.1.keepN ht) (OkL.short (OkL.ins HO.out.2 fun p hp => by cases hp)) (by have := insAll_len (L.take y) []; rw [List.length_take] at this; simp at this; omega) (HKB.out.keepN ht) (by have := hok.2.1; omega) (HUB.out.keepN ht) (by have := hok.2.2; omega))
    have HKL := Lib.hid (show q = true → okK p.1 p.2 from fun hq => okK_iff.1 (by rw [← HQ.out, hq]))
    generalize p.1.length = kl at *
    generalize p.2.length = ul at *
    clear HBIG
    cases q with
    | false =>
      go_wp2_with fail
      go_quiet ((go_at_call 46; refine Calls.quiet_of_same (v := .bool false) ?_; exact (HAL.out _).mono fun _ _ h => ⟨h.1, h.2.symm⟩))
      go_wp2_with fail
      go_ret2
      exact ⟨_, _, rfl, ⟨_, _, _, rfl⟩, fun e => by (cases e), HT.out.drewN _⟩
    | true =>
      have HPT2 := Lib.hid (fun w' (ht : Touch Nil wr w') => HPT.out w' ht rfl)
      have HKL2 := Lib.hid (HKL.out rfl)
      clear HPT HKL
      have HINS := Lib.hid (show putF p.1 p.2 (insAll (L.take y) []) = insAll (L.take (y + 1)) [] from by
        rw [HTS.out, insAll_snoc]; exact putF_ins p.1 p.2 (insAll_srt _ List.Pairwise.nil))
      go_wp2_with fail
      go_quiet ((go_at_call 46; refine Calls.quiet_of_same (v := .bool true) ?_; exact (HAL.out _).mono fun _ _ h => ⟨h.1, h.2.symm⟩))
      go_wp2_with fail
      go_region_held3 (fun w' => w'.cell? ⟨b, off + y * 2, none⟩ = some (.slice fa kl fc) ∧ w'.cell? ⟨b, off + y * 2 + 1, none⟩ = some (.slice ga ul gc) ∧ Hid (Touch Nil wr w'))
        (first | exact HST.out.step (((Touch.refl Nil wr).drewN _).drew) | exact LdB.step (by assumption) (by assumption))
        (first
          | (go_at_call 50; refine (HPT2.out _ ((Touch.refl Nil wr).drewN _)).mono ?_; rintro e w3 ⟨v3, rfl, h3, ht3⟩; obtain ⟨va3, vl3, vc3, rfl⟩ := h3.form3; have H3 := Lib.hid (And.intro h3 (show Touch Nil wr w3 from Touch.trans ((Touch.refl Nil wr).drewN _) ht3)); clear h3))
      go_wp2_with fail
      go_roundw
      case rel => exact ⟨y + 1, va3, vl3, vc3, by omega, by go_num, rfl, Lib.hid ⟨by rw [← HINS.out]; exact H3.out.1, fun z hz => by
        rw [HTS.out, List.mem_append] at hz
        rcases hz with hz | hz
        · exact HO.out.2 z hz
        · rw [List.mem_singleton] at hz; rw [hz]; exact HKL2.out⟩, HT.out.trans H3.out.2⟩
      case measure => simp [intOf]; omega
  · obtain rfl : y = n := by omega
    have HF := Lib.hid (show L.take y = L from List.take_of_length_le (by have := HN.out; omega))
    have t1 : decide (y < y) = false := by simp
    go_wp2_with fail
    go_ret2
    exact ⟨_, _, rfl, ⟨_, _, _, rfl⟩, fun _ => ⟨by have := HN.out; omega, by have := HO.out.2; rw [HF.out] at this; exact this, by have := HO.out.1; rw [HF.out] at this; exact this⟩, HT.out⟩
end Go.Proofs.Ytkkpcndpjkebkaa

/- The law's put: all pairs of a list into a map. -/
namespace Go.Proofs.Ytkkpcndpjkebkaa
open Go.ChangeShapes Go.WideShapes Go.ChangeAt Go.RowKit Go.Deep

def PutsPost (seed : Int) (R : Nat → Prop) (mb bb : Nat) (L S : Pairs) (w : World) (e : Ending) (w' : World) : Prop :=
  e = .returned (.bool true) ∧ (∃ R' ra t, MapAt seed R' w' mb bb ra t ∧ t.toL = insAll L S ∧ (∀ b, R' b → R b ∨ (w.heap.size ≤ b ∧ b < w'.heap.size))) ∧ Touch (Just bb) w w'
/-- One more pair. -/
theorem puts_step {seed : Int} {R R1 : Nat → Prop} {w wr W w' : World} {mb bb : Nat} {ra1 : Option Addr} {t1 : Tree} {M S : Pairs} {p : Key × Key} (hm : MapAt seed R1 wr mb bb ra1 t1) (he : t1.toL = insAll M S) (hr : ∀ b, R1 b → R b ∨ (w.heap.size ≤ b ∧ b < wr.heap.size)) (ht : Touch (Just bb) w wr) (hw : Touch Nil wr W) (hp : (∃ ra, MapAt seed (Up R1 W w') w' mb bb ra (insT (abv seed) p.1 p.2 t1)) ∧ Touch (Just bb) W w') :
    (∃ R' ra t, MapAt seed R' w' mb bb ra t ∧ t.toL = insAll (M ++ [p]) S ∧ (∀ b, R' b → R b ∨ (w.heap.size ≤ b ∧ b < w'.heap.size))) ∧ Touch (Just bb) w w' := by
  obtain ⟨⟨ra, h⟩, h2⟩ := hp
  refine ⟨⟨_, ra, _, h, by rw [ins_toL (abv_ko seed) _ _ hm.srt hm.heap, he, insAll_snoc], fun b hb => ?_⟩, (ht.trans hw.of_nil).trans h2⟩
  have s1 := ht.size
  have s2 := hw.size
  have s3 := h2.size
  rcases hb with hb | ⟨hb, hb'⟩
  · rcases hr b hb with c | ⟨c, c'⟩
    · exact .inl c
    · exact .inr ⟨c, by omega⟩
  · exact .inr ⟨by omega, hb'⟩

set_option maxRecDepth 100000 in
set_option maxHeartbeats 4000000 in
theorem puts_any {seed : Int} {R : Nat → Prop} {w : World} {mb bb : Nat} {ra : Option Addr} {t : Tree} {x : Value} {L : Pairs} (h : MapAt seed R w mb bb ra t) (hl : PL w x L) (ho : OkL L) (hsz : t.size + L.length ≤ 99999) (hR : ∀ b, R b → b < w.heap.size) :
    Calls Try.prog 23 #[.pointer (some ⟨mb, 0, none⟩), x, .bool false] w (PutsPost seed R mb bb L t.toL w) := by
  obtain ⟨ao, cap, rfl⟩ := hl.form
  have HP := Lib.hid hl
  have HM := Lib.hid h
  have HO := Lib.hid ho
  have HR := Lib.hid hR
  have HE : ∃ n, L.length = n := ⟨_, rfl⟩
  obtain ⟨n, en⟩ := HE
  have HTZ := Lib.hid (size_toL t)
  rw [en] at HP hsz ⊢
  have HN := Lib.hid en
  have HSZ := Lib.hid hsz
  have hn : n ≤ 100000 := by omega
  have HBY := Lib.hid h.bodyish
  generalize hS : t.toL = S at *
  have HS := Lib.hid hS
  clear h hl ho en hsz hR hS
  go_enter Try.func23, Try.ntmps23
  go_wp2_with fail
  go_loopw [7] (fun i wr => ∃ (y : Nat) (R1 : Nat → Prop) (ra1 : Option Addr) (t1 : Tree), y ≤ n ∧ i = .int .i64 (y : Int) ∧ Hid (MapAt seed R1 wr mb bb ra1 t1 ∧ t1.toL = insAll (L.take y) S ∧ (∀ b, R1 b → R b ∨ (w.heap.size ≤ b ∧ b < wr.heap.size))) ∧ Touch (Just bb) w wr) (fun i _ => n - (intOf i).toNat)
  case atStart => exact ⟨0, R, ra, t, Nat.zero_le _, rfl, Lib.hid ⟨HM.out, by rw [HS.out]; rfl, fun b hb => .inl hb⟩, Touch.refl _ _⟩
  obtain ⟨y, R1, ra1, t1, hy, rfl, HX, hto⟩ := hrel
  have HT := Lib.hid hto
  clear hto
  by_cases hlt : y < n
  · have HPR := Lib.hid (HP.out.keepB HT.out HBY.out)
    obtain ⟨p, hp⟩ : ∃ p, L[y]? = some p := ⟨L[y]'(by have := HN.out; omega), List.getElem?_eq_getElem _⟩
    obtain ⟨b, off, rfl, hb, f, hc, hf⟩ := HPR.out.at hp
    have c0 := hc 0 (by omega)
    have c1 := hc 1 (by omega)
    rw [Nat.add_zero] at c0
    obtain ⟨fa, fc, ef⟩ := (show BV wr (f 0) p.1 from hf 0 (by omega)).len'
    obtain ⟨ga, gc, eg⟩ := (show BV wr (f 1) p.2 from hf 1 (by omega)).len'
    have HK := Lib.hid (show BV wr (f 0) p.1 from hf 0 (by omega))
    have HU := Lib.hid (show BV wr (f 1) p.2 from hf 1 (by omega))
    rw [ef] at c0 HK
    rw [eg] at c1 HU
    have HOK := Lib.hid (HO.out _ (List.mem_of_getElem? hp))
    have HTS := Lib.hid (show L.take (y + 1) = L.take y ++ [p] from by rw [List.take_add_one, hp]; rfl)
    have HTZ1 := Lib.hid (show t1.size < 100000 from by
      rw [size_toL, HX.out.2.1]
      have h1 := insAll_len (L.take y) S
      rw [List.length_take] at h1
      have h2 := HTZ.out
      have h3 := HSZ.out
      omega)
    have hta := (Touch.refl Nil wr).alloc (.cells #[.slice fa p.1.length fc, .slice ga p.2.length gc] 45)
    have HTA := Lib.hid hta
    have HPU := Lib.hid (put_map (HX.out.1.keepN hta) (HK.out.keepN hta) (HU.out.keepN hta) (okK_iff.2 HOK.out) HTZ1.out)
    generalize p.1.length = kl at *
    generalize p.2.length = ul at *
    have i1 : (y : Int) < (n : Int) := by omega
    have i2 : (0 : Int) ≤ (y : Int) := by omega
    have t0 : decide (y < n) = true := by simpa using hlt
    have e0 : (((0 : Int)) != 0) = false := rfl
    clear hc hf ef eg hp hta
    go_wp2_with fail
    refine HPU.out.mono ?_
    rintro e w2 ⟨rfl, hm2, ht2⟩
    have H2 := Lib.hid (puts_step HX.out.1 HX.out.2.1 HX.out.2.2 HT.out HTA.out ⟨hm2, ht2⟩)
    clear hm2 ht2
    go_wp2_with fail
    obtain ⟨⟨R2, ra2, t2, q1, q2, q3⟩, q4⟩ := H2.out
    have Q := Lib.hid (And.intro q1 (And.intro q2 q3))
    have Q4 := Lib.hid q4
    clear q1 q2 q3 q4 H2
    go_roundw
    case rel => exact ⟨y + 1, R2, ra2, t2, by omega, by go_num, Lib.hid ⟨Q.out.1, by rw [HTS.out]; exact Q.out.2.1, Q.out.2.2⟩, Q4.out⟩
    case measure => simp [intOf]; omega
  · obtain rfl : y = n := by omega
    have HF := Lib.hid (show L.take y = L from List.take_of_length_le (by  have := HN.out; omega))
    have tq : decide (y < y) = false := by simp
    go_wp2_with fail
    go_ret
    exact ⟨rfl, ⟨R1, ra1, t1, HX.out.1, by have := HX.out.2.1; rw [HF.out] at this; exact this, HX.out.2.2⟩, HT.out⟩

set_option maxRecDepth 100000 in
set_option maxHeartbeats 4000000 in
theorem putsB_any {seed : Int} {R : Nat → Prop} {w : World} {mb bb : Nat} {ra : Option Addr} {t : Tree} {x : Value} {L : Pairs} (h : MapAt seed R w mb bb ra t) (hl : PL w x L) (ho : OkL L) (hsz : t.size + L.length ≤ 99999) (hR : ∀ b, R b → b < w.heap.size) :
    Calls Try.prog 23 #[.pointer (some ⟨mb, 0, none⟩), x, .bool true] w (PutsPost seed R mb bb L.reverse t.toL w) := by
  obtain ⟨ao, cap, rfl⟩ := hl.form
  have HP := Lib.hid hl
  have HM := Lib.hid h
  have HO := Lib.hid ho
  have HR := Lib.hid hR
  have HE : ∃ n, L.length = n := ⟨_, rfl⟩
  obtain ⟨n, en⟩ := HE
  have HTZ := Lib.hid (size_toL t)
  rw [en] at HP hsz ⊢
  have HN := Lib.hid en
  have HSZ := Lib.hid hsz
  have hn : n ≤ 100000 := by omega
  have HBY := Lib.hid h.bodyish
  generalize hS : t.toL = S at *
  have HS := Lib.hid hS
  clear h hl ho en hsz hR hS
  go_enter Try.func23, Try.ntmps23
  go_wp2_with fail
  go_loopw [7] (fun i wr => ∃ (y : Nat) (R1 : Nat → Prop) (ra1 : Option Addr) (t1 : Tree), y ≤ n ∧ i = .int .i64 (y : Int) ∧ Hid (MapAt seed R1 wr mb bb ra1 t1 ∧ t1.toL = insAll (L.reverse.take y) S ∧ (∀ b, R1 b → R b ∨ (w.heap.size ≤ b ∧ b < wr.heap.size))) ∧ Touch (Just bb) w wr) (fun i _ => n - (intOf i).toNat)
  case atStart => exact ⟨0, R, ra, t, Nat.zero_le _, rfl, Lib.hid ⟨HM.out, by rw [HS.out]; rfl, fun b hb => .inl hb⟩, Touch.refl _ _⟩
  obtain ⟨y, R1, ra1, t1, hy, rfl, HX, hto⟩ := hrel
  have HT := Lib.hid hto
  clear hto
  by_cases hlt : y < n
  · have HPR := Lib.hid (HP.out.keepB HT.out HBY.out)
    obtain ⟨p, hp⟩ : ∃ p, L[y]? = some p := ⟨L[y]'(by have := HN.out; omega), List.getElem?_eq_getElem _⟩
    obtain ⟨z, hz⟩ : ∃ z : Nat, z = n - 1 - y := ⟨_, rfl⟩
    have hzn : z < n := by omega
    have hzc : (n : Int) - 1 - (y : Int) = (z : Int) := by omega
    obtain ⟨p2, hp2⟩ : ∃ p, L[z]? = some p := ⟨L[z]'(by have := HN.out; omega), List.getElem?_eq_getElem _⟩
    have hrv : L.reverse[y]? = some p2 := by rw [List.getElem?_reverse (by have := HN.out; omega)]; rw [show L.length - 1 - y = z by have := HN.out; omega]; exact hp2
    obtain ⟨b, off, rfl, hb, f, hc, hf⟩ := HPR.out.at hp
    have c0 := hc 0 (by omega)
    have c1 := hc 1 (by omega)
    rw [Nat.add_zero] at c0
    obtain ⟨fa, fc, ef⟩ := (show BV wr (f 0) p.1 from hf 0 (by omega)).len'
    obtain ⟨ga, gc, eg⟩ := (show BV wr (f 1) p.2 from hf 1 (by omega)).len'
    have HK := Lib.hid (show BV wr (f 0) p.1 from hf 0 (by omega))
    have HU := Lib.hid (show BV wr (f 1) p.2 from hf 1 (by omega))
    rw [ef] at c0 HK
    rw [eg] at c1 HU
    obtain ⟨b', off', e2, hb2, f2, hc2, hf2⟩ := HPR.out.at hp2
    cases e2
    have d0 := hc2 0 (by omega)
    have d1 := hc2 1 (by omega)
    rw [Nat.add_zero] at d0
    obtain ⟨fa2, fc2, ef2⟩ := (show BV wr (f2 0) p2.1 from hf2 0 (by omega)).len'
    obtain ⟨ga2, gc2, eg2⟩ := (show BV wr (f2 1) p2.2 from hf2 1 (by omega)).len'
    have HK2 := Lib.hid (show BV wr (f2 0) p2.1 from hf2 0 (by omega))
    have HU2 := Lib.hid (show BV wr (f2 1) p2.2 from hf2 1 (by omega))
    rw [ef2] at d0 HK2
    rw [eg2] at d1 HU2
    have hz0 : (0 : Int) ≤ (z : Int) := by omega
    have hzi : (z : Int) < (n : Int) := by omega
    clear hc2 hf2 ef2 eg2 hz
    have HOK := Lib.hid (HO.out _ (List.mem_of_getElem? hp2))
    have HTS := Lib.hid (show L.reverse.take (y + 1) = L.reverse.take y ++ [p2] from by rw [List.take_add_one, hrv]; rfl)
    have HTZ1 := Lib.hid (show t1.size < 100000 from by
      rw [size_toL, HX.out.2.1]
      have h1 := insAll_len (L.reverse.take y) S
      rw [List.length_take] at h1
      have h2 := HTZ.out
      have h3 := HSZ.out
      omega)
    have hta := (Touch.refl Nil wr).alloc (.cells #[.slice fa2 p2.1.length fc2, .slice ga2 p2.2.length gc2] 45)
    have HTA := Lib.hid hta
    have HPU := Lib.hid (put_map (HX.out.1.keepN hta) (HK2.out.keepN hta) (HU2.out.keepN hta) (okK_iff.2 HOK.out) HTZ1.out)
    generalize p.1.length = kl at *
    generalize p.2.length = ul at *
    generalize p2.1.length = kl2 at *
    generalize p2.2.length = ul2 at *
    have i1 : (y : Int) < (n : Int) := by omega
    have i2 : (0 : Int) ≤ (y : Int) := by omega
    have t0 : decide (y < n) = true := by simpa using hlt
    have e0 : (((0 : Int)) != 0) = false := rfl
    clear hc hf ef eg hp hta hrv hp2
    go_wp2_with fail
    refine HPU.out.mono ?_
    rintro e w2 ⟨rfl, hm2, ht2⟩
    have H2 := Lib.hid (puts_step HX.out.1 HX.out.2.1 HX.out.2.2 HT.out HTA.out ⟨hm2, ht2⟩)
    clear hm2 ht2
    go_wp2_with fail
    obtain ⟨⟨R2, ra2, t2, q1, q2, q3⟩, q4⟩ := H2.out
    have Q := Lib.hid (And.intro q1 (And.intro q2 q3))
    have Q4 := Lib.hid q4
    clear q1 q2 q3 q4 H2
    go_roundw
    case rel => exact ⟨y + 1, R2, ra2, t2, by omega, by go_num, Lib.hid ⟨Q.out.1, by rw [HTS.out]; exact Q.out.2.1, Q.out.2.2⟩, Q4.out⟩
    case measure => simp [intOf]; omega
  · obtain rfl : y = n := by omega
    have HF := Lib.hid (show L.reverse.take y = L.reverse from List.take_of_length_le (by rw [List.length_reverse]; have := HN.out; omega))
    have tq : decide (y < y) = false := by simp
    go_wp2_with fail
    go_ret
    exact ⟨rfl, ⟨R1, ra1, t1, HX.out.1, by have := HX.out.2.1; rw [HF.out] at this; exact this, HX.out.2.2⟩, HT.out⟩
end Go.Proofs.Ytkkpcndpjkebkaa
