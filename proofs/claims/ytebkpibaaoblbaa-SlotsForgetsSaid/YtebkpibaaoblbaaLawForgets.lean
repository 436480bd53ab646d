/-
  SlotsForgets: for every seed and both scripts the law returns true: two tables with the same pairs have one image, the same cells, and as many looks.
  No condition beside the statement's own.
-/
import Derived.Test.YtebkpibaaoblbaaDuo
import Derived.Test.YtebkpibaaoblbaaSame
namespace Go.Proofs.Ytebkpibaaoblbaa
open Go.ChangeShapes Go.WideShapes Go.ChangeAt Go.RowKit Go.Deep

theorem infoBytes : (Try.prog.info? 23).map (fun i => (i.zero, i.size, i.bytes)) = some (some (.slice none 0 0), 1, 24) := by kernel_rfl

/-- The pairs that a script leaves have keys of the script, and are allowed. -/
def OfKeys (key : Nat → Key) (n : Nat) (S : Key × Key → Prop) : Prop := ∀ x, S x → (∃ j, j < n ∧ x.1 = key j) ∧ allowB x.1 x.2 = true
theorem OfKeys.put {key : Nat → Key} {n : Nat} {S : Key × Key → Prop} (h : OfKeys key n S) (val : Key) : OfKeys key (n + 1) (updS S (key n) val) := by
  intro x hx
  unfold updS at hx
  by_cases ha : allowB (key n) val = true
  · rw [if_pos ha] at hx
    rcases hx with ⟨_, hx⟩ | rfl
    · obtain ⟨⟨j, hj, e⟩, h2⟩ := h x hx
      exact ⟨⟨j, by omega, e⟩, h2⟩
    · exact ⟨⟨n, by omega, rfl⟩, ha⟩
  · rw [if_neg ha] at hx
    obtain ⟨⟨j, hj, e⟩, h2⟩ := h x hx
    exact ⟨⟨j, by omega, e⟩, h2⟩
theorem OfKeys.drop {key : Nat → Key} {n : Nat} {S : Key × Key → Prop} (h : OfKeys key n S) (k : Key) : OfKeys key (n + 1) (fun x => S x ∧ x.1 ≠ k) := fun x hx => by
  obtain ⟨⟨j, hj, e⟩, h2⟩ := h x hx.1
  exact ⟨⟨j, by omega, e⟩, h2⟩

/-- Keys that are still to be dropped. -/
def RestK (key : Nat → Key) (i n : Nat) (U : Key × Key → Prop) : Prop := ∀ q, U q → ∃ j, i ≤ j ∧ j < n ∧ q.1 = key j
theorem RestK.drop {key : Nat → Key} {i n : Nat} {U : Key × Key → Prop} (h : RestK key i n U) : RestK key (i + 1) n (fun q => U q ∧ q.1 ≠ key i) := fun q hq => by
  obtain ⟨j, h1, h2, e⟩ := h q hq.1
  have hne : j ≠ i := fun hji => hq.2 (by rw [e, hji])
  exact ⟨j, by omega, h2, e⟩
theorem RestK.none {key : Nat → Key} {n : Nat} {U : Key × Key → Prop} (h : RestK key n n U) : ∀ q, ¬ U q := fun q hq => by
  obtain ⟨j, h1, h2, _⟩ := h q hq
  omega
/-- Of the pairs of S, those of the keys behind place k. -/
def LaterK (key : Nat → Key) (n : Nat) (k : Int) (S U : Key × Key → Prop) : Prop := ∀ q, U q ↔ S q ∧ ∃ j : Nat, k < (j : Int) ∧ j < n ∧ q.1 = key j
theorem LaterK.skip {key : Nat → Key} {n z : Nat} {S U : Key × Key → Prop} (h : LaterK key n z S U) (hz : z < n) (hno : ∀ v, ¬ S (key z, v)) : LaterK key n ((z : Int) - 1) S U := fun q => by
  rw [h q]
  constructor
  · rintro ⟨hs, j, h1, h2, e⟩
    exact ⟨hs, j, by omega, h2, e⟩
  · rintro ⟨hs, j, h1, h2, e⟩
    refine ⟨hs, j, ?_, h2, e⟩
    by_cases hj : j = z
    · subst hj
      exact (hno q.2 (by rw [← e]; exact hs)).elim
    · omega
theorem LaterK.put {key : Nat → Key} {n z : Nat} {S U : Key × Key → Prop} {v : Key} (h : LaterK key n z S U) (hz : z < n) (hs : ∀ v', v = v' ↔ S (key z, v')) (ha : allowB (key z) v = true) : LaterK key n ((z : Int) - 1) S (updS U (key z) v) := fun q => by
  unfold updS
  rw [if_pos ha]
  constructor
  · rintro (⟨hne, hq⟩ | rfl)
    · obtain ⟨h0, j, h1, h2, e⟩ := (h q).1 hq
      exact ⟨h0, j, by omega, h2, e⟩
    · exact ⟨(hs v).1 rfl, z, by omega, hz, rfl⟩
  · rintro ⟨h0, j, h1, h2, e⟩
    by_cases hk : q.1 = key z
    · right
      obtain ⟨q1, q2⟩ := q
      cases hk
      rw [(hs q2).2 h0]
    · left
      refine ⟨hk, (h q).2 ⟨h0, j, ?_, h2, e⟩⟩
      by_cases hj : j = z
      · exact (hk (by rw [e, hj])).elim
      · omega

theorem Duo.same {B : Nat} {w : World} {t u : Value} {seed : Int} {m k : Nat} {S U : Key × Key → Prop} (h : Duo B w t u seed m k S U) (hU : ∀ q, U q ↔ S q) : Duo B w t u seed m k S S := by
  obtain ⟨R, n, C, T, R', n', C', T', h1, h2, h3, h4, h5, h6, h7, h8, h9, h10, h11⟩ := h
  exact ⟨R, n, C, T, R', n', C', T', h1, h2, h3, h4, h5, h6, h7, h8, h9, h10, fun q => (h11 q).trans (hU q)⟩
/-- Two tables of one content are one table. -/
theorem duo_both {B : Nat} {w : World} {t u : Value} {seed : Int} {m k : Nat} {S : Key × Key → Prop} (h : Duo B w t u seed m k S S) : ∃ R R' n C T T', Tab R w t seed n C T ∧ Tab R' w u seed n C T' ∧ (∀ c, c < C → T c = T' c) := by
  obtain ⟨R, n, C, T, R', n', C', T', h1, h2, _, _, _, _, _, _, _, h10, h11⟩ := h
  obtain ⟨rfl, rfl, hT⟩ := good_unique h1.good h2.good fun q => (h10 q).trans (h11 q).symm
  exact ⟨R, R', n, C, T, T', h1, h2, hT⟩
theorem duo_looks {B : Nat} {w : World} {t u : Value} {seed : Int} {m k : Nat} {S : Key × Key → Prop} (h : Duo B w t u seed m k S S) (key : Key) (kx : Value) (hk : BV w kx key) (hkl : key.length ≤ 1048576) :
    ∃ c : Nat, ∀ w', Touch Nil w w' → ∀ tt, (tt = t ∨ tt = u) → Calls Try.prog 41 #[tt, kx] w' (LooksPost c w') := by
  obtain ⟨R, R', n, C, T, T', h1, h2, hT⟩ := duo_both h
  have hC := h1.good.free.1
  have e := seekN_congr (bf := bfS seed) hT (homS_lt (C := C) (by omega) seed key)
  refine ⟨seekN (bfS seed) (homS seed C) C T key + 1, fun w' ht tt htt => ?_⟩
  rcases htt with rfl | rfl
  · exact looks_any (h1.keepN ht) key kx (hk.keepN ht) hkl
  · rw [e]
    exact looks_any (h2.keepN ht) key kx (hk.keepN ht) hkl
theorem image_len {R : Nat → Prop} {w : World} {t : Value} {seed : Int} {n C : Nat} {T : Cells} (h : Tab R w t seed n C T) : (imageB n C T).length ≤ 400000000 := by
  have hC := h.good.free.2.1
  obtain ⟨⟨_, _, _, vv, _, _, _, hB⟩, _, _⟩ := h
  have := bodyB_len (T := T) (C := C) (fun c hc k v e => by have := hB.pair hc e; exact ⟨this.2.2.2.1, this.2.2.2.2⟩) C (Nat.le_refl _)
  unfold imageB
  rw [List.length_append]
  have : (headB n).length ≤ 1000 := by simp [headB]
  omega
theorem keys_row {base n n2 cap : Nat} {ao ao2 qa : Option Addr} {v v2 : Nat → Nat → Value} {kd kd2 : Nat → Int} {key val key2 val2 : Nat → Key} {w : World}
    (h : w.ownsRow base 23 1 (.slice qa (n + n2) cap) (n + n2) (flat 1 (fun j _ => v j 1) n ++ flat 1 (fun j _ => v2 j 1) n2)) (hs : Scr w ao n v kd key val) (hs2 : Scr w ao2 n2 v2 kd2 key2 val2)
    (hl : ∀ i, i < n → (key i).length ≤ 1200 ∧ (val i).length ≤ 1200) (hl2 : ∀ i, i < n2 → (key2 i).length ≤ 1200 ∧ (val2 i).length ≤ 1200) :
    ∀ j, j < n + n2 → ∃ g a1 k1, ∃ kk : Key, qa = some ⟨g, 0, none⟩ ∧ w.cell? ⟨g, j, none⟩ = some (.slice a1 kk.length k1) ∧ BV w (.slice a1 kk.length k1) kk ∧ kk.length ≤ 1048576 := fun j hj => by
  obtain ⟨qa', qcap', e, hrow⟩ := own_row h
  cases e
  obtain ⟨g, rfl, _, _, hc⟩ := hrow (by omega)
  have cj := hc j (by omega)
  have l1 := flat_len 1 (fun j _ => v j 1) n
  by_cases hlt : j < n
  · obtain ⟨hk, _⟩ := hs.keys j hlt
    have := (hl j hlt).1
    have hk' := hk
    obtain ⟨a1, k1, e1, _, _⟩ := hk
    have ef := flat_get 1 (fun j _ => v j 1) n j 0 hlt (by omega)
    simp only [Nat.mul_one, Nat.add_zero] at ef
    rw [List.getElem?_append_left (by omega), ef, e1] at cj
    rw [e1] at hk'
    exact ⟨g, a1, k1, key j, rfl, cj, hk', by omega⟩
  · have hlt2 : j - n < n2 := by omega
    obtain ⟨hk, _⟩ := hs2.keys (j - n) hlt2
    have := (hl2 (j - n) hlt2).1
    have hk' := hk
    obtain ⟨a1, k1, e1, _, _⟩ := hk
    have ef := flat_get 1 (fun j _ => v2 j 1) n2 (j - n) 0 hlt2 (by omega)
    simp only [Nat.mul_one, Nat.add_zero] at ef
    rw [List.getElem?_append_right (by omega), l1, Nat.mul_one, ef, e1] at cj
    rw [e1] at hk'
    exact ⟨g, a1, k1, key2 (j - n), rfl, cj, hk', by omega⟩

/-- What is known while two calls look for one key. -/
abbrev LkS (b p : Nat) (y : Value) (w0 w : World) : Prop := w.cell? ⟨b, p, none⟩ = some y ∧ Hid (Touch Nil w0 w)
theorem LkS.of {b p : Nat} {y : Value} {w0 w : World} (h : w0.cell? ⟨b, p, none⟩ = some y) (ht : Touch Nil w0 w) : LkS b p y w0 w := ⟨(ht.cell (World.block_lt_of_cell? w0 _ h) (fun c => c) p).trans h, Lib.hid ht⟩
theorem LkS.step {b p : Nat} {y : Value} {w0 w w' : World} (h : LkS b p y w0 w) (hs : Touch Nil w w') : LkS b p y w0 w' :=
  ⟨(hs.cell (World.block_lt_of_cell? w _ h.1) (fun c => c) p).trans h.1, Lib.hid (h.2.out.trans hs)⟩
/-- The bytes L handed out. -/
def SeenB (L : List UInt8) (w : World) (e : Ending) (w' : World) : Prop := ∃ ao cap, e = .returned (.slice ao L.length cap) ∧ SlI w' .u8 ao (ub L) ∧ Touch Nil w w'
theorem image_seen {R : Nat → Prop} {w : World} {t : Value} {seed : Int} {n C : Nat} {T : Cells} (h : Tab R w t seed n C T) : Calls Try.prog 30 #[t] w (SeenB (imageB n C T) w) :=
  (image_any h).mono fun e w' ⟨v, he, hv, ht⟩ => by
    obtain ⟨ao, cap, rfl, _, hs⟩ := hv.bv
    exact ⟨ao, cap, he, hs, ht⟩
theorem duo_image {R R' : Nat → Prop} {w : World} {t u : Value} {seed : Int} {n C : Nat} {T T' : Cells} (h1 : Tab R w t seed n C T) (h2 : Tab R' w u seed n C T') (hT : ∀ c, c < C → T c = T' c) :
    ∃ L : List UInt8, L.length ≤ 400000000 ∧ ∀ w', Touch Nil w w' → Calls Try.prog 30 #[t] w' (SeenB L w') ∧ Calls Try.prog 30 #[u] w' (SeenB L w') := by
  have e : imageB n C T = imageB n C T' := by unfold imageB; rw [bodyB_congr C hT]
  refine ⟨imageB n C T, image_len h1, fun w' ht => ⟨image_seen (h1.keepN ht), ?_⟩⟩
  rw [e]
  exact image_seen (h2.keepN ht)
/-- The cells handed out. -/
def CellsV (C : Nat) (T : Cells) (w : World) (e : Ending) (w' : World) : Prop := ∃ b f, e = .returned (.slice (some ⟨b, 0, none⟩) C C) ∧ Cls w' (some ⟨b, 0, none⟩) C f T ∧ Touch Nil w w'
theorem cells_seen {R : Nat → Prop} {w : World} {t : Value} {seed : Int} {n C : Nat} {T : Cells} (h : Tab R w t seed n C T) : Calls Try.prog 35 #[t] w (CellsV C T w) :=
  (cells_any h).mono fun _ _ ⟨b, f, he, _, hrow, hsh, ht⟩ => ⟨b, f, he, shown_cls h hrow hsh, ht⟩
theorem duo_cells {R R' : Nat → Prop} {w : World} {t u : Value} {seed : Int} {n C : Nat} {T T' : Cells} (h1 : Tab R w t seed n C T) (h2 : Tab R' w u seed n C T') :
    ∀ w', Touch Nil w w' → Calls Try.prog 35 #[t] w' (CellsV C T w') ∧ Calls Try.prog 35 #[u] w' (CellsV C T' w') :=
  fun _ ht => ⟨cells_seen (h1.keepN ht), cells_seen (h2.keepN ht)⟩
theorem same_self (L : List UInt8) (ao bo : Option Addr) (c1 c2 : Nat) (w : World) (hl : L.length ≤ 9223372036854775807) (ha : SlI w .u8 ao (ub L)) (hb : SlI w .u8 bo (ub L)) :
    Calls Try.prog 25 #[.slice ao L.length c1, .slice bo L.length c2] w (BoolN true w) := by
  have := same_any L L ao bo c1 c2 w hl hl ha hb
  rw [decide_eq_true (rfl : L = L)] at this
  exact this

set_option maxRecDepth 100000 in
set_option maxHeartbeats 4000000 in
theorem lawForgets_any (seed : Int) (n cap : Nat) (ao : Option Addr) (v : Nat → Nat → Value) (kd : Nat → Int) (key val : Nat → Key) (n2 cap2 : Nat) (ao2 : Option Addr) (v2 : Nat → Nat → Value) (kd2 : Nat → Int) (key2 val2 : Nat → Key) (w : World)
    (hm : n ≤ 9223372036854775807) (hscr : Scr w ao n v kd key val) (hm2 : n2 ≤ 9223372036854775807) (hscr2 : Scr w ao2 n2 v2 kd2 key2 val2) :
    Calls Try.prog 8 #[.int .u64 seed, .slice ao n cap, .slice ao2 n2 cap2] w fun e w' => e = .returned (.bool true) ∧ Below w.heap.size w w' := by
  have HS := Lib.hid hscr
  have HS2 := Lib.hid hscr2
  have HFEW := Lib.hid (few_any cap hscr hm)
  have HFEW2 := Lib.hid (few_any cap2 hscr2 hm2)
  clear hscr hscr2
  cases hfew : fewB n key val
  case false =>
    rw [hfew] at HFEW
    clear hfew HFEW2
    go_enter Try.func8, Try.ntmps8
    go_wp2_with fail
    refine HFEW.out.mono ?_
    rintro e w' ⟨rfl, rfl⟩
    go_wp2_with fail
    refine (awake_any _).mono ?_
    rintro e w' ⟨rfl, ht⟩
    go_wp2_with fail
    go_ret
    exact ⟨rfl, ht.below_nil⟩
  rw [hfew] at HFEW
  have hfw := of_decide_eq_true hfew
  obtain ⟨hn120, hlens⟩ := hfw
  have HL := Lib.hid hlens
  clear hfew hlens hm
  cases hfew : fewB n2 key2 val2
  case false =>
    rw [hfew] at HFEW2
    clear hfew
    go_enter Try.func8, Try.ntmps8
    go_wp2_with fail
    refine HFEW.out.mono ?_
    rintro e w' ⟨rfl, rfl⟩
    go_wp2_with fail
    refine HFEW2.out.mono ?_
    rintro e w' ⟨rfl, rfl⟩
    go_wp2_with fail
    refine (awake_any _).mono ?_
    rintro e w' ⟨rfl, ht⟩
    go_wp2_with fail
    go_ret
    exact ⟨rfl, ht.below_nil⟩
  rw [hfew] at HFEW2
  have hfw := of_decide_eq_true hfew
  obtain ⟨hn2120, hlens⟩ := hfw
  have HL2 := Lib.hid hlens
  clear hfew hlens hm2
  go_enter Try.func8, Try.ntmps8
  go_wp2_with fail
  refine HFEW.out.mono ?_
  rintro e w' ⟨rfl, rfl⟩
  clear HFEW
  go_wp2_with fail
  refine HFEW2.out.mono ?_
  rintro e w' ⟨rfl, rfl⟩
  clear HFEW2
  go_wp2_with fail
  refine (new_any seed w).mono ?_
  rintro e w1 ⟨t, rfl, hT, ht⟩
  obtain ⟨bt, htf⟩ : ∃ bt, t = .pointer (some ⟨bt, 0, none⟩) := by obtain ⟨⟨bt, _, _, _, e, _⟩, _, _⟩ := hT; exact ⟨bt, e⟩
  subst htf
  have HTA := Lib.hid hT
  have HW1 := Lib.hid ht
  clear hT ht
  go_wp2_with fail
  refine (new_any seed w1).mono ?_
  rintro e w2 ⟨t, rfl, hT, ht⟩
  obtain ⟨bu, htf⟩ : ∃ bt, t = .pointer (some ⟨bt, 0, none⟩) := by obtain ⟨⟨bt, _, _, _, e, _⟩, _, _⟩ := hT; exact ⟨bt, e⟩
  subst htf
  have HDU := Lib.hid (show Duo w.heap.size w2 (.pointer (some ⟨bt, 0, none⟩)) (.pointer (some ⟨bu, 0, none⟩)) seed 0 0 (fun _ => False) (fun _ => False) from by
    have h1 := (HTA.out.tight).keepN ht
    have h2 := hT.tight
    have hno : ∀ x : Key × Key, InT 8 (fun _ => none) x ↔ False := fun x => ⟨fun ⟨c, _, e⟩ => (by cases e), fun h => h.elim⟩
    exact ⟨_, 0, 8, _, _, 0, 8, _, h1, h2, fun b hb => hb.2.keepN ht, fun b hb => hb.2, fun b hb => hb.1.1, fun b hb => Nat.le_trans HW1.out.size hb.1.1, fun b hb hb' => by have := hb.1.2; have := hb'.1.1; omega, Nat.le_refl _, Nat.le_refl _, hno, hno⟩)
  have HW2 := Lib.hid (HW1.out.trans ht)
  clear hT ht HTA HW1
  have HO := Lib.hid (own_lower (base' := w.heap.size) (own_empty w2 23 1) HW2.out.size)
  have HDU2 := Lib.hid (HDU.out.keepN ((Touch.refl Nil w2).alloc (.cells #[] 23)))
  have HW3 := Lib.hid (HW2.out.alloc (.cells #[] 23))
  clear HDU HW2
  go_wp2_with fail
  go_loopw [9, 10] (fun q i wr => ∃ (x : Nat) (S : Key × Key → Prop), x ≤ n ∧ i = .int .i64 (x : Int) ∧ Duo w.heap.size wr (.pointer (some ⟨bt, 0, none⟩)) (.pointer (some ⟨bu, 0, none⟩)) seed x 0 S (fun _ => False) ∧ OfKeys key x S ∧ wr.ownsRow w.heap.size 23 1 q x (flat 1 (fun j _ => v j 1) x) ∧ Touch Nil w wr) (fun _ i _ => n - (intOf i).toNat)
  case atStart => exact ⟨0, _, Nat.zero_le _, rfl, HDU2.out, fun x h => h.elim, HO.out, HW3.out⟩
  obtain ⟨x, S, hx, rfl, hdu, hok, hown, hto⟩ := hrel
  obtain ⟨qa, qcap, rfl, _⟩ := own_row hown
  have HD := Lib.hid hdu
  have HOK := Lib.hid hok
  have HOW := Lib.hid hown
  have HTO := Lib.hid hto
  clear hdu hok hown hto
  by_cases hlt : x < n
  ·
    have HSR := Lib.hid (HS.out.keepN HTO.out)
    obtain ⟨b, off, rfl, hb, hcell⟩ := HSR.out.cells (by omega)
    have HCELL := Lib.hid hcell
    have c0 := hcell x hlt 0 (by omega)
    have c1 := hcell x hlt 1 (by omega)
    have c2 := hcell x hlt 2 (by omega)
    rw [HSR.out.kind x hlt, Nat.add_zero] at c0
    obtain ⟨hk, lk⟩ := HSR.out.keys x hlt
    obtain ⟨hv, lv⟩ := HSR.out.vals x hlt
    have hl := HL.out x hlt
    have HK := Lib.hid hk
    have HV := Lib.hid hv
    obtain ⟨a1, k1, e1, _, _⟩ := hk
    obtain ⟨a2, k2, e2, _, _⟩ := hv
    rw [e1] at c1 HK
    rw [e2] at c2 HV
    have HE1 := Lib.hid e1
    have i1 : (x : Int) < (n : Int) := by omega
    have i2 : (0 : Int) ≤ (x : Int) := by omega
    have HSZ := Lib.hid HTO.out.size
    have hkl : (key x).length ≤ 1048576 := by omega
    have hvl : (val x).length ≤ 1048576 := by omega
    have HC1 := Lib.hid (show ∀ w4, Touch (FromT w.heap.size wr) wr w4 → w4.cell? ⟨b, off + x * 3 + 1, none⟩ = some (.slice a1 (key x).length k1) from fun w4 hT => (hT.cell (World.block_lt_of_cell? wr _ c1) (fun h => by
      obtain ⟨b', o', e', hb', _⟩ := HS.out.cells (by omega)
      cases e'
      have h1 : w.heap.size ≤ b := h.1
      omega) _).trans c1)
    clear hcell e1 e2 lk lv hl HCELL
    by_cases hkd : kd x = 1
    · have hb1 : ((kd x : Int) == 1) = true := by simp [hkd]
      clear hkd
      have HDR := Lib.hid ((duo_drop HD.out HSZ.out (key x) _ HK.out hkl).mono fun _ _ h => h.some)
      have HOKD := Lib.hid (HOK.out.drop (key x))
      generalize hkk : (key x).length = kl at *
      generalize kd x = kx at *
      go_wp2_with fail
      refine HDR.out.mono ?_
      rintro e w4 ⟨c4, rfl, hd4, ht4⟩
      have HD4 := Lib.hid (show Duo w.heap.size w4 (.pointer (some ⟨bt, 0, none⟩)) (.pointer (some ⟨bu, 0, none⟩)) seed (x + 1) 0 (fun y => S y ∧ y.1 ≠ key x) (fun _ => False) from by
        obtain ⟨R, n1, C, T, R', n1', C', T', q1, q2, q3, q4, q5, q6, q7, q8, q9, q10, q11⟩ := hd4
        exact ⟨R, n1, C, T, R', n1', C', T', q1, q2, q3, q4, q5, q6, q7, by omega, q9, q10, q11⟩)
      have HT4 := Lib.hid ht4
      have HOK4 := HOKD
      clear hd4 ht4 HDR hkk
      have HROW4 := Lib.hid (fromT_row HOW.out HT4.out)
      have HTO4 := Lib.hid (fromT_nil HTO.out HT4.out (Nat.le_refl _))
      have cc1 := HC1.out w4 HT4.out
      have HBS := Lib.hid (show w.heap.size ≤ (w4.alloc (.cells #[.slice a1 kl k1] 23)).heap.size from by have := HTO4.out.size; rw [nblk_alloc]; omega)
      have HOA := Lib.hid (show (w4.alloc (.cells #[.slice a1 kl k1] 23)).ownsRow w.heap.size 23 1 (.slice qa x qcap) x (flat 1 (fun j _ => v j 1) x) from own_keepN HROW4.out ((Touch.refl Nil w4).alloc _))
      have HCB := Lib.hid (show ∀ q u, ([.slice a1 kl k1] : List Value)[q]? = some u → (w4.alloc (.cells #[.slice a1 kl k1] 23)).cell? ⟨w4.heap.size, q, none⟩ = some u from fun q u hq => by rw [cell_new]; simpa using hq)
      have HON := Lib.hid (show ∀ u ∈ ([.slice a1 kl k1] : List Value), u.oneCell' = true from fun u hu => by simp at hu; rw [hu]; rfl)
      have HJ := Lib.hid (show x ≤ 1048576 by omega)
      have HTOA := Lib.hid (HTO4.out.alloc (.cells #[.slice a1 kl k1] 23))
      have HDA := Lib.hid (HD4.out.keepN ((Touch.refl Nil w4).alloc (.cells #[.slice a1 kl k1] 23)))
      clear c0 c1 c2
      go_wp2_with (refine wpList_append_one rfl (.tmp 69) (.tmp 75) 62 23 rfl w.heap.size 1 24 _ Try.underlying62 infoBytes rfl (Nat.succ_pos _) (by decide) (.slice qa x qcap) x _ rfl HOA.out w4.heap.size 1 rfl [.slice a1 kl k1] rfl HCB.out HON.out HJ.out HBS.out ?_)
      intro v5 w5 ho5 hT5
      obtain ⟨qa5, qcap5, rfl, _⟩ := own_row ho5.out
      have HO5 := Lib.hid (show w5.ownsRow w.heap.size 23 1 (.slice qa5 (x + 1) qcap5) (x + 1) (flat 1 (fun j _ => v j 1) (x + 1)) from by
        have := ho5.out
        have e : flat 1 (fun j _ => v j 1) (x + 1) = flat 1 (fun j _ => v j 1) x ++ [.slice a1 kl k1] := by
          show flat 1 (fun j _ => v j 1) x ++ [v x 1] = _
          rw [HE1.out]
        rw [e]; exact this)
      have HD5 := Lib.hid (HDA.out.append HOA.out hT5.out)
      have HTO5 := Lib.hid (show Touch Nil w w5 from HTOA.out.trans' hT5.out fun b hb hs => by have := own_base HOA.out b hs; omega)
      clear ho5 hT5
      go_wp2_with fail
      go_roundw
      case rel => exact ⟨x + 1, _, by omega, by go_num, HD5.out, HOK4.out, HO5.out, HTO5.out⟩
      case measure => simp [intOf]; omega
    · have hb1 : ((kd x : Int) == 1) = false := by simp [hkd]
      clear hkd
      have HPT := Lib.hid (fun w' (h : Touch Nil wr w') => duo_put (HD.out.keepN h) (by omega) (Nat.le_trans HSZ.out h.size) (key x) (val x) _ _ (HK.out.keepN h) (HV.out.keepN h) hkl hvl |>.mono fun _ _ h => h.some)
      have HOKP := Lib.hid (HOK.out.put (val x))
      generalize hkk : (key x).length = kl at *
      generalize hvv : (val x).length = vl at *
      generalize kd x = kx at *
      go_wp2_with fail
      go_still_tail 11, mixed
      change wpList _ _ _ _ _ wr.drew
      have HWD := Lib.hid (Touch.refl Nil wr).drew
      have HFT := Lib.hid (show ∀ w4, Touch (FromT w.heap.size wr.drew) wr.drew w4 → Touch (FromT w.heap.size wr) wr w4 from fun w4 h => (Touch.refl (FromT w.heap.size wr) wr).drew.trans' h fun b _ hb => hb)
      go_wp2_with fail
      refine (HPT.out wr.drew HWD.out).mono ?_
      rintro e w4 ⟨c4, rfl, hd4, ht4⟩
      have HD4 := Lib.hid hd4
      have HT4 := Lib.hid (HFT.out w4 ht4)
      have HOK4 := HOKP
      clear hd4 ht4 HPT hkk hvv
      have HROW4 := Lib.hid (fromT_row HOW.out HT4.out)
      have HTO4 := Lib.hid (fromT_nil HTO.out HT4.out (Nat.le_refl _))
      have cc1 := HC1.out w4 HT4.out
      have HBS := Lib.hid (show w.heap.size ≤ (w4.alloc (.cells #[.slice a1 kl k1] 23)).heap.size from by have := HTO4.out.size; rw [nblk_alloc]; omega)
      have HOA := Lib.hid (show (w4.alloc (.cells #[.slice a1 kl k1] 23)).ownsRow w.heap.size 23 1 (.slice qa x qcap) x (flat 1 (fun j _ => v j 1) x) from own_keepN HROW4.out ((Touch.refl Nil w4).alloc _))
      have HCB := Lib.hid (show ∀ q u, ([.slice a1 kl k1] : List Value)[q]? = some u → (w4.alloc (.cells #[.slice a1 kl k1] 23)).cell? ⟨w4.heap.size, q, none⟩ = some u from fun q u hq => by rw [cell_new]; simpa using hq)
      have HON := Lib.hid (show ∀ u ∈ ([.slice a1 kl k1] : List Value), u.oneCell' = true from fun u hu => by simp at hu; rw [hu]; rfl)
      have HJ := Lib.hid (show x ≤ 1048576 by omega)
      have HTOA := Lib.hid (HTO4.out.alloc (.cells #[.slice a1 kl k1] 23))
      have HDA := Lib.hid (HD4.out.keepN ((Touch.refl Nil w4).alloc (.cells #[.slice a1 kl k1] 23)))
      clear c0 c1 c2
      go_wp2_with (refine wpList_append_one rfl (.tmp 69) (.tmp 75) 62 23 rfl w.heap.size 1 24 _ Try.underlying62 infoBytes rfl (Nat.succ_pos _) (by decide) (.slice qa x qcap) x _ rfl HOA.out w4.heap.size 1 rfl [.slice a1 kl k1] rfl HCB.out HON.out HJ.out HBS.out ?_)
      intro v5 w5 ho5 hT5
      obtain ⟨qa5, qcap5, rfl, _⟩ := own_row ho5.out
      have HO5 := Lib.hid (show w5.ownsRow w.heap.size 23 1 (.slice qa5 (x + 1) qcap5) (x + 1) (flat 1 (fun j _ => v j 1) (x + 1)) from by
        have := ho5.out
        have e : flat 1 (fun j _ => v j 1) (x + 1) = flat 1 (fun j _ => v j 1) x ++ [.slice a1 kl k1] := by
          show flat 1 (fun j _ => v j 1) x ++ [v x 1] = _
          rw [HE1.out]
        rw [e]; exact this)
      have HD5 := Lib.hid (HDA.out.append HOA.out hT5.out)
      have HTO5 := Lib.hid (show Touch Nil w w5 from HTOA.out.trans' hT5.out fun b hb hs => by have := own_base HOA.out b hs; omega)
      clear ho5 hT5
      go_wp2_with fail
      go_roundw
      case rel => exact ⟨x + 1, _, by omega, by go_num, HD5.out, HOK4.out, HO5.out, HTO5.out⟩
      case measure => simp [intOf]; omega
  · obtain rfl : x = n := by omega
    clear hlt hx
    go_wp2_with fail
    go_loopw [11] (fun i w3 => ∃ (y : Nat) (U : Key × Key → Prop), y ≤ n2 ∧ i = .int .i64 (y : Int) ∧ Duo w.heap.size w3 (.pointer (some ⟨bt, 0, none⟩)) (.pointer (some ⟨bu, 0, none⟩)) seed x y S U ∧ OfKeys key2 y U ∧ w3.ownsRow w.heap.size 23 1 (.slice qa x qcap) x (flat 1 (fun j _ => v j 1) x) ∧ Touch Nil w w3) (fun i _ => n2 - (intOf i).toNat)
    case atStart => exact ⟨0, _, Nat.zero_le _, rfl, HD.out, fun x h => h.elim, HOW.out, HTO.out⟩
    clear HD HOW HTO
    obtain ⟨y, U, hy, rfl, hdu, huk, hown, hto⟩ := hrel
    have HD := Lib.hid hdu
    have HUK := Lib.hid huk
    have HOW := Lib.hid hown
    have HTO := Lib.hid hto
    clear hdu huk hown hto
    by_cases hlt : y < n2
    ·
      have HSR := Lib.hid (HS2.out.keepN HTO.out)
      obtain ⟨b, off, rfl, hb, hcell⟩ := HSR.out.cells (by omega)
      have c1 := hcell y hlt 1 (by omega)
      have c2 := hcell y hlt 2 (by omega)
      obtain ⟨hk, lk⟩ := HSR.out.keys y hlt
      obtain ⟨hv, lv⟩ := HSR.out.vals y hlt
      have hl := HL2.out y hlt
      have HK := Lib.hid hk
      have HV := Lib.hid hv
      obtain ⟨a1, k1, e1, _, _⟩ := hk
      obtain ⟨a2, k2, e2, _, _⟩ := hv
      rw [e1] at c1 HK
      rw [e2] at c2 HV
      have i1 : (y : Int) < (n2 : Int) := by omega
      have i2 : (0 : Int) ≤ (y : Int) := by omega
      have HSZ := Lib.hid HTO.out.size
      have hkl : (key2 y).length ≤ 1048576 := by omega
      have hvl : (val2 y).length ≤ 1048576 := by omega
      clear hcell e1 e2 lk lv hl HSR
      have HPT := Lib.hid (fun w' (h : Touch Nil wr w') => duo_put (HD.out.swap.keepN h) (by omega) (Nat.le_trans HSZ.out h.size) (key2 y) (val2 y) _ _ (HK.out.keepN h) (HV.out.keepN h) hkl hvl |>.mono fun _ _ h => h.some)
      have HUKP := Lib.hid (HUK.out.put (val2 y))
      generalize hkk : (key2 y).length = kl at *
      generalize hvv : (val2 y).length = vl at *
      go_wp2_with fail
      go_still_tail 11, mixed
      change wpList _ _ _ _ _ wr.drew
      have HWD := Lib.hid (Touch.refl Nil wr).drew
      have HFT := Lib.hid (show ∀ w4, Touch (FromT w.heap.size wr.drew) wr.drew w4 → Touch (FromT w.heap.size wr) wr w4 from fun w4 h => (Touch.refl (FromT w.heap.size wr) wr).drew.trans' h fun b _ hb => hb)
      go_wp2_with fail
      refine (HPT.out wr.drew HWD.out).mono ?_
      rintro e w4 ⟨c4, rfl, hd4, ht4⟩
      have HD4 := Lib.hid hd4.swap
      have HT4 := Lib.hid (HFT.out w4 ht4)
      clear hd4 ht4 HPT hkk hvv
      have HROW4 := Lib.hid (fromT_row HOW.out HT4.out)
      have HTO4 := Lib.hid (fromT_nil HTO.out HT4.out (Nat.le_refl _))
      clear c1 c2
      go_wp2_with fail
      go_roundw
      case rel => exact ⟨y + 1, _, by omega, by go_num, HD4.out, HUKP.out, HROW4.out, HTO4.out⟩
      case measure => simp [intOf]; omega
    · obtain rfl : y = n2 := by omega
      clear hlt hy
      have HUR := Lib.hid (show RestK key2 0 y U from fun q hq => by
        obtain ⟨⟨j, hj, e⟩, _⟩ := HUK.out q hq
        exact ⟨j, Nat.zero_le _, hj, e⟩)
      clear HUK
      go_wp2_with fail
      go_loopw [12] (fun i w3 => ∃ (z : Nat) (U : Key × Key → Prop), z ≤ y ∧ i = .int .i64 (z : Int) ∧ Duo w.heap.size w3 (.pointer (some ⟨bt, 0, none⟩)) (.pointer (some ⟨bu, 0, none⟩)) seed x y S U ∧ RestK key2 z y U ∧ w3.ownsRow w.heap.size 23 1 (.slice qa x qcap) x (flat 1 (fun j _ => v j 1) x) ∧ Touch Nil w w3) (fun i _ => y - (intOf i).toNat)
      case atStart => exact ⟨0, _, Nat.zero_le _, rfl, HD.out, HUR.out, HOW.out, HTO.out⟩
      clear HD HOW HTO HUR
      obtain ⟨z, U, hz, rfl, hdu, huk, hown, hto⟩ := hrel
      have HD := Lib.hid hdu
      have HUK := Lib.hid huk
      have HOW := Lib.hid hown
      have HTO := Lib.hid hto
      clear hdu huk hown hto
      by_cases hlt : z < y
      ·
        have HSR := Lib.hid (HS2.out.keepN HTO.out)
        obtain ⟨b, off, rfl, hb, hcell⟩ := HSR.out.cells (by omega)
        have c1 := hcell z hlt 1 (by omega)
        obtain ⟨hk, lk⟩ := HSR.out.keys z hlt
        have hl := HL2.out z hlt
        have HK := Lib.hid hk
        obtain ⟨a1, k1, e1, _, _⟩ := hk
        rw [e1] at c1 HK
        have i1 : (z : Int) < (y : Int) := by omega
        have i2 : (0 : Int) ≤ (z : Int) := by omega
        have HSZ := Lib.hid HTO.out.size
        have hkl : (key2 z).length ≤ 1048576 := by omega
        clear hcell e1 lk hl HSR
        have HDR := Lib.hid ((duo_drop HD.out.swap HSZ.out (key2 z) _ HK.out hkl).mono fun _ _ h => h.some)
        have HUKD := Lib.hid (HUK.out.drop)
        generalize hkk : (key2 z).length = kl at *
        go_wp2_with fail
        refine HDR.out.mono ?_
        rintro e w4 ⟨c4, rfl, hd4, ht4⟩
        have HD4 := Lib.hid hd4.swap
        have HT4 := Lib.hid ht4
        clear hd4 ht4 HDR hkk
        have HROW4 := Lib.hid (fromT_row HOW.out HT4.out)
        have HTO4 := Lib.hid (fromT_nil HTO.out HT4.out (Nat.le_refl _))
        clear c1
        go_wp2_with fail
        go_roundw
        case rel => exact ⟨z + 1, _, by omega, by go_num, HD4.out, HUKD.out, HROW4.out, HTO4.out⟩
        case measure => simp [intOf]; omega
      · obtain rfl : z = y := by omega
        clear hlt hz
        have HLT := Lib.hid (show LaterK key x ((x : Int) - 1) S U from fun q => ⟨fun hq => (HUK.out.none q hq).elim, fun ⟨_, j, h1, h2, _⟩ => by omega⟩)
        clear HUK
        go_wp2_with fail
        go_loopw [13, 14, 15] (fun i _ _ w3 => ∃ (k : Int) (m : Nat) (U : Key × Key → Prop), -1 ≤ k ∧ k < (x : Int) ∧ i = .int .i64 k ∧ (m : Int) + k + 1 ≤ 240 ∧ Duo w.heap.size w3 (.pointer (some ⟨bt, 0, none⟩)) (.pointer (some ⟨bu, 0, none⟩)) seed x m S U ∧ LaterK key x k S U ∧ w3.ownsRow w.heap.size 23 1 (.slice qa x qcap) x (flat 1 (fun j _ => v j 1) x) ∧ Touch Nil w w3) (fun i _ _ _ => (intOf i + 1).toNat)
        case atStart => exact ⟨_, z, U, by omega, by omega, by go_num, by omega, HD.out, HLT.out, HOW.out, HTO.out⟩
        clear HD HOW HTO HLT
        obtain ⟨k, m, U, hk1, hk2, rfl, hm, hdu, huk, hown, hto⟩ := hrel
        have HD := Lib.hid hdu
        have HUK := Lib.hid huk
        have HOW := Lib.hid hown
        have HTO := Lib.hid hto
        clear hdu huk hown hto
        by_cases hlt : 0 ≤ k
        ·
          obtain ⟨z, rfl⟩ := Int.eq_ofNat_of_zero_le hlt
          have hzx : z < x := by omega
          obtain ⟨qa', qcap', e, hrow⟩ := own_row HOW.out
          cases e
          obtain ⟨ga, rfl, hg1, hg2, hgc⟩ := hrow (by omega)
          have c0 := hgc z (by omega)
          have ef := flat_get 1 (fun j _ => v j 1) x z 0 hzx (by omega)
          simp only [Nat.mul_one, Nat.add_zero] at ef
          rw [ef] at c0
          have HSR := Lib.hid (HS.out.keepN HTO.out)
          obtain ⟨hk, lk⟩ := HSR.out.keys z hzx
          have hl := HL.out z hzx
          have HK := Lib.hid hk
          obtain ⟨a1, k1, e1, _, _⟩ := hk
          rw [e1] at c0 HK
          have i1 : (z : Int) < (x : Int) := by omega
          have i2 : (0 : Int) ≤ (z : Int) := by omega
          have HSZ := Lib.hid HTO.out.size
          have hkl : (key z).length ≤ 1048576 := by omega
          clear hgc ef e1 lk hl HSR hrow
          have HGT := Lib.hid (duo_get HD.out (key z) _ HK.out hkl)
          have HPT := Lib.hid (fun (v2 : Key) (xv : Value) w' (h : Touch Nil wr w') (hv : BV w' xv v2) (hvl : v2.length ≤ 1048576) => duo_put (HD.out.swap.keepN h) (by omega) (Nat.le_trans HSZ.out h.size) (key z) v2 _ xv (HK.out.keepN h) hv hkl hvl)
          generalize hkk : (key z).length = kl at *
          go_wp2_with fail
          refine HGT.out.mono ?_
          rintro e w4 ⟨o, ho, hg1, hg2, hT4⟩
          clear HGT
          cases o with
          | none =>
            obtain rfl := hg1 rfl
            have HROW4 := Lib.hid (own_keepN HOW.out hT4)
            have HTO4 := Lib.hid (HTO.out.trans hT4)
            have HD4 := Lib.hid (HD.out.keepN hT4)
            have HUK4 := Lib.hid (HUK.out.skip hzx fun v hv => by have := (ho v).2 hv; cases this)
            clear ho hg1 hg2 hT4 HPT c0 hlt hkk
            go_wp2_with fail
            go_roundw
            case rel => exact ⟨_, m, U, by omega, by omega, by go_num, by omega, HD4.out, HUK4.out, HROW4.out, HTO4.out⟩
            case measure => simp [intOf]
          | some v2 =>
            obtain ⟨xv, rfl, hob⟩ := hg2 v2 rfl
            have hSv : ∀ v', v2 = v' ↔ S (key z, v') := fun v' => by
              rw [← ho v']
              exact ⟨fun h => by rw [h], fun h => by injection h⟩
            have hall := (HOK.out _ ((hSv v2).1 rfl)).2
            have hal : _ ∧ _ ∧ v2.length ≤ 1000 := of_decide_eq_true hall
            have hp := HPT.out v2 xv w4 hT4 hob.bv (by omega)
            rw [if_pos hall] at hp
            obtain ⟨a2, k2, e2, _, _⟩ := hob.bv
            generalize hvv : v2.length = vl at *
            subst e2
            have HPU := Lib.hid hp
            have HROWG := Lib.hid (own_keepN HOW.out hT4)
            have HTOG := Lib.hid (HTO.out.trans hT4)
            have HUK4 := Lib.hid (HUK.out.put hzx hSv hall)
            have c04 := (hT4.cell (World.block_lt_of_cell? wr _ c0) (fun c => c) _).trans c0
            clear ho hg1 hg2 hT4 HPT hob hp hall hal hSv hkk hvv c0 hlt
            go_wp2_with fail
            refine HPU.out.mono ?_
            rintro e w5 ⟨rfl, hd5, ht5⟩
            have HD5 := Lib.hid hd5.swap
            have HROW5 := Lib.hid (fromT_row HROWG.out ht5)
            have HTO5 := Lib.hid (fromT_nil HTOG.out ht5 (Nat.le_refl _))
            clear hd5 ht5 HPU c04
            go_wp2_with fail
            go_roundw
            case rel => exact ⟨_, m + 1, _, by omega, by omega, by go_num, by omega, HD5.out, HUK4.out, HROW5.out, HTO5.out⟩
            case measure => simp [intOf]
        · have hneg : k < 0 := by omega
          have HUE := Lib.hid (show ∀ q, U q ↔ S q from fun q => ⟨fun h => ((HUK.out q).1 h).1, fun h => (HUK.out q).2 ⟨h, by
            obtain ⟨⟨j, hj, e⟩, _⟩ := HOK.out q h
            exact ⟨j, by omega, hj, e⟩⟩⟩)
          have HDS := Lib.hid (HD.out.same HUE.out)
          clear HUK hlt HD HUE
          go_wp2_with fail
          go_loopw [9, 16] (fun q i w3 => ∃ (t : Nat), t ≤ z ∧ i = .int .i64 (t : Int) ∧ Duo w.heap.size w3 (.pointer (some ⟨bt, 0, none⟩)) (.pointer (some ⟨bu, 0, none⟩)) seed x m S S ∧ w3.ownsRow w.heap.size 23 1 q (x + t) (flat 1 (fun j _ => v j 1) x ++ flat 1 (fun j _ => v2 j 1) t) ∧ Touch Nil w w3) (fun _ i _ => z - (intOf i).toNat)
          case atStart => exact ⟨0, Nat.zero_le _, rfl, HDS.out, by simpa [flat] using HOW.out, HTO.out⟩
          clear HDS HOW HTO
          obtain ⟨t, ht, rfl, hdu, hown, hto⟩ := hrel
          obtain ⟨qa2, qcap2, rfl, _⟩ := own_row hown
          have HD := Lib.hid hdu
          have HOW := Lib.hid hown
          have HTO := Lib.hid hto
          clear hdu hown hto
          by_cases hlt : t < z
          ·
            have HSR := Lib.hid (HS2.out.keepN HTO.out)
            obtain ⟨b, off, rfl, hb, hcell⟩ := HSR.out.cells (by omega)
            have c1 := hcell t hlt 1 (by omega)
            obtain ⟨hk, lk⟩ := HSR.out.keys t hlt
            obtain ⟨a1, k1, e1, _, _⟩ := hk
            rw [e1] at c1
            have HE1 := Lib.hid e1
            have i1 : (t : Int) < (z : Int) := by omega
            have i2 : (0 : Int) ≤ (t : Int) := by omega
            have HSZ := Lib.hid HTO.out.size
            generalize hkk : (key2 t).length = kl at *
            clear hcell e1 lk HSR hkk
            have HBS := Lib.hid (show w.heap.size ≤ (wr.alloc (.cells #[.slice a1 kl k1] 23)).heap.size from by have := HTO.out.size; rw [nblk_alloc]; omega)
            have HOA := Lib.hid (show (wr.alloc (.cells #[.slice a1 kl k1] 23)).ownsRow w.heap.size 23 1 (.slice qa2 (x + t) qcap2) (x + t) (flat 1 (fun j _ => v j 1) x ++ flat 1 (fun j _ => v2 j 1) t) from own_keepN HOW.out ((Touch.refl Nil wr).alloc _))
            have HCB := Lib.hid (show ∀ q u, ([.slice a1 kl k1] : List Value)[q]? = some u → (wr.alloc (.cells #[.slice a1 kl k1] 23)).cell? ⟨wr.heap.size, q, none⟩ = some u from fun q u hq => by rw [cell_new]; simpa using hq)
            have HON := Lib.hid (show ∀ u ∈ ([.slice a1 kl k1] : List Value), u.oneCell' = true from fun u hu => by simp at hu; rw [hu]; rfl)
            have HJ := Lib.hid (show x + t ≤ 1048576 by omega)
            have HTOA := Lib.hid (HTO.out.alloc (.cells #[.slice a1 kl k1] 23))
            have HDA := Lib.hid (HD.out.keepN ((Touch.refl Nil wr).alloc (.cells #[.slice a1 kl k1] 23)))
            go_wp2_with (refine wpList_append_one rfl (.tmp 142) (.tmp 148) 62 23 rfl w.heap.size 1 24 _ Try.underlying62 infoBytes rfl (Nat.succ_pos _) (by decide) (.slice qa2 (x + t) qcap2) (x + t) _ rfl HOA.out wr.heap.size 1 rfl [.slice a1 kl k1] rfl HCB.out HON.out HJ.out HBS.out ?_)
            intro v5 w5 ho5 hT5
            obtain ⟨qa5, qcap5, rfl, _⟩ := own_row ho5.out
            have HO5 := Lib.hid (show w5.ownsRow w.heap.size 23 1 (.slice qa5 (x + t + 1) qcap5) (x + (t + 1)) (flat 1 (fun j _ => v j 1) x ++ flat 1 (fun j _ => v2 j 1) (t + 1)) from by
              have := ho5.out
              have e : flat 1 (fun j _ => v j 1) x ++ flat 1 (fun j _ => v2 j 1) (t + 1) = (flat 1 (fun j _ => v j 1) x ++ flat 1 (fun j _ => v2 j 1) t) ++ [.slice a1 kl k1] := by
                show flat 1 (fun j _ => v j 1) x ++ (flat 1 (fun j _ => v2 j 1) t ++ [v2 t 1]) = _
                rw [HE1.out, List.append_assoc]
              rw [e, List.append_assoc]; exact this)
            have HD5 := Lib.hid (HDA.out.append HOA.out hT5.out)
            have HTO5 := Lib.hid (show Touch Nil w w5 from HTOA.out.trans' hT5.out fun b hb hs => by have := own_base HOA.out b hs; omega)
            clear ho5 hT5 c1
            go_wp2_with fail
            go_roundw
            case rel => exact ⟨t + 1, by omega, by go_num, HD5.out, HO5.out, HTO5.out⟩
            case measure => simp [intOf]; omega
          · obtain rfl : t = z := by omega
            clear hlt ht
            go_wp2_with fail
            obtain ⟨wy, ewy⟩ : ∃ wy : World, wy = wr := ⟨_, rfl⟩
            have HTY := Lib.hid (show Touch Nil w wy from by rw [ewy]; exact HTO.out)
            have HKY := Lib.hid (show ∀ j, j < x + t → ∃ g a1 k1, ∃ kk : Key, qa2 = some ⟨g, 0, none⟩ ∧ wy.cell? ⟨g, j, none⟩ = some (.slice a1 kk.length k1) ∧ BV wy (.slice a1 kk.length k1) kk ∧ kk.length ≤ 1048576 from by
              rw [ewy]; exact keys_row HOW.out (HS.out.keepN HTO.out) (HS2.out.keepN HTO.out) HL.out HL2.out)
            have HLK := Lib.hid (show ∀ kx kk, BV wy kx kk → kk.length ≤ 1048576 → ∃ c : Nat, ∀ w', Touch Nil wy w' → ∀ tt, (tt = .pointer (some ⟨bt, 0, none⟩) ∨ tt = .pointer (some ⟨bu, 0, none⟩)) → Calls Try.prog 41 #[tt, kx] w' (LooksPost c w') from by
              rw [ewy]; exact fun kx kk hk hkl => duo_looks HD.out kk kx hk hkl)
            have HDY := Lib.hid (show Duo w.heap.size wy (.pointer (some ⟨bt, 0, none⟩)) (.pointer (some ⟨bu, 0, none⟩)) seed x m S S from by rw [ewy]; exact HD.out)
            go_loopw [17] (fun i w3 => ∃ (j : Nat), j ≤ x + t ∧ i = .int .i64 (j : Int) ∧ Touch Nil wy w3) (fun i _ => x + t - (intOf i).toNat)
            case atStart => exact ⟨0, Nat.zero_le _, rfl, by rw [ewy]; exact Touch.refl _ _⟩
            clear HD HOW HTO ewy
            obtain ⟨j, hj, rfl, hto⟩ := hrel
            have HTJ := Lib.hid hto
            clear hto
            by_cases hlt : j < x + t
            ·
              obtain ⟨g, a1, k1, kk, rfl, hc, hbv, hkl⟩ := HKY.out j hlt
              obtain ⟨c, hcl⟩ := HLK.out _ kk hbv hkl
              have HLA := Lib.hid hcl
              have c0 := (HTJ.out.cell (World.block_lt_of_cell? wy _ hc) (fun c => c) _).trans hc
              have i1 : (j : Int) < ((x + t : Nat) : Int) := by omega
              have i2 : (0 : Int) ≤ (j : Int) := by omega
              have HC0 := Lib.hid c0
              have hne : ((c : Int) != (c : Int)) = false := by simp
              clear hc hbv hcl
              generalize kk.length = kl at *
              go_wp2_with fail
              go_region_held3 (fun w' => w'.cell? ⟨g, j, none⟩ = some (.slice a1 kl k1) ∧ Hid (Touch Nil wr w'))
                (first | exact LkS.of HC0.out (Touch.refl Nil wr).drew | exact LkS.step (by assumption) (by assumption))
                (first | (go_at_call 41; refine (HLA.out _ (HTJ.out.trans (Hid.out (And.right (by assumption)))) _ (by first | exact .inl rfl | exact .inr rfl)).mono ?_; rintro e w3 ⟨rfl, hT3⟩))
              all_goals
                go_wp2_with fail
                go_roundw
                case rel => exact ⟨j + 1, by omega, by go_num, HTJ.out.trans (Hid.out (And.right (by assumption)))⟩
                case measure => simp [intOf]; omega
            · obtain rfl : j = x + t := by omega
              clear hlt hj
              obtain ⟨RA, RB, cn, C, T, T', h1, h2, hT⟩ := duo_both HDY.out
              have HA := Lib.hid h1
              have HB := Lib.hid h2
              have HEQ := Lib.hid hT
              have hC := h1.good.free.2.1
              obtain ⟨L, hL, hIM⟩ := duo_image h1 h2 hT
              have HIM := Lib.hid hIM
              have HCL := Lib.hid (duo_cells h1 h2)
              clear h1 h2 hT hIM HDY HKY HLK
              have HSM := Lib.hid (fun ao bo c1 c2 w' (ha : SlI w' .u8 ao (ub L)) (hb : SlI w' .u8 bo (ub L)) => same_self L ao bo c1 c2 w' (by omega) ha hb)
              generalize hln : L.length = ln at *
              unfold SeenB at HIM
              rw [hln] at HIM
              clear hln
              go_wp2_with fail
              refine (HIM.out _ HTJ.out).1.mono ?_
              rintro e w3 ⟨ao3, cap3, rfl, hs3, hT3⟩
              have HS3 := Lib.hid hs3
              have HW3 := Lib.hid (HTJ.out.trans hT3)
              clear hs3 hT3
              go_wp2_with fail
              refine (HIM.out _ HW3.out).2.mono ?_
              rintro e w4 ⟨ao4, cap4, rfl, hs4, hT4⟩
              have HS4 := Lib.hid hs4
              have HS34 := Lib.hid (HS3.out.keep hT4 fun _ _ _ c => c)
              have HW4 := Lib.hid (HW3.out.trans hT4)
              clear hs4 hT4 HS3 HIM
              go_wp2_with fail
              refine (HSM.out _ _ _ _ _ HS34.out HS4.out).mono ?_
              rintro e w5 ⟨rfl, hT5⟩
              have HW5 := Lib.hid (HW4.out.trans hT5)
              clear hT5 HS34 HS4 HSM
              go_wp2_with fail
              refine (HCL.out _ HW5.out).1.mono ?_
              rintro e w6 ⟨b6, f6, rfl, hc6, hT6⟩
              have HC6 := Lib.hid hc6
              have HW6 := Lib.hid (HW5.out.trans hT6)
              clear hc6 hT6
              go_wp2_with fail
              refine (HCL.out _ HW6.out).2.mono ?_
              rintro e w7 ⟨b7, f7, rfl, hc7, hT7⟩
              have HC7 := Lib.hid hc7
              have HC67 := Lib.hid (HC6.out.keepN hT7)
              have HW7 := Lib.hid (HW6.out.trans hT7)
              clear hc7 hT7 HC6 HCL
              go_wp2_with fail
              refine (sameCells_true (by omega) HC67.out HC7.out HEQ.out).mono ?_
              rintro e w8 ⟨rfl, hT8⟩
              have HW8 := Lib.hid (HW7.out.trans hT8)
              clear hT8 HC67 HC7
              go_wp2_with fail
              refine (len_any (HA.out.keepN HW8.out)).mono ?_
              rintro e w9 ⟨rfl, rfl⟩
              go_wp2_with fail
              refine (len_any (HB.out.keepN HW8.out)).mono ?_
              rintro e w9 ⟨rfl, rfl⟩
              go_wp2_with fail
              refine (awake_any _).mono ?_
              rintro e w9 ⟨rfl, hT9⟩
              go_wp2_with fail
              go_ret
              exact ⟨rfl, (HTY.out.trans (HW8.out.trans hT9)).below_nil⟩
set_option maxRecDepth 100000 in
theorem slotsForgets_lifted (os : Os) (started : os.Started) (H : Type) (enc : TypeId × Value → H) :
    ReturnsInHanded {} Try.checked os 8 .any (Rows.slotsForgetsSpec.pre6 enc Try.prog Try.f8 Rows.slotsForgetsRow.domain false) (Rows.slotsForgetsSpec.post enc Try.prog Try.f8 false true false false) := by
  refine returnsInHanded_of_change (C := Try.checked) own started (by kernel_rfl) Try.func8
    (ChangeSpec.witness6 (enc := enc) (C := Try.checked) false ⟨#[], #[.int .u64 0, .slice none 0 0, .slice none 0 0], []⟩ 8 (by kernel_rfl) (by kernel_rfl) (by kernel_rfl) (by kernel_rfl)) ?_
  intro W base args ds gs before hval0 hW _ _
  have hval : ∀ (j : Nat) t v, Try.f8.params[j]? = some t → args[j]? = some v → Value.okWide Try.prog W .any base t v := hval0
  have hW' := hW
  obtain ⟨p, q, hA0, hV, rfl, hfz, hnd⟩ := hW
  have hA : DataW.TrodAll enc Try.prog W 0 (fun _ => true) true Try.f8.params.toList args.toList ds p := hA0
  rw [Try.params8] at hA hval
  obtain ⟨v0, vs0, d0, ds0, p0, q0, hargs, rfl, rfl, h0, r0⟩ := trodAll_cons hA
  obtain ⟨v1, vs1, d1, ds1, p1, q1, rfl, rfl, rfl, h1, r1⟩ := trodAll_cons r0
  obtain ⟨v2, vs2, d2, ds2, p2, q2, rfl, rfl, rfl, h2, r2⟩ := trodAll_cons r1
  obtain ⟨rfl, rfl, rfl⟩ := trodAll_nil r2
  obtain rfl : args = #[v0, v1, v2] := by cases args; simp_all
  obtain ⟨rfl, rfl⟩ := trodVars_none hV
  obtain ⟨seed, rfl, rfl, rfl, w0⟩ := open_int Try.underlying22 (hval 0 22 v0 rfl rfl) h0
  obtain ⟨sA, sL, sC, rfl⟩ := okWide_slice Try.underlying42 (hval 1 42 v1 rfl rfl)
  have k1 := h1
  have lt1 : ∀ x ∈ p1, x.block < W.heap.size := by obtain ⟨m, hm⟩ := k1; exact DataW.trod_lt m _ _ _ hm
  obtain ⟨fuel1, hf1⟩ := h1
  obtain ⟨sM, sV, sKd, sK, sU, sH⟩ := open_scr hf1
  obtain ⟨mA, mL, mC, rfl⟩ := okWide_slice Try.underlying42 (hval 2 42 v2 rfl rfl)
  have k2 := h2
  have lt2 : ∀ x ∈ p2, x.block < W.heap.size := by obtain ⟨m, hm⟩ := k2; exact DataW.trod_lt m _ _ _ hm
  obtain ⟨fuel2, hf2⟩ := h2
  obtain ⟨mM, mV, mKd, mK, mU, mH⟩ := open_scr hf2
  clear hA0 hval0
  unfold maxLen at sM
  unfold maxLen at mM
  refine (lawForgets_any seed sL sC sA sV sKd sK sU mL mC mA mV mKd mK mU W (by omega) sH (by omega) mH).mono fun e W' ⟨he, bel⟩ => ?_
  subst he
  exact ⟨_, rfl, _, _, _, [], _, [], hW', trodAll_mk1 (shut_bool Try.underlying4 _), (trodAll_cons_mk (shut_int Try.underlying22 w0) (trodAll_cons_mk (Below.trod laidOut (by kernel_rfl) (of_decide_eq_true (by kernel_rfl)) k1 bel lt1) (trodAll_cons_mk (Below.trod laidOut (by kernel_rfl) (of_decide_eq_true (by kernel_rfl)) k2 bel lt2) trodAll_mk0))), rfl, bel.frame _, fun h => by cases h⟩

theorem slotsForgets_holds : Rows.SlotsForgetsSaid :=
  OpenClaim.holds_of_wide 8 Try.f8 rfl rfl rfl rfl rfl rfl rfl ⟨rfl, rfl, rfl, rfl, rfl⟩ rfl rfl rfl rfl rfl (by kernel_rfl) Try.func8 (by kernel_rfl)
    (of_decide_eq_true (by kernel_rfl)) (by unfold Func.isWrapper; first | (rw [if_pos (by decide +kernel)]; kernel_rfl) | (rw [if_neg (by decide +kernel)]; exact ⟨rfl, rfl⟩))
    (fun os started H enc _ => slotsForgets_lifted os started H enc)
end Go.Proofs.Ytebkpibaaoblbaa
