import Derived.Test.YtabjpejgnfeegaaLoad
/- A byte that is written over; the image of a table. -/
namespace Go.Proofs.Ytabjpejgnfeegaa
open Go.ChangeShapes Go.WideShapes Go.ChangeAt Go.RowKit Go.Deep

/-- A byte of the call's own is written over. -/
theorem OwnB.set {base g n cap : Nat} {w : World} {l : List UInt8} (h : OwnB base w (.slice (some ⟨g, 0, none⟩) n cap) l) {i : Nat} (hi : i < l.length) (y : UInt8) :
    OwnB base (w.setCell ⟨g, i, none⟩ (.int .u8 ((y.toNat : Nat) : Int))) (.slice (some ⟨g, 0, none⟩) n cap) (l.set i y) ∧ w.cell? ⟨g, i, none⟩ = some (.int .u8 (((l.getD i 0).toNat : Nat) : Int)) ∧ w.frozen? ⟨g, i, none⟩ = false := by
  have hbv := h.bv
  obtain ⟨hlen, ⟨h1, hn⟩ | ⟨g', cap', cur, h1, hb, hg, hc, hm, hs, ht⟩⟩ := h
  · cases h1
  · cases h1
    have hcell : w.cell? ⟨g, i, none⟩ = some (.int .u8 (((l.getD i 0).toNat : Nat) : Int)) := by
      obtain ⟨ao, c, e, _, hsl⟩ := hbv
      cases e
      obtain ⟨b, off, e, hcc⟩ := hsl i (by simpa using hi)
      cases e
      rw [Nat.zero_add, ub_getD l i hi] at hcc
      exact hcc
    have hrow : w.rowIs g 5 cap (fun j => cur.getD j undef) := ⟨cur, hg, by omega, fun j hj => by
      have : j < cur.size := by omega
      simp [this]⟩
    have hset := hrow.set i (.int .u8 ((y.toNat : Nat) : Int))
    refine ⟨⟨by simp, .inr ⟨g, cap, _, by simp, hb, row_block hset, by simpa using hc, hm, by simp, ?_⟩⟩, hcell, by simp [World.frozen?, hg]⟩
    apply List.ext_getElem?
    intro j
    rw [List.getElem?_take]
    by_cases hj : j < l.length
    · have hcj : cur[j]? = some (.int .u8 (((l.getD j 0).toNat : Nat) : Int)) := by
        have := congrArg (fun z => z[j]?) ht
        simp only [List.getElem?_take, List.getElem?_map, Array.getElem?_toList] at this
        rw [if_pos (by omega)] at this
        rw [this]
        simp [ub, hj, List.getD_eq_getElem?_getD]
      rw [if_pos (by simp; omega)]
      have hjc : j < cap := by omega
      simp only [List.getElem?_map, List.getElem?_range hjc, Option.map_some, Array.getD_eq_getD_getElem?, hcj, ub, List.getElem?_set, List.map_map]
      by_cases e : j = i
      · subst e; simp [hj]
      · rw [if_neg (fun h => e h), if_neg (fun h => e h.symm)]
        simp [hj, List.getD_eq_getElem?_getD]
    · rw [if_neg (by simp; omega)]
      simp [ub]
      omega

theorem xor_zero : ∀ a : Fin 256, bits BinOp.xor IntKind.u8 (a.1 : Int) 0 = (a.1 : Int) := by decide +kernel
theorem xor_u8 (x : UInt8) (m : Nat) (hm : m ≤ 255) : ∃ y : UInt8, bits BinOp.xor IntKind.u8 ((x.toNat : Nat) : Int) (m : Int) = ((y.toNat : Nat) : Int) ∧ (m = 0 → y = x) := by
  have h3 : bits BinOp.xor IntKind.u8 ((x.toNat : Nat) : Int) 0 = ((x.toNat : Nat) : Int) := xor_zero ⟨x.toNat, x.toNat_lt⟩
  have h1 : 0 ≤ bits BinOp.xor IntKind.u8 ((x.toNat : Nat) : Int) (m : Int) ∧ bits BinOp.xor IntKind.u8 ((x.toNat : Nat) : Int) (m : Int) ≤ 255 := by
    have := wf_bits BinOp.xor IntKind.u8 ((x.toNat : Nat) : Int) (m : Int)
    simpa [Lit.wf, IntKind.min, IntKind.max, IntKind.signed, IntKind.bits] using this
  refine ⟨UInt8.ofNat (bits BinOp.xor IntKind.u8 ((x.toNat : Nat) : Int) (m : Int)).toNat, ?_, fun h0 => ?_⟩
  · rw [UInt8.toNat_ofNat']; omega
  · apply UInt8.toNat_inj.1
    subst h0
    rw [UInt8.toNat_ofNat', show ((0 : Nat) : Int) = 0 from rfl, h3]
    have := x.toNat_lt
    omega

theorem tab_img {R : Nat → Prop} {w : World} {t : Value} {seed : Int} {n C : Nat} {T : Cells} (h : Tab R w t seed n C T) : IsImg seed (imageB n C T) n T ∧ C = cellsN n ∧ (imageB n C T).length ≤ 400000000 ∧ 12 ≤ (imageB n C T).length := by
  have hg := h.good
  have hC := hg.2.1
  obtain ⟨g1, g2, _⟩ := hg.free
  obtain ⟨⟨_, _, _, _, _, _, _, hB⟩, _, _⟩ := h
  have hok : ∀ c, c < C → okP (T c) := fun c hc => by
    cases e : T c with
    | none => exact trivial
    | some p => obtain ⟨k, v⟩ := p; exact (hB.pair hc e).2.2
  have hlen := bodyB_len (T := T) (C := C) (fun c hc k v e => by have := hB.pair hc e; exact ⟨this.2.2.2.1, this.2.2.2.2⟩) C (Nat.le_refl _)
  have hge := bodyB_ge T C
  subst hC
  refine ⟨⟨hg, hok, rfl⟩, rfl, ?_, ?_⟩ <;> (unfold imageB; simp [headB]; omega)
theorem imageB_congr {n C : Nat} {T T' : Cells} (h : ∀ c, c < C → T c = T' c) : imageB n C T = imageB n C T' := by
  unfold imageB
  rw [bodyB_congr C h]
/-- The same bytes are the same. -/
theorem sameB_true {w : World} {x y : Value} {l : List UInt8} (hx : BV w x l) (hy : BV w y l) (hl : l.length ≤ 400000000) : Calls Try.prog 25 #[x, y] w (BoolN true w) := by
  obtain ⟨ao, c1, rfl, _, ha⟩ := hx
  obtain ⟨bo, c2, rfl, _, hb⟩ := hy
  refine (same_any l l ao bo c1 c2 w (by omega) (by omega) ha hb).mono fun e w' ⟨he, ht⟩ => ⟨?_, ht⟩
  rw [he, decide_eq_true rfl]
end Go.Proofs.Ytabjpejgnfeegaa

/- Bytes of the law's own that are written over. -/
namespace Go.Proofs.Ytabjpejgnfeegaa
open Go.ChangeShapes Go.WideShapes Go.ChangeAt Go.RowKit Go.Deep

theorem hto_set {g n cap : Nat} {w w' : World} (h : Touch (OwnOf (.slice (some ⟨g, 0, none⟩) n cap)) w w') (i : Nat) (u : Value) : Touch (OwnOf (.slice (some ⟨g, 0, none⟩) n cap)) w (w'.setCell ⟨g, i, none⟩ u) := h.setCell ⟨g, i, none⟩ u fun _ => rfl
set_option maxRecDepth 100000 in
set_option maxHeartbeats 1000000 in
theorem spoil_any {base : Nat} {w : World} {ao : Option Addr} {n cap : Nat} {l : List UInt8} (h : OwnB base w (.slice ao n cap) l) (m : Nat) (hm : m ≤ 255) (hl : l.length ≤ 1073741824) :
    Calls Try.prog 32 #[.slice ao n cap, .int .u8 (m : Int)] w fun e w' => e = .returned (.tuple #[]) ∧ Touch (OwnOf (.slice ao n cap)) w w' := by
  have hn : n = l.length := by obtain ⟨_, _, _, e, h1, _⟩ := h.bc; cases e; exact h1
  have HO := Lib.hid h
  have HN := Lib.hid hn
  rw [← hn] at hl
  clear h hn
  go_enter Try.func32, Try.ntmps32
  go_wp2_with fail
  go_loopw [4] (fun i wr => ∃ (x : Nat) (l' : List UInt8), x ≤ n ∧ i = .int .i64 (x : Int) ∧ Hid (l'.length = n) ∧ OwnB base wr (.slice ao n cap) l' ∧ Touch (OwnOf (.slice ao n cap)) w wr) (fun i _ => n - (intOf i).toNat)
  case atStart => exact ⟨0, l, Nat.zero_le _, rfl, Lib.hid HN.out.symm, HO.out, Touch.refl _ _⟩
  obtain ⟨x, l', hx, rfl, HL, hown, hto⟩ := hrel
  have HT := Lib.hid hto
  clear hto
  by_cases hlt : x < n
  · obtain ⟨g, rfl⟩ : ∃ g, ao = some ⟨g, 0, none⟩ := by
      obtain ⟨_, ⟨e, _⟩ | ⟨g, _, _, e, _⟩⟩ := hown
      · cases e; omega
      · cases e; exact ⟨g, rfl⟩
    obtain ⟨Y, hxor, _⟩ := xor_u8 (l'.getD x 0) m hm
    obtain ⟨hset, hcell, hfr⟩ := hown.set (i := x) (by rw [HL.out]; exact hlt) Y
    have HSET := Lib.hid hset
    have HTS := Lib.hid (hto_set HT.out x (.int .u8 ((Y.toNat : Nat) : Int)))
    have hX := (l'.getD x 0).toNat_lt
    have HLS := Lib.hid (show (l'.set x Y).length = n by rw [List.length_set]; exact HL.out)
    generalize (l'.getD x 0).toNat = X at *
    have i1 : (x : Int) < (n : Int) := by omega
    have i2 : (0 : Int) ≤ (x : Int) := by omega
    clear hset hown
    go_wp2_with fail
    go_roundw
    case rel => exact ⟨x + 1, _, by omega, by go_num, HLS, HSET.out, HTS.out⟩
    case measure => simp [intOf]; omega
  · obtain rfl : x = n := by omega
    go_wp2_with fail
    go_end0
    exact ⟨rfl, HT.out⟩
end Go.Proofs.Ytabjpejgnfeegaa
