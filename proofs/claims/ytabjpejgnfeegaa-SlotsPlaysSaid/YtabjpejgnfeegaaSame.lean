import Derived.Test.YtabjpejgnfeegaaLawRuns
/- SameCells: two lists of cells that show the same pairs. -/
namespace Go.Proofs.Ytabjpejgnfeegaa
open Go.ChangeShapes Go.WideShapes Go.ChangeAt Go.RowKit Go.Deep

/-- Cells as a list of them holds them: bytes that can be read. -/
def Sees (w : World) (f y z : Value) : Option (Key × Key) → Prop
  | none => f = .bool false ∧ BV w y [] ∧ BV w z []
  | some (k, v) => f = .bool true ∧ BV w y k ∧ BV w z v
theorem Shown.sees {b : Nat} {w : World} {f y z : Value} {o : Option (Key × Key)} (h : Shown b w f y z o) : Sees w f y z o := by
  cases o with
  | none => obtain ⟨h1, h2, h3⟩ := h; exact ⟨h1, by rw [h2]; exact BV.nil w, by rw [h3]; exact BV.nil w⟩
  | some p => exact ⟨h.1, h.2.1.bv, h.2.2.bv⟩
/-- The flag, the key and the value that a cell shows. -/
def seeF (o : Option (Key × Key)) : Bool := o.isSome
def seeK (o : Option (Key × Key)) : Key := match o with | none => [] | some (k, _) => k
def seeV (o : Option (Key × Key)) : Key := match o with | none => [] | some (_, v) => v
theorem Sees.parts {w : World} {f y z : Value} {o : Option (Key × Key)} (h : Sees w f y z o) : f = .bool (seeF o) ∧ BV w y (seeK o) ∧ BV w z (seeV o) := by
  cases o with
  | none => exact h
  | some p => exact h
theorem Sees.keepN {w w' : World} {f y z : Value} {o : Option (Key × Key)} (h : Sees w f y z o) (ht : Touch Nil w w') : Sees w' f y z o := by
  cases o with
  | none => exact ⟨h.1, h.2.1.keepN ht, h.2.2.keepN ht⟩
  | some p => exact ⟨h.1, h.2.1.keepN ht, h.2.2.keepN ht⟩

/-- Cells in a slice. -/
structure Cls (w : World) (ao : Option Addr) (n : Nat) (f : Nat → Value) (T : Cells) : Prop where
  cells : 0 < n → ∃ b off, ao = some ⟨b, off, none⟩ ∧ ∀ j, j < n * 3 → w.cell? ⟨b, off + j, none⟩ = some (f j)
  see : ∀ c, c < n → Sees w (f (c * 3)) (f (c * 3 + 1)) (f (c * 3 + 2)) (T c) ∧ (seeK (T c)).length ≤ 1048576 ∧ (seeV (T c)).length ≤ 1048576
theorem Cls.keepN {w w' : World} {ao : Option Addr} {n : Nat} {f : Nat → Value} {T : Cells} (h : Cls w ao n f T) (ht : Touch Nil w w') : Cls w' ao n f T := by
  refine ⟨fun h0 => ?_, fun c hc => ⟨(h.see c hc).1.keepN ht, (h.see c hc).2⟩⟩
  obtain ⟨b, off, e, hc⟩ := h.cells h0
  exact ⟨b, off, e, fun j hj => (ht.cell (World.block_lt_of_cell? w _ (hc j hj)) (fun c => c) _).trans (hc j hj)⟩
/-- The cells that Cells hands out. -/
theorem shown_cls {R : Nat → Prop} {w0 w' : World} {t : Value} {seed : Int} {n C b base : Nat} {T : Cells} {f : Nat → Value} (h : Tab R w0 t seed n C T) (hr : w'.rowIs b 78 (C * 3) f) (hs : ∀ c, c < C → Shown base w' (f (c * 3)) (f (c * 3 + 1)) (f (c * 3 + 2)) (T c)) : Cls w' (some ⟨b, 0, none⟩) C f T := by
  refine ⟨fun _ => ⟨b, 0, rfl, fun j hj => by rw [Nat.zero_add]; exact hr.cell hj⟩, fun c hc => ⟨(hs c hc).sees, ?_⟩⟩
  obtain ⟨⟨_, _, _, vv, _, _, _, hB⟩, _, _⟩ := h
  cases e : T c with
  | none => exact ⟨by simp [seeK], by simp [seeV]⟩
  | some p =>
    obtain ⟨k, v⟩ := p
    have := hB.pair hc e
    exact ⟨by show k.length ≤ _; omega, by show v.length ≤ _; omega⟩

/-- What is known while two cells are held against each other. -/
abbrev TwoS (b o c q : Nat) (y z y' z' f f' : Value) (w0 w' : World) : Prop :=
  w'.cell? ⟨b, o, none⟩ = some f ∧ w'.cell? ⟨b, o + 1, none⟩ = some y ∧ w'.cell? ⟨b, o + 2, none⟩ = some z ∧ w'.cell? ⟨c, q, none⟩ = some f' ∧ w'.cell? ⟨c, q + 1, none⟩ = some y' ∧ w'.cell? ⟨c, q + 2, none⟩ = some z' ∧ Hid (Touch Nil w0 w')
theorem TwoS.step {b o c q : Nat} {y z y' z' f f' : Value} {w0 w w' : World} (h : TwoS b o c q y z y' z' f f' w0 w) (hs : Touch Nil w w') : TwoS b o c q y z y' z' f f' w0 w' := by
  obtain ⟨h0, h1, h2, h3, h4, h5, h6⟩ := h
  have k : ∀ {b o : Nat} {u : Value}, w.cell? ⟨b, o, none⟩ = some u → w'.cell? ⟨b, o, none⟩ = some u := fun {b o u} h => (hs.cell (World.block_lt_of_cell? w _ h) (fun c => c) o).trans h
  exact ⟨k h0, k h1, k h2, k h3, k h4, k h5, Lib.hid (h6.out.trans hs)⟩

set_option maxRecDepth 100000 in
set_option maxHeartbeats 4000000 in
/-- Lists that show the same pairs are the same. -/
theorem sameCells_true {w : World} {ao bo : Option Addr} {n c1 c2 : Nat} {f g : Nat → Value} {T T' : Cells} (hn : n ≤ 1048576) (ha : Cls w ao n f T) (hb : Cls w bo n g T') (hT : ∀ c, c < n → T c = T' c) :
    Calls Try.prog 34 #[.slice ao n c1, .slice bo n c2] w (BoolN true w) := by
  have HA := Lib.hid ha
  have HB := Lib.hid hb
  have HT := Lib.hid hT
  have hnn : ((n : Int) != (n : Int)) = false := by simp
  clear ha hb hT
  go_enter Try.func34, Try.ntmps34
  go_wp2_with fail
  go_loopw [5] (fun i wr => ∃ x : Nat, x ≤ n ∧ i = .int .i64 (x : Int) ∧ Touch Nil w wr) (fun i _ => n - (intOf i).toNat)
  case atStart => exact ⟨0, Nat.zero_le _, rfl, Touch.refl _ _⟩
  obtain ⟨x, hx, rfl, hto⟩ := hrel
  have HTO := Lib.hid hto
  clear hto
  by_cases hlt : x < n
  · have ha := HA.out.keepN HTO.out
    have hb := HB.out.keepN HTO.out
    obtain ⟨p, po, rfl, hc⟩ := ha.cells (by omega)
    obtain ⟨q, qo, rfl, hd⟩ := hb.cells (by omega)
    have a0 := hc (x * 3) (by omega)
    have a1 := hc (x * 3 + 1) (by omega)
    have a2 := hc (x * 3 + 2) (by omega)
    have b0 := hd (x * 3) (by omega)
    have b1 := hd (x * 3 + 1) (by omega)
    have b2 := hd (x * 3 + 2) (by omega)
    obtain ⟨hs, l1, l2⟩ := ha.see x hlt
    obtain ⟨hs', _, _⟩ := hb.see x hlt
    rw [← HT.out x hlt] at hs'
    obtain ⟨e1, ⟨ya, yc, e2, _, s2⟩, ⟨za, zc, e3, _, s3⟩⟩ := hs.parts
    obtain ⟨d1, ⟨ya', yc', d2, _, t2⟩, ⟨za', zc', d3, _, t3⟩⟩ := hs'.parts
    rw [e1] at a0
    rw [e2] at a1
    rw [e3] at a2
    rw [d1] at b0
    rw [d2] at b1
    rw [d3] at b2
    have HSK := Lib.hid (show ∀ w', Touch Nil wr w' → Calls Try.prog 25 #[.slice ya (seeK (T x)).length yc, .slice ya' (seeK (T x)).length yc'] w' (fun e w'' => e = .returned (.bool true) ∧ Touch Nil w' w'') from fun w' h => by
      have := same_any (seeK (T x)) (seeK (T x)) ya ya' yc yc' w' (by omega) (by omega) (s2.keepN h) (t2.keepN h)
      rw [decide_eq_true rfl] at this; exact this)
    have HSV := Lib.hid (show ∀ w', Touch Nil wr w' → Calls Try.prog 25 #[.slice za (seeV (T x)).length zc, .slice za' (seeV (T x)).length zc'] w' (fun e w'' => e = .returned (.bool true) ∧ Touch Nil w' w'') from fun w' h => by
      have := same_any (seeV (T x)) (seeV (T x)) za za' zc zc' w' (by omega) (by omega) (s3.keepN h) (t3.keepN h)
      rw [decide_eq_true rfl] at this; exact this)
    have HE : ∃ kl, (seeK (T x)).length = kl := ⟨_, rfl⟩
    obtain ⟨kl, ekl⟩ := HE
    have HE : ∃ vl, (seeV (T x)).length = vl := ⟨_, rfl⟩
    obtain ⟨vl, evl⟩ := HE
    rw [ekl] at a1 b1 HSK
    rw [evl] at a2 b2 HSV
    have HE : ∃ fb, seeF (T x) = fb := ⟨_, rfl⟩
    obtain ⟨fb, efb⟩ := HE
    rw [efb] at a0 b0
    have i1 : (x : Int) < (n : Int) := by omega
    have i2 : (0 : Int) ≤ (x : Int) := by omega
    rw [← Nat.add_assoc] at a1 a2 b1 b2
    have HST := Lib.hid (show TwoS p (po + x * 3) q (qo + x * 3) (.slice ya kl yc) (.slice za vl zc) (.slice ya' kl yc') (.slice za' vl zc') (.bool fb) (.bool fb) wr wr from ⟨a0, a1, a2, b0, b1, b2, Lib.hid (Touch.refl _ _)⟩)
    clear ha hb hc hd hs hs' e1 e2 e3 d1 d2 d3 s2 s3 t2 t3 l1 l2 ekl evl efb
    cases fb
    case false =>
      go_wp2_with fail
      go_region_held3 (fun w' => w'.cell? ⟨p, po + x * 3, none⟩ = some (.bool false) ∧ w'.cell? ⟨p, po + x * 3 + 1, none⟩ = some (.slice ya kl yc) ∧ w'.cell? ⟨p, po + x * 3 + 2, none⟩ = some (.slice za vl zc) ∧ w'.cell? ⟨q, qo + x * 3, none⟩ = some (.bool false) ∧ w'.cell? ⟨q, qo + x * 3 + 1, none⟩ = some (.slice ya' kl yc') ∧ w'.cell? ⟨q, qo + x * 3 + 2, none⟩ = some (.slice za' vl zc') ∧ Hid (Touch Nil wr w'))
        (first | exact HST.out.step (Touch.refl Nil wr).drew | exact TwoS.step (by assumption) (by assumption))
        (first
          | (go_at_call_of 25 (Value.slice ya kl yc); refine (HSK.out _ (Hid.out (And.right (And.right (And.right (And.right (And.right (And.right (by assumption))))))))).mono ?_; rintro e w3 ⟨rfl, hT3⟩)
          | (go_at_call_of 25 (Value.slice za vl zc); refine (HSV.out _ (Hid.out (And.right (And.right (And.right (And.right (And.right (And.right (by assumption))))))))).mono ?_; rintro e w4 ⟨rfl, hT4⟩))
      all_goals
        have HTX := Lib.hid (((Touch.refl Nil wr).drew.trans hT3).trans hT4)
        clear hT3 hT4
        go_wp2_with fail
        go_roundw
        case rel => exact ⟨x + 1, by omega, by go_num, HTO.out.trans HTX.out⟩
        case measure => simp [intOf]; omega
    case true =>
      go_wp2_with fail
      go_region_held3 (fun w' => w'.cell? ⟨p, po + x * 3, none⟩ = some (.bool true) ∧ w'.cell? ⟨p, po + x * 3 + 1, none⟩ = some (.slice ya kl yc) ∧ w'.cell? ⟨p, po + x * 3 + 2, none⟩ = some (.slice za vl zc) ∧ w'.cell? ⟨q, qo + x * 3, none⟩ = some (.bool true) ∧ w'.cell? ⟨q, qo + x * 3 + 1, none⟩ = some (.slice ya' kl yc') ∧ w'.cell? ⟨q, qo + x * 3 + 2, none⟩ = some (.slice za' vl zc') ∧ Hid (Touch Nil wr w'))
        (first | exact HST.out.step (Touch.refl Nil wr).drew | exact TwoS.step (by assumption) (by assumption))
        (first
          | (go_at_call_of 25 (Value.slice ya kl yc); refine (HSK.out _ (Hid.out (And.right (And.right (And.right (And.right (And.right (And.right (by assumption))))))))).mono ?_; rintro e w3 ⟨rfl, hT3⟩)
          | (go_at_call_of 25 (Value.slice za vl zc); refine (HSV.out _ (Hid.out (And.right (And.right (And.right (And.right (And.right (And.right (by assumption))))))))).mono ?_; rintro e w4 ⟨rfl, hT4⟩))
      all_goals
        have HTX := Lib.hid (((Touch.refl Nil wr).drew.trans hT3).trans hT4)
        clear hT3 hT4
        go_wp2_with fail
        go_roundw
        case rel => exact ⟨x + 1, by omega, by go_num, HTO.out.trans HTX.out⟩
        case measure => simp [intOf]; omega
  · obtain rfl : x = n := by omega
    go_wp2_with fail
    go_ret
    exact ⟨rfl, HTO.out⟩
end Go.Proofs.Ytabjpejgnfeegaa
