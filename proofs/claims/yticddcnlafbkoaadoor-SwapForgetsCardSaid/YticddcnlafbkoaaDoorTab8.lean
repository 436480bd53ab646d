import Derived.Test.YticddcnlafbkoaaDoorTab7
/- Image. -/
namespace Go.Proofs.YticddcnlafbkoaaDoor
open Go.ChangeShapes Go.WideShapes Go.ChangeAt Go.RowKit Go.Deep

/-- The low byte of a number. -/
def lo (n : Nat) : UInt8 := UInt8.ofNat n
theorem lo_int (n : Nat) : (((lo n).toNat : Nat) : Int) = (n : Int) % 256 := by
  unfold lo
  rw [UInt8.toNat_ofNat']
  omega
/-- The bytes of a cell; of the first c cells. -/
def cellB : Option (Key × Key) → List UInt8
  | none => [0]
  | some (k, v) => [1, lo k.length, lo v.length, lo (v.length / 256)] ++ k ++ v
def bodyB (T : Cells) : Nat → List UInt8
  | 0 => []
  | c + 1 => bodyB T c ++ cellB (T c)
def headB (n : Nat) : List UInt8 := [lo n, lo (n / 256), lo (n / 65536), lo (n / 16777216)]
def imageB (n C : Nat) (T : Cells) : List UInt8 := headB n ++ bodyB T C

def ImagePost (n C : Nat) (T : Cells) (w : World) (e : Ending) (w' : World) : Prop := ∃ v, e = .returned v ∧ OwnB w.heap.size w' v (imageB n C T) ∧ Touch Nil w w'

theorem own_lit (w : World) (l : List UInt8) (cs : Array Value) (h : cs = ((ub l).map (Value.int .u8)).toArray) (hl : l.length ≤ 1048576) : OwnB w.heap.size (w.alloc (.cells cs 5)) (.slice (some ⟨w.heap.size, 0, none⟩) l.length l.length) l := by
  subst h
  refine ⟨by simp, .inr ⟨w.heap.size, l.length, ((ub l).map (Value.int .u8)).toArray, rfl, Nat.le_refl _, heap_alloc_new _ _, Nat.le_refl _, by unfold maxLen; omega, by simp, ?_⟩⟩
  exact List.take_of_length_le (by simp)
theorem bodyB_len {T : Cells} {C : Nat} (h : ∀ c, c < C → ∀ k v, T c = some (k, v) → k.length ≤ 64 ∧ v.length ≤ 1000) : ∀ x, x ≤ C → (bodyB T x).length ≤ x * 1068
  | 0, _ => by simp [bodyB]
  | x + 1, hx => by
    have := bodyB_len h x (by omega)
    simp only [bodyB, List.length_append]
    cases e : T x with
    | none => simp [cellB]; omega
    | some p => obtain ⟨k, v⟩ := p; have := h x (by omega) k v e; simp [cellB]; omega
theorem headB_cells {n : Nat} (h : n ≤ 100000) : #[Value.int .u8 ((n : Int) % 256), .int .u8 ((n : Int) / 256 % 256), .int .u8 ((n : Int) / 65536), .int .u8 ((n : Int) / 16777216)] = ((ub (headB n)).map (Value.int .u8)).toArray := by
  have e1 := lo_int n
  have e2 := lo_int (n / 256)
  have e3 := lo_int (n / 65536)
  have e4 := lo_int (n / 16777216)
  simp only [headB, ub, List.map_cons, List.map_nil, e1, e2, e3, e4]
  rw [show ((n / 256 : Nat) : Int) % 256 = (n : Int) / 256 % 256 by omega, show ((n / 65536 : Nat) : Int) % 256 = (n : Int) / 65536 by omega, show ((n / 16777216 : Nat) : Int) % 256 = (n : Int) / 16777216 by omega]

theorem cellH_cells {l m : Nat} (hl : l ≤ 64) (hm : m ≤ 1000) : #[Value.int .u8 1, .int .u8 (l : Int), .int .u8 ((m : Int) % 256), .int .u8 ((m : Int) / 256)] = ((ub [1, lo l, lo m, lo (m / 256)]).map (Value.int .u8)).toArray := by
  have e1 := lo_int l
  have e2 := lo_int m
  have e3 := lo_int (m / 256)
  simp only [ub, List.map_cons, List.map_nil, e1, e2, e3]
  rw [show (l : Int) % 256 = (l : Int) by omega, show ((m / 256 : Nat) : Int) % 256 = (m : Int) / 256 by omega]
  rfl
theorem box_keep {base : Nat} {W w' : World} {v : Value} {l : List UInt8} (hown : OwnB base W v l) (ht : Touch (OwnOf v) W w') {pb : Nat} {cs : Array Value} (hb : W.heap[pb]? = some (.cells cs 79 (0, 0))) : w'.heap[pb]? = some (.cells cs 79 (0, 0)) := by
  refine (ht.same pb (Array.getElem?_eq_some_iff.1 hb).1 fun hs => ?_).trans hb
  obtain ⟨cs', z, e⟩ := hown.elem hs
  rw [hb] at e
  injection e with e
  injection e with _ e
  exact absurd e (by decide)
theorem bv_keep {base : Nat} {W w' : World} {v x : Value} {l m : List UInt8} (hown : OwnB base W v l) (ht : Touch (OwnOf v) W w') (hbv : BV W x m) (hlow : ∀ b, OwnOf x b → b < base) : BV w' x m :=
  hbv.keep ht fun b hb hs => by have := (hown.block b hs).1; have := hlow b hb; omega

set_option maxRecDepth 100000 in
set_option maxHeartbeats 4000000 in
theorem image_any {R : Nat → Prop} {w : World} {t : Value} {seed : Int} {n C : Nat} {T : Cells} (h : Tab R w t seed n C T) : Calls Tryd.prog 34 #[t] w (ImagePost n C T w) := by
  obtain ⟨⟨bt, bb, bc, vv, rfl, h1, h2, h3⟩, hg, hl⟩ := h
  obtain ⟨g1, g2, g3⟩ := hg.free
  have hn100 : n ≤ 100000 := hg.2.2.2
  have ct : w.cell? ⟨bt, 0, none⟩ = some (.pointer (some ⟨bb, 0, none⟩)) := by simp [World.cell?, h1]
  have HM := Lib.hid (missing_any bt bb w ct)
  have c1 := h3.countC
  have HB := Lib.hid h3
  have HL := Lib.hid hl
  have hbt : bt < w.heap.size := hl bt h2
  have hbb := h3.lb
  have HCT := Lib.hid ct
  clear h1 h2 h3 hg hl g3
  go_enter Tryd.func34, Tryd.ntmps34
  go_wp2_with fail
  refine HM.out.mono ?_
  rintro e w' ⟨rfl, rfl⟩
  have HO0 := Lib.hid (own_lit w (headB n) _ (headB_cells hn100) (by simp [headB]))
  have htA := (Touch.refl Nil w).alloc (.cells #[Value.int .u8 ((n : Int) % 256), .int .u8 ((n : Int) / 256 % 256), .int .u8 ((n : Int) / 65536), .int .u8 ((n : Int) / 16777216)] 5)
  have e1 : (w.alloc (.cells #[Value.int .u8 ((n : Int) % 256), .int .u8 ((n : Int) / 256 % 256), .int .u8 ((n : Int) / 65536), .int .u8 ((n : Int) / 16777216)] 5)).cell? ⟨bt, 0, none⟩ = some (.pointer (some ⟨bb, 0, none⟩)) := by rw [World.cell?_alloc_lt _ _ _ hbt]; exact ct
  have e2 := (HB.out.keepN htA).cellsC
  have HTA := Lib.hid htA
  clear htA
  go_wp2_with fail
  clear e1 e2 ct c1
  go_loopw [4, 36] (fun v i wr => ∃ (x : Nat), x ≤ C ∧ i = .int .i64 x ∧ OwnB w.heap.size wr v (headB n ++ bodyB T x) ∧ Touch Nil w wr) (fun _ i _ => C - (intOf i).toNat)
  case atStart => exact ⟨0, Nat.zero_le _, rfl, by simpa [bodyB, headB] using HO0.out, HTA.out⟩
  obtain ⟨x, hx, rfl, hown, hto⟩ := hrel
  obtain ⟨va, vl, vc, rfl⟩ := hown.form
  have HO := Lib.hid hown
  have HT := Lib.hid hto
  clear hown hto
  by_cases hlt : x < C
  · have HBr := Lib.hid (HB.out.keepN HT.out)
    have hlen : (headB n ++ bodyB T x).length ≤ 400000000 := by
      have := bodyB_len (T := T) (C := C) (fun c hc k v e => by have := HB.out.pair hc e; exact ⟨this.2.2.2.1, this.2.2.2.2⟩) x hx
      simp [headB]; omega
    have HLEN := Lib.hid hlen
    obtain ⟨ao, l, cap, bo, m, cap', e0, e1, hfree, hl64, hm1000⟩ := HBr.out.slice hlt
    have k0 := HBr.out.keyC hlt
    have k1 := HBr.out.valC hlt
    rw [e0] at k0
    rw [e1] at k1
    have HE0 := Lib.hid e0
    have HE1 := Lib.hid e1
    have HFR := Lib.hid hfree
    clear e0 e1 hfree hlen
    have i1 : (x : Int) < (C : Int) := by omega
    have i2 : (0 : Int) ≤ (x : Int) := by omega
    go_wp2_with fail
    refine (isFree_any ao l cap (.slice bo m cap') _ (by omega)).mono ?_
    rintro e w2 ⟨rfl, hT2⟩
    have HT2 := Lib.hid ((HT.out.alloc (.cells #[.slice ao l cap, .slice bo m cap'] 79)).trans hT2)
    have HTR := Lib.hid (((Touch.refl Nil wr).alloc (.cells #[.slice ao l cap, .slice bo m cap'] 79)).trans hT2)
    have hbx : w2.heap[wr.heap.size]? = some (.cells #[.slice ao l cap, .slice bo m cap'] 79 (0, 0)) := (hT2.same _ (by simp) (fun c => c)).trans (heap_alloc_new _ _)
    have HBX := Lib.hid hbx
    clear k0 k1 hT2 hbx
    cases hTa : T x with
    | none =>
      have hl0 : decide (l = 0) = true := by rw [HFR.out, hTa]; rfl
      have HTa := Lib.hid hTa
      have HN := Lib.hid (own_lit w2 [0] #[.int .u8 0] rfl (by simp))
      have HOA := Lib.hid ((HO.out.keepT HTR.out (notBytes_nil _)).keepT ((Touch.refl Nil w2).alloc (.cells #[.int .u8 0] 5)) (notBytes_nil _))
      have HLN := Lib.hid (show (headB n ++ bodyB T x).length + ([0] : List UInt8).length ≤ 1073741824 by have := HLEN.out; simp only [List.length_singleton]; omega)
      have HSZ := Lib.hid (show w.heap.size ≤ (w2.alloc (.cells #[.int .u8 0] 5)).heap.size by have := HT2.out.size; rw [nblk_alloc]; omega)
      have HBV := Lib.hid (show BV (w2.alloc (.cells #[.int .u8 0] 5)) (.slice (some ⟨w2.heap.size, 0, none⟩) 1 1) [0] from HN.out.bv)
      clear hTa
      go_wp2_with (refine wpList_append_bytes rfl (.tmp 42) (.tmp 43) rfl w.heap.size (.slice va vl vc) (.slice (some ⟨w2.heap.size, 0, none⟩) 1 1) (headB n ++ bodyB T x) [0] ?p1 ?p2 ?p3 ?p4 ?p5 ?p6 ?p7)
      case p2 => exact HOA.out
      case p1 => rfl
      case p3 => rfl
      case p4 => exact HBV.out
      case p5 => exact HLN.out
      case p6 => exact HSZ.out
      intro v' w3 hO3 hT3 _
      have HT3 := Lib.hid ((HT2.out.alloc (.cells #[.int .u8 0] 5)).trans' hT3.out fun b hb hs => by have := (HOA.out.block b hs).1; omega)
      go_wp2_with fail
      go_roundw
      case rel => exact ⟨x + 1, by omega, by go_num, by have := hO3.out; simp only [bodyB, HTa.out, cellB]; rw [← List.append_assoc]; exact this, HT3.out⟩
      case measure => simp [intOf]; omega
    | some p =>
      obtain ⟨k', v'⟩ := p
      have hl0 : decide (l = 0) = false := by rw [HFR.out, hTa]; rfl
      obtain ⟨q1, q2, _, hk64, hv1000⟩ := HBr.out.pair hlt hTa
      rw [HE0.out] at q1
      rw [HE1.out] at q2
      have HLOW1 := Lib.hid (show ∀ b, OwnOf (.slice ao l cap) b → b < w.heap.size from fun b hb => HL.out b (q1.2 b hb).1)
      have HLOW2 := Lib.hid (show ∀ b, OwnOf (.slice bo m cap') b → b < w.heap.size from fun b hb => HL.out b (q2.2 b hb).1)
      have HQ1 := Lib.hid (q1.1.keepN HTR.out)
      have HQ2 := Lib.hid (q2.1.keepN HTR.out)
      have HLE := Lib.hid (show l = k'.length ∧ m = v'.length from by
        obtain ⟨_, _, e, _⟩ := q1.1
        obtain ⟨_, _, e', _⟩ := q2.1
        injection e with _ e _
        injection e' with _ e' _
        exact ⟨e, e'⟩)
      have HTa := Lib.hid hTa
      have HN := Lib.hid (own_lit w2 [1, lo l, lo m, lo (m / 256)] _ (cellH_cells hl64 hm1000) (by simp))
      have htA := (Touch.refl Nil w2).alloc (.cells #[Value.int .u8 1, .int .u8 (l : Int), .int .u8 ((m : Int) % 256), .int .u8 ((m : Int) / 256)] 5)
      have HTA2 := Lib.hid htA
      have HOA := Lib.hid ((HO.out.keepT HTR.out (notBytes_nil _)).keepT htA (notBytes_nil _))
      have HBXA := Lib.hid ((htA.same _ (Array.getElem?_eq_some_iff.1 HBX.out).1 (fun c => c)).trans HBX.out)
      have HSZ := Lib.hid (show w.heap.size ≤ (w2.alloc (.cells #[Value.int .u8 1, .int .u8 (l : Int), .int .u8 ((m : Int) % 256), .int .u8 ((m : Int) / 256)] 5)).heap.size by have := HT2.out.size; rw [nblk_alloc]; omega)
      have b0 : w2.cell? ⟨wr.heap.size, 0, none⟩ = some (.slice ao l cap) := by simp [World.cell?, HBX.out]
      have b1 : w2.cell? ⟨wr.heap.size, 1, none⟩ = some (.slice bo m cap') := by simp [World.cell?, HBX.out]
      clear hTa q1 q2 htA
      go_wp2_with (refine wpList_append_bytes rfl (.tmp 45) (.tmp 59) rfl w.heap.size (.slice va vl vc) (.slice (some ⟨w2.heap.size, 0, none⟩) 4 4) (headB n ++ bodyB T x) [1, lo l, lo m, lo (m / 256)] ?r1 ?r2 ?r3 ?r4 ?r5 ?r6 ?r7)
      case r2 => exact HOA.out
      case r1 => rfl
      case r3 => rfl
      case r4 => exact HN.out.bv
      case r5 => have := HLEN.out; simp only [List.length_cons, List.length_nil]; omega
      case r6 => exact HSZ.out
      intro v1 w3 hO3 hT3 _
      obtain ⟨v1a, v1l, v1c, rfl⟩ := hO3.out.form
      have hbx3 := box_keep HOA.out hT3.out HBXA.out
      have HQ13 := Lib.hid (bv_keep HOA.out hT3.out (HQ1.out.keepN HTA2.out) HLOW1.out)
      have HQ23 := Lib.hid (bv_keep HOA.out hT3.out (HQ2.out.keepN HTA2.out) HLOW2.out)
      have HT3 := Lib.hid ((HT2.out.trans HTA2.out).trans' hT3.out fun b hb hs => by have := (HOA.out.block b hs).1; omega)
      have HBX3 := Lib.hid hbx3
      have c0 : w3.cell? ⟨wr.heap.size, 0, none⟩ = some (.slice ao l cap) := by simp [World.cell?, hbx3]
      clear b0 b1 hbx3
      go_wp2_with (refine wpList_append_bytes rfl (.tmp 61) (.tmp 63) rfl w.heap.size (.slice v1a v1l v1c) (.slice ao l cap) ((headB n ++ bodyB T x) ++ [1, lo l, lo m, lo (m / 256)]) k' ?s1 ?s2 ?s3 ?s4 ?s5 ?s6 ?s7)
      case s2 => first | exact hO3.out | simpa [List.append_assoc] using hO3.out
      case s1 => rfl
      case s3 => rfl
      case s4 => exact HQ13.out
      case s5 => have := HLEN.out; rw [List.length_append]; simp only [List.length_cons, List.length_nil]; omega
      case s6 => exact HT3.out.size
      intro v2 w4 hO4 hT4 _
      obtain ⟨v2a, v2l, v2c, rfl⟩ := hO4.out.form
      have hbx4 := box_keep hO3.out hT4.out HBX3.out
      have HQ24 := Lib.hid (bv_keep hO3.out hT4.out HQ23.out HLOW2.out)
      have HT4 := Lib.hid (HT3.out.trans' hT4.out fun b hb hs => by have := (hO3.out.block b hs).1; omega)
      have c1 : w4.cell? ⟨wr.heap.size, 1, none⟩ = some (.slice bo m cap') := by simp [World.cell?, hbx4]
      clear c0 hbx4
      go_wp2_with (refine wpList_append_bytes rfl (.tmp 65) (.tmp 67) rfl w.heap.size (.slice v2a v2l v2c) (.slice bo m cap') (((headB n ++ bodyB T x) ++ [1, lo l, lo m, lo (m / 256)]) ++ k') v' ?t1 ?t2 ?t3 ?t4 ?t5 ?t6 ?t7)
      case t2 => simpa [List.append_assoc] using hO4.out
      case t1 => rfl
      case t3 => rfl
      case t4 => exact HQ24.out
      case t5 => have := HLEN.out; rw [List.length_append, List.length_append]; simp only [List.length_cons, List.length_nil]; omega
      case t6 => exact HT4.out.size
      intro v3 w5 hO5 hT5 _
      have HT5 := Lib.hid (HT4.out.trans' hT5.out fun b hb hs => by have := (hO4.out.block b hs).1; omega)
      clear c1
      go_wp2_with fail
      go_roundw
      case rel => exact ⟨x + 1, by omega, by go_num, by have := hO5.out; simp only [bodyB, HTa.out, cellB]; rw [← HLE.out.1, ← HLE.out.2]; simpa [List.append_assoc] using this, HT5.out⟩
      case measure => simp [intOf]; omega
  · obtain rfl : x = C := by omega
    go_wp2_with fail
    go_ret
    exact ⟨_, rfl, HO.out, HT.out⟩
end Go.Proofs.YticddcnlafbkoaaDoor
