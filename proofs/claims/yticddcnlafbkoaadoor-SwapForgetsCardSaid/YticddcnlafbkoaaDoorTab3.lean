import Derived.Test.YticddcnlafbkoaaDoorTab2
/- New, Len, Looks, Get. -/
namespace Go.Proofs.YticddcnlafbkoaaDoor
open Go.ChangeShapes Go.WideShapes Go.ChangeAt Go.RowKit Go.Deep

theorem infoPair : (Tryd.prog.info? 79).map (fun i => (i.zero, i.size, i.bytes)) = some (some (.agg #[.slice none 0 0, .slice none 0 0]), 2, 48) := by kernel_rfl
theorem infoCell : (Tryd.prog.info? 92).map (fun i => (i.zero, i.size, i.bytes)) = some (some (.agg #[.bool false, .slice none 0 0, .slice none 0 0]), 3, 56) := by kernel_rfl

/-- make of so many pairs. -/
theorem run_make_pairs (n : Nat) (hn : n ≤ 1048576) (w : World) : (Instr.makeSlice 26 (.int .i64 (n : Int)) (.int .i64 (n : Int))).run Tryd.prog w = .ok (.slice (some ⟨w.heap.size, 0, none⟩) n n) (w.alloc (.cells (madeCells #[.slice none 0 0, .slice none 0 0] (n * 2)) 79)) := by
  obtain ⟨i, hi, hz, hs, hb⟩ := info_parts infoPair
  have hr := run_make (P := Tryd.prog) w 26 79 i _ Tryd.underlying26 hi hz .i64 .i64 n n (by omega) (Int.le_refl _) (by rw [hb]; omega) (by omega)
  simp only [Int.toNat_natCast, hs] at hr
  exact hr
theorem run_make_cells (n : Nat) (hn : n ≤ 1048576) (w : World) : (Instr.makeSlice 89 (.int .i64 (n : Int)) (.int .i64 (n : Int))).run Tryd.prog w = .ok (.slice (some ⟨w.heap.size, 0, none⟩) n n) (w.alloc (.cells (madeCells #[.bool false, .slice none 0 0, .slice none 0 0] (n * 3)) 92)) := by
  obtain ⟨i, hi, hz, hs, hb⟩ := info_parts infoCell
  have hr := run_make (P := Tryd.prog) w 89 92 i _ Tryd.underlying89 hi hz .i64 .i64 n n (by omega) (Int.le_refl _) (by rw [hb]; omega) (by omega)
  simp only [Int.toNat_natCast, hs] at hr
  exact hr
theorem row_made (w : World) (z : Array Value) (n : Nat) (t : TypeId) : (w.alloc (.cells (madeCells z n) t)).rowIs w.heap.size t n (fun i => z[i % z.size]!) :=
  ⟨_, blk_alloc_new _ _, size_madeCells _ _, fun i hi => by simp [madeCells, hi]⟩

def Good (seed : Int) (n C : Nat) (T : Cells) : Prop := Runs (bfS seed) (homS seed C) C T ∧ C = cellsN n ∧ frees C T + n = C ∧ n ≤ 100000
/-- A table: R are its blocks. -/
structure Tab (R : Nat → Prop) (w : World) (t : Value) (seed : Int) (n C : Nat) (T : Cells) : Prop where
  ex : ∃ bt bb bc vv, t = .pointer (some ⟨bt, 0, none⟩) ∧ w.heap[bt]? = some (.cells #[.pointer (some ⟨bb, 0, none⟩)] 74 (0, 0)) ∧ R bt ∧ Bod R w bb bc seed n C vv T
  good : Good seed n C T
  low : ∀ b, R b → b < w.heap.size

theorem Tab.keep {R S : Nat → Prop} {w w' : World} {t : Value} {seed : Int} {n C : Nat} {T : Cells} (h : Tab R w t seed n C T) (ht : Touch S w w') (hS : ∀ b, R b → ¬ S b) : Tab R w' t seed n C T := by
  obtain ⟨⟨bt, bb, bc, vv, e, h1, h2, h3⟩, hg, hl⟩ := h
  have ht' : Touch (fun b => S b ∧ b < w.heap.size) w w' := ht.mono fun b hb hs => ⟨hs, hb⟩
  have hob : ∀ x l, OB R w x l → OB R w' x l := fun x l hx => by
    refine ⟨hx.1.keep ht fun b hb => hS b (hx.2 b hb).1, fun b hb => ?_⟩
    obtain ⟨r, cs, z, e⟩ := hx.2 b hb
    exact ⟨r, cs, z, (ht.same b (hx.lt hb) (hS b r)).trans e⟩
  refine ⟨⟨bt, bb, bc, vv, e, (ht.same bt (hl bt h2) (hS bt h2)).trans h1, h2, ⟨(ht.same bb h3.lb (hS bb h3.rb)).trans h3.body, ht.row h3.row (hS bc h3.rc), fun c hc => ?_, h3.rb, h3.rc⟩⟩, hg, fun b hb => Nat.lt_of_lt_of_le (hl b hb) ht.size⟩
  have := h3.cells c hc
  cases e : T c with
  | none => rw [e] at this; exact this
  | some p => rw [e] at this; exact ⟨hob _ _ this.1, hob _ _ this.2.1, this.2.2⟩
theorem Tab.keepN {R : Nat → Prop} {w w' : World} {t : Value} {seed : Int} {n C : Nat} {T : Cells} (h : Tab R w t seed n C T) (ht : Touch Nil w w') : Tab R w' t seed n C T := h.keep ht fun _ _ c => c

theorem freesNone (C : Nat) : frees C (fun _ => (none : Option (Key × Key))) = C := by
  induction C with
  | zero => rfl
  | succ C ih => simp only [frees, ih]; rfl
theorem Good.free {seed : Int} {n C : Nat} {T : Cells} (h : Good seed n C T) : 8 ≤ C ∧ C ≤ 300000 ∧ ∃ x, x < C ∧ T x = none := by
  obtain ⟨_, h2, h3, h4⟩ := h
  obtain ⟨s1, s2, s3, _⟩ := cellsN_spec n (by omega)
  rw [← h2] at s1 s2 s3
  refine ⟨s1, s2, ?_⟩
  have key : ∀ C, frees C T ≠ 0 → ∃ x, x < C ∧ T x = none := by
    intro C
    induction C with
    | zero => intro h; exact absurd rfl h
    | succ C ih =>
      intro h
      by_cases c : T C = none
      · exact ⟨C, by omega, c⟩
      · obtain ⟨x, hx, e⟩ := ih (by
          simp only [frees] at h
          have : (T C).isNone = false := by cases hT : T C <;> simp_all
          rw [this] at h; simpa using h)
        exact ⟨x, by omega, e⟩
  exact key C (by omega)
theorem good_new (seed : Int) : Good seed 0 8 (fun _ => none) :=
  ⟨fun c hc k v e => (by cases e), by decide, freesNone 8, by omega⟩

def NewPost (seed : Int) (w : World) (e : Ending) (w' : World) : Prop := ∃ t, e = .returned t ∧ Tab (fun b => w.heap.size ≤ b ∧ b < w'.heap.size) w' t seed 0 8 (fun _ => none) ∧ Touch Nil w w'

set_option maxHeartbeats 1000000 in
theorem new_any (seed : Int) (w : World) : Calls Tryd.prog 22 #[.int .u64 seed] w (NewPost seed w) := by
  have hmk := fun w => run_make_pairs 8 (by omega) w
  have hmk' : ∀ w, (Instr.makeSlice 26 (.int .i64 8) (.int .i64 8)).run Tryd.prog w = .ok (.slice (some ⟨w.heap.size, 0, none⟩) 8 8) (w.alloc (.cells (madeCells #[.slice none 0 0, .slice none 0 0] 16) 79)) := hmk
  have HROW := Lib.hid (row_made w #[.slice none 0 0, .slice none 0 0] 16 79)
  clear hmk
  generalize madeCells #[.slice none 0 0, .slice none 0 0] 16 = mc at *
  go_enter Tryd.func22, Tryd.ntmps22
  go_wp2_with fail
  go_ret
  refine ⟨_, rfl, ⟨⟨w.heap.size + 2, w.heap.size + 1, w.heap.size, fun _ _ => .slice none 0 0, rfl, ?_, ?_, ?_⟩, good_new seed, fun b h => h.2⟩, (((Touch.refl _ _).alloc _).alloc _).alloc _⟩
  · have := heap_alloc_new ((w.alloc (.cells mc 79)).alloc (.cells #[.int .u64 seed, .int .i64 0, .slice (some ⟨w.heap.size, 0, none⟩) 8 8] 72)) (.cells #[.pointer (some ⟨w.heap.size + 1, 0, none⟩)] 74)
    simpa using this
  · simp
  · refine ⟨?_, ?_, fun c _ => ⟨rfl, rfl⟩, by simp, (by simp; omega)⟩
    · rw [blk_alloc_lt _ _ _ (by simp)]
      have := heap_alloc_new (w.alloc (.cells mc 79)) (.cells #[.int .u64 seed, .int .i64 0, .slice (some ⟨w.heap.size, 0, none⟩) 8 8] 72)
      simpa using this
    · refine ((HROW.out.alloc _).alloc _).congr fun i _ => ?_
      have : i % 2 = 0 ∨ i % 2 = 1 := by omega
      rcases this with h | h <;> simp [h]

/-- What a key has, where its search ends. -/
def valAt (o : Option (Key × Key)) (key : Key) : Option Key := match o with | none => none | some (k, v) => if k = key then some v else none
theorem valAt_has (o : Option (Key × Key)) (key : Key) : hasKey o key = (valAt o key).isSome := by
  cases o with
  | none => rfl
  | some p => by_cases c : p.1 = key <;> simp [hasKey, valAt, c]
theorem valAt_some {o : Option (Key × Key)} {key v : Key} (h : valAt o key = some v) : o = some (key, v) := by
  cases o with
  | none => cases h
  | some p =>
    obtain ⟨k, v'⟩ := p
    by_cases c : k = key
    · simp [valAt, c] at h; rw [c, h]
    · simp [valAt, c] at h

section
variable {R : Nat → Prop} {w : World} {t : Value} {seed : Int} {n C : Nat} {T : Cells}
def GetPost (o : Option Key) (w : World) (e : Ending) (w' : World) : Prop :=
  (o = none → e = .returned (.tuple #[.slice none 0 0, .int .i64 3])) ∧ (∀ v, o = some v → ∃ x, e = .returned (.tuple #[x, .int .i64 0]) ∧ OwnB w.heap.size w' x v) ∧ Touch Nil w w'
set_option maxRecDepth 100000 in
set_option maxHeartbeats 1000000 in
theorem get_any (h : Tab R w t seed n C T) (key : Key) (kx : Value) (hk : BV w kx key) (hkl : key.length ≤ 1048576) :
    Calls Tryd.prog 40 #[t, kx] w (GetPost (valAt (T (seekAt (bfS seed) (homS seed C) C T key)) key) w) := by
  obtain ⟨⟨bt, bb, bc, vv, rfl, h1, h2, h3⟩, hg, hl⟩ := h
  obtain ⟨g1, g2, g3⟩ := hg.free
  have ct : w.cell? ⟨bt, 0, none⟩ = some (.pointer (some ⟨bb, 0, none⟩)) := by simp [World.cell?, h1]
  have HM := Lib.hid (missing_any bt bb w ct)
  have HS := Lib.hid (seek_any R bb bc seed n C vv T key kx w h3 hk hkl (by omega) (by omega) g3)
  have HA := Lib.hid (seek_lt (bf := bfS seed) (k := key) g3 (homS_lt (by omega) seed key))
  have HB := Lib.hid h3
  generalize seekN (bfS seed) (homS seed C) C T key = N at *
  have HE : ∃ a, seekAt (bfS seed) (homS seed C) C T key = a := ⟨_, rfl⟩
  obtain ⟨a, ea⟩ := HE
  rw [ea] at HS HA ⊢
  clear ea
  rw [valAt_has] at HS
  have hbt : bt < w.heap.size := hl bt h2
  have HCT := Lib.hid ct
  clear h1 h2 h3 hg hl g3 hk
  cases ho : valAt (T a) key with
  | none =>
    rw [ho] at HS
    go_enter Tryd.func40, Tryd.ntmps40
    go_wp2_with fail
    refine HM.out.mono ?_
    rintro e w' ⟨rfl, rfl⟩
    go_wp2_with fail
    refine HS.out.mono ?_
    rintro e w' ⟨rfl, ht⟩
    go_wp2_with fail
    go_ret2
    exact ⟨fun _ => rfl, (fun _ h => by cases h), ht⟩
  | some v =>
    rw [ho] at HS
    have HV := Lib.hid (valAt_some ho)
    clear ho
    go_enter Tryd.func40, Tryd.ntmps40
    go_wp2_with fail
    refine HM.out.mono ?_
    rintro e w' ⟨rfl, rfl⟩
    go_wp2_with fail
    refine HS.out.mono ?_
    rintro e w' ⟨rfl, ht⟩
    have HT := Lib.hid ht
    have HB' := HB.out.keepN ht
    have ha := HA.out
    have ct' : w'.cell? ⟨bt, 0, none⟩ = some (.pointer (some ⟨bb, 0, none⟩)) := by rw [ht.cell hbt (fun c => c)]; exact HCT.out
    have c2 := HB'.cellsC
    have cv := HB'.valC ha
    obtain ⟨_, hbv, _, _, hv⟩ := HB'.pair ha HV.out
    have HC := Lib.hid (bytesClone_any _ v w' hbv.1 (by omega))
    have i1 : (a : Int) < (C : Int) := by omega
    have i2 : (0 : Int) ≤ (a : Int) := by omega
    clear hbv HB' ht HS HM ct
    have HE : ∃ x, Hid (x = vv a 1) := ⟨_, Lib.hid rfl⟩
    obtain ⟨xv, HXV⟩ := HE
    rw [← HXV.out] at cv HC
    go_wp2_with fail
    refine HC.out.mono ?_
    rintro e w2 ⟨x, rfl, hx, ht2⟩
    have HX := Lib.hid hx
    have HT2 := Lib.hid ht2
    clear hx ht2
    go_wp2_with fail
    go_ret2
    exact ⟨(fun h => by cases h), (fun _ h => by cases h; exact ⟨x, rfl, by exact ⟨HX.out.1, HX.out.2.imp (fun h => h) fun ⟨g, cap, cur, r1, r2, r3⟩ => ⟨g, cap, cur, r1, Nat.le_trans HT.out.size r2, r3⟩⟩⟩), HT.out.trans HT2.out⟩
end
end Go.Proofs.YticddcnlafbkoaaDoor
