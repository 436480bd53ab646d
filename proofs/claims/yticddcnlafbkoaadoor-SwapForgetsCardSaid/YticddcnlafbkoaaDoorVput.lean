import Derived.Test.YticddcnlafbkoaaDoorVadd
import Derived.Test.YticddcnlafbkoaaDoorVexp
import Derived.Laws.ResultCell
/- What a new vault does: NewVault, kept, Put. -/
namespace Go.Proofs.YticddcnlafbkoaaDoor
open Go.ChangeShapes Go.WideShapes Go.ChangeAt Go.RowKit Go.Deep
attribute [local go_sem] Oper.semAt_some

def NewVP (seed : Int) (w : World) (e : Ending) (w' : World) : Prop :=
  ∃ R bv tp, e = .returned (.pointer (some ⟨bv, 0, none⟩)) ∧ Tab R w' (.pointer tp) seed 0 8 (fun _ => none) ∧ (∀ b, R b → w.heap.size ≤ b) ∧ ¬ R bv ∧ w.heap.size ≤ bv ∧ w'.heap[bv]? = some (.cells #[.pointer tp] 60 (0, 0)) ∧ Touch Nil w w'
set_option maxHeartbeats 1000000 in
theorem newVault_any (seed : Int) (w : World) : Calls Tryd.prog 6 #[.int .u64 seed] w (NewVP seed w) := by
  have HN := Lib.hid (new_any seed w)
  go_enter Tryd.func6, Tryd.ntmps6
  go_wp2_with fail
  refine HN.out.mono ?_
  rintro e w1 ⟨t, rfl, hT, ht⟩
  have hT' := hT
  obtain ⟨⟨bt, _, _, _, rfl, _⟩, _, _⟩ := hT'
  have HT := Lib.hid hT
  have HTT := Lib.hid ht
  clear hT ht HN
  go_wp2_with fail
  go_ret
  have ta := (Touch.refl Nil w1).alloc (.cells #[.pointer (some ⟨bt, 0, none⟩)] 60)
  exact ⟨_, w1.heap.size, _, rfl, HT.out.keepN ta, fun b h => h.1, fun h => by have := h.2; omega, HTT.out.size, heap_alloc_new _ _, HTT.out.trans ta⟩
section
variable {R : Nat → Prop} {w : World} {tp : Option Addr} {seed : Int} {n C bv : Nat} {T : Cells}
def KeptP (tp : Option Addr) (w : World) (e : Ending) (w' : World) : Prop := e = .returned (.agg #[.pointer tp]) ∧ Touch Nil w w'
set_option maxRecDepth 100000 in
set_option maxHeartbeats 1000000 in
theorem kept_any (hv : w.heap[bv]? = some (.cells #[.pointer tp] 60 (0, 0))) : Calls Tryd.prog 24 #[.pointer (some ⟨bv, 0, none⟩)] w (KeptP tp w) := by
  have b0 : w.cell? ⟨bv, 0, none⟩ = some (.pointer tp) := by simp [World.cell?, hv]
  have b1 : ∀ o, (w.alloc o).cell? ⟨bv, 0, none⟩ = some (.pointer tp) := fun o => (World.cell?_alloc_lt _ _ _ (World.block_lt_of_cell? w _ b0)).trans b0
  have HT := Lib.hid ((Touch.refl Nil w).alloc (.cells #[.pointer tp] 58))
  clear hv
  go_enter Tryd.func24, Tryd.ntmps24
  go_wp2_with fail
  (try simp only [Exit.inBlock, Exit.then])
  refine bodyPost_ret (results_cell_row rfl _ _ w.heap.size _ _ _ _ rfl (heap_alloc_new _ _) Tryd.underlying58 rfl (by kernel_rfl)) rfl ?_
  exact ⟨rfl, HT.out⟩
def VPutP (R : Nat → Prop) (tp : Option Addr) (seed : Int) (n C : Nat) (T : Cells) (nm : ByteArray) (key data pad : Key) (w : World) (e : Ending) (w' : World) : Prop :=
  ∃ xa xn xc R' n' C' T', e = .returned (.tuple #[.agg #[.string nm, .slice xa xn xc], .int .i64 0]) ∧ OwnB w.heap.size w' (.slice xa xn xc) (xorL data pad) ∧ Tab R' w' (.pointer tp) seed n' C' T' ∧ Touch R w w' ∧ (∀ b, R' b → R b ∨ w.heap.size ≤ b) ∧ n' ≤ n + 1 ∧ (∀ x, InT C' T' x ↔ (x.1 ≠ key ∧ InT C T x) ∨ x = (key, [1] ++ pad)) ∧ ∀ k, OwnOf (.slice xa xn xc) k → ¬ R' k
theorem put2_heap {w : World} {b t : Nat} {x0 x1 y0 y1 : Value} (h : w.heap[b]? = some (.cells #[y0, y1] t (0, 0))) : ((w.setCell ⟨b, 0, none⟩ x0).setCell ⟨b, 1, none⟩ x1).heap[b]? = some (.cells #[x0, x1] t (0, 0)) := by simp [World.setCell, Array.getElem?_modify, h]
theorem resS {w : World} {b : Nat} {x0 x1 : Value} {fn : Func} {p u : Tmp} (hr : fn.results = #[.cell p 32, .tmp u]) {tmps : Array Value} (hp : tmps.getD p undef = .pointer (some ⟨b, 0, none⟩)) (h : w.heap[b]? = some (.cells #[x0, x1] 32 (0, 0))) :
    (results fn tmps).run Tryd.prog w = .ok (.tuple #[.agg #[x0, x1], tmps.getD u undef]) w := by
  rw [results_cell_tmp hr, hp]
  have h1 := run_loadVar_row (P := Tryd.prog) w b 32 32 #[x0, x1] (0, 0) _ h Tryd.underlying32 rfl (by kernel_rfl)
  simp [asAddr, Result.andThen, Sem.run_pure, h1]
set_option maxRecDepth 100000 in
set_option maxHeartbeats 2000000 in
theorem vput_any (hT : Tab R w (.pointer tp) seed n C T) (hv : w.heap[bv]? = some (.cells #[.pointer tp] 60 (0, 0))) (hnR : ¬ R bv) (nm : ByteArray) (hnm : namedB nm = true) {key : Key} (hke : nm.data.toList = key) (hno : valAt (T (seekAt (bfS seed) (homS seed C) C T key)) key = none) (hn : n < 100000)
    {da pa : Option Addr} {dl dc pc : Nat} {data pad : Key} (hd : BV w (.slice da dl dc) data) (hdR : 0 < data.length → ∀ b, OwnOf (.slice da dl dc) b → ¬ R b) (hp : BV w (.slice pa dl pc) pad) (hpR : 0 < pad.length → ∀ b, OwnOf (.slice pa dl pc) b → ¬ R b) (hpl : dl ≤ 999) :
    Calls Tryd.prog 8 #[.pointer (some ⟨bv, 0, none⟩), .string nm, .slice da dl dc, .slice pa dl pc] w (VPutP R tp seed n C T nm key data pad w) := by
  have hl1 : dl = data.length := by obtain ⟨_, _, e, _⟩ := hd; injection e
  have hl2 : dl = pad.length := by obtain ⟨_, _, e, _⟩ := hp; injection e
  have hsz : 1 ≤ nm.size ∧ nm.size ≤ 16 := by
    unfold namedB at hnm
    exact of_decide_eq_true ((Bool.and_eq_true _ _).mp hnm).2
  have hkl : 1 ≤ key.length ∧ key.length ≤ 64 := by
    have : key.length = nm.size := by rw [← hke]; simp
    omega
  have HT := Lib.hid hT
  have HLOW := Lib.hid hT.low
  have HV := Lib.hid hv
  have HD := Lib.hid hd
  have HP := Lib.hid hp
  have HDR := Lib.hid hdR
  have HPR := Lib.hid hpR
  have HLL := Lib.hid (And.intro hl1 hl2)
  have HNR := Lib.hid hnR
  have HIS := Lib.hid (fun w => isName_any nm w (by omega))
  rw [hnm] at HIS
  have HADD := Lib.hid (fun w' (ht : Touch Nil w w') => add_any7 (hT.keepN ht) nm hke hkl hno hn (hp.keepN ht) (by omega))
  have d1 : decide ((999 : Int) < (dl : Int)) = false := by rw [decide_eq_false_iff_not]; omega
  have d2 : ((dl : Int) != (dl : Int)) = false := by simp
  have h8 := heap_alloc_new w (.cells #[.string ⟨#[]⟩, .slice none 0 0] 32)
  have HTA := Lib.hid ((Touch.refl Nil w).alloc (.cells #[.string ⟨#[]⟩, .slice none 0 0] 32))
  have HDL := Lib.hid hpl
  clear hT hv hnR hnm hke hno hn hd hp hdR hpR hl1 hl2 hsz hkl hpl
  go_enter Tryd.func8, Tryd.ntmps8
  go_wp2_with fail
  refine (HIS.out _).mono ?_
  rintro e w1 ⟨rfl, ht1⟩
  have HT1 := Lib.hid (HTA.out.trans ht1)
  have H81 := Lib.hid ((ht1.same _ (by simp) (fun c => c)).trans h8)
  have HE : ∃ b8, w.heap.size = b8 := ⟨_, rfl⟩
  obtain ⟨b8, e8⟩ := HE
  rw [e8] at H81 ⊢
  have HB8 := Lib.hid e8
  clear ht1 h8 e8
  go_wp2_with fail
  refine (kept_any ((HT1.out.same bv (lt_heap HV.out) (fun c => c)).trans HV.out)).mono ?_
  rintro e w2 ⟨rfl, ht2⟩
  have HT2 := Lib.hid (HT1.out.trans ht2)
  have H82 := Lib.hid ((ht2.same b8 (lt_heap H81.out) (fun c => c)).trans H81.out)
  clear ht2
  go_wp2_with fail
  refine (HADD.out _ HT2.out).mono ?_
  rintro e w3 ⟨R', n', C', T', rfl, hT', ht3, hR', hn', hin'⟩
  have HR8 := Lib.hid (show ¬ R b8 from fun h => by have := HLOW.out b8 h; have := HB8.out; omega)
  have H83 := Lib.hid ((ht3.same b8 (lt_heap H82.out) HR8.out).trans H82.out)
  have HT3 := Lib.hid (HT2.out.of_nil.trans ht3)
  have HD3 := Lib.hid ((HD.out.keepN HT2.out).keep0 ht3 HDR.out)
  have HP3 := Lib.hid ((HP.out.keepN HT2.out).keep0 ht3 HPR.out)
  have HN := Lib.hid (And.intro hn' hin')
  have HRR := Lib.hid (show ∀ b, R' b → R b ∨ w.heap.size ≤ b from fun b hb => (hR' b hb).imp (fun h => h) fun h => Nat.le_trans HT2.out.size h)
  have HRX := Lib.hid (show ¬ R' b8 from fun h => by rcases hR' b8 h with c | c; (exact HR8.out c); (have := lt_heap H82.out; omega))
  have HTT := Lib.hid hT'
  clear hT' ht3 hR' hn' hin'
  go_wp2_with fail
  refine (xor_any HD3.out HP3.out (by have := HLL.out; omega) (by have := HLL.out; have := HDL.out; omega)).mono ?_
  rintro e w4 ⟨x, rfl, hx, ht4⟩
  obtain ⟨xa, xn, xc, rfl⟩ := hx.form
  have H84 := (ht4.same b8 (lt_heap H83.out) (fun c => c)).trans H83.out
  have H8 := Lib.hid H84
  have c0 : w4.cell? ⟨b8, 0, none⟩ = some (.string ⟨#[]⟩) := by simp [World.cell?, H84]
  have c1 : w4.cell? ⟨b8, 1, none⟩ = some (.slice none 0 0) := by simp [World.cell?, H84]
  have z0 : w4.frozen? ⟨b8, 0, none⟩ = false := by simp [World.frozen?, H84]
  have z1 : w4.frozen? ⟨b8, 1, none⟩ = false := by simp [World.frozen?, H84]
  have HX := Lib.hid hx
  have HT4 := Lib.hid (HT3.out.trans ht4.of_nil)
  have HTT4 := Lib.hid (HTT.out.keepN ht4)
  clear hx ht4 H84
  go_wp2_with fail
  (try simp only [Exit.inBlock, Exit.then])
  refine bodyPost_ret (resS rfl rfl (put2_heap H8.out)) rfl ?_
  have ts := ((Touch.refl (Just b8) w4).setCell ⟨b8, 0, none⟩ (.string nm) fun _ => rfl).setCell ⟨b8, 1, none⟩ (.slice xa xn xc) fun _ => rfl
  refine ⟨xa, xn, xc, R', n', C', T', rfl, ?_, HTT4.out.keep ts (fun b hb hs => by have hs : b = b8 := hs; subst hs; exact HRX.out hb), HT4.out.trans' ts (fun b hb hs => by have hs : b = b8 := hs; have := HB8.out; omega), HRR.out, HN.out.1, HN.out.2, fun k hk hr => by have h1 := (HX.out.block k hk).1; have h2 := HTT.out.low k hr; omega⟩
  have hx := HX.out
  exact (hx.keep ts (fun k hk hs => by
    have hs : k = b8 := hs
    have h1 := (hx.block k hk).1
    have h2 := lt_heap H83.out
    omega)).base HT3.out.size
end
end Go.Proofs.YticddcnlafbkoaaDoor
