import Derived.Test.YtkkpcndpjkebkaaStopA
import Derived.Test.YtkkpcndpjkebkaaStopB
import Derived.Test.YtkkpcndpjkebkaaStopC
import Derived.Test.YtkkpcndpjkebkaaRange
/- A range over a map whose body changes the map, and may leave. -/
namespace Go.Proofs.Ytkkpcndpjkebkaa
open Go.ChangeShapes Go.WideShapes Go.ChangeAt Go.RowKit Go.Deep
attribute [local go_sem] Oper.semAt_some

/-- What a round must do where the walk is to end behind the round `stop - 1`. -/
def StopOf (S : Nat → Prop) (n₀ l : Nat) (J : Nat → World → Prop) (L : Pairs) (stop : Nat) : Prop :=
  ∀ (m i : Nat) (p : Key × Key) (W0 W : World) (kx ux : Value), L[i]? = some p → i < stop → J i W0 → Touch Nil W0 W → n₀ ≤ W0.heap.size → OwnB W0.heap.size W kx p.1 → OwnB W0.heap.size W ux p.2 → (∀ b, OwnOf kx b → ¬ OwnOf ux b) →
    YieldAt Fence.wide m Try.prog l #[kx, ux] W fun e W' => e = .returned (.bool (decide (i + 1 ≠ stop))) ∧ J (i + 1) W' ∧ Touch S W W'

theorem each_stop {seed : Int} {R S : Nat → Prop} {n₀ l : Nat} (hR : ∀ b, R b → ¬ S b) (J : Nat → World → Prop) (hJ : ∀ i W W', J i W → Touch Nil W W' → J i W') (L : Pairs) (stop : Nat) (hY : StopOf S n₀ l J L stop) :
    ∀ (t : Tree) (n i : Nat) {v : Value} {W : World}, TreeAt seed R W t v → J i W → n₀ ≤ W.heap.size → (∀ j p, t.toL[j]? = some p → L[i + j]? = some p) → i < stop → stop ≤ i + t.size →
      CallsIn Fence.wide n Try.prog 96 #[v, .func (.yield l) #[] #[]] W (StopPost S J stop W) := by
  intro t
  induction t with
  | nil =>
    intro n i v W h hj hn hL h1 h2
    simp only [Tree.size] at h2
    omega
  | node tl k u tr ihl ihr =>
    intro n i v W h hj hn hL h1 h2
    have hsz : (Tree.node tl k u tr).size = tl.size + 1 + tr.size := by simp only [Tree.size]
    have hp : L[i + tl.size]? = some (k, u) := hL tl.size (k, u) (by
      simp only [Tree.toL]
      rw [List.getElem?_append_right (by rw [← size_toL]; omega), ← size_toL, Nat.sub_self]; rfl)
    have hll : ∀ j p, tl.toL[j]? = some p → L[i + j]? = some p := fun j p hp => hL j p (by
      have hj := (List.getElem?_eq_some_iff.1 hp).1
      simp only [Tree.toL]
      rw [List.getElem?_append_left hj]; exact hp)
    have hlr : ∀ j p, tr.toL[j]? = some p → L[i + tl.size + 1 + j]? = some p := fun j p hp => by
      have h := hL (tl.size + 1 + j) p (by
        simp only [Tree.toL]
        rw [List.getElem?_append_right (by rw [← size_toL]; omega), ← size_toL, show tl.size + 1 + j - tl.size = j + 1 by omega, List.getElem?_cons_succ]; exact hp)
      rw [show i + tl.size + 1 + j = i + (tl.size + 1 + j) by omega]; exact h
    by_cases hA : stop ≤ i + tl.size
    · exact stop_A hR hJ h hn (fun m v' w' ht hv => ihl m i hv (hJ _ _ _ hj ht) (Nat.le_trans hn ht.size) hll h1 hA) n
    have hRd : RoundOf2 S n₀ l J (L.take (stop - 1)) := fun m i' p W0 W kx ux hp' hj' ht' hn' hk hu hd => by
      have hl : i' < stop - 1 := by
        have := (List.getElem?_eq_some_iff.1 hp').1
        rw [List.length_take] at this
        omega
      rw [List.getElem?_take_of_lt hl] at hp'
      have h := hY m i' p W0 W kx ux hp' (by omega) hj' ht' hn' hk hu hd
      rwa [show decide (i' + 1 ≠ stop) = true from by simp; omega] at h
    have hleft : ∀ (m : Nat) (v' : Value) (w' : World), Touch Nil W w' → TreeAt seed R w' tl v' → CallsIn Fence.wide m Try.prog 96 #[v', .func (.yield l) #[] #[]] w' (EachPost S J (i + tl.size) w') := fun m v' w' ht hv =>
      each2_any hR J hJ (L.take (stop - 1)) hRd tl m i hv (hJ _ _ _ hj ht) (Nat.le_trans hn ht.size) fun j p hp => by
        have := (List.getElem?_eq_some_iff.1 hp).1
        rw [← size_toL] at this
        rw [List.getElem?_take_of_lt (by omega)]
        exact hll j p hp
    by_cases hB : stop = i + tl.size + 1
    · subst hB
      refine stop_B hR hJ h hn hleft (fun m W0 W kx ux hj' ht' hn' hk hu hd => ?_) n
      have h := hY m _ (k, u) W0 W kx ux hp (by omega) hj' ht' hn' hk hu hd
      rwa [show decide (i + tl.size + 1 ≠ i + tl.size + 1) = false from by simp] at h
    · refine stop_C hR hJ h hn hleft (fun m W0 W kx ux hj' ht' hn' hk hu hd => ?_) (fun m v' w' ht hj' hv => ihr m (i + tl.size + 1) hv hj' (Nat.le_trans hn ht.size) hlr (by omega) (by omega)) n
      have h := hY m _ (k, u) W0 W kx ux hp (by omega) hj' ht' hn' hk hu hd
      rwa [show decide (i + tl.size + 1 ≠ stop) = true from by simp; omega] at h

set_option maxRecDepth 100000 in
set_option maxHeartbeats 2000000 in
theorem all1_each {seed : Int} {R : Nat → Prop} {l mb bb Bt : Nat} {ra : Option Addr} {t : Tree} {W : World} (hm : MapAt seed R W mb bb ra t) (hb : W.cell? ⟨Bt, 0, none⟩ = some (.pointer (some ⟨mb, 0, none⟩))) (r : Bool) (Z : World → Prop)
    (hE : ∀ v, TreeAt seed R W t v → CallsIn Fence.wide 5 Try.prog 96 #[v, .func (.yield l) #[] #[]] W fun e W' => e = .returned (.bool r) ∧ Z W') :
    Calls Try.prog 95 #[.func (.yield l) #[] #[], .pointer (some ⟨Bt, 0, none⟩)] W fun e W' => (∃ v, e = .returned v) ∧ Z W' := by
  have HM := Lib.hid (root_map hm)
  have HE := Lib.hid (show Calls Try.prog 96 #[.pointer ra, .func (.yield l) #[] #[]] W fun e W' => e = .returned (.bool r) ∧ Z W' from callsIn_wide.1 (hE _ hm.tree))
  have hN := neq_yield W l
  clear hm hE
  go_enter Try.func95, Try.ntmps95
  go_wp2_with fail
  refine HM.out.mono ?_
  rintro e w' ⟨rfl, rfl⟩
  go_wp2_with fail
  refine HE.out.mono ?_
  rintro e w2 ⟨rfl, hz⟩
  have HT := Lib.hid hz
  clear hz
  go_wp2_with fail
  go_end0
  exact ⟨⟨_, rfl⟩, HT.out⟩

theorem touch_just (W : World) (l : Nat) (o' : Obj) : Touch (Just l) W (W.putObj l o') := (touch_grown (grownBy_putObj' W l o')).mono fun b _ hs => by cases hs; rfl

section
variable {seed : Int} {R S : Nat → Prop} {n₀ mb bb Bt : Nat} {ra : Option Addr} {t : Tree}
/-- The record of a range. -/
def recOf (fn : FuncId) (tmps : Array Value) (ps : Array Tmp) (assign body : Code) (d : Nat) (s : LoopState) (p : Option Code) : Loop := { state := s, pending := p, fn := fn, tmps := tmps, params := ps, assign := assign, body := body, defers := d }

/-- A range whose body is left behind the round `stop - 1` (where st is set), or runs through (where not; then stop is the number of pairs). -/
theorem range_any {g : Operand} {ps : Array Tmp} {assign body : Code} {Q : Exit → Act → World → Prop} {a : Act} {w : World} (st : Bool) (id stop : Nat) (hst : if st = true then 1 ≤ stop ∧ stop ≤ t.size else stop = t.size)
    (hg : a.eval g = .func (.func 95) #[] #[.pointer (some ⟨Bt, 0, none⟩)]) (hm : MapAt seed R w mb bb ra t) (hb : w.cell? ⟨Bt, 0, none⟩ = some (.pointer (some ⟨mb, 0, none⟩))) (hR : ∀ b, R b → ¬ S b) (hS : ∀ b, w.heap.size ≤ b → S b) (hn : n₀ ≤ w.heap.size) (hps : ps.size = 2)
    (I : Nat → World → Prop) (hI : ∀ i W W', I i W → Touch (Just (w.heap.size + 1)) W W' → I i W') (h0 : I 0 w) (a₁ : Value → Value → Act)
    (hassign : ∀ (m l : Nat) (kx ux : Value) (W : World) (K : Act → World → Prop), K (a₁ kx ux) W → assign.wpIn (Fence.wide.inRound l) m Try.prog (Exit.then K (fun _ _ _ => False)) { tmps := (ps.zip #[kx, ux]).foldl (fun t (p, v) => t.setIfInBounds p v) a.tmps, defers := [] } W)
    (hbody : ∀ (m l i : Nat) (p : Key × Key) (W0 W : World) (kx ux : Value), t.toL[i]? = some p → i < stop → I i W0 → Touch (Just (w.heap.size + 1)) W0 W → w.heap.size + 2 ≤ W0.heap.size → OwnB W0.heap.size W kx p.1 → OwnB W0.heap.size W ux p.2 → (∀ b, OwnOf kx b → ¬ OwnOf ux b) → ∀ E : Exit, E = (if st = true ∧ i + 1 = stop then .exit id else .normal) →
      body.wpIn (Fence.wide.inRound l) m Try.prog (fun e _ W' => e = E ∧ KeepsOthers W W' ∧ I (i + 1) W' ∧ Touch S W W') (a₁ kx ux) W)
    (hdone : ∀ (D : Nat) (W : World), w.heap.size ≤ D → I stop W → Touch S w W → W.heap[D]? = some (.deferred (some [])) → Q (if st = true then .exit id else .normal) { a with defers := { target := .collected D, args := #[] } :: a.defers } W) :
    (Code.rangeFunc g ps assign body).wp Try.prog Q a w := by
  refine (wpIn_wide (n := 7)).1 (wpIn_rangeFunc fun fn hfn => ?_)
  obtain ⟨rec, hrec⟩ : ∃ rec, rec = recOf fn a.tmps ps assign body w.heap.size := ⟨_, rfl⟩
  have hlay : (Instr.enterLoop fn a.tmps ps assign body none).run Try.prog w = .ok (w.heap.size + 1, [{ target := .collected w.heap.size, args := #[] }]) ((w.alloc (.deferred (some []))).alloc (.loop (rec .ready none))) := by rw [hrec]; exact run_enterLoop_outer _ _ _ _ _
  have hd1 : ((w.alloc (.deferred (some []))).alloc (.loop (rec .ready none))).heap[w.heap.size]? = some (.deferred (some [])) := alloc_same (heap_alloc_new w _)
  have hl1 : ((w.alloc (.deferred (some []))).alloc (.loop (rec .ready none))).heap[w.heap.size + 1]? = some (.loop (rec .ready none)) := by
    have h := heap_alloc_new (w.alloc (.deferred (some []))) (.loop (rec .ready none)); rwa [nblk_alloc] at h
  have ht1 : Touch Nil w ((w.alloc (.deferred (some []))).alloc (.loop (rec .ready none))) := ((Touch.refl Nil w).alloc _).alloc _
  have hz1 : w.heap.size + 2 ≤ ((w.alloc (.deferred (some []))).alloc (.loop (rec .ready none))).heap.size := by rw [nblk_alloc, nblk_alloc]; omega
  generalize (w.alloc (.deferred (some []))).alloc (.loop (rec .ready none)) = W1 at hlay hd1 hl1 ht1 hz1
  have nilOth : ∀ {W W' : World}, Touch Nil W W' → Touch (Just (w.heap.size + 1)) W W' := fun ht => ht.mono fun _ _ c => c.elim
  obtain ⟨J, hJ⟩ : ∃ J : Nat → World → Prop, J = fun i W => I i W ∧ W.heap[w.heap.size + 1]? = some (.loop (if st = true ∧ i = stop then rec .done (some (.exit id)) else rec .ready none)) ∧ W.heap[w.heap.size]? = some (.deferred (some [])) := ⟨_, rfl⟩
  have hJn : ∀ i W W', J i W → Touch Nil W W' → J i W' := by
    subst hJ
    exact fun i W W' ⟨hi, hl, hk⟩ ht => ⟨hI _ _ _ hi (nilOth ht), (ht.same _ (lt_of_heap hl) fun c => c).trans hl, (ht.same _ (lt_of_heap hk) fun c => c).trans hk⟩
  have hround : ∀ (m i : Nat) (p : Key × Key) (W0 W : World) (kx ux : Value), t.toL[i]? = some p → i < stop → J i W0 → Touch Nil W0 W → W1.heap.size ≤ W0.heap.size → OwnB W0.heap.size W kx p.1 → OwnB W0.heap.size W ux p.2 → (∀ b, OwnOf kx b → ¬ OwnOf ux b) →
      YieldAt Fence.wide m Try.prog (w.heap.size + 1) #[kx, ux] W fun e W' => e = .returned (.bool (decide (¬ (st = true ∧ i + 1 = stop)))) ∧ J (i + 1) W' ∧ Touch S W W' := by
    intro m i p W0 W kx ux hp his hj0 ht0 hn0 hkx hux hdis
    have hj := hJn _ _ _ hj0 ht0
    subst hJ
    obtain ⟨hi0, _, _⟩ := hj0
    obtain ⟨_, hl, hk⟩ := hj
    rw [if_neg (by omega)] at hl
    have hlt := lt_of_heap hl
    have hy := run_yield (P := Try.prog) (args := #[kx, ux]) hl (by rw [hrec]; exact hps.symm)
    rw [hrec] at hy
    refine ⟨fn, _, assign, body, hy, roundIn_of_wpIn hfn (hassign m _ kx ux W _ ⟨_, run_beginRound hl (by rw [hrec]; rfl), ?_⟩)⟩
    have hto := touch_just W (w.heap.size + 1) (.loop { rec .ready none with state := .busy })
    have hbl : (W.putObj (w.heap.size + 1) (.loop { rec .ready none with state := .busy })).heap[w.heap.size + 1]? = some (.loop { rec .ready none with state := .busy }) := World.putObj_heap_same hlt
    have hbk : (W.putObj (w.heap.size + 1) (.loop { rec .ready none with state := .busy })).heap[w.heap.size]? = some (.deferred (some [])) := (World.putObj_heap_other (by omega)).trans hk
    have ht02 : Touch (Just (w.heap.size + 1)) W0 (W.putObj (w.heap.size + 1) (.loop { rec .ready none with state := .busy })) := (nilOth ht0).trans hto
    have hnb : NotBytes (Just (w.heap.size + 1)) W := fun b hs cs z h => by
      have hs : b = w.heap.size + 1 := hs
      rw [hs, hl] at h
      injection h with h
      cases h
    generalize W.putObj (w.heap.size + 1) (.loop { rec .ready none with state := .busy }) = W2 at hto hbl hbk ht02 ⊢
    have hf2 : Touch S W W2 := hto.mono fun b _ hs => hS b (by have hs : b = w.heap.size + 1 := hs; omega)
    refine wpIn_mono (hbody m _ i p W0 W2 kx ux hp his hi0 ht02 (by omega) (hkx.keepT hto hnb) (hux.keepT hto hnb) hdis _ rfl) ?_
    rintro e a3 W3 ⟨rfl, hk3, hi3, hf3⟩
    have hl3 := hk3.same _ _ hbl rfl
    have hd3 := hk3.same _ _ hbk rfl
    by_cases hlast : st = true ∧ i + 1 = stop
    · rw [if_pos hlast]
      have hto4 := touch_just W3 (w.heap.size + 1) (.loop { (rec .ready none) with state := .done, pending := some (.exit id) })
      refine ⟨_, _, run_endRound (some (.exit id)) hl3, by simp [hlast], ⟨hI _ _ _ hi3 hto4, ?_, (World.putObj_heap_other (by omega)).trans hd3⟩, (hf2.trans hf3).trans (hto4.mono fun b _ hs => hS b (by have hs : b = w.heap.size + 1 := hs; omega))⟩
      rw [if_pos hlast]
      exact (World.putObj_heap_same (lt_of_heap hl3)).trans (by rw [hrec]; rfl)
    · rw [if_neg hlast]
      have hto4 := touch_just W3 (w.heap.size + 1) (.loop { (rec .ready none) with state := .ready, pending := none })
      refine ⟨_, _, run_endRound none hl3, by simp [hlast], ⟨hI _ _ _ hi3 hto4, ?_, (World.putObj_heap_other (by omega)).trans hd3⟩, (hf2.trans hf3).trans (hto4.mono fun b _ hs => hS b (by have hs : b = w.heap.size + 1 := hs; omega))⟩
      rw [if_neg hlast]
      exact (World.putObj_heap_same (lt_of_heap hl3)).trans (by rw [hrec]; rfl)
  have hj0 : J 0 W1 := by
    subst hJ
    refine ⟨hI _ _ _ h0 (nilOth ht1), ?_, hd1⟩
    rw [if_neg (by rintro ⟨h1, h2⟩; rw [if_pos h1] at hst; omega)]
    exact hl1
  have hE : ∀ v, TreeAt seed R W1 t v → CallsIn Fence.wide 5 Try.prog 96 #[v, .func (.yield (w.heap.size + 1)) #[] #[]] W1 fun e W' => e = .returned (.bool (decide (¬ st = true))) ∧ J stop W' ∧ Touch S W1 W' := by
    intro v hv
    cases st with
    | false =>
      rw [if_neg (by decide)] at hst
      subst hst
      have h := each2_any (n₀ := W1.heap.size) hR J hJn t.toL (fun m i p W0 W kx ux hp hj ht hn hk hu hd => by
        have h := hround m i p W0 W kx ux hp (by have := (List.getElem?_eq_some_iff.1 hp).1; rw [← size_toL] at this; exact this) hj ht hn hk hu hd
        rwa [show decide (¬ (false = true ∧ i + 1 = t.size)) = true from by simp] at h) t 5 0 hv hj0 (Nat.le_refl _) (fun j p hp => by rw [Nat.zero_add]; exact hp)
      rw [Nat.zero_add] at h
      exact h.mono fun e W' ⟨h1, h2, h3⟩ => ⟨h1, h2, h3⟩
    | true =>
      rw [if_pos rfl] at hst
      have h := each_stop (n₀ := W1.heap.size) hR J hJn t.toL stop (fun m i p W0 W kx ux hp his hj ht hn hk hu hd => by
        have h := hround m i p W0 W kx ux hp his hj ht hn hk hu hd
        rwa [show decide (¬ (true = true ∧ i + 1 = stop)) = decide (i + 1 ≠ stop) from by simp] at h) t 5 0 hv hj0 (Nat.le_refl _) (fun j p hp => by rw [Nat.zero_add]; exact hp) (by omega) (by omega)
      exact h.mono fun e W' ⟨h1, h2, h3⟩ => ⟨h1, h2, h3⟩
  refine ⟨w.heap.size + 1, [{ target := .collected w.heap.size, args := #[] }], W1, { target := .fn (.func 95) #[.pointer (some ⟨Bt, 0, none⟩)], args := #[.func (.yield (w.heap.size + 1)) #[] #[]] }, W1, 95,
    #[.func (.yield (w.heap.size + 1)) #[] #[]] ++ #[.pointer (some ⟨Bt, 0, none⟩)], W1, hlay, ?_, fun _ _ => trivial, ?_, (fun h => (by cases h)), ?_⟩
  · simp only [resolve, hg]
    simp [go_sem]
  · have eg := enters_of (P := Try.prog) Try.func95 (by kernel_rfl) rfl
    simp [invoke, go_sem]
  · refine callsIn_wide.2 ((all1_each (hm.keepN ht1) (cell_step hb ht1) _ _ hE).mono ?_)
    rintro e W2 ⟨⟨v, rfl⟩, hj, hf⟩
    subst hJ
    obtain ⟨hi, hl, hk⟩ := hj
    cases st with
    | false =>
      rw [if_neg (by simp)] at hl
      have hto := touch_just W2 (w.heap.size + 1) (.loop { rec .ready none with state := .exhausted })
      have hend : (Instr.endLoop (w.heap.size + 1)).run Try.prog W2 = .ok none (W2.putObj (w.heap.size + 1) (.loop { rec .ready none with state := .exhausted })) := (run_endLoop (P := Try.prog) hl (by rw [hrec]; simp [recOf])).trans (by subst hrec; rfl)
      exact ⟨none, _, hend, hdone _ _ (Nat.le_refl _) (hI _ _ _ hi hto) (((ht1.mono fun _ _ c => c.elim).trans hf).trans (hto.mono fun b _ hs => hS b (by have hs : b = w.heap.size + 1 := hs; omega))) ((World.putObj_heap_other (by omega)).trans hk)⟩
    | true =>
      rw [if_pos ⟨rfl, rfl⟩] at hl
      have hto := touch_just W2 (w.heap.size + 1) (.loop { rec .done (some (.exit id)) with state := .exhausted })
      have hend : (Instr.endLoop (w.heap.size + 1)).run Try.prog W2 = .ok (some (.exit id)) (W2.putObj (w.heap.size + 1) (.loop { rec .done (some (.exit id)) with state := .exhausted })) := (run_endLoop (P := Try.prog) hl (by rw [hrec]; simp [recOf])).trans (by subst hrec; rfl)
      exact ⟨some (.exit id), _, hend, wpIn_exit (hdone _ _ (Nat.le_refl _) (hI _ _ _ hi hto) (((ht1.mono fun _ _ c => c.elim).trans hf).trans (hto.mono fun b _ hs => hS b (by have hs : b = w.heap.size + 1 := hs; omega))) ((World.putObj_heap_other (by omega)).trans hk))⟩
end
end Go.Proofs.Ytkkpcndpjkebkaa
