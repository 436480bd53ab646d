import Derived.Test.YtkkpcndpjkebkaaEach
/- A range over a map: a law for bodies that never leave, which are told what each round hands in. -/
namespace Go.Proofs.Ytkkpcndpjkebkaa
open Go.ChangeShapes Go.WideShapes Go.ChangeAt Go.RowKit Go.Deep

set_option maxRecDepth 100000 in
set_option maxHeartbeats 2000000 in
theorem all1_map {seed : Int} {R S : Nat → Prop} {n₀ l mb bb Bt : Nat} {ra : Option Addr} {t : Tree} {W : World} (hm : MapAt seed R W mb bb ra t) (hb : W.cell? ⟨Bt, 0, none⟩ = some (.pointer (some ⟨mb, 0, none⟩))) (hR : ∀ b, R b → ¬ S b) (hn : n₀ ≤ W.heap.size)
    (J : Nat → World → Prop) (hJ : ∀ i W W', J i W → Touch Nil W W' → J i W') (h0 : J 0 W) (hY : RoundOf S n₀ l J t.toL) :
    Calls Try.prog 95 #[.func (.yield l) #[] #[], .pointer (some ⟨Bt, 0, none⟩)] W fun e W' => (∃ v, e = .returned v) ∧ J t.size W' ∧ Touch S W W' := by
  have HM := Lib.hid (root_map hm)
  have HE := Lib.hid (show Calls Try.prog 96 #[.pointer ra, .func (.yield l) #[] #[]] W (EachPost S J t.size W) from by
    have h := callsIn_wide.1 (each_any hR J hJ t.toL hY t 5 0 hm.tree h0 hn (fun j p hp => by rw [Nat.zero_add]; exact hp))
    rwa [Nat.zero_add] at h)
  have hN := neq_yield W l
  clear hm hY hJ h0
  go_enter Try.func95, Try.ntmps95
  go_wp2_with fail
  refine HM.out.mono ?_
  rintro e w' ⟨rfl, rfl⟩
  go_wp2_with fail
  refine HE.out.mono ?_
  rintro e w2 ⟨rfl, hj, ht⟩
  have HT := Lib.hid (And.intro hj ht)
  clear hj ht
  go_wp2_with fail
  go_end0
  exact ⟨⟨_, rfl⟩, HT.out⟩

theorem keeps_of {S : Nat → Prop} {W W' : World} (ht : Touch S W W') (hS : ∀ b, S b → ∃ cs t z, W.heap[b]? = some (.cells cs t z)) : KeepsOthers W W' :=
  ⟨ht.size, fun k o hk ho => (ht.same k (lt_of_heap hk) fun hs => by
    obtain ⟨cs, t, z, h⟩ := hS k hs
    rw [hk] at h
    cases h
    cases ho).trans hk⟩
theorem set_cell1 {w : World} {b t : Nat} {x z : Value} (h : w.heap[b]? = some (.cells #[x] t (0, 0))) : (w.setCell ⟨b, 0, none⟩ z).heap[b]? = some (.cells #[z] t (0, 0)) := by
  have hrow : w.rowIs b t 1 (fun _ => x) := ⟨_, h, rfl, fun i hi => by obtain rfl : i = 0 := (by omega); rfl⟩
  exact row_block ((hrow.set 0 z).congr (g := fun _ => z) fun i hi => by obtain rfl : i = 0 := (by omega); rfl)
/-- Blocks from B on that are no cells. -/
def Oth (B : Nat) (W : World) (b : Nat) : Prop := B ≤ b ∧ ∃ o, W.heap[b]? = some o ∧ o.isCells = false
theorem touch_oth {B l : Nat} {W : World} {o o' : Obj} (hl : W.heap[l]? = some o) (ho : o.isCells = false) (hB : B ≤ l) : Touch (Oth B W) W (W.putObj l o') :=
  (touch_grown (grownBy_putObj' W l o')).mono fun b _ hs => by cases hs; exact ⟨hB, o, hl, ho⟩
theorem notBytes_oth {B : Nat} {W : World} : NotBytes (Oth B W) W := fun b ⟨_, o, ho, hc⟩ => fun cs z h => by rw [h] at ho; cases ho; cases hc
theorem alloc_same {w : World} {o o' : Obj} {k : Nat} (h : w.heap[k]? = some o) : (w.alloc o').heap[k]? = some o := ((Touch.refl Nil w).alloc o').same k (lt_of_heap h) (fun c => c) |>.trans h

theorem range_map {g : Operand} {ps : Array Tmp} {assign body : Code} {Q : Exit → Act → World → Prop} {a : Act} {w : World} {seed : Int} {R S : Nat → Prop} {n₀ mb bb Bt : Nat} {ra : Option Addr} {t : Tree}
    (hg : a.eval g = .func (.func 95) #[] #[.pointer (some ⟨Bt, 0, none⟩)]) (hm : MapAt seed R w mb bb ra t) (hb : w.cell? ⟨Bt, 0, none⟩ = some (.pointer (some ⟨mb, 0, none⟩))) (hR : ∀ b, R b → ¬ S b) (hS : ∀ b, w.heap.size ≤ b → S b) (hn : n₀ ≤ w.heap.size) (hps : ps.size = 2)
    (I : Nat → World → Prop) (hI : ∀ i W W', I i W → Touch (Oth w.heap.size W) W W' → I i W') (h0 : I 0 w) (a₁ : Value → Value → Act)
    (hassign : ∀ (m l : Nat) (kx ux : Value) (W : World) (K : Act → World → Prop), K (a₁ kx ux) W → assign.wpIn (Fence.wide.inRound l) m Try.prog (Exit.then K (fun _ _ _ => False)) { tmps := (ps.zip #[kx, ux]).foldl (fun t (p, v) => t.setIfInBounds p v) a.tmps, defers := [] } W)
    (hbody : ∀ (m l i : Nat) (p : Key × Key) (W : World) (kx ux : Value), t.toL[i]? = some p → I i W → w.heap.size ≤ W.heap.size → OwnB n₀ W kx p.1 → OwnB n₀ W ux p.2 → (∀ b, OwnOf kx b → ¬ OwnOf ux b) →
      body.wpIn (Fence.wide.inRound l) m Try.prog (fun e _ W' => e = .normal ∧ KeepsOthers W W' ∧ I (i + 1) W' ∧ Touch S W W') (a₁ kx ux) W)
    (hdone : ∀ (D : Nat) (W : World), w.heap.size ≤ D → I t.size W → Touch S w W → W.heap[D]? = some (.deferred (some [])) → Q .normal { a with defers := { target := .collected D, args := #[] } :: a.defers } W) :
    (Code.rangeFunc g ps assign body).wp Try.prog Q a w := by
  refine (wpIn_wide (n := 7)).1 (wpIn_rangeFunc fun fn hfn => ?_)
  -- the loop's record in its states, and the world with it
  obtain ⟨rec, hrec⟩ : ∃ rec : LoopState → Loop, rec = fun s => { state := s, pending := none, fn := fn, tmps := a.tmps, params := ps, assign := assign, body := body, defers := w.heap.size } := ⟨_, rfl⟩
  have hlay : (Instr.enterLoop fn a.tmps ps assign body none).run Try.prog w = .ok (w.heap.size + 1, [{ target := .collected w.heap.size, args := #[] }]) ((w.alloc (.deferred (some []))).alloc (.loop (rec .ready))) := by rw [hrec]; exact run_enterLoop_outer _ _ _ _ _
  have hd1 : ((w.alloc (.deferred (some []))).alloc (.loop (rec .ready))).heap[w.heap.size]? = some (.deferred (some [])) := alloc_same (heap_alloc_new w _)
  have hl1 : ((w.alloc (.deferred (some []))).alloc (.loop (rec .ready))).heap[w.heap.size + 1]? = some (.loop (rec .ready)) := by
    have h := heap_alloc_new (w.alloc (.deferred (some []))) (.loop (rec .ready)); rwa [nblk_alloc] at h
  have ht1 : Touch Nil w ((w.alloc (.deferred (some []))).alloc (.loop (rec .ready))) := ((Touch.refl Nil w).alloc _).alloc _
  generalize (w.alloc (.deferred (some []))).alloc (.loop (rec .ready)) = W1 at hlay hd1 hl1 ht1
  have nilOth : ∀ {W W' : World}, Touch Nil W W' → Touch (Oth w.heap.size W) W W' := fun ht => ht.mono fun _ _ c => c.elim
  have hY : RoundOf S n₀ (w.heap.size + 1) (fun i W => I i W ∧ W.heap[w.heap.size + 1]? = some (.loop (rec .ready)) ∧ W.heap[w.heap.size]? = some (.deferred (some []))) t.toL := by
    rintro m i p W kx ux hp ⟨hi, hl, hk⟩ _ hkx hux hdis
    have hlt := lt_of_heap hl
    have hy := run_yield (P := Try.prog) (args := #[kx, ux]) hl (by rw [hrec]; exact hps.symm)
    rw [hrec] at hy
    refine ⟨fn, _, assign, body, hy, roundIn_of_wpIn hfn (hassign m _ kx ux W _ ⟨_, run_beginRound hl (by rw [hrec]), ?_⟩)⟩
    -- the record is busy: another block than all that the body speaks of
    have hto := touch_oth (o' := .loop { rec .ready with state := .busy }) hl rfl (Nat.le_succ w.heap.size)
    have hbl : (W.putObj (w.heap.size + 1) (.loop { rec .ready with state := .busy })).heap[w.heap.size + 1]? = some (.loop { rec .ready with state := .busy }) := World.putObj_heap_same hlt
    have hbk : (W.putObj (w.heap.size + 1) (.loop { rec .ready with state := .busy })).heap[w.heap.size]? = some (.deferred (some [])) := (World.putObj_heap_other (by omega)).trans hk
    generalize W.putObj (w.heap.size + 1) (.loop { rec .ready with state := .busy }) = W2 at hto hbl hbk ⊢
    have hf2 : Touch S W W2 := hto.mono fun b _ hs => hS b hs.1
    refine wpIn_mono (hbody m _ i p W2 kx ux hp (hI _ _ _ hi hto) (Nat.le_of_lt (Nat.lt_of_lt_of_le (by omega) (Nat.le_of_lt (lt_of_heap hbl)))) (hkx.keepT hto notBytes_oth) (hux.keepT hto notBytes_oth) hdis) ?_
    rintro e a3 W3 ⟨rfl, hk3, hi3, hf3⟩
    have hl3 := hk3.same _ _ hbl rfl
    have hd3 := hk3.same _ _ hbk rfl
    have hto4 := touch_oth (o' := .loop { (rec .ready) with state := .ready, pending := none }) hl3 rfl (Nat.le_succ w.heap.size)
    refine ⟨_, _, run_endRound none hl3, rfl, ⟨hI _ _ _ hi3 hto4, ?_, (World.putObj_heap_other (by omega)).trans hd3⟩, (hf2.trans hf3).trans (hto4.mono fun b _ hs => hS b hs.1)⟩
    rw [World.putObj_heap_same (lt_of_heap hl3), hrec]; rfl
  refine ⟨w.heap.size + 1, [{ target := .collected w.heap.size, args := #[] }], W1, { target := .fn (.func 95) #[.pointer (some ⟨Bt, 0, none⟩)], args := #[.func (.yield (w.heap.size + 1)) #[] #[]] }, W1, 95,
    #[.func (.yield (w.heap.size + 1)) #[] #[]] ++ #[.pointer (some ⟨Bt, 0, none⟩)], W1, hlay, ?_, fun _ _ => trivial, ?_, (fun h => (by cases h)), ?_⟩
  · simp only [resolve, hg]
    simp [go_sem]
  · have eg := enters_of (P := Try.prog) Try.func95 (by kernel_rfl) rfl
    simp [invoke, go_sem]
  · refine callsIn_wide.2 ((all1_map (hm.keepN ht1) (cell_step hb ht1) hR (Nat.le_trans hn ht1.size) _ (fun i W W' ⟨hi, hl, hk⟩ ht => ⟨hI _ _ _ hi (nilOth ht), (ht.same _ (lt_of_heap hl) fun c => c).trans hl, (ht.same _ (lt_of_heap hk) fun c => c).trans hk⟩) ⟨hI _ _ _ h0 (nilOth ht1), hl1, hd1⟩ hY).mono ?_)
    rintro e W2 ⟨⟨v, rfl⟩, ⟨hi, hl, hk⟩, hf⟩
    have hto := touch_oth (o' := .loop { rec .ready with state := .exhausted }) hl rfl (Nat.le_succ w.heap.size)
    have hend : (Instr.endLoop (w.heap.size + 1)).run Try.prog W2 = .ok none (W2.putObj (w.heap.size + 1) (.loop { rec .ready with state := .exhausted })) := (run_endLoop (P := Try.prog) hl (by rw [hrec]; simp)).trans (by subst hrec; rfl)
    exact ⟨none, _, hend, hdone _ _ (Nat.le_refl _) (hI _ _ _ hi hto) (((ht1.mono fun _ _ c => c.elim).trans hf).trans (hto.mono fun b _ hs => hS b hs.1)) ((World.putObj_heap_other (by omega)).trans hk)⟩
end Go.Proofs.Ytkkpcndpjkebkaa
