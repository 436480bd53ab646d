import Derived.Test.YticddcnlafbkoaaDoorGrow1
import Derived.Deep.DeepCutAuto
/- spread: pairs are laid anew into as many cells as they need. -/
namespace Go.Proofs.YticddcnlafbkoaaDoor
open Go.ChangeShapes Go.WideShapes Go.ChangeAt Go.RowKit Go.Deep

/-- Pairs in a slice. -/
structure Prs (R : Nat → Prop) (w : World) (ao : Option Addr) (m : Nat) (v : Nat → Nat → Value) (p : Nat → Key × Key) : Prop where
  cells : Items w ao m 2 v
  ok : ∀ i, i < m → CellOk R w (v i 0) (v i 1) (some (p i))
  one : ∀ i c, (v i c).oneCell' = true
theorem Prs.keep {R S : Nat → Prop} {w w' : World} {ao : Option Addr} {m : Nat} {v : Nat → Nat → Value} {p : Nat → Key × Key} (h : Prs R w ao m v p) (ht : Touch S w w') (hS : NotBytes S w) (hao : 0 < m → ∀ b o, ao = some ⟨b, o, none⟩ → ¬ S b) : Prs R w' ao m v p :=
  ⟨h.cells.keep (fun h0 b o e l => ht.same b l (hao h0 b o e)) ht.size, fun i hi => (h.ok i hi).keep ht hS fun _ r => r, h.one⟩
theorem Prs.keepN {R : Nat → Prop} {w w' : World} {ao : Option Addr} {m : Nat} {v : Nat → Nat → Value} {p : Nat → Key × Key} (h : Prs R w ao m v p) (ht : Touch Nil w w') : Prs R w' ao m v p := h.keep ht (notBytes_nil _) fun _ _ _ _ c => c

def IntT (r : Int) (w : World) (e : Ending) (w' : World) : Prop := e = .returned (.int .i64 r) ∧ Touch Nil w w'

set_option maxHeartbeats 1000000 in
theorem spreadStart_any (seed : Int) (C b4 b5 : Nat) (k : Key) (ao : Option Addr) (cap : Nat) (y : Value) (w : World) (hC : 0 < C) (hC2 : C ≤ 1048576) (hk : k.length ≤ 1048576) (h : SlI w .u8 ao (ub k)) (h4 : w.cell? ⟨b4, 0, none⟩ = some (.int .u64 seed)) (h5 : w.cell? ⟨b5, 0, none⟩ = some (.int .i64 C)) :
    Calls Tryd.prog 75 #[.agg #[.slice ao k.length cap, y], .pointer (some ⟨b4, 0, none⟩), .pointer (some ⟨b5, 0, none⟩)] w (IntT ((homS seed C k : Nat) : Int) w) := by
  have HT := Lib.hid ((Touch.refl Nil w).alloc (.cells #[.slice ao k.length cap, y] 79))
  have HH := Lib.hid (home_any seed k ao cap C _ hC hC2 hk (h.keepN HT.out))
  have l4 := World.block_lt_of_cell? w _ h4
  have l5 := World.block_lt_of_cell? w _ h5
  generalize homS seed C k = r at *
  clear h
  go_enter Tryd.func75, Tryd.ntmps75
  go_wp2_with fail
  refine HH.out.mono ?_
  rintro e w' ⟨rfl, rfl⟩
  go_wp2_with fail
  go_ret
  exact ⟨rfl, HT.out⟩

set_option maxHeartbeats 1000000 in
theorem spreadBefore_any (seed : Int) (b4 : Nat) (a b : Key) (ao bo : Option Addr) (c1 c2 : Nat) (x y : Value) (w : World) (ha : a.length ≤ 1048576) (hb : b.length ≤ 1048576) (h1 : SlI w .u8 ao (ub a)) (h2 : SlI w .u8 bo (ub b)) (h4 : w.cell? ⟨b4, 0, none⟩ = some (.int .u64 seed)) :
    Calls Tryd.prog 76 #[.agg #[.slice ao a.length c1, x], .agg #[.slice bo b.length c2, y], .pointer (some ⟨b4, 0, none⟩)] w (BoolN (bfS seed a b) w) := by
  have HT := Lib.hid (((Touch.refl Nil w).alloc (.cells #[.slice ao a.length c1, x] 79)).alloc (.cells #[.slice bo b.length c2, y] 79))
  have HH := Lib.hid (comesBefore_any seed a b ao bo c1 c2 _ ha hb (h1.keepN HT.out) (h2.keepN HT.out))
  have l4 := World.block_lt_of_cell? w _ h4
  generalize bfS seed a b = r at *
  clear h1 h2
  go_enter Tryd.func76, Tryd.ntmps76
  go_wp2_with fail
  refine HH.out.mono ?_
  rintro e w' ⟨rfl, rfl⟩
  go_wp2_with fail
  go_ret
  exact ⟨rfl, HT.out⟩

theorem prs_sta {R : Nat → Prop} {w : World} {ao : Option Addr} {m C b4 b5 : Nat} {seed : Int} {v : Nat → Nat → Value} {p : Nat → Key × Key} (h : Prs R w ao m v p) (hC : 0 < C) (hC2 : C ≤ 1048576) (h4 : w.cell? ⟨b4, 0, none⟩ = some (.int .u64 seed)) (h5 : w.cell? ⟨b5, 0, none⟩ = some (.int .i64 C)) :
    Sta 75 #[.pointer (some ⟨b4, 0, none⟩), .pointer (some ⟨b5, 0, none⟩)] (itemP v) (fun i => ((homS seed C (p i).1 : Nat) : Int)) m w.heap.size (fun _ w' => Touch Nil w w') Nil where
  enter := fun args w => by simp [go_sem]
  call := fun w1 x hI hx => by
    obtain ⟨⟨⟨a1, c1, e1, _, s1⟩, _⟩, _, _, l1, _⟩ := h.ok x hx
    show Calls _ _ #[itemP v x, _, _] _ _
    rw [show itemP v x = .agg #[.slice a1 (p x).1.length c1, v x 1] from by unfold itemP; rw [e1]]
    exact (spreadStart_any seed C b4 b5 (p x).1 a1 c1 (v x 1) w1 hC hC2 (by omega) (s1.keepN hI) ((hI.cell (World.block_lt_of_cell? w _ h4) (fun c => c) 0).trans h4) ((hI.cell (World.block_lt_of_cell? w _ h5) (fun c => c) 0).trans h5)).mono fun e w' ⟨he, ht⟩ => ⟨he, hI.trans ht, ht⟩
  keep := fun _ w1 w2 hI hb => ⟨hb.os.trans hI.os, hb.tape.trans hI.tape, hb.output.trans hI.output, Nat.le_trans hI.size hb.size, fun b hb' hn => (hb.block b hb').trans (hI.same b hb' hn)⟩
  low := fun _ c => c.elim
theorem prs_bef {R : Nat → Prop} {w : World} {ao : Option Addr} {m b4 : Nat} {seed : Int} {v : Nat → Nat → Value} {p : Nat → Key × Key} (h : Prs R w ao m v p) (h4 : w.cell? ⟨b4, 0, none⟩ = some (.int .u64 seed)) :
    Bef 76 #[.pointer (some ⟨b4, 0, none⟩)] (itemP v) (fun i j => bfS seed (p i).1 (p j).1) m w.heap.size (fun w' => Touch Nil w w') Nil where
  enter := fun args w => by simp [go_sem]
  call := fun w1 x y hI hx hy => by
    obtain ⟨⟨⟨a1, c1, e1, _, s1⟩, _⟩, _, _, l1, _⟩ := h.ok x hx
    obtain ⟨⟨⟨a2, c2, e2, _, s2⟩, _⟩, _, _, l2, _⟩ := h.ok y hy
    show Calls _ _ #[itemP v x, itemP v y, _] _ _
    rw [show itemP v x = .agg #[.slice a1 (p x).1.length c1, v x 1] from by unfold itemP; rw [e1], show itemP v y = .agg #[.slice a2 (p y).1.length c2, v y 1] from by unfold itemP; rw [e2]]
    exact (spreadBefore_any seed b4 (p x).1 (p y).1 a1 a2 c1 c2 (v x 1) (v y 1) w1 (by omega) (by omega) (s1.keepN hI) (s2.keepN hI) ((hI.cell (World.block_lt_of_cell? w _ h4) (fun c => c) 0).trans h4)).mono fun e w' ⟨he, ht⟩ => ⟨he, hI.trans ht, ht⟩
  keep := fun w1 w2 hI hb => ⟨hb.os.trans hI.os, hb.tape.trans hI.tape, hb.output.trans hI.output, Nat.le_trans hI.size hb.size, fun b hb' hn => (hb.block b hb').trans (hI.same b hb' hn)⟩
  low := fun _ c => c.elim
theorem bf_swo {bf : Key → Key → Bool} (ko : KO bf) {m : Nat} {p : Nat → Key × Key} (hd : ∀ i j, i < m → j < m → i ≠ j → (p i).1 ≠ (p j).1) : SWO (fun i j => bf (p i).1 (p j).1) m where
  asym := fun x y _ _ h => ko.asym h
  trans := fun x y z _ _ _ h k => ko.trans _ _ _ h k
  neg := fun x y z hx hy hz h k => by
    show bf (p x).1 (p z).1 = false
    cases e : bf (p x).1 (p z).1 with
    | false => rfl
    | true =>
      exfalso
      by_cases hxy : x = y
      · subst hxy; rw [e] at k; cases k
      · have h1 : bf (p y).1 (p x).1 = true := (ko.tot _ _ (hd x y hx hy hxy)).resolve_left (by rw [h]; simp)
        have := ko.trans _ _ _ h1 e
        rw [this] at k; cases k

theorem two_new (w : World) (x y : Value) (t u : Nat) : ((w.alloc (.cells #[x] t)).alloc (.cells #[y] u)).cell? ⟨w.heap.size, 0, none⟩ = some x ∧ ((w.alloc (.cells #[x] t)).alloc (.cells #[y] u)).cell? ⟨w.heap.size + 1, 0, none⟩ = some y := by
  refine ⟨?_, ?_⟩
  · rw [World.cell?_alloc_lt _ _ _ (by simp)]
    rw [cell_new]; rfl
  · have := cell_new (w.alloc (.cells #[x] t)) #[y] u 0
    rw [nblk_alloc] at this
    rw [this]; rfl
theorem home_homS (seed : Int) {C : Nat} (hC : 0 < C) (p : Nat → Key × Key) : home C (fun i => ((homS seed C (p i).1 : Nat) : Int)) = fun i => homS seed C (p i).1 := by
  funext i
  have := homS_lt hC seed (p i).1
  show (((homS seed C (p i).1 : Nat) : Int) % (C : Int)).toNat = homS seed C (p i).1
  generalize homS seed C (p i).1 = x at *
  rw [Int.emod_eq_of_lt (by omega) (by omega), Int.toNat_natCast]

def SpreadPost (R : Nat → Prop) (bb : Nat) (seed : Int) (cnt m : Nat) (p : Nat → Key × Key) (w : World) (e : Ending) (w' : World) : Prop :=
  e = .returned (.tuple #[]) ∧ ∃ bc vv T, w.heap.size ≤ bc ∧ Bod (fun b => R b ∨ b = bc) w' bb bc seed cnt (cellsN m) vv T ∧ Runs (bfS seed) (homS seed (cellsN m)) (cellsN m) T ∧ (∀ x, InT (cellsN m) T x ↔ ∃ i, i < m ∧ x = p i) ∧ frees (cellsN m) T + m = cellsN m ∧ Touch (Just bb) w w'

set_option maxRecDepth 100000 in
set_option maxHeartbeats 2000000 in
theorem spread_any {R : Nat → Prop} {w : World} {bb : Nat} {seed : Int} {cnt m cap : Nat} {ao : Option Addr} {old : Value} {v : Nat → Nat → Value} {p : Nat → Key × Key} (hb : w.heap[bb]? = some (.cells #[.int .u64 seed, .int .i64 cnt, old] 72 (0, 0))) (hR : R bb)
    (hp : Prs R w ao m v p) (hd : ∀ i j, i < m → j < m → i ≠ j → (p i).1 ≠ (p j).1) (hm : m ≤ 100001) (hao : 0 < m → ∀ b o, ao = some ⟨b, o, none⟩ → b ≠ bb) :
    Calls Tryd.prog 62 #[.pointer (some ⟨bb, 0, none⟩), .slice ao m cap] w (SpreadPost R bb seed cnt m p w) := by
  have HB := Lib.hid hb
  have HP := Lib.hid hp
  have HD := Lib.hid hd
  have HAO := Lib.hid hao
  have c0 : w.cell? ⟨bb, 0, none⟩ = some (.int .u64 seed) := by simp [World.cell?, hb]
  have lb : bb < w.heap.size := World.block_lt_of_cell? w _ c0
  have HCF := Lib.hid (fun w => cellsFor_any m w hm)
  have hcs := cellsN_spec m hm
  unfold SpreadPost
  have HE : ∃ C, cellsN m = C := ⟨_, rfl⟩
  obtain ⟨C, eC⟩ := HE
  rw [eC] at HCF hcs ⊢
  obtain ⟨hC8, hC3, hCm, _⟩ := hcs
  have hmk := fun w => run_make_pairs C (by omega) w
  have HROW := Lib.hid (fun w => row_made w #[.slice none 0 0, .slice none 0 0] (C * 2) 79)
  have HE : ∃ mc, madeCells #[.slice none 0 0, .slice none 0 0] (C * 2) = mc := ⟨_, rfl⟩
  obtain ⟨mc, emc⟩ := HE
  rw [emc] at HROW
  simp only [emc] at hmk
  clear hb hp hd hao eC emc
  have eb := World.new_ne w ⟨bb, 0, none⟩ c0
  go_enter Tryd.func62, Tryd.ntmps62
  go_upto_region 0 with fail
  go_cut [4, 5] (fun s4 s5 wx => ∃ b4 b5 : Nat, s4 = .pointer (some ⟨b4, 0, none⟩) ∧ s5 = .pointer (some ⟨b5, 0, none⟩) ∧ wx.cell? ⟨b4, 0, none⟩ = some (.int .u64 seed) ∧ wx.cell? ⟨b5, 0, none⟩ = some (.int .i64 (C : Int)) ∧ w.heap.size ≤ b4 ∧ w.heap.size ≤ b5 ∧ Touch Nil w wx)
  case first =>
    go_region_held3 (fun w' => w'.cell? ⟨bb, 0, none⟩ = some (.int .u64 seed)) (go_keep) (first | (go_at_call 61; refine (HCF.out _).mono ?_; rintro e w' ⟨rfl, rfl⟩))
    all_goals
      go_wp2_with fail
      go_meet
      first
        | exact ⟨_, _, rfl, rfl, (two_new w _ _ _ _).1, (two_new w _ _ _ _).2, by omega, by omega, (((Touch.refl Nil w).alloc _).alloc _).drew⟩
        | exact ⟨_, _, rfl, rfl, (two_new w _ _ _ _).2, (two_new w _ _ _ _).1, by omega, by omega, (((Touch.refl Nil w).alloc _).alloc _).drew⟩
  case rest =>
    obtain ⟨b4, b5, rfl, rfl, h4, h5, hb4, hb5, hT⟩ := hcut
    clear c0 eb
    have hbc : wc.heap[bb]? = some (.cells #[.int .u64 seed, .int .i64 cnt, old] 72 (0, 0)) := (hT.same bb lb (fun c => c)).trans HB.out
    have lbc : bb < wc.heap.size := Nat.lt_of_lt_of_le lb hT.size
    have z2 : (wc.alloc (.cells mc 79)).frozen? ⟨bb, 2, none⟩ = false := by
      simp only [World.frozen?]
      rw [blk_alloc_lt _ _ _ lbc, hbc]; rfl
    have z3 : (wc.alloc (.cells mc 79)).cell? ⟨bb, 2, none⟩ = some old := by
      rw [World.cell?_alloc_lt _ _ _ lbc]
      simp [World.cell?, hbc]
    have hrow : (wc.alloc (.cells mc 79)).rowIs bb 72 3 (fun i => if i = 0 then .int .u64 seed else if i = 1 then .int .i64 cnt else old) := ⟨_, by rw [blk_alloc_lt _ _ _ lbc]; exact hbc, rfl, fun i hi => by
      have : i = 0 ∨ i = 1 ∨ i = 2 := by omega
      rcases this with rfl | rfl | rfl <;> rfl⟩
    have hset := hrow.set 2 (.slice (some ⟨wc.heap.size, 0, none⟩) C C)
    have hrb := (HROW.out wc).setOther (a := ⟨bb, 2, none⟩) (by show wc.heap.size ≠ bb; omega) (.slice (some ⟨wc.heap.size, 0, none⟩) C C)
    have ht1 : Touch (Just bb) w ((wc.alloc (.cells mc 79)).setCell ⟨bb, 2, none⟩ (.slice (some ⟨wc.heap.size, 0, none⟩) C C)) := (hT.of_nil.alloc _).setCell ⟨bb, 2, none⟩ _ fun _ => rfl
    have ht2 : Touch (Just bb) wc ((wc.alloc (.cells mc 79)).setCell ⟨bb, 2, none⟩ (.slice (some ⟨wc.heap.size, 0, none⟩) C C)) := ((Touch.refl _ wc).alloc _).setCell ⟨bb, 2, none⟩ _ fun _ => rfl
    have hnb : NotBytes (Just bb) w := by
      rintro k rfl cs z e
      rw [HB.out] at e
      injection e with e
      injection e with _ e
      exact absurd e (by decide)
    have HG : ∃ W3, (wc.alloc (.cells mc 79)).setCell ⟨bb, 2, none⟩ (.slice (some ⟨wc.heap.size, 0, none⟩) C C) = W3 := ⟨_, rfl⟩
    obtain ⟨W3, eW⟩ := HG
    rw [eW] at hset hrb ht1 ht2
    have h4' : W3.cell? ⟨b4, 0, none⟩ = some (.int .u64 seed) := (ht2.cell (World.block_lt_of_cell? wc _ h4) (fun e => by have : b4 = bb := e; omega) 0).trans h4
    have h5' : W3.cell? ⟨b5, 0, none⟩ = some (.int .i64 (C : Int)) := (ht2.cell (World.block_lt_of_cell? wc _ h5) (fun e => by have : b5 = bb := e; omega) 0).trans h5
    have hp3 : Prs R W3 ao m v p := HP.out.keep ht1 hnb fun h0 b o e => HAO.out h0 b o e
    have HST := Lib.hid (prs_sta hp3 (by omega) (by omega) h4' h5')
    have HBF := Lib.hid (prs_bef (seed := seed) hp3 h4')
    have HSWO := Lib.hid (bf_swo (koS seed) HD.out)
    have HP3 := Lib.hid hp3
    have HT3 := Lib.hid ht1
    have HB3 := Lib.hid (show Bod (fun b => R b ∨ b = wc.heap.size) W3 bb wc.heap.size seed cnt C (fun _ _ => .slice none 0 0) (fun _ => none) from by
      refine ⟨?_, ?_, fun c _ => ⟨rfl, rfl⟩, .inl hR, .inr rfl⟩
      · exact row_block (hset.congr (g := fun i => if i = 0 then .int .u64 seed else if i = 1 then .int .i64 cnt else .slice (some ⟨wc.heap.size, 0, none⟩) C C) fun i hi => by
          have : i = 0 ∨ i = 1 ∨ i = 2 := by omega
          rcases this with rfl | rfl | rfl <;> rfl)
      · rw [Nat.mul_comm]
        exact hrb.congr fun i _ => by
          have : i % 2 = 0 ∨ i % 2 = 1 := by omega
          rcases this with h | h <;> simp [h])
    have HWS := Lib.hid (show w.heap.size ≤ wc.heap.size from hT.size)
    have HWL := Lib.hid (show wc.heap.size < W3.heap.size from hrb.lt)
    have HX := Lib.hid h4'
    have HX5 := Lib.hid h5'
    clear hset hrb ht1 ht2 hnb hp3 hbc hrow hT h4' 
    go_wp2_with fail
    refine (layoutP _ _ _ _ W3.heap.size C ao m cap v (fun i => ((homS seed C (p i).1 : Nat) : Int)) (fun i j => bfS seed (p i).1 (p j).1) _ Nil HST.out HBF.out HSWO.out (fun h0 b o e => by
      obtain ⟨b', o', e', hb, _⟩ := HP3.out.cells h0
      rw [e] at e'
      cases e'
      exact ⟨hb, fun c => c⟩) (by omega) (by omega) (by omega) HP3.out.one W3 (Nat.le_refl _) (Touch.refl _ _) HP3.out.cells).mono ?_
    rintro e W4 ⟨b0, ord, rfl, hb0, hr0, hperm, hsort, ht4, _⟩
    rw [home_homS seed (by omega) p] at hr0
    have HORD := Lib.hid (PermOn.ordr hperm hsort)
    have HRN := Lib.hid (layT_runs (koS seed) (show 0 < C by omega) (homS_lt (by omega) seed) (by omega) HD.out HORD.out)
    have HLV := Lib.hid (show ∀ c i, c < C → place C (fun i => homS seed C (p i).1) ord m c = some i → i < m from fun c i hc e => by
      obtain ⟨q, hq, e', _⟩ := (place_spec (C := C) (n := m) (h := fun i => homS seed C (p i).1) (ord := ord) (by omega) (fun i => homS_lt (by omega) seed _) (by omega) m (Nat.le_refl _)).1 c hc i e
      rw [← e']; exact HORD.out.lt' q hq)
    have HTL := Lib.hid (show ∀ c, layT C (fun i => homS seed C (p i).1) ord m p c = (place C (fun i => homS seed C (p i).1) ord m c).map p from fun _ => rfl)
    have HE : ∃ T, layT C (fun i => homS seed C (p i).1) ord m p = T := ⟨_, rfl⟩
    obtain ⟨T, eT⟩ := HE
    rw [eT] at HRN HTL
    have HE : ∃ L, place C (fun i => homS seed C (p i).1) ord m = L := ⟨_, rfl⟩
    obtain ⟨L, eL⟩ := HE
    rw [eL] at HLV HTL hr0
    have HR0 := Lib.hid hr0
    have HT4 := Lib.hid ht4
    have HB4 := Lib.hid (HB3.out.keepN ht4)
    have HP4 := Lib.hid (HP3.out.keepN ht4)
    clear hr0 ht4 hperm hsort eT eL HORD HSWO HST HBF h5 h5' h4 HX HX5
    go_wp2_with fail
    go_loopw [30] (fun i wr => ∃ (x : Nat) (vv : Nat → Nat → Value), x ≤ C ∧ i = .int .i64 (x : Int) ∧ Bod (fun b => R b ∨ b = wc.heap.size) wr bb wc.heap.size seed cnt C vv (fun c => if c < x then T c else none) ∧ Touch (Just wc.heap.size) W4 wr) (fun i _ => C - (intOf i).toNat)
    case atStart => exact ⟨0, _, Nat.zero_le _, rfl, by simpa using HB4.out, Touch.refl _ _⟩
    obtain ⟨x, vv, hx, rfl, hbd, hto⟩ := hrel
    have HBD := Lib.hid hbd
    have HTO := Lib.hid hto
    clear hbd hto
    by_cases hlt : x < C
    · have hb0n : b0 ≠ wc.heap.size := by have := HWL.out; omega
      have cr := (HR0.out.of_block (HTO.out.same b0 HR0.out.lt hb0n)).cell hlt
      have i1 : (x : Int) < (C : Int) := by omega
      have i2 : (0 : Int) ≤ (x : Int) := by omega
      have HLX := Lib.hid (HLV.out x)
      have HTX := Lib.hid (HTL.out x)
      cases hL : L x with
      | none =>
        rw [hL] at cr HTX
        obtain ⟨m1, em⟩ : ∃ m1 : Int, m1 = -1 := ⟨_, rfl⟩
        replace cr : wr.cell? ⟨b0, x, none⟩ = some (.int .i64 m1) := by rw [em]; exact cr
        have f3 : decide (0 ≤ m1) = false := by simp; omega
        clear em hL
        go_wp2_with fail
        go_roundw
        case rel => exact ⟨x + 1, vv, by omega, by go_num, by
          have e : (fun c => if c < x + 1 then T c else none) = (fun c => if c < x then T c else none) := by
            funext c
            by_cases h : c = x
            · rw [h, if_pos (by omega), if_neg (by omega), HTX.out]; rfl
            · by_cases h' : c < x
              · rw [if_pos h', if_pos (by omega)]
              · rw [if_neg h', if_neg (by omega)]
          rw [e]; exact HBD.out, HTO.out⟩
        case measure => simp [intOf]; omega
      | some i =>
        have him := HLX.out i hlt hL
        rw [hL] at cr HTX
        replace cr : wr.cell? ⟨b0, x, none⟩ = some (.int .i64 (i : Int)) := cr
        have f3 : decide ((0 : Int) ≤ (i : Int)) = true := by simp
        have hnb4 : NotBytes (Just wc.heap.size) W4 := notBytes_row HB4.out.row (by decide)
        have HPR := Lib.hid (HP4.out.keep HTO.out hnb4 fun h0 b o e c => by
          obtain ⟨b', o', e', hb', _⟩ := HP.out.cells h0
          rw [e] at e'
          cases e'
          have := HWS.out
          have : b = wc.heap.size := c
          omega)
        obtain ⟨ab, aoff, rfl, hab, hcell⟩ := HPR.out.cells (by omega)
        have p0 := hcell i him 0 (by omega)
        have p1 := hcell i him 1 (by omega)
        have hok := HPR.out.ok i him
        obtain ⟨a1, l1, c1, a2, l2, c2, e1, e2, _, _, _, _⟩ := hok.form
        rw [e1] at p0
        rw [e2] at p1
        rw [Nat.add_zero] at p0
        have HE1 := Lib.hid e1
        have HE2 := Lib.hid e2
        have s2 := HBD.out.cellsC
        have r0 := HBD.out.keyC hlt
        have r1 := HBD.out.valC hlt
        have z0 := HBD.out.row.frozen (x * 2)
        have z1 := HBD.out.row.frozen (x * 2 + 1)
        have hab' : ab ≠ wc.heap.size := by
          intro e
          obtain ⟨b', o', e', hb', _⟩ := HP.out.cells (by omega)
          cases e'
          have := HWS.out
          omega
        have hab2 : wc.heap.size ≠ ab := fun e => hab' e.symm
        have i3 : (i : Int) < (m : Int) := by omega
        have i4 : (0 : Int) ≤ (i : Int) := by omega
        have HPUT := Lib.hid (HBD.out.put (a := x) (some (p i)) HBD.out.bne (hok.keep (Touch.refl Nil wr) (notBytes_nil _) (R' := fun b => R b ∨ b = wc.heap.size) fun b r => .inl r))
        have HTP := Lib.hid (((Touch.refl (Just wc.heap.size) wr).setCell ⟨wc.heap.size, x * 2, none⟩ (v i 0) fun _ => rfl).setCell ⟨wc.heap.size, x * 2 + 1, none⟩ (v i 1) fun _ => rfl)
        rw [e1, e2] at HPUT HTP
        clear hcell hok e1 e2 hL hnb4
        go_wp2_with fail
        go_region
        have HG : ∃ w5, ((wr.setCell ⟨wc.heap.size, x * 2, none⟩ (.slice a1 l1 c1)).setCell ⟨wc.heap.size, x * 2 + 1, none⟩ (.slice a2 l2 c2)) = w5 := ⟨_, rfl⟩
        obtain ⟨w5, e5⟩ := HG
        rw [e5] at HPUT HTP ⊢
        clear e5 p0 p1 r0 r1 z0 z1 s2 cr
        go_wp2_with fail
        go_roundw
        case rel => exact ⟨x + 1, _, by omega, by go_num, by
          have e : (fun c => if c < x + 1 then T c else none) = (fun c => if c = x then some (p i) else if c < x then T c else none) := by
            funext c
            by_cases h : c = x
            · rw [h, if_pos (by omega), if_pos rfl, HTX.out]; rfl
            · by_cases h' : c < x
              · rw [if_pos (by omega), if_neg h, if_pos h']
              · rw [if_neg (by omega), if_neg h, if_neg h']
          rw [e]; exact HPUT.out.keepN ((Touch.refl Nil w5).drew), HTO.out.trans (HTP.out.drew)⟩
        case measure => simp [intOf]; omega
    · obtain rfl : x = C := by omega
      go_wp2_with fail
      go_end0
      refine ⟨rfl, wc.heap.size, vv, _, HWS.out, HBD.out, ?_, ?_, ?_, ?_⟩
      · intro c hc k u e t ht
        have e : T c = some (k, u) := by have : (if c < x then T c else none) = some (k, u) := e; rw [if_pos hc] at this; exact this
        obtain ⟨k', u', a, b⟩ := HRN.out.1 c hc k u e t ht
        refine ⟨k', u', ?_, b⟩
        show (if pos x (homS seed x k) t < x then T (pos x (homS seed x k) t) else none) = _
        rw [if_pos (pos_lt (homS_lt (by omega) seed k) (by have := sto_lt (homS_lt (C := x) (by omega) seed k) hc; omega))]
        exact a
      · intro y
        rw [← HRN.out.2.1 y]
        constructor
        · rintro ⟨c, hc, e⟩
          have e : (if c < x then T c else none) = some y := e
          rw [if_pos hc] at e
          exact ⟨c, hc, e⟩
        · rintro ⟨c, hc, e⟩
          refine ⟨c, hc, ?_⟩
          show (if c < x then T c else none) = some y
          rw [if_pos hc]; exact e
      · have h2 := HRN.out.2.2
        have : ∀ D, D ≤ x → frees D (fun c => if c < x then T c else none) = frees D T := by
          intro D
          induction D with
          | zero => intro _; rfl
          | succ D ih =>
            intro h
            have e : (if D < x then T D else none).isNone = (T D).isNone := by rw [if_pos (show D < x by omega)]
            simp only [frees, ih (by omega), e]
        rw [this x (Nat.le_refl _)]
        exact h2
      · exact (HT3.out.trans HT4.out.of_nil).trans' HTO.out fun b hb hs => by
          have : b = wc.heap.size := hs
          have := HWS.out
          omega
end Go.Proofs.YticddcnlafbkoaaDoor
