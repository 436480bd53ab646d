import Derived.OrdersIn
import Derived.OwnWalkIn
import Derived.TacticsIn
import Derived.Maps.AppendAt
import Derived.Lib.ConvBytes
import Derived.Test.YticddcnlafbkoaaDoorVbase
/- A region that draws its order, by what holds at every point of it; bytes of a string. -/
namespace Go.Proofs.YticddcnlafbkoaaDoor
open Go

section
variable {F : Fence} {n : Nat} {P : Program} {md : Region.Mode} {ops : Array Oper} {Q : Exit → Act → World → Prop}
/-- No operation waits for one that stands behind it. -/
def inOrder (md : Region.Mode) (ops : Array Oper) : Bool := (List.range ops.size).all fun i => ((ops[i]?).map (·.after.all fun e => !Region.binds md e || decide (e.on < i))).getD true
/-- How many operations are left. -/
def leftOf (ops : Array Oper) (listed : Array Bool) : Nat := ((List.range ops.size).filter fun i => !listed.getD i true).length
theorem leftOf_set {listed : Array Bool} {i : Nat} (hi : i < ops.size) (h : listed.getD i true = false) : leftOf ops (listed.setIfInBounds i true) < leftOf ops listed := by
  unfold leftOf
  have hlt : i < listed.size := by
    rcases Nat.lt_or_ge i listed.size with c | c
    · exact c
    · simp [Array.getD, Nat.not_lt.2 c] at h
  have hs : ((List.range ops.size).filter fun j => !(listed.setIfInBounds i true).getD j true).Sublist ((List.range ops.size).filter fun j => !listed.getD j true) := by
    have hp : ∀ j, (!(listed.setIfInBounds i true).getD j true) = true → (!listed.getD j true) = true := fun j hj => by
      by_cases e : j = i
      · subst e; simp [Array.getD, hlt] at hj
      · simp only [Array.getD_eq_getD_getElem?, Array.getElem?_setIfInBounds_ne (Ne.symm e)] at hj ⊢
        exact hj
    have he : ((List.range ops.size).filter fun j => !(listed.setIfInBounds i true).getD j true) = ((List.range ops.size).filter fun j => !listed.getD j true).filter fun j => !(listed.setIfInBounds i true).getD j true := by
      rw [List.filter_filter]
      refine List.filter_congr fun j _ => ?_
      rw [Bool.eq_iff_iff, Bool.and_eq_true]
      exact ⟨fun h => ⟨h, hp j h⟩, fun h => h.1⟩
    rw [he]
    exact List.filter_sublist
  rcases Nat.lt_or_ge (((List.range ops.size).filter fun j => !(listed.setIfInBounds i true).getD j true).length) (((List.range ops.size).filter fun j => !listed.getD j true).length) with c | c
  · exact c
  · have he := hs.eq_of_length_le c
    have hm : i ∈ (List.range ops.size).filter fun j => !listed.getD j true := List.mem_filter.2 ⟨List.mem_range.2 hi, by simp [h]⟩
    rw [← he] at hm
    have := (List.mem_filter.1 hm).2
    simp [Array.getD, hlt] at this
theorem ready_none (hin : inOrder md ops = true) {listed : Array Bool} (h : Region.ready md ops listed = []) : ∀ i, i < ops.size → listed.getD i true = true := by
  intro i
  induction i using Nat.strongRecOn with
  | ind i ih =>
    intro hi
    rcases hb : listed.getD i true with _ | _
    · exfalso
      have hm : i ∈ Region.ready md ops listed := by
        unfold Region.ready
        rw [List.mem_filter]
        refine ⟨List.mem_range.2 hi, ?_⟩
        rw [Array.getElem?_eq_getElem hi]
        simp only [hb, Option.map_some, Option.getD_some, Bool.not_false, Bool.true_and]
        rw [Array.all_eq_true]
        intro j hj
        have h1 := List.all_eq_true.1 hin i (List.mem_range.2 hi)
        rw [Array.getElem?_eq_getElem hi] at h1
        simp only [Option.map_some, Option.getD_some] at h1
        have h2 := Array.all_eq_true.1 h1 j hj
        rw [Bool.or_eq_true] at h2 ⊢
        refine h2.imp (fun h => h) fun h => ?_
        have hlt := of_decide_eq_true h
        have h3 := ih _ hlt (by omega)
        rcases Nat.lt_or_ge (ops[i].after[j].on) listed.size with c | c
        · simpa [Array.getD, c] using h3
        · exfalso
          have : i < listed.size := by
            rcases Nat.lt_or_ge i listed.size with c | c
            · exact c
            · simp [Array.getD, Nat.not_lt.2 c] at hb
          omega
      rw [h] at hm
      cases hm
    · rfl
/-- A region that draws, by what holds at every point. -/
theorem wpAnyIn_inv (hin : inOrder md ops = true) (Inv : Array Bool → Act → World → Prop)
    (hdone : ∀ listed a w, Inv listed a w → (∀ i, i < ops.size → listed.getD i true = true) → Q .normal a w)
    (hstep : ∀ listed a w i o, ops[i]? = some o → Inv listed a w → listed.getD i true = false → (∀ e ∈ o.after, Region.binds md e = true → listed.getD e.on false = true) → ∀ K : Act → World → Prop, (∀ a' w', Inv (listed.setIfInBounds i true) a' w' → K a' w') →
      if Region.wanted o (yielded ops a.tmps) = true then Oper.wpIn F n P o a w K Q else (∀ f, o.about P w a.eval = some f → F.fn f) ∧ K (a.put o.dst undef) w) :
    ∀ fuel listed a w, leftOf ops listed ≤ fuel → Inv listed a w → wpAnyIn F n P md ops Q fuel listed a w := by
  intro fuel
  induction fuel with
  | zero =>
    intro listed a w hf hi
    have hr : Region.ready md ops listed = [] := by
      rw [List.eq_nil_iff_forall_not_mem]
      intro i hm
      unfold Region.ready at hm
      obtain ⟨h1, h2⟩ := List.mem_filter.1 hm
      have h3 := (Bool.and_eq_true _ _).mp h2 |>.1
      have h4 : i ∈ (List.range ops.size).filter fun j => !listed.getD j true := List.mem_filter.2 ⟨h1, h3⟩
      unfold leftOf at hf
      rw [List.length_eq_zero_iff.1 (Nat.le_zero.1 hf)] at h4
      cases h4
    exact ⟨hr, hdone _ _ _ hi (ready_none hin hr)⟩
  | succ fuel ih =>
    intro listed a w hf hi
    refine ⟨fun hr => hdone _ _ _ hi (ready_none hin hr), fun i hm => ?_⟩
    unfold Region.ready at hm
    obtain ⟨h1, h2⟩ := List.mem_filter.1 hm
    have hlt := List.mem_range.1 h1
    obtain ⟨h3, h4⟩ := (Bool.and_eq_true _ _).mp h2
    have hl : listed.getD i true = false := by simpa using h3
    rw [Array.getElem?_eq_getElem hlt] at h4
    simp only [Option.map_some, Option.getD_some] at h4
    refine wpOpIn_step (Array.getElem?_eq_getElem hlt) fun K' hK => ?_
    refine hstep listed a w i _ (Array.getElem?_eq_getElem hlt) hi hl (fun e he hb => ?_) K' fun a' w' hi' => hK _ _ (ih _ _ _ (by have := leftOf_set hlt hl; omega) hi')
    obtain ⟨j, hj, rfl⟩ := Array.mem_iff_getElem.1 he
    have h5 := Array.all_eq_true.1 h4 j hj
    rw [Bool.or_eq_true] at h5
    rcases h5 with h5 | h5
    · rw [hb] at h5; cases h5
    · exact h5
theorem region_inv {id : Nat} {a : Act} {w : World} (hm : P.follows .mixedOrders = true) (hin : inOrder .any ops = true) (Inv : Array Bool → Act → World → Prop) (h0 : Inv (Array.replicate ops.size false) a w.drew)
    (hdone : ∀ listed a w, Inv listed a w → (∀ i, i < ops.size → listed.getD i true = true) → Q .normal a w)
    (hstep : ∀ listed a w i o, ops[i]? = some o → Inv listed a w → listed.getD i true = false → (∀ e ∈ o.after, Region.binds .any e = true → listed.getD e.on false = true) → ∀ K : Act → World → Prop, (∀ a' w', Inv (listed.setIfInBounds i true) a' w' → K a' w') →
      if Region.wanted o (yielded ops a.tmps) = true then Oper.wpIn F n P o a w K Q else (∀ f, o.about P w a.eval = some f → F.fn f) ∧ K (a.put o.dst undef) w) :
    (Code.region id ops true).wpIn F n P Q a w :=
  wpIn_region_any hm (wpAnyIn_inv hin Inv hdone hstep _ _ _ _ (by unfold leftOf; exact Nat.le_trans (List.length_filter_le _ _) (by simp)) h0)
end
end Go.Proofs.YticddcnlafbkoaaDoor

namespace Go.Proofs.YticddcnlafbkoaaDoor
open Go.ChangeShapes Go.WideShapes Go.ChangeAt Go.RowKit Go.Deep
attribute [local go_sem] Oper.semAt_some
theorem stp {l : Array Bool} {i j : Nat} (h : (l.setIfInBounds i true).getD j false = true) (hne : i ≠ j) : l.getD j false = true := by
  simpa only [Array.getD_eq_getD_getElem?, Array.getElem?_setIfInBounds_ne hne] using h
theorem ngd {l : Array Bool} {i : Nat} (h : l.getD i true = false) (h' : l.getD i false = true) : False := by
  rcases Nat.lt_or_ge i l.size with c | c
  · simp [Array.getD, c] at h h'
    rw [h] at h'
    cases h'
  · simp [Array.getD, Nat.not_lt.2 c] at h
theorem allL {L : Array Bool} {n : Nat} (hs : L.size = n) (h : ∀ i, i < n → L.getD i true = true) (i : Nat) (hi : i < n) : L.getD i false = true := by
  have := h i hi
  have hlt : i < L.size := by omega
  simpa [Array.getD, hlt] using this
theorem not_set {l : Array Bool} {i : Nat} (h : ¬ (l.setIfInBounds i true).getD i false = true) (hl : i < l.size) : False := h (by simp [Array.getD, hl])
theorem mon' {l : Array Bool} {i j : Nat} (h : ¬ (l.setIfInBounds i true).getD j false = true) : ¬ l.getD j false = true := fun hj => h (by
  by_cases e : i = j
  · subst e
    have hlt : i < l.size := by
      rcases Nat.lt_or_ge i l.size with c | c
      · exact c
      · simp [Array.getD, Nat.not_lt.2 c] at hj
    simp [Array.getD, hlt]
  · simpa only [Array.getD_eq_getD_getElem?, Array.getElem?_setIfInBounds_ne e] using hj)
/-- Bytes of the call's own, in blocks of S. -/
def InS (S : Nat → Prop) (N : Nat) (W : World) (v : Value) (l : Key) : Prop := OwnB N W v l ∧ ∀ b, OwnOf v b → S b
theorem InS.keep {S T : Nat → Prop} {N : Nat} {W W' : World} {v : Value} {l : Key} (h : InS S N W v l) (ht : Touch T W W') (hT : ∀ b, S b → ¬ T b) : InS S N W' v l := ⟨h.1.keep ht fun k hk hs => hT k (h.2 k hk) hs, h.2⟩
theorem InS.keepN {S : Nat → Prop} {N : Nat} {W W' : World} {v : Value} {l : Key} (h : InS S N W v l) (ht : Touch Nil W W') : InS S N W' v l := h.keep ht fun _ _ c => c
/-- Bytes in blocks of S. -/
def InB (S : Nat → Prop) (W : World) (v : Value) (l : Key) : Prop := BV W v l ∧ ∀ b, OwnOf v b → S b
theorem InB.keep {S T : Nat → Prop} {W W' : World} {v : Value} {l : Key} (h : InB S W v l) (ht : Touch T W W') (hT : ∀ b, S b → ¬ T b) : InB S W' v l := ⟨h.1.keep0 ht fun _ k hk hs => hT k (h.2 k hk) hs, h.2⟩
theorem InB.keepN {S : Nat → Prop} {W W' : World} {v : Value} {l : Key} (h : InB S W v l) (ht : Touch Nil W W') : InB S W' v l := h.keep ht fun _ _ c => c
theorem InB.wide {S S' : Nat → Prop} {W : World} {v : Value} {l : Key} (h : InB S W v l) (hS : ∀ b, S b → S' b) : InB S' W v l := ⟨h.1, fun b hb => hS b (h.2 b hb)⟩
theorem InS.wide {S S' : Nat → Prop} {N : Nat} {W : World} {v : Value} {l : Key} (h : InS S N W v l) (hS : ∀ b, S b → S' b) : InS S' N W v l := ⟨h.1, fun b hb => hS b (h.2 b hb)⟩
theorem mon {l : Array Bool} {i j : Nat} (h : l.getD j false = true) : (l.setIfInBounds i true).getD j false = true := by
  by_cases e : i = j
  · subst e
    have hlt : i < l.size := by
      rcases Nat.lt_or_ge i l.size with c | c
      · exact c
      · simp [Array.getD, Nat.not_lt.2 c] at h
    simp [Array.getD, hlt]
  · simpa only [Array.getD_eq_getD_getElem?, Array.getElem?_setIfInBounds_ne e] using h
theorem set_of {l : Array Bool} {i : Nat} (h : i < l.size) : (l.setIfInBounds i true).getD i false = true := by simp [Array.getD, h]
theorem lt_heap {w : World} {b : Nat} {o : Obj} (h : w.heap[b]? = some o) : b < w.heap.size := (Array.getElem?_eq_some_iff.1 h).1
/-- append of bytes to bytes of the call's own, at one step. -/
theorem opIn_append_bytes {F : Fence} {m base : Nat} {w : World} {o : Oper} {a : Act} {K : Act → World → Prop} {Q : Exit → Act → World → Prop} (s x : Operand)
    (ho : o.op = .call { callee := .builtin .append, args := #[s, x], argTypes := #[27, 27] }) (v xv : Value) (l0 l : Key) (hs : a.eval s = v) (hown : OwnB base w v l0) (hx : a.eval x = xv) (hbv : BV w xv l) (hl : l0.length + l.length ≤ 1073741824) (hbase : base ≤ w.heap.size)
    (h : ∀ v' w', OwnB base w' v' (l0 ++ l) → Touch (OwnOf v) w w' → (∀ b, OwnOf v' b → OwnOf v b ∨ w.heap.size ≤ b) → K (a.put o.dst v') w') :
    Oper.wpIn F m Tryd.prog o a w K Q := by
  obtain ⟨i0, hi, hz0, hz1, hz2⟩ := info_parts infoByte
  have key : ∃ v' w', (Builtin.append_ #[27, 27] o.type #[v, xv]).run Tryd.prog w = .ok v' w' ∧ OwnB base w' v' (l0 ++ l) ∧ Touch (OwnOf v) w w' ∧ (∀ b, OwnOf v' b → OwnOf v b ∨ w.heap.size ≤ b) := by
    obtain ⟨ao, cap, rfl, hnone, hsl⟩ := hbv
    cases ao with
    | none =>
      obtain ⟨rfl, rfl⟩ := hnone rfl
      have hrun := run_append_owned_none (P := Tryd.prog) (w := w) base 27 o.type 5 i0 1 Tryd.underlying27 hi v l0.length _ hown
      exact ⟨v, w, hrun, by rw [List.append_nil]; exact hown, Touch.refl _ _, fun b hb => .inl hb⟩
    | some ad =>
      obtain ⟨v', w', hr, hrow, hgrow, _, hlie⟩ := run_append_own_at (P := Tryd.prog) w base 27 o.type 5 i0 (.int .u8 0) 1 1 Tryd.underlying27 hi hz0 hz1 hz2 rfl (by decide) v l0.length _ hown ad l.length cap ((ub l).map (Value.int .u8)) (by simp) (fun j u hj => by
        by_cases hjm : j < l.length
        · obtain ⟨b, off, e, hc⟩ := hsl j (by simpa using hjm)
          cases e
          rw [add_plain, hc]
          rw [List.getElem?_map, List.getElem?_eq_getElem (by simpa using hjm)] at hj
          simp [List.getD_eq_getElem?_getD, hjm] at hj ⊢
          exact hj
        · simp [hjm] at hj) (fun u hu => by
        obtain ⟨n, _, rfl⟩ := List.mem_map.1 hu
        rfl) (by unfold maxLen; omega) (by omega) hbase
      refine ⟨v', w', hr, ?_, touch_grown hgrow, fun b hb => ?_⟩
      · show w'.ownsRow base 5 1 v' (l0 ++ l).length ((ub (l0 ++ l)).map (Value.int .u8))
        have e : (ub (l0 ++ l)).map (Value.int .u8) = (ub l0).map (Value.int .u8) ++ (ub l).map (Value.int .u8) := by simp [ub]
        rw [e, List.length_append]
        exact hrow
      · rcases hlie with e | e
        · exact .inl (by unfold OwnOf at *; rw [← e]; exact hb)
        · refine .inr (Nat.le_of_eq ?_)
          unfold OwnOf at hb
          rw [e] at hb
          exact (Option.some.inj hb).symm
  obtain ⟨v', w', hr, h1, h2, h3⟩ := key
  unfold Oper.wpIn
  refine ⟨by simp [Oper.about, ho, resolve, Target.leads, Sem.run_pure], ?_⟩
  rw [Oper.semAt_plain F _ _ (by rw [ho]; intro c hc'; cases hc')]
  simp [execOp, ho, resolve, invoke, builtin, hs, hx, hr, Result.andThen]
  exact h v' w' h1 h2 h3

/-- The bytes of a string, in new memory. -/
theorem conv_name (nm : ByteArray) (w : World) : ∃ cap W', (convert 9 27 (.string nm)).run Tryd.prog w = .ok (.slice (some ⟨w.heap.size, 0, none⟩) nm.size cap) W' ∧ Touch Nil w W' ∧ BV W' (.slice (some ⟨w.heap.size, 0, none⟩) nm.size cap) nm.data.toList ∧ W'.heap.size = w.heap.size + 1 := by
  have hbv : BV (Lib.bytesWorld w 5 nm) (.slice (some ⟨w.heap.size, 0, none⟩) nm.size (grownCap w nm.size 0 5)) nm.data.toList := by
    refine ⟨some ⟨w.heap.size, 0, none⟩, grownCap w nm.size 0 5, by simp, (fun e => by cases e), fun i hi => ⟨w.heap.size, 0, rfl, ?_⟩⟩
    rw [Nat.zero_add, Lib.bytesWorld_cell w 5 nm i (by simpa using hi), ub_getD _ _ (by simpa using hi)]
  have ht : Touch Nil w (Lib.bytesWorld w 5 nm) := by
    refine ⟨rfl, ?_, rfl, ?_, fun b hb _ => Lib.bytesWorld_at_old w _ nm b hb⟩
    · simp [Lib.bytesWorld, World.freeze, World.alloc, World.drew, -World.alloc_eq, -World.drew_eq]
    · rw [Lib.bytesWorld_size]; omega
  exact ⟨_, _, Lib.run_convert_string_bytes w 9 27 5 nm Tryd.underlying9 Tryd.underlying27 Tryd.underlying5, ht, hbv, Lib.bytesWorld_size _ _ _⟩
end Go.Proofs.YticddcnlafbkoaaDoor
