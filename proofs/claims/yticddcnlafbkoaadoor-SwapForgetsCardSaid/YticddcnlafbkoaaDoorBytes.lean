import Derived.Test.YticddcnlafbkoaaDoorCoin
import Derived.Test.YticddcnlafbkoaaDoorRow
import Derived.WalkSpells
import Derived.Lib.Bytealg
import Derived.Laws.BytesArg
/- Bytes: equal, compared, cloned, appended. -/
namespace Go.Proofs.YticddcnlafbkoaaDoor
open Go.ChangeShapes Go.WideShapes Go.ChangeAt Go.RowKit Go.Deep

def ub (l : List UInt8) : List Int := l.map fun c => ((c.toNat : Nat) : Int)
@[simp] theorem ub_length (l : List UInt8) : (ub l).length = l.length := by simp [ub]
theorem ub_getD (l : List UInt8) (i : Nat) (h : i < l.length) : (ub l).getD i 0 = (((l.getD i 0).toNat : Nat) : Int) := by
  simp [ub, List.getD_eq_getElem?_getD, h]
theorem strOfNums_ub (l : List UInt8) : strOfNums (ub l) = ⟨l.toArray⟩ := by
  have : (strOfNums (ub l)).data.toList = l := by
    rw [strOfNums_data]
    simp [ub, List.map_map, Function.comp_def]
  cases h : strOfNums (ub l) with
  | mk d => rw [h] at this; simp only at this; rw [← this]

/-- A slice of bytes as a value. -/
def BV (w : World) (x : Value) (l : List UInt8) : Prop :=
  ∃ ao cap, x = .slice ao l.length cap ∧ (ao = none → l = [] ∧ cap = 0) ∧ SlI w .u8 ao (ub l)
theorem BV.nil (w : World) : BV w (.slice none 0 0) [] := ⟨none, 0, rfl, fun _ => ⟨rfl, rfl⟩, fun i h => by simp [ub] at h⟩

theorem conv_bytes {w : World} {ao : Option Addr} {l : List UInt8} (cap : Nat) (h : SlI w .u8 ao (ub l)) :
    (convert 27 9 (.slice ao l.length cap)).run Tryd.prog w = .ok (.string ⟨l.toArray⟩) w := by
  rw [← strOfNums_ub]
  cases ao with
  | none =>
    have : l = [] := by
      cases l with
      | nil => rfl
      | cons c l => obtain ⟨b, off, e, _⟩ := h 0 (by simp); cases e
    subst this
    exact run_convert_bytes_nil w 27 5 Tryd.underlying27 Tryd.underlying5 0 cap 9 Tryd.underlying9
  | some a =>
    by_cases h0 : l = []
    · subst h0
      rw [run_convert_bytes_string w 27 9 5 _ _ cap Tryd.underlying27 Tryd.underlying5 Tryd.underlying9]
      have := run_bytesToString (P := Tryd.prog) w a 0 cap [] (by simp [loadCells, loadCellsFrom, Sem.run_pure])
      exact this
    · have hl : 0 < l.length := List.length_pos_iff.2 h0
      obtain ⟨b, off, e, _⟩ := h 0 (by simpa using hl)
      cases e
      refine run_convert_bytes_arg w 27 5 Tryd.underlying27 Tryd.underlying5 b off l.length cap (ub l) (by simp) (fun i hi => ?_) 9 Tryd.underlying9
      obtain ⟨b', off', e', hc⟩ := h i (by simpa using hi)
      cases e'
      exact hc

theorem ba_eq (a b : List UInt8) : ((ByteArray.mk a.toArray).toList == (ByteArray.mk b.toArray).toList) = decide (a = b) := by
  rw [Bool.eq_iff_iff]
  simp

set_option maxHeartbeats 1000000 in
theorem bytesEqual_any (a b : List UInt8) (ao bo : Option Addr) (c1 c2 : Nat) (w : World) (ha : SlI w .u8 ao (ub a)) (hb : SlI w .u8 bo (ub b)) :
    Calls Tryd.prog 58 #[.slice ao a.length c1, .slice bo b.length c2] w fun e w' => e = .returned (.bool (decide (a = b))) ∧ w = w' := by
  have h1 := conv_bytes c1 ha
  have h2 := conv_bytes c2 hb
  have h3 := Lib.hid (ba_eq a b)
  clear ha hb
  generalize ByteArray.mk a.toArray = x at *
  generalize ByteArray.mk b.toArray = y at *
  go_enter Tryd.func58, Tryd.ntmps58
  go_wp2
  go_ret
  exact ⟨by rw [← h3.out]; rfl, rfl⟩

theorem load_bytes (w : World) (b : Nat) : ∀ (l : List UInt8) (off : Nat) (acc : ByteArray), (∀ i, i < l.length → w.cell? ⟨b, off + i, none⟩ = some (.int .u8 (((l.getD i 0).toNat : Nat) : Int))) →
    (Extern.Bytes.loadBytes ⟨b, off, none⟩ l.length acc).run Tryd.prog w = .ok ⟨acc.data ++ l.toArray⟩ w := by
  intro l
  induction l with
  | nil => intro off acc _; simp [Extern.Bytes.loadBytes, Sem.run_pure]
  | cons c l ih =>
    intro off acc h
    have h0 := h 0 (by simp)
    rw [Nat.add_zero] at h0
    have h1 := ih (off + 1) (acc.push c) (fun i hi => by
      have := h (i + 1) (by simp; omega)
      rw [show off + 1 + i = off + (i + 1) from by omega, this]
      simp)
    simp only [List.length_cons, Extern.Bytes.loadBytes, Sem.run_bind]
    have hl : (load ⟨b, off, none⟩).run Tryd.prog w = .ok (.int .u8 ((c.toNat : Nat) : Int)) w := by
      have h0' : w.cell? ⟨b, off, none⟩ = some (.int .u8 ((c.toNat : Nat) : Int)) := by simpa using h0
      rw [run_load, h0']
    rw [hl]
    simp only [Result.andThen]
    have e : Addr.add ⟨b, off, none⟩ 1 = ⟨b, off + 1, none⟩ := by simp [Addr.add]
    rw [e]
    have e2 : (((c.toNat : Nat) : Int).toNat).toUInt8 = c := by simp
    rw [e2, h1]
    simp [ByteArray.push]

theorem bytes_of {w : World} {ao : Option Addr} {l : List UInt8} (cap : Nat) (h : SlI w .u8 ao (ub l)) :
    (Extern.Bytes.bytesOf (.slice ao l.length cap)).run Tryd.prog w = .ok ⟨l.toArray⟩ w := by
  cases ao with
  | none =>
    have : l = [] := by
      cases l with
      | nil => rfl
      | cons c l => obtain ⟨b, off, e, _⟩ := h 0 (by simp); cases e
    subst this
    simp [Extern.Bytes.bytesOf, Sem.run_pure]; rfl
  | some a =>
    by_cases h0 : l = []
    · subst h0
      simp [Extern.Bytes.bytesOf, Extern.Bytes.loadBytes, Sem.run_pure]; rfl
    · have hl : 0 < l.length := List.length_pos_iff.2 h0
      obtain ⟨b, off, e, _⟩ := h 0 (by simpa using hl)
      cases e
      have := load_bytes w b l off .empty (fun i hi => by
        obtain ⟨b', off', e', hc⟩ := h i (by simpa using hi)
        cases e'
        rw [hc, ub_getD l i hi])
      simpa [Extern.Bytes.bytesOf] using this

theorem run_compare {w : World} {ao bo : Option Addr} {a b : List UInt8} (c1 c2 : Nat) (ha : SlI w .u8 ao (ub a)) (hb : SlI w .u8 bo (ub b)) :
    (callFunc 85 #[.slice ao a.length c1, .slice bo b.length c2]).run Tryd.prog w = .ok (.value (.int .i64 (Lib.compareBytes a b))) w := by
  rw [run_callFunc_extern Tryd.func85 (by kernel_rfl) (by kernel_rfl) (by kernel_rfl) (e := Extern.BytealgCompare.compare) (by kernel_rfl)]
  have : (Extern.BytealgCompare.compare #[.slice ao a.length c1, .slice bo b.length c2]).run Tryd.prog w = .ok (.int .i64 (Lib.compareBytes a b)) w := by
    change Sem.run Tryd.prog (do pure (goInt (Extern.BytealgCompare.cmp (← Extern.Bytes.bytesOf (.slice ao a.length c1)) (← Extern.Bytes.bytesOf (.slice bo b.length c2))))) w = _
    simp only [Sem.run_bind, bytes_of c1 ha, bytes_of c2 hb, Result.andThen, Sem.run_pure]
    rw [Lib.cmp_eq]
    rfl
  rw [this]; rfl

set_option maxHeartbeats 1000000 in
theorem bytesCompare_any (a b : List UInt8) (ao bo : Option Addr) (c1 c2 : Nat) (w : World) (ha : SlI w .u8 ao (ub a)) (hb : SlI w .u8 bo (ub b)) :
    Calls Tryd.prog 74 #[.slice ao a.length c1, .slice bo b.length c2] w fun e w' => e = .returned (.int .i64 (Lib.compareBytes a b)) ∧ w = w' := by
  have h1 := run_compare c1 c2 ha hb
  clear ha hb
  generalize Lib.compareBytes a b = r at *
  go_enter Tryd.func74, Tryd.ntmps74
  go_wp2_with fail
  go_ret
  exact ⟨rfl, rfl⟩

theorem infoByte : (Tryd.prog.info? 5).map (fun i => (i.zero, i.size, i.bytes)) = some (some (.int .u8 0), 1, 1) := by kernel_rfl

/-- Bytes in new memory from block base on. -/
def OwnB (base : Nat) (w : World) (v : Value) (l : List UInt8) : Prop := w.ownsRow base 5 1 v l.length ((ub l).map (Value.int .u8))
def OwnOf (v : Value) : Nat → Prop := fun k => some k = v.ownBlock

theorem touch_grown {w w' : World} {row : Option Nat} (h : w.grownBy w' row) : Touch (fun k => some k = row) w w' := ⟨h.os, h.tape, h.output, h.size, fun k hk hn => h.block k hk hn⟩

theorem OwnB.bv {base : Nat} {w : World} {v : Value} {l : List UInt8} (h : OwnB base w v l) : BV w v l := by
  obtain ⟨hlen, ⟨rfl, hn⟩ | ⟨g, cap, cur, rfl, hb, hg, hc, hm, hs, ht⟩⟩ := h
  · have : l = [] := List.eq_nil_of_length_eq_zero hn
    subst this
    exact BV.nil w
  · refine ⟨_, _, rfl, (fun e => by cases e), fun i hi => ⟨g, 0, rfl, ?_⟩⟩
    simp only [World.cell?, hg]
    have hi' : i < l.length := by simpa using hi
    have e : (cur.toList.take (l.length * 1))[i]? = cur.toList[i]? := by rw [List.getElem?_take, if_pos (by omega)]
    rw [ht] at e
    have e3 : ((ub l).map (Value.int .u8))[i]? = some (.int .u8 ((ub l).getD i 0)) := by
      rw [List.getElem?_map, List.getElem?_eq_getElem (by simpa using hi')]
      simp [List.getD_eq_getElem?_getD, hi']
    rw [e3] at e
    simpa using e.symm
/-- Where the bytes lie. -/
theorem OwnB.block {base : Nat} {w : World} {v : Value} {l : List UInt8} (h : OwnB base w v l) : ∀ k, OwnOf v k → base ≤ k ∧ k < w.heap.size := by
  obtain ⟨hlen, ⟨rfl, hn⟩ | ⟨g, cap, cur, rfl, hb, hg, _⟩⟩ := h
  · intro k hk; cases hk
  · intro k hk
    obtain rfl : k = g := by simpa [OwnOf, Value.ownBlock] using hk
    exact ⟨hb, (Array.getElem?_eq_some_iff.1 hg).1⟩
theorem OwnB.keep {S : Nat → Prop} {base : Nat} {w w' : World} {v : Value} {l : List UInt8} (h : OwnB base w v l) (ht : Touch S w w') (hS : ∀ k, OwnOf v k → ¬ S k) : OwnB base w' v l := by
  have hb := h.block
  obtain ⟨hlen, hcase⟩ := h
  refine ⟨hlen, ?_⟩
  rcases hcase with hcase | ⟨g, cap, cur, rfl, hb', hg, r⟩
  · exact .inl hcase
  · exact .inr ⟨g, cap, cur, rfl, hb', (ht.same g (hb g rfl).2 (hS g rfl)).trans hg, r⟩

/-- append of bytes to bytes of the call's own. -/
theorem wpList_append_bytes {w : World} {ops : Array Oper} {rest : List Oper} {o : Oper} {a : Act} {Q : Exit → Act → World → Prop} (hgd : o.guard = none) (s x : Operand)
    (ho : o.op = .call { callee := .builtin .append, args := #[s, x], argTypes := #[27, 27] })
    (base : Nat) (v xv : Value) (l m : List UInt8) (hs : a.eval s = v) (hown : OwnB base w v l) (hx : a.eval x = xv) (hbv : BV w xv m)
    (hlen : l.length + m.length ≤ 1073741824) (hbase : base ≤ w.heap.size)
    (h : ∀ v' w', Hid (OwnB base w' v' (l ++ m)) → Hid (Touch (OwnOf v) w w') → Hid (v ≠ .slice none 0 0 → v' ≠ .slice none 0 0) → wpList Tryd.prog ops Q rest (a.put o.dst v') w') : wpList Tryd.prog ops Q (o :: rest) a w := by
  obtain ⟨i0, hi, hz0, hz1, hz2⟩ := info_parts infoByte
  obtain ⟨ao, cap, rfl, hnone, hsl⟩ := hbv
  cases ao with
  | none =>
    obtain ⟨rfl, rfl⟩ := hnone rfl
    refine wpList_append_own_none hgd s x 27 ho base 5 i0 1 Tryd.underlying27 hi v l.length _ hs hown hx ?_
    exact h v w (show _ from by rw [List.append_nil]; exact hown) (show _ from Touch.refl _ _) (show _ from fun h => h)
  | some ad =>
    refine wpList_append_own w hgd s x 27 ho base 5 i0 (.int .u8 0) 1 1 Tryd.underlying27 hi hz0 hz1 hz2 rfl (by decide) v l.length _ hs hown ad m.length cap ((ub m).map (Value.int .u8)) hx (by simp) ?_ ?_ (by unfold maxLen; omega) (by omega) hbase ?_
    · intro j u hj
      by_cases hjm : j < m.length
      · obtain ⟨b, off, e, hc⟩ := hsl j (by simpa using hjm)
        cases e
        rw [add_plain, hc]
        rw [List.getElem?_map, List.getElem?_eq_getElem (by simpa using hjm)] at hj
        simp [List.getD_eq_getElem?_getD, hjm] at hj ⊢
        exact hj
      · simp [hjm] at hj
    · intro u hu
      obtain ⟨n, _, rfl⟩ := List.mem_map.1 hu
      rfl
    · intro v' w' hown' hgrow hiff
      refine h v' w' (show _ from ?_) (show _ from touch_grown hgrow) (show _ from fun hv hv' => hv (hiff.1 hv').1)
      show w'.ownsRow base 5 1 v' (l ++ m).length ((ub (l ++ m)).map (Value.int .u8))
      have : (ub (l ++ m)).map (Value.int .u8) = (ub l).map (Value.int .u8) ++ (ub m).map (Value.int .u8) := by simp [ub]
      rw [this, List.length_append]
      exact hown'

/-- A copy of bytes in new memory. -/
def ClonePost (l : List UInt8) (w : World) (e : Ending) (w' : World) : Prop := ∃ v, e = .returned v ∧ OwnB w.heap.size w' v l ∧ Touch Nil w w'

theorem own_new (w : World) : OwnB w.heap.size (w.alloc (.cells #[] 5)) (.slice (some ⟨w.heap.size, 0, none⟩) 0 0) [] :=
  ⟨rfl, .inr ⟨w.heap.size, 0, #[], rfl, Nat.le_refl _, by rw [heap_alloc_new], Nat.le_refl _, by simp, rfl, rfl⟩⟩

set_option maxRecDepth 100000 in
set_option maxHeartbeats 1000000 in
theorem bytesClone_any (x : Value) (l : List UInt8) (w : World) (h : BV w x l) (hl : l.length ≤ 1073741824) :
    Calls Tryd.prog 55 #[x] w (ClonePost l w) := by
  have hbv := h
  obtain ⟨ao, cap, rfl, hnone, hsl⟩ := h
  have heq := Lib.run_eql_slice_nil (P := Tryd.prog) w 27 5 ao l.length cap 0 0 Tryd.underlying27
  have HN := Lib.hid hnone
  have HBV := Lib.hid hbv
  clear hnone hbv hsl
  cases ao with
  | none =>
    obtain ⟨h1, h2⟩ := HN.out rfl
    subst h1
    subst h2
    clear HN HBV heq
    have heq := Lib.run_eql_slice_nil (P := Tryd.prog) w 27 5 none 0 0 0 0 Tryd.underlying27
    simp only [List.length_nil]
    go_enter Tryd.func55, Tryd.ntmps55
    go_wp2_with fail
    go_ret
    exact ⟨_, rfl, ⟨rfl, .inl ⟨rfl, rfl⟩⟩, Touch.refl _ _⟩
  | some ad =>
    go_enter Tryd.func55, Tryd.ntmps55
    have HB2 := Lib.hid (show BV (w.alloc (.cells #[] 5)) (.slice (some ad) l.length cap) l from by
      obtain ⟨ao', cap', e, h1, h2⟩ := HBV.out
      exact ⟨ao', cap', e, h1, h2.keepN ((Touch.refl _ _).alloc _)⟩)
    go_wp2_with (refine wpList_append_bytes rfl (.tmp 5) (.tmp 6) rfl w.heap.size (.slice (some ⟨w.heap.size, 0, none⟩) 0 0) (.slice (some ad) l.length cap) [] l rfl (own_new w) rfl HB2.out (by simpa using hl) (by simp) ?_)
    intro v' w' h1 h2 h3
    go_wp2_with fail
    go_ret
    exact ⟨v', rfl, h1.out, ((Touch.refl _ _).alloc _).trans' h2.out fun b hb hs => by
      have : b = w.heap.size := by simpa [OwnOf, Value.ownBlock] using hs
      omega⟩
end Go.Proofs.YticddcnlafbkoaaDoor
