import Derived.Test.YticddcnlafbkoaaDoorBytes
import Derived.Deep.Slices
import Derived.Deep.Fields
/- What came in, as the walks ask it: bytes, slices of structs of one-cell fields. -/
namespace Go.Proofs.YticddcnlafbkoaaDoor
open Go.ChangeShapes Go.WideShapes Go.ChangeAt Go.RowKit Go.Deep

/-- Bytes as a list of bytes. -/
theorem wf_ub {l : List Int} (h : ∀ n ∈ l, (Lit.int .u8 n).wf = true) : ∃ k : List UInt8, l = ub k := by
  refine ⟨l.map fun n => UInt8.ofNat n.toNat, ?_⟩
  unfold ub
  rw [List.map_map]
  conv => lhs; rw [← List.map_id l]
  refine List.map_congr_left fun n hn => ?_
  have := h n hn
  simp [Lit.wf, IntKind.min, IntKind.max, IntKind.signed, IntKind.bits] at this
  show n = (((UInt8.ofNat n.toNat).toNat : Nat) : Int)
  rw [UInt8.toNat_ofNat']
  omega

section
variable {H : Type} {enc : TypeId × Value → H} {P : Program} {w : World} {base : Nat} {spare : Nat → Bool} {held : Bool}
/-- Bytes that came in. -/
theorem open_bv {t e : TypeId} {fuel : Nat} {v : Value} {x : DataW H × List MemPlace} (ht : P.underlying t = some (.slice e)) (he : P.underlying e = some (.int .u8)) (hc : P.cellsOf e = 1)
    (h : DataW.trod enc P w base spare held fuel t [v] = some x) : ∃ k : List UInt8, BV w v k ∧ k.length ≤ maxLen := by
  have hv : ∃ ao len cap, v = .slice ao len cap ∧ (ao = none → len = 0 ∧ cap = 0) := by
    rcases open_ints ht he hc h with ⟨hcs, _⟩ | ⟨a, len, cap, zs, hcs, _⟩
    · exact ⟨none, 0, 0, by simpa using hcs, fun _ => ⟨rfl, rfl⟩⟩
    · exact ⟨some a, len, cap, by simpa using hcs, fun h => by cases h⟩
  obtain ⟨ao, len, cap, rfl, hn⟩ := hv
  obtain ⟨l, rfl, hm, hs, hw⟩ := open_slI ht he hc h
  obtain ⟨k, rfl⟩ := wf_ub hw
  have hk : (ub k).length = k.length := by simp [ub]
  rw [hk] at hm hn ⊢
  refine ⟨k, ⟨ao, cap, rfl, fun e => ?_, hs⟩, hm⟩
  obtain ⟨h1, h2⟩ := hn e
  exact ⟨List.length_eq_zero_iff.1 h1, h2⟩

/-- A slice of structs, whose fields are one cell each: the cells of each element, and what each reads as. -/
theorem open_structs {t e : TypeId} {fs : Array Field} {fuel : Nat} {ao : Option Addr} {len cap : Nat} {x : DataW H × List MemPlace} (ht : P.underlying t = some (.slice e)) (he : P.underlying e = some (.struct fs))
    (hone : oneCellFields P fs = true) (hC : P.cellsOf e = fs.size) (hpos : 0 < fs.size) (h : DataW.trod enc P w base spare held fuel t [.slice ao len cap] = some x) :
    len ≤ cap ∧ cap ≤ maxLen ∧ ∃ v : Nat → Nat → Value, (0 < len → ∃ b off, ao = some ⟨b, off, none⟩ ∧ b < w.heap.size ∧ ∀ i, i < len → ∀ c, c < fs.size → w.cell? ⟨b, off + i * fs.size + c, none⟩ = some (v i c)) ∧
      ∀ i, i < len → ∀ c (f : Field), fs[c]? = some f → ∃ n y, DataW.trod enc P w base spare held n f.type [v i c] = some y := by
  rcases open_slice ht h with ⟨h0, _⟩ | ⟨a, len', cap', m, n, D, Pl, hcs, hb, hl, hm, hmm, hx, hi⟩
  · simp at h0
    obtain ⟨rfl, rfl, rfl⟩ := h0
    exact ⟨Nat.le_refl _, by simp, fun _ _ => undef, fun h => by omega, fun i h => by omega⟩
  · simp at hcs
    obtain ⟨rfl, rfl, rfl⟩ := hcs
    rw [hC] at hi
    have hle : len ≤ m := by rw [hmm]; split <;> omega
    have each : ∀ i, i < len → ∃ V : Nat → Value, (∀ c, c < fs.size → w.cell? (a.add (i * fs.size + c)) = some (V c)) ∧ ∀ c (f : Field), fs[c]? = some f → ∃ n y, DataW.trod enc P w base spare held n f.type [V c] = some y := by
      intro i hil
      obtain ⟨cs', hc, ht'⟩ := hi i (by omega)
      obtain ⟨ys, n', hn', hy, hlen, hyl, hf⟩ := DataW.trod_struct he ht'
      obtain ⟨_, hcl, hat⟩ := World.cells?_some hc
      refine ⟨fun c => cs'.getD c undef, fun c hc => ?_, fun c f hf' => ?_⟩
      · have := hat c hc
        rw [Go.Deep.add_add] at this
        rw [this]
        show cs'[c]? = some (cs'.getD c undef)
        rw [List.getD_eq_getElem?_getD, List.getElem?_eq_getElem (by omega)]
        rfl
      · have hjl : c < fs.size := (Array.getElem?_eq_some_iff.1 hf').1
        obtain ⟨ho, hk⟩ := hone_of hone c f hf'
        have h1 := hf c f hf'
        rw [ho, hk] at h1
        have hone' : (cs'.drop c).take 1 = [cs'.getD c undef] := by
          rw [List.drop_eq_getElem_cons (by omega), List.getD_eq_getElem?_getD, List.getElem?_eq_getElem (by omega)]
          rfl
        rw [hone'] at h1
        exact ⟨n', _, h1.trans (List.getElem?_eq_getElem (by omega))⟩
    obtain ⟨v, hv⟩ := choose_lt (α := Nat → Value) (n := len) (p := fun i V => (∀ c, c < fs.size → w.cell? (a.add (i * fs.size + c)) = some (V c)) ∧ ∀ c (f : Field), fs[c]? = some f → ∃ n y, DataW.trod enc P w base spare held n f.type [V c] = some y) each
    refine ⟨hl, hm, v, fun h0 => ?_, fun i hi c f hf => (hv i hi).2 c f hf⟩
    obtain ⟨b, off, spot⟩ := a
    have h00 := (hv 0 h0).1 0 hpos
    have hspot : spot = none := by simpa [Addr.add] using World.cell?_spot h00
    subst hspot
    refine ⟨b, off, rfl, ?_, fun i hi c hc => ?_⟩
    · rw [add_plain] at h00
      exact World.block_lt_of_cell? w _ h00
    · have := (hv i hi).1 c hc
      rw [add_plain] at this
      rw [show off + i * fs.size + c = off + (i * fs.size + c) by omega]
      exact this
end
end Go.Proofs.YticddcnlafbkoaaDoor
