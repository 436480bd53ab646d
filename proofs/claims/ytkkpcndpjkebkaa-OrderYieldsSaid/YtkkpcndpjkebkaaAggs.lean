import Derived.Test.YtkkpcndpjkebkaaOpen
import Derived.Lib.SmallJoins
import Derived.ChangeOld
/- A struct that comes in by value. -/
namespace Go.Proofs.Ytkkpcndpjkebkaa
open Go.ChangeShapes Go.WideShapes Go.ChangeAt Go.RowKit Go.Deep

/-- A struct of one-cell fields, by value, opened. -/
theorem open_aggs {H : Type} {enc : TypeId × Value → H} {P : Program} {w : World} {base : Nat} {spare : Nat → Bool} {held : Bool} {r : Reach} {b0 : Nat} {t : TypeId} {fs : Array Field} {v : Value} {d : DataW H} {p : List MemPlace} (hs : P.underlying t = some (.struct fs)) (hone : oneCellFields P fs = true) (hC : P.cellsOf t = fs.size)
    (hv : Value.okWide P w r b0 t v) (h : DataW.Trod enc P w base spare held t v d p) :
    ∃ cs : Array Value, v = .agg cs ∧ cs.size = fs.size ∧ ∀ c (f : Field), fs[c]? = some f → ∃ n y, DataW.trod enc P w base spare held n f.type [cs.getD c undef] = some y := by
  obtain ⟨cs, rfl, hsz⟩ := okWide_struct hs hv
  obtain ⟨fuel, hf⟩ := h
  obtain ⟨ys, n', _, _, hlen, hyl, hfl⟩ := DataW.trod_struct hs hf
  refine ⟨cs, rfl, hsz.trans hC, fun c f hf' => ?_⟩
  have hjl : c < fs.size := (Array.getElem?_eq_some_iff.1 hf').1
  obtain ⟨ho, hk⟩ := hone_of hone c f hf'
  have h1 := hfl c f hf'
  rw [ho, hk] at h1
  have hcl : c < cs.size := by omega
  have hone' : ((Value.agg cs).cells.toList.drop c).take 1 = [cs.getD c undef] := by
    have hl : c < (Value.agg cs).cells.toList.length := by simpa [Value.cells] using hcl
    rw [List.drop_eq_getElem_cons hl]
    simp [Value.cells, Array.getD, hcl]
  rw [hone'] at h1
  exact ⟨n', _, h1.trans (List.getElem?_eq_getElem (by omega))⟩
end Go.Proofs.Ytkkpcndpjkebkaa
