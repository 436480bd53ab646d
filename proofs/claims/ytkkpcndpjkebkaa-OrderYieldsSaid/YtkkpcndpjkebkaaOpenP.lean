import Derived.Test.YtkkpcndpjkebkaaOpen
import Derived.Test.YtkkpcndpjkebkaaRL
import Derived.ChangeOld
/- Lists of pairs that come in. -/
namespace Go.Proofs.Ytkkpcndpjkebkaa
open Go.ChangeShapes Go.WideShapes Go.ChangeAt Go.RowKit Go.Deep

theorem open_u64' {H : Type} {enc : TypeId × Value → H} {w : World} {base : Nat} {spare : Nat → Bool} {held : Bool} {fuel : Nat} {v : Value} {x : DataW H × List MemPlace}
    (h : DataW.trod enc Try.prog w base spare held fuel 22 [v] = some x) : ∃ n : Nat, v = .int .u64 (n : Int) ∧ n ≤ 18446744073709551615 := by
  obtain ⟨z, e1, _, hw⟩ := DataW.trod_int Try.underlying22 h
  have hb : 0 ≤ z ∧ z ≤ 18446744073709551615 := by simpa [Lit.wf, IntKind.min, IntKind.max, IntKind.signed, IntKind.bits] using hw
  exact ⟨z.toNat, by rw [Int.toNat_of_nonneg hb.1]; simpa using e1, by omega⟩
theorem open_pairs {H : Type} {enc : TypeId × Value → H} {w : World} {base : Nat} {spare : Nat → Bool} {held : Bool} {fuel : Nat} {ao : Option Addr} {len cap : Nat} {x : DataW H × List MemPlace}
    (h : DataW.trod enc Try.prog w base spare held fuel 26 [.slice ao len cap] = some x) : ∃ L : Pairs, PL w (.slice ao len cap) L ∧ L.length ≤ maxLen ∧ ∀ p ∈ L, p.1.length ≤ maxLen ∧ p.2.length ≤ maxLen := by
  have h0 : ao = none → len = 0 ∧ cap = 0 := by
    intro e
    rcases open_slice Try.underlying26 h with ⟨h0, _⟩ | ⟨a, _, _, _, _, _, _, hcs, _⟩
    · simp at h0; exact h0.2
    · simp [e] at hcs
  obtain ⟨h1, h2, v, hcell, hf⟩ := open_structs Try.underlying26 Try.underlying45 (by kernel_rfl) (by kernel_rfl) (by decide) h
  obtain ⟨kk, hk⟩ := choose_lt (α := Key) (n := len) (p := fun i n => BV w (v i 0) n ∧ n.length ≤ maxLen) fun i hi => by
    obtain ⟨n, y, e⟩ := hf i hi 0 _ rfl
    exact open_bv Try.underlying29 Try.underlying5 (by kernel_rfl) e
  obtain ⟨vv, hv⟩ := choose_lt (α := Key) (n := len) (p := fun i n => BV w (v i 1) n ∧ n.length ≤ maxLen) fun i hi => by
    obtain ⟨n, y, e⟩ := hf i hi 1 _ rfl
    exact open_bv Try.underlying29 Try.underlying5 (by kernel_rfl) e
  have hL : ((List.range len).map fun i => (kk i, vv i)).length = len := by simp
  refine ⟨(List.range len).map fun i => (kk i, vv i), ⟨ao, cap, v, by rw [hL], by rw [hL]; exact h1, by rw [hL]; exact h0, by rw [hL]; exact hcell, ?_⟩, by rw [hL]; omega, ?_⟩
  · intro i a ha c hc
    rw [List.getElem?_map, Option.map_eq_some_iff] at ha
    obtain ⟨j, hj, rfl⟩ := ha
    obtain ⟨hlt, hj⟩ := List.getElem?_eq_some_iff.1 hj
    rw [List.getElem_range] at hj
    rw [List.length_range] at hlt
    subst hj
    rcases c with _ | _ | c
    · exact (hk i hlt).1
    · exact (hv i hlt).1
    · omega
  · intro p hp
    rw [List.mem_map] at hp
    obtain ⟨i, hi, rfl⟩ := hp
    rw [List.mem_range] at hi
    exact ⟨(hk i hi).2, (hv i hi).2⟩
end Go.Proofs.Ytkkpcndpjkebkaa
