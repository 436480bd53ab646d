import Derived.Test.YtejiijbmmpahhabCheck
import Derived.Test.YtejiijbmmpahhabOpen
import Derived.Lib.SmallJoins
import Derived.ChangeOld
/- Steps of a proof that come in. -/
namespace Go.Proofs.Ytejiijbmmpahhab
open Go.ChangeShapes Go.WideShapes Go.ChangeAt Go.RowKit Go.Deep

theorem box4' (w : World) (x y z u : Value) (t : Nat) : ((w.alloc (.cells #[x, y, z, u] t)).cell? ⟨w.heap.size, 0, none⟩ = some x) ∧ ((w.alloc (.cells #[x, y, z, u] t)).cell? ⟨w.heap.size, 1, none⟩ = some y) ∧ ((w.alloc (.cells #[x, y, z, u] t)).cell? ⟨w.heap.size, 2, none⟩ = some z) ∧ ((w.alloc (.cells #[x, y, z, u] t)).cell? ⟨w.heap.size, 3, none⟩ = some u) := box4 w x y z u t
/-- A number of 64 bits without a sign that came in. -/
theorem open_u64 {H : Type} {enc : TypeId × Value → H} {w : World} {base : Nat} {spare : Nat → Bool} {held : Bool} {fuel : Nat} {v : Value} {x : DataW H × List MemPlace}
    (h : DataW.trod enc Try.prog w base spare held fuel 22 [v] = some x) : ∃ n : Nat, v = .int .u64 (n : Int) ∧ n ≤ 18446744073709551615 := by
  obtain ⟨z, e1, _, hw⟩ := DataW.trod_int Try.underlying22 h
  have hb : 0 ≤ z ∧ z ≤ 18446744073709551615 := by simpa [Lit.wf, IntKind.min, IntKind.max, IntKind.signed, IntKind.bits] using hw
  exact ⟨z.toNat, by rw [Int.toNat_of_nonneg hb.1]; simpa using e1, by omega⟩

theorem open_sds {H : Type} {enc : TypeId × Value → H} {w : World} {base : Nat} {spare : Nat → Bool} {held : Bool} {fuel : Nat} {ao : Option Addr} {len cap : Nat} {x : DataW H × List MemPlace}
    (h : DataW.trod enc Try.prog w base spare held fuel 25 [.slice ao len cap] = some x) : len ≤ maxLen ∧ ∃ v kk vv dl dr, Sds w ao len v kk vv dl dr ∧ ∀ i, i < len → (kk i).length ≤ maxLen ∧ (vv i).length ≤ maxLen := by
  obtain ⟨h1, h2, v, hcell, hf⟩ := open_structs Try.underlying25 Try.underlying87 (by kernel_rfl) (by kernel_rfl) (by decide) h
  obtain ⟨kk, hk⟩ := choose_lt (α := Key) (n := len) (p := fun i n => BV w (v i 0) n ∧ n.length ≤ maxLen) fun i hi => by
    obtain ⟨n, y, e⟩ := hf i hi 0 _ rfl
    exact open_bv Try.underlying24 Try.underlying5 (by kernel_rfl) e
  obtain ⟨vv, hv⟩ := choose_lt (α := Key) (n := len) (p := fun i n => BV w (v i 1) n ∧ n.length ≤ maxLen) fun i hi => by
    obtain ⟨n, y, e⟩ := hf i hi 1 _ rfl
    exact open_bv Try.underlying24 Try.underlying5 (by kernel_rfl) e
  obtain ⟨dl, hl⟩ := choose_lt (α := Nat) (n := len) (p := fun i n => v i 2 = .int .u64 (n : Int) ∧ n ≤ 18446744073709551615) fun i hi => by
    obtain ⟨n, y, e⟩ := hf i hi 2 _ rfl
    exact open_u64 e
  obtain ⟨dr, hr⟩ := choose_lt (α := Nat) (n := len) (p := fun i n => v i 3 = .int .u64 (n : Int) ∧ n ≤ 18446744073709551615) fun i hi => by
    obtain ⟨n, y, e⟩ := hf i hi 3 _ rfl
    exact open_u64 e
  exact ⟨by omega, v, kk, vv, dl, dr, ⟨hcell, fun i hi => (hk i hi).1, fun i hi => (hv i hi).1, hl, hr⟩, fun i hi => ⟨(hk i hi).2, (hv i hi).2⟩⟩

end Go.Proofs.Ytejiijbmmpahhab
