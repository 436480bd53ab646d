import Derived.Test.YticddcnlafbkoaaDoorBase
/- The coins of the program and of the reference are one plain function of the seed, the tag and the bytes, on every slice of bytes. -/
namespace Go.Proofs.YticddcnlafbkoaaDoor
open Go.ChangeShapes Go.WideShapes Go.ChangeAt Go.RowKit

def coinInit (seed tag : Int) : Int := IntKind.u64.wrap (seed + IntKind.u64.wrap (IntKind.u64.wrap (IntKind.u64.wrap tag + 1) * 11400714819323198485))
def coinStep (h c : Int) : Int := IntKind.u64.wrap (bits BinOp.xor IntKind.u64 h (IntKind.u64.wrap c) * 1099511628211)
def coinA (x : Int) : Int := IntKind.u64.wrap (bits BinOp.xor IntKind.u64 x (x / 1073741824) * 13787848793156543929)
def coinB (x : Int) : Int := IntKind.u64.wrap (bits BinOp.xor IntKind.u64 x (x / 134217728) * 10723151780598845931)
def coinC (x : Int) : Int := bits BinOp.xor IntKind.u64 x (x / 2147483648)
def coinEnd (x n : Int) : Int := coinC (coinB (coinA (bits BinOp.xor IntKind.u64 x n)))
def coinMid (seed tag : Int) (l : List Int) : Int := l.foldl coinStep (coinInit seed tag)
def coin (seed tag : Int) (l : List Int) : Int := coinEnd (coinMid seed tag l) l.length

theorem coinMid_snoc (seed tag : Int) (l : List Int) (k : Nat) (h : k < l.length) :
    coinMid seed tag (l.take (k + 1)) = coinStep (coinMid seed tag (l.take k)) (l.getD k 0) := by
  unfold coinMid
  rw [List.take_succ_eq_append_getElem h, List.foldl_append]
  simp [List.getD_eq_getElem?_getD, List.getElem?_eq_getElem h]


set_option maxHeartbeats 400000 in
theorem coinP_any (seed tag : Int) (l : List Int) (ao : Option Addr) (cap : Nat) (w : World) (hl : l.length ≤ 140737488351232) (hc : SlI w .u8 ao l) :
    Calls Tryd.prog 73 #[.int .u64 seed, .int .i64 tag, .slice ao l.length cap] w fun e w' => e = .returned (.int .u64 (coin seed tag l)) ∧ w = w' := by
  go_enter Tryd.func73, Tryd.ntmps73
  go_wp2
  go_loop [7, 18] (fun h i => ∃ k : Nat, k ≤ l.length ∧ i = .int .i64 k ∧ h = .int .u64 (coinMid seed tag (l.take k))) (fun _ i => l.length - (intOf i).toNat)
  case atStart => exact ⟨0, by omega, rfl, rfl⟩
  obtain ⟨k, hk, rfl, rfl⟩ := hrel
  by_cases hlt : k < l.length
  · have HS := Lib.hid (coinMid_snoc seed tag l k hlt)
    obtain ⟨b, off, rfl, hcell⟩ := hc k hlt
    clear hc
    generalize coinMid seed tag (l.take k) = x at HS ⊢
    go_wp2
    go_round
    case rel => exact ⟨k+1, by omega, by go_num, by rw [HS.out]; simp [coinStep, hlt]⟩
    case measure => simp [intOf]; omega
  · have HS := Lib.hid (show l.take k = l from List.take_of_length_le (by omega))
    clear hc
    go_wp2
    go_ret
    exact ⟨ret_int (by rw [HS.out]; rfl), rfl⟩

set_option maxHeartbeats 400000 in
theorem coinR_any (seed tag : Int) (l : List Int) (ao : Option Addr) (cap : Nat) (w : World) (hl : l.length ≤ 140737488351232) (hc : SlI w .u8 ao l) :
    Calls Tryd.prog 79 #[.int .u64 seed, .int .i64 tag, .slice ao l.length cap] w fun e w' => e = .returned (.int .u64 (coin seed tag l)) ∧ w = w' := by
  go_enter Tryd.func79, Tryd.ntmps79
  go_wp2
  go_loop [7, 8] (fun h i => ∃ k : Nat, k ≤ l.length ∧ i = .int .i64 k ∧ h = .int .u64 (coinMid seed tag (l.take k))) (fun _ i => l.length - (intOf i).toNat)
  case atStart => exact ⟨0, by omega, rfl, rfl⟩
  obtain ⟨k, hk, rfl, rfl⟩ := hrel
  by_cases hlt : k < l.length
  · have HS := Lib.hid (coinMid_snoc seed tag l k hlt)
    obtain ⟨b, off, rfl, hcell⟩ := hc k hlt
    clear hc
    generalize coinMid seed tag (l.take k) = x at HS ⊢
    go_wp2
    go_round
    case rel => exact ⟨k+1, by omega, by go_num, by rw [HS.out]; simp [coinStep, hlt]⟩
    case measure => simp [intOf]; omega
  · have HS := Lib.hid (show l.take k = l from List.take_of_length_le (by omega))
    clear hc
    go_wp2
    go_ret
    exact ⟨ret_int (by rw [HS.out]; rfl), rfl⟩
end Go.Proofs.YticddcnlafbkoaaDoor
