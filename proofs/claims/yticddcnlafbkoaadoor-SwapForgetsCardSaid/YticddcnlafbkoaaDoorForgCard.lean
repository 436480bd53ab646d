/-
  SwapForgets: for every seed, every name, all bytes and all deeds of other names the law returns true: a vault that has forgotten a pad has the image of one that never had it, and opens the sealed record no more.
  Conditions: none beside the statement's own: the two tables of unicode/utf8 that the row lists are tied to the program's text.
-/
import Derived.Test.YticddcnlafbkoaaDoorForgRow
import Derived.Test.YticddcnlafbkoaaDoorCards
import Derived.Test.YticddcnlafbkoaaDoorTie
import Derived.SevenTiedAt
namespace Go.Proofs.YticddcnlafbkoaaDoor
open Go

theorem swapForgets_card : Rows.SwapForgetsCardSaid :=
  Claim7.holds_tied_plain_at .later [] [.data, .pinned] true (true, "cdfb7a953ca32c628b11071596c892b5b5e0ebf2afb851413499acf41dd59741") false swapForgets_holds (fun _ h => by cases h) (by kernel_rfl) (fun _ h => by cases h) swapForgets_row_tie rfl ⟨rfl, rfl⟩ (by kernel_rfl) rfl
    (fun f fn hf hfn => by
      obtain rfl : f = 4 := Option.some.inj ((show Tryd.prog.funcNamed "amnesty/amnestylaw07.SwapForgets" = some 4 by kernel_rfl).symm.trans hf) |>.symm
      obtain rfl : fn = Tryd.f4 := (Option.some.inj (Tryd.func4.symm.trans hfn)).symm
      exact ⟨by kernel_rfl, fun j t ht => by
        rw [Tryd.params4] at ht
        have hm : t ∈ [22, 9, 27, 27, 23, 23] := by simpa using Array.mem_of_getElem? ht
        have hall : ([22, 9, 27, 27, 23, 23].all fun u => !Tryd.prog.wantsStandIn u) = true := by kernel_rfl
        exact (show Tryd.prog.wantsStandIn t = false by simpa using List.all_eq_true.1 hall t hm)⟩)
    (by kernel_rfl)
end Go.Proofs.YticddcnlafbkoaaDoor
