/-
  DERIVED. GIVEN WITH THE SEED: THE CARDS: each row of YticddcnlafbkoaaDoorRows.lean that lists a variable, with what it lists TIED to the program's text (the seventh form; the later family's looks); each row that meets fmt, with fmt's text TOLD by the authors' own Lean function (tested against real Go, not proved from fmt's source: count such statements apart). THE CARD IS WHAT COUNTS. Prove the row's statement (the work); the ties are given (YticddcnlafbkoaaDoorTie.lean); close each card by the builder's one call (the guide's Derived/Test/ToyasCard.lean, 'card_holds'). Laid BY PROGRAM, IN A SANDBOX (cutbox-door.mjs). By AI agents, Wed Nov 11 2026. No macro, syntax, notation, axiom, sorry.
-/
import Derived.Test.YticddcnlafbkoaaDoorRows
import GoSem.ClaimSeven
namespace Go.Proofs.YticddcnlafbkoaaDoor
namespace Rows

/-- THE TIED CARD OF 'amnestylaw07.SwapVault'. -/
def swapVaultCard : Claim7 := { stood := { row := swapVaultRow, standIns := [], harness := (true, "cdfb7a953ca32c628b11071596c892b5b5e0ebf2afb851413499acf41dd59741"), looks := false }, kinds := [], alts := [], laidByText := true, laidKinds := [.data, .pinned], laidTests := true, laidLooks := .later }
def SwapVaultCardSaid : Prop := Claim7.holds Tryd.pinned (.plain (OpenSpec.ofChange swapVaultSpec)) swapVaultCard

/-- THE TIED CARD OF 'amnestylaw07.SwapForgets'. -/
def swapForgetsCard : Claim7 := { stood := { row := swapForgetsRow, standIns := [], harness := (true, "cdfb7a953ca32c628b11071596c892b5b5e0ebf2afb851413499acf41dd59741"), looks := false }, kinds := [], alts := [], laidByText := true, laidKinds := [.data, .pinned], laidTests := true, laidLooks := .later }
def SwapForgetsCardSaid : Prop := Claim7.holds Tryd.pinned (.plain (OpenSpec.ofChange swapForgetsSpec)) swapForgetsCard

/-- THE TIED CARD OF 'amnestylaw07.SwapPads'. -/
def swapPadsCard : Claim7 := { stood := { row := swapPadsRow, standIns := [], harness := (true, "cdfb7a953ca32c628b11071596c892b5b5e0ebf2afb851413499acf41dd59741"), looks := false }, kinds := [], alts := [], laidByText := true, laidKinds := [.data, .pinned], laidTests := true, laidLooks := .later }
def SwapPadsCardSaid : Prop := Claim7.holds Tryd.pinned (.plain (OpenSpec.ofChange swapPadsSpec)) swapPadsCard

/-- THE SECOND FORM's CARD OF 'amnestylaw07.SwapVault'. -/
def swapVaultUptoCard : Claim7 := { stood := { row := swapVaultUptoRow, standIns := [], harness := (true, "cdfb7a953ca32c628b11071596c892b5b5e0ebf2afb851413499acf41dd59741"), looks := false }, kinds := [], alts := [], laidByText := true, laidKinds := [.data, .pinned], laidTests := true, laidLooks := .later }
def SwapVaultUptoCardSaid : Prop := Claim7.holds Tryd.pinned (.plain (OpenSpec.upto swapVaultSpec)) swapVaultUptoCard

/-- THE SECOND FORM's CARD OF 'amnestylaw07.SwapForgets'. -/
def swapForgetsUptoCard : Claim7 := { stood := { row := swapForgetsUptoRow, standIns := [], harness := (true, "cdfb7a953ca32c628b11071596c892b5b5e0ebf2afb851413499acf41dd59741"), looks := false }, kinds := [], alts := [], laidByText := true, laidKinds := [.data, .pinned], laidTests := true, laidLooks := .later }
def SwapForgetsUptoCardSaid : Prop := Claim7.holds Tryd.pinned (.plain (OpenSpec.upto swapForgetsSpec)) swapForgetsUptoCard

/-- THE SECOND FORM's CARD OF 'amnestylaw07.SwapPads'. -/
def swapPadsUptoCard : Claim7 := { stood := { row := swapPadsUptoRow, standIns := [], harness := (true, "cdfb7a953ca32c628b11071596c892b5b5e0ebf2afb851413499acf41dd59741"), looks := false }, kinds := [], alts := [], laidByText := true, laidKinds := [.data, .pinned], laidTests := true, laidLooks := .later }
def SwapPadsUptoCardSaid : Prop := Claim7.holds Tryd.pinned (.plain (OpenSpec.upto swapPadsSpec)) swapPadsUptoCard
end Rows
end Go.Proofs.YticddcnlafbkoaaDoor
