/-
  No cell of these rows narrows 'for every input' (looked for: loops, veiled, ifaces, maps, wideKeys, modest, calm, conditions, laid).
  DERIVED. THE GIVEN ROWS OF THIS SEAT. 10 by the template 'for every input the law returns true; each argument reads behind the call as it read before'; 0 by the template 'total and deterministic' (their statements: YtabjpejgnfeegaaTotals.lean).
  GIVEN WITH THE SEED: the statements are not yours to turn. If you find one false, say at which input.
  Laid BY PROGRAM, IN A SANDBOX (cutbox-rows.mjs): the forced cells as the released guide's own fill.sh prints them over the translation a7c138cacab7347d… (all of the seat's roots in one cut). By AI agents, Wed Nov 11 2026. No macro, syntax, notation, axiom, sorry.
-/
import Derived.Test.YtabjpejgnfeegaaChecked
import GoSem.Claim
import GoSem.ClaimJoined
import GoSem.ClaimMapViews
import Derived.JoinedTies
import Derived.KernelRfl
namespace Go.Proofs.Ytabjpejgnfeegaa
/- THE CELL 'sum', in the pinned program and in every row, IS THE sha256 OF THE DUMP (.gsa) THAT YtabjpejgnfeegaaProg.lean LOADS. Nothing in Lean hashes anything: it is a label: what it is worth is what the hold of that sum in a sandbox is worth. -/
noncomputable def Try.pinned : Pinned := { name := "ytabjpejgnfeegaa", sum := "a7c138cacab7347d2a80917aa823c261afd3d63b86f0341224c0b18c7a301679", checked := Try.checked }
namespace Rows
def none {H : Type} : Left H := { results := [], args := [] }

/-- 'amnestylaw01.SlotsCoin': WHATEVER THE INPUT: true; the input reads as it did. -/
def slotsCoinSpec : ChangeSpec := { name := "slotsCoin", fn := fun _ => fun
  | [d1, d2, d3] => { results := [.lit (.bool true)], args := [d1, d2, d3] }
  | _ => none }
def slotsCoinRow : OpenClaim := { program := "ytabjpejgnfeegaa", sum := "a7c138cacab7347d2a80917aa823c261afd3d63b86f0341224c0b18c7a301679", func := "amnesty/amnestylaw01.SlotsCoin", spec := "slotsCoin", apart := false }
def SlotsCoinSaid : Prop := slotsCoinRow.holds Try.pinned (OpenSpec.ofChange slotsCoinSpec)

/-- ITS FALSE NEIGHBOUR: 'it returns false'. Refute it at one input. -/
def slotsCoinWrong : ChangeSpec := { name := "slotsCoin", fn := fun _ => fun
  | [d1, d2, d3] => { results := [.lit (.bool false)], args := [d1, d2, d3] }
  | _ => none }
def SlotsCoinWrongFalsely : Prop := slotsCoinRow.holds Try.pinned (OpenSpec.ofChange slotsCoinWrong)

/-- 'amnestylaw01.SlotsLays': WHATEVER THE INPUT: true; the input reads as it did. -/
def slotsLaysSpec : ChangeSpec := { name := "slotsLays", fn := fun _ => fun
  | [d1, d2, d3] => { results := [.lit (.bool true)], args := [d1, d2, d3] }
  | _ => none }
def slotsLaysRow : OpenClaim := { program := "ytabjpejgnfeegaa", sum := "a7c138cacab7347d2a80917aa823c261afd3d63b86f0341224c0b18c7a301679", func := "amnesty/amnestylaw01.SlotsLays", spec := "slotsLays", inPlace := ["internal/bytealg.Compare"], unfollowed := true, recurses := true, apart := false }
def SlotsLaysSaid : Prop := slotsLaysRow.holds Try.pinned (OpenSpec.ofChange slotsLaysSpec)

/-- ITS FALSE NEIGHBOUR: 'it returns false'. Refute it at one input. -/
def slotsLaysWrong : ChangeSpec := { name := "slotsLays", fn := fun _ => fun
  | [d1, d2, d3] => { results := [.lit (.bool false)], args := [d1, d2, d3] }
  | _ => none }
def SlotsLaysWrongFalsely : Prop := slotsLaysRow.holds Try.pinned (OpenSpec.ofChange slotsLaysWrong)

/-- 'amnestylaw01.SlotsOneLayout': WHATEVER THE INPUT: true; the input reads as it did. -/
def slotsOneLayoutSpec : ChangeSpec := { name := "slotsOneLayout", fn := fun _ => fun
  | [d1, d2, d3] => { results := [.lit (.bool true)], args := [d1, d2, d3] }
  | _ => none }
def slotsOneLayoutRow : OpenClaim := { program := "ytabjpejgnfeegaa", sum := "a7c138cacab7347d2a80917aa823c261afd3d63b86f0341224c0b18c7a301679", func := "amnesty/amnestylaw01.SlotsOneLayout", spec := "slotsOneLayout", inPlace := ["internal/bytealg.Compare"], unfollowed := true, recurses := true, apart := false }
def SlotsOneLayoutSaid : Prop := slotsOneLayoutRow.holds Try.pinned (OpenSpec.ofChange slotsOneLayoutSpec)

/-- ITS FALSE NEIGHBOUR: 'it returns false'. Refute it at one input. -/
def slotsOneLayoutWrong : ChangeSpec := { name := "slotsOneLayout", fn := fun _ => fun
  | [d1, d2, d3] => { results := [.lit (.bool false)], args := [d1, d2, d3] }
  | _ => none }
def SlotsOneLayoutWrongFalsely : Prop := slotsOneLayoutRow.holds Try.pinned (OpenSpec.ofChange slotsOneLayoutWrong)

/-- 'amnestylaw01.SlotsCalls': WHATEVER THE INPUT: true; the input reads as it did. -/
def slotsCallsSpec : ChangeSpec := { name := "slotsCalls", fn := fun _ => fun
  | [d1, d2] => { results := [.lit (.bool true)], args := [d1, d2] }
  | _ => none }
def slotsCallsRow : OpenClaim := { program := "ytabjpejgnfeegaa", sum := "a7c138cacab7347d2a80917aa823c261afd3d63b86f0341224c0b18c7a301679", func := "amnesty/amnestylaw01.SlotsCalls", spec := "slotsCalls", inPlace := ["internal/bytealg.Compare"], unfollowed := true, recurses := true, apart := false }
def SlotsCallsSaid : Prop := slotsCallsRow.holds Try.pinned (OpenSpec.ofChange slotsCallsSpec)

/-- ITS FALSE NEIGHBOUR: 'it returns false'. Refute it at one input. -/
def slotsCallsWrong : ChangeSpec := { name := "slotsCalls", fn := fun _ => fun
  | [d1, d2] => { results := [.lit (.bool false)], args := [d1, d2] }
  | _ => none }
def SlotsCallsWrongFalsely : Prop := slotsCallsRow.holds Try.pinned (OpenSpec.ofChange slotsCallsWrong)

/-- 'amnestylaw01.SlotsPlays': WHATEVER THE INPUT: true; the input reads as it did. -/
def slotsPlaysSpec : ChangeSpec := { name := "slotsPlays", fn := fun _ => fun
  | [d1, d2, d3] => { results := [.lit (.bool true)], args := [d1, d2, d3] }
  | _ => none }
def slotsPlaysRow : OpenClaim := { program := "ytabjpejgnfeegaa", sum := "a7c138cacab7347d2a80917aa823c261afd3d63b86f0341224c0b18c7a301679", func := "amnesty/amnestylaw01.SlotsPlays", spec := "slotsPlays", inPlace := ["internal/bytealg.Compare"], unfollowed := true, recurses := true, apart := false }
def SlotsPlaysSaid : Prop := slotsPlaysRow.holds Try.pinned (OpenSpec.ofChange slotsPlaysSpec)

/-- ITS FALSE NEIGHBOUR: 'it returns false'. Refute it at one input. -/
def slotsPlaysWrong : ChangeSpec := { name := "slotsPlays", fn := fun _ => fun
  | [d1, d2, d3] => { results := [.lit (.bool false)], args := [d1, d2, d3] }
  | _ => none }
def SlotsPlaysWrongFalsely : Prop := slotsPlaysRow.holds Try.pinned (OpenSpec.ofChange slotsPlaysWrong)

/-- 'amnestylaw01.SlotsForgets': WHATEVER THE INPUT: true; the input reads as it did. -/
def slotsForgetsSpec : ChangeSpec := { name := "slotsForgets", fn := fun _ => fun
  | [d1, d2, d3] => { results := [.lit (.bool true)], args := [d1, d2, d3] }
  | _ => none }
def slotsForgetsRow : OpenClaim := { program := "ytabjpejgnfeegaa", sum := "a7c138cacab7347d2a80917aa823c261afd3d63b86f0341224c0b18c7a301679", func := "amnesty/amnestylaw01.SlotsForgets", spec := "slotsForgets", inPlace := ["internal/bytealg.Compare"], unfollowed := true, recurses := true, apart := false }
def SlotsForgetsSaid : Prop := slotsForgetsRow.holds Try.pinned (OpenSpec.ofChange slotsForgetsSpec)

/-- ITS FALSE NEIGHBOUR: 'it returns false'. Refute it at one input. -/
def slotsForgetsWrong : ChangeSpec := { name := "slotsForgets", fn := fun _ => fun
  | [d1, d2, d3] => { results := [.lit (.bool false)], args := [d1, d2, d3] }
  | _ => none }
def SlotsForgetsWrongFalsely : Prop := slotsForgetsRow.holds Try.pinned (OpenSpec.ofChange slotsForgetsWrong)

/-- 'amnestylaw01.SlotsLoads': WHATEVER THE INPUT: true; the input reads as it did. -/
def slotsLoadsSpec : ChangeSpec := { name := "slotsLoads", fn := fun _ => fun
  | [d1, d2] => { results := [.lit (.bool true)], args := [d1, d2] }
  | _ => none }
def slotsLoadsRow : OpenClaim := { program := "ytabjpejgnfeegaa", sum := "a7c138cacab7347d2a80917aa823c261afd3d63b86f0341224c0b18c7a301679", func := "amnesty/amnestylaw01.SlotsLoads", spec := "slotsLoads", inPlace := ["internal/bytealg.Compare"], unfollowed := true, recurses := true, apart := false }
def SlotsLoadsSaid : Prop := slotsLoadsRow.holds Try.pinned (OpenSpec.ofChange slotsLoadsSpec)

/-- ITS FALSE NEIGHBOUR: 'it returns false'. Refute it at one input. -/
def slotsLoadsWrong : ChangeSpec := { name := "slotsLoads", fn := fun _ => fun
  | [d1, d2] => { results := [.lit (.bool false)], args := [d1, d2] }
  | _ => none }
def SlotsLoadsWrongFalsely : Prop := slotsLoadsRow.holds Try.pinned (OpenSpec.ofChange slotsLoadsWrong)

/-- 'amnestylaw01.SlotsBack': WHATEVER THE INPUT: true; the input reads as it did. -/
def slotsBackSpec : ChangeSpec := { name := "slotsBack", fn := fun _ => fun
  | [d1, d2, d3] => { results := [.lit (.bool true)], args := [d1, d2, d3] }
  | _ => none }
def slotsBackRow : OpenClaim := { program := "ytabjpejgnfeegaa", sum := "a7c138cacab7347d2a80917aa823c261afd3d63b86f0341224c0b18c7a301679", func := "amnesty/amnestylaw01.SlotsBack", spec := "slotsBack", inPlace := ["internal/bytealg.Compare"], unfollowed := true, recurses := true, apart := false }
def SlotsBackSaid : Prop := slotsBackRow.holds Try.pinned (OpenSpec.ofChange slotsBackSpec)

/-- ITS FALSE NEIGHBOUR: 'it returns false'. Refute it at one input. -/
def slotsBackWrong : ChangeSpec := { name := "slotsBack", fn := fun _ => fun
  | [d1, d2, d3] => { results := [.lit (.bool false)], args := [d1, d2, d3] }
  | _ => none }
def SlotsBackWrongFalsely : Prop := slotsBackRow.holds Try.pinned (OpenSpec.ofChange slotsBackWrong)

/-- 'amnestylaw01.SlotsSeeks': WHATEVER THE INPUT: true; the input reads as it did. -/
def slotsSeeksSpec : ChangeSpec := { name := "slotsSeeks", fn := fun _ => fun
  | [d1, d2, d3] => { results := [.lit (.bool true)], args := [d1, d2, d3] }
  | _ => none }
def slotsSeeksRow : OpenClaim := { program := "ytabjpejgnfeegaa", sum := "a7c138cacab7347d2a80917aa823c261afd3d63b86f0341224c0b18c7a301679", func := "amnesty/amnestylaw01.SlotsSeeks", spec := "slotsSeeks", inPlace := ["internal/bytealg.Compare"], unfollowed := true, recurses := true, apart := false }
def SlotsSeeksSaid : Prop := slotsSeeksRow.holds Try.pinned (OpenSpec.ofChange slotsSeeksSpec)

/-- ITS FALSE NEIGHBOUR: 'it returns false'. Refute it at one input. -/
def slotsSeeksWrong : ChangeSpec := { name := "slotsSeeks", fn := fun _ => fun
  | [d1, d2, d3] => { results := [.lit (.bool false)], args := [d1, d2, d3] }
  | _ => none }
def SlotsSeeksWrongFalsely : Prop := slotsSeeksRow.holds Try.pinned (OpenSpec.ofChange slotsSeeksWrong)

/-- 'amnestylaw01.SlotsRuns': WHATEVER THE INPUT: true; the input reads as it did. -/
def slotsRunsSpec : ChangeSpec := { name := "slotsRuns", fn := fun _ => fun
  | [d1, d2] => { results := [.lit (.bool true)], args := [d1, d2] }
  | _ => none }
def slotsRunsRow : OpenClaim := { program := "ytabjpejgnfeegaa", sum := "a7c138cacab7347d2a80917aa823c261afd3d63b86f0341224c0b18c7a301679", func := "amnesty/amnestylaw01.SlotsRuns", spec := "slotsRuns", inPlace := ["internal/bytealg.Compare"], unfollowed := true, recurses := true, apart := false }
def SlotsRunsSaid : Prop := slotsRunsRow.holds Try.pinned (OpenSpec.ofChange slotsRunsSpec)

/-- ITS FALSE NEIGHBOUR: 'it returns false'. Refute it at one input. -/
def slotsRunsWrong : ChangeSpec := { name := "slotsRuns", fn := fun _ => fun
  | [d1, d2] => { results := [.lit (.bool false)], args := [d1, d2] }
  | _ => none }
def SlotsRunsWrongFalsely : Prop := slotsRunsRow.holds Try.pinned (OpenSpec.ofChange slotsRunsWrong)

/- THE SECOND FORM. 'bulk': how many values and letters a reading holds, each counted each time it is reached (what is shared counts as often as it is met; a slice's spare places count too). A statement '..UptoSaid' is the law's where the arguments, and the package variables that the reading takes, are together of bulk at most 1048576: NARROWER than '..Said'. Prove '..Said' where nothing that the law and all that it calls make is longer than what came in: it says more and counts as full. Else prove '..UptoSaid'. A law counts once. -/
mutual
def uptoBulk {H : Type} : DataW H → Nat
  | .lit (.string bytes) => bytes.length + 1
  | .lit _ => 1
  | .nil => 1
  | .ptr d => uptoBulk d + 1
  | .slice elems spare => uptoBulkAll elems + uptoBulkAll spare + 1
  | .agg parts => uptoBulkAll parts + 1
  | .iface _ d => uptoBulk d + 1
  | .map entries => uptoBulkEntries entries + 1
  | .held _ => 1
def uptoBulkAll {H : Type} : List (DataW H) → Nat
  | [] => 0
  | d :: r => uptoBulk d + uptoBulkAll r
def uptoBulkEntries {H : Type} : List (Lit × DataW H) → Nat
  | [] => 0
  | x :: r => uptoBulkEntry x + uptoBulkEntries r
def uptoBulkEntry {H : Type} : Lit × DataW H → Nat
  | (.string bytes, d) => bytes.length + uptoBulk d + 1
  | (_, d) => uptoBulk d + 1
 end
def uptoSmall : (H : Type) → List (DataW H) → Bool := fun _ ds => decide (uptoBulkAll ds ≤ 1048576)
def OpenSpec.upto (s : _root_.Go.ChangeSpec) : _root_.Go.OpenSpec := { _root_.Go.OpenSpec.ofChange s with cond := some uptoSmall }

/-- 'amnestylaw01.SlotsCoin', WHERE WHAT IT READS IS OF BULK AT MOST 1048576: true; the input reads as it did. -/
def slotsCoinUptoRow : OpenClaim := { program := "ytabjpejgnfeegaa", sum := "a7c138cacab7347d2a80917aa823c261afd3d63b86f0341224c0b18c7a301679", func := "amnesty/amnestylaw01.SlotsCoin", spec := "slotsCoin", apart := false, narrowed := true }
def SlotsCoinUptoSaid : Prop := slotsCoinUptoRow.holds Try.pinned (OpenSpec.upto slotsCoinSpec)

/-- 'amnestylaw01.SlotsLays', WHERE WHAT IT READS IS OF BULK AT MOST 1048576: true; the input reads as it did. -/
def slotsLaysUptoRow : OpenClaim := { program := "ytabjpejgnfeegaa", sum := "a7c138cacab7347d2a80917aa823c261afd3d63b86f0341224c0b18c7a301679", func := "amnesty/amnestylaw01.SlotsLays", spec := "slotsLays", inPlace := ["internal/bytealg.Compare"], unfollowed := true, recurses := true, apart := false, narrowed := true }
def SlotsLaysUptoSaid : Prop := slotsLaysUptoRow.holds Try.pinned (OpenSpec.upto slotsLaysSpec)

/-- 'amnestylaw01.SlotsOneLayout', WHERE WHAT IT READS IS OF BULK AT MOST 1048576: true; the input reads as it did. -/
def slotsOneLayoutUptoRow : OpenClaim := { program := "ytabjpejgnfeegaa", sum := "a7c138cacab7347d2a80917aa823c261afd3d63b86f0341224c0b18c7a301679", func := "amnesty/amnestylaw01.SlotsOneLayout", spec := "slotsOneLayout", inPlace := ["internal/bytealg.Compare"], unfollowed := true, recurses := true, apart := false, narrowed := true }
def SlotsOneLayoutUptoSaid : Prop := slotsOneLayoutUptoRow.holds Try.pinned (OpenSpec.upto slotsOneLayoutSpec)

/-- 'amnestylaw01.SlotsCalls', WHERE WHAT IT READS IS OF BULK AT MOST 1048576: true; the input reads as it did. -/
def slotsCallsUptoRow : OpenClaim := { program := "ytabjpejgnfeegaa", sum := "a7c138cacab7347d2a80917aa823c261afd3d63b86f0341224c0b18c7a301679", func := "amnesty/amnestylaw01.SlotsCalls", spec := "slotsCalls", inPlace := ["internal/bytealg.Compare"], unfollowed := true, recurses := true, apart := false, narrowed := true }
def SlotsCallsUptoSaid : Prop := slotsCallsUptoRow.holds Try.pinned (OpenSpec.upto slotsCallsSpec)

/-- 'amnestylaw01.SlotsPlays', WHERE WHAT IT READS IS OF BULK AT MOST 1048576: true; the input reads as it did. -/
def slotsPlaysUptoRow : OpenClaim := { program := "ytabjpejgnfeegaa", sum := "a7c138cacab7347d2a80917aa823c261afd3d63b86f0341224c0b18c7a301679", func := "amnesty/amnestylaw01.SlotsPlays", spec := "slotsPlays", inPlace := ["internal/bytealg.Compare"], unfollowed := true, recurses := true, apart := false, narrowed := true }
def SlotsPlaysUptoSaid : Prop := slotsPlaysUptoRow.holds Try.pinned (OpenSpec.upto slotsPlaysSpec)

/-- 'amnestylaw01.SlotsForgets', WHERE WHAT IT READS IS OF BULK AT MOST 1048576: true; the input reads as it did. -/
def slotsForgetsUptoRow : OpenClaim := { program := "ytabjpejgnfeegaa", sum := "a7c138cacab7347d2a80917aa823c261afd3d63b86f0341224c0b18c7a301679", func := "amnesty/amnestylaw01.SlotsForgets", spec := "slotsForgets", inPlace := ["internal/bytealg.Compare"], unfollowed := true, recurses := true, apart := false, narrowed := true }
def SlotsForgetsUptoSaid : Prop := slotsForgetsUptoRow.holds Try.pinned (OpenSpec.upto slotsForgetsSpec)

/-- 'amnestylaw01.SlotsLoads', WHERE WHAT IT READS IS OF BULK AT MOST 1048576: true; the input reads as it did. -/
def slotsLoadsUptoRow : OpenClaim := { program := "ytabjpejgnfeegaa", sum := "a7c138cacab7347d2a80917aa823c261afd3d63b86f0341224c0b18c7a301679", func := "amnesty/amnestylaw01.SlotsLoads", spec := "slotsLoads", inPlace := ["internal/bytealg.Compare"], unfollowed := true, recurses := true, apart := false, narrowed := true }
def SlotsLoadsUptoSaid : Prop := slotsLoadsUptoRow.holds Try.pinned (OpenSpec.upto slotsLoadsSpec)

/-- 'amnestylaw01.SlotsBack', WHERE WHAT IT READS IS OF BULK AT MOST 1048576: true; the input reads as it did. -/
def slotsBackUptoRow : OpenClaim := { program := "ytabjpejgnfeegaa", sum := "a7c138cacab7347d2a80917aa823c261afd3d63b86f0341224c0b18c7a301679", func := "amnesty/amnestylaw01.SlotsBack", spec := "slotsBack", inPlace := ["internal/bytealg.Compare"], unfollowed := true, recurses := true, apart := false, narrowed := true }
def SlotsBackUptoSaid : Prop := slotsBackUptoRow.holds Try.pinned (OpenSpec.upto slotsBackSpec)

/-- 'amnestylaw01.SlotsSeeks', WHERE WHAT IT READS IS OF BULK AT MOST 1048576: true; the input reads as it did. -/
def slotsSeeksUptoRow : OpenClaim := { program := "ytabjpejgnfeegaa", sum := "a7c138cacab7347d2a80917aa823c261afd3d63b86f0341224c0b18c7a301679", func := "amnesty/amnestylaw01.SlotsSeeks", spec := "slotsSeeks", inPlace := ["internal/bytealg.Compare"], unfollowed := true, recurses := true, apart := false, narrowed := true }
def SlotsSeeksUptoSaid : Prop := slotsSeeksUptoRow.holds Try.pinned (OpenSpec.upto slotsSeeksSpec)

/-- 'amnestylaw01.SlotsRuns', WHERE WHAT IT READS IS OF BULK AT MOST 1048576: true; the input reads as it did. -/
def slotsRunsUptoRow : OpenClaim := { program := "ytabjpejgnfeegaa", sum := "a7c138cacab7347d2a80917aa823c261afd3d63b86f0341224c0b18c7a301679", func := "amnesty/amnestylaw01.SlotsRuns", spec := "slotsRuns", inPlace := ["internal/bytealg.Compare"], unfollowed := true, recurses := true, apart := false, narrowed := true }
def SlotsRunsUptoSaid : Prop := slotsRunsUptoRow.holds Try.pinned (OpenSpec.upto slotsRunsSpec)

end Rows
end Go.Proofs.Ytabjpejgnfeegaa
