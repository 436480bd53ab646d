import Derived.Test.YtkkpcndpjkebkaaEach
/- The walk over a tree that is left early: what it leaves. -/
namespace Go.Proofs.Ytkkpcndpjkebkaa
open Go.ChangeShapes Go.WideShapes Go.ChangeAt Go.RowKit Go.Deep
attribute [local go_sem] Oper.semAt_some

/-- What the walk leaves when it was told to stop. -/
def StopPost (S : Nat → Prop) (J : Nat → World → Prop) (stop : Nat) (w : World) (e : Ending) (w' : World) : Prop := e = .returned (.bool false) ∧ J stop w' ∧ Touch S w w'
end Go.Proofs.Ytkkpcndpjkebkaa
