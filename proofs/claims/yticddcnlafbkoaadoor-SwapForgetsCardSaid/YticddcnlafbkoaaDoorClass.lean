import Derived.BigQuiet
/- A region that draws its order, whose callees may make memory of their own: one walk, by the class of worlds in which the facts hold. -/
namespace Go.Proofs.YticddcnlafbkoaaDoor
open Go

/-- A world of a class. -/
structure Wld (S : World → Prop) where
  w : World
  ok : S w
theorem wp_region_class {P : Program} {S : World → Prop} {id : Nat} {Q : Exit → Act → World → Prop} {a : Act} {w : World} {l : List Oper} (hC : S w.drew) (hm : P.follows .mixedOrders = true) (hB : Region.lexB .any l.toArray = true)
    (h : wpQuiet P l.toArray (fun w' => ∃ s : Wld S, w' = s.w) (fun a' => ∀ w', (∃ s : Wld S, w' = s.w) → Q .normal a' w') l a) : (Code.region id l.toArray true).wp P Q a w :=
  wp_region_quiet (C := fun w' => ∃ s : Wld S, w' = s.w) hm hB ⟨⟨_, hC⟩, rfl⟩ (by simpa using h)
theorem calls_class {P : Program} {S : World → Prop} {f : FuncId} {args : Array Value} {s : Wld S} {v : Value} {R : World → World → Prop} (h : Calls P f args s.w fun e w' => e = .returned v ∧ R s.w w') (hR : ∀ w', R s.w w' → S w') :
    Calls P f args s.w fun e w'' => e = .returned v ∧ ∃ s' : Wld S, w'' = s'.w := h.mono fun _ w' ⟨he, hr⟩ => ⟨he, ⟨⟨w', hR w' hr⟩, rfl⟩⟩
end Go.Proofs.YticddcnlafbkoaaDoor
