/- A region that draws its order and whose callees make memory of their own but answer alike in every world of a class: one walk in the order of the text. -/
import Derived.Test.YtljnjpjnadlmhaaWLeaf
namespace Go.Proofs.Ytljnjpjnadlmhaa
open Go.RowKit
set_option linter.unusedVariables false

/-- a world of the class -/
structure Cls (D : World → Prop) where
  w : World
  ok : D w

theorem wp_region_cls (D : World → Prop) {P : Program} {id : Nat} {Q : Exit → Act → World → Prop} {a : Act} {w : World} {l : List Oper} (hm : P.follows .mixedOrders = true) (hB : Region.lexB .any l.toArray = true) (h0 : D w.drew)
    (h : wpQuiet P l.toArray (fun w' => ∃ u : Cls D, w' = u.w) (fun a' => ∀ w', (∃ u : Cls D, w' = u.w) → Q .normal a' w') l a) : (Code.region id l.toArray true).wp P Q a w :=
  wp_region_quiet (C := fun w' => ∃ u : Cls D, w' = u.w) hm hB ⟨⟨w.drew, h0⟩, rfl⟩ (by simpa using h)
theorem Calls.cls {D : World → Prop} {P : Program} {f : FuncId} {args : Array Value} {w : World} {v : Value}
    (h : Calls P f args w fun e w' => e = .returned v ∧ D w') : Calls P f args w fun e w'' => e = .returned v ∧ ∃ u : Cls D, w'' = u.w :=
  h.mono fun _ w' ⟨he, hm⟩ => ⟨he, ⟨w', hm⟩, rfl⟩

end Go.Proofs.Ytljnjpjnadlmhaa
