/- Walks of impl.forest.least, impl.forest.join. -/
import Derived.Test.YtljnjpjnadlmhaaWInts
import Derived.Test.YtljnjpjnadlmhaaWOwn
import Derived.Test.YtljnjpjnadlmhaaMath5
namespace Go.Proofs.Ytljnjpjnadlmhaa
open Go.RowKit
set_option linter.unusedVariables false

def pcellN (f : Nat → Nat) (j : Nat) : Value := .int .i64 (f j : Int)
theorem join_cells (f : Nat → Nat) (a b j : Nat) : (if j = max (top f a) (top f b) then Value.int .i64 ((min (top f a) (top f b) : Nat) : Int) else pcellN f j) = pcellN (join f a b) j := by
  unfold pcellN join
  by_cases e : j = max (top f a) (top f b)
  · rw [if_pos e, if_pos e]
  · rw [if_neg e, if_neg e]
def joinB (f : Nat → Nat) (a b : Nat) : Bool := decide (top f a ≠ top f b)
end Go.Proofs.Ytljnjpjnadlmhaa
