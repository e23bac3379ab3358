/- Walk of impl.WayReach. -/
import Derived.Test.YtljnjpjnadlmhaaWReach
import Derived.Test.YtljnjpjnadlmhaaWQuiet
namespace Go.Proofs.Ytljnjpjnadlmhaa
open Go.RowKit
set_option linter.unusedVariables false

theorem hasKnot_v (v : Bool) (K : Int) (u : Value) (k : Int) (w : World) (h : knotB k K = v) :
    Calls Try.prog 51 #[.agg #[.int .i64 K, u], .int .i64 k] w fun e w' => e = .returned (.bool v) ∧ Below w.heap.size w w' := by
  rw [← h]; exact (hasKnot_any K u k w).mono fun e w' ⟨he, hw⟩ => ⟨he, by rw [hw]; exact below_one _ _⟩
/-- the bits of a net's set are its ties -/
def bTo (M : Nat → Bool) (k j : Nat) : Value := .bool (if j < k then M j else false)
theorem bTo_step (M : Nat → Bool) (k j : Nat) : (if j = k then Value.bool (M k) else bTo M k j) = bTo M (k + 1) j := by
  unfold bTo
  by_cases h : j = k
  · subst h; rw [if_pos rfl, if_pos (by omega)]
  · rw [if_neg h]
    by_cases h2 : j < k
    · rw [if_pos h2, if_pos (by omega)]
    · rw [if_neg h2, if_neg (by omega)]


end Go.Proofs.Ytljnjpjnadlmhaa
