/- Walk of spec.TreeOk. -/
import Derived.Test.YtljnjpjnadlmhaaPartMathT
import Derived.Test.YtljnjpjnadlmhaaPartWSpecOk
import Derived.Test.YtljnjpjnadlmhaaPartWReach
import Derived.Test.YtljnjpjnadlmhaaWTreeOk
namespace Go.Proofs.Ytljnjpjnadlmhaa
open Go.RowKit
set_option linter.unusedVariables false

theorem specHas_v (v : Bool) (K : Int) (ao : Option Addr) (cap : Nat) (ts : List (Int × Int)) (a b : Int) (w : World) (hn : ts.length ≤ 1099511627776) (ht : TiesIn w w.heap.size ao ts) (h : hasB K ts a b = v) :
    Calls Try.prog 67 #[.agg #[.int .i64 K, .slice ao ts.length cap], .int .i64 a, .int .i64 b] w fun e w' => e = .returned (.bool v) ∧ Below w.heap.size w w' := by
  rw [← h]; exact specHas_any K ao cap ts a b w hn ht
end Go.Proofs.Ytljnjpjnadlmhaa
