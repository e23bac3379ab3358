/- Walk of laws.FnFlowWeak: it returns true. -/
import Derived.Test.YtoldljbbjhipnaaDoorLFlowThree
import Derived.Test.YtoldljbbjhipnaaDoorWFlowW
namespace Go.Proofs.YtoldljbbjhipnaaDoor
open Go.RowKit
set_option linter.unusedVariables false

theorem implWeak_v (v : Int) (K : Int) (ao : Option Addr) (cap : Nat) (ts : List (Int × Int)) (w : World) (hn : ts.length ≤ 1099511627776) (ht : TiesIn w w.heap.size ao ts) (h : weakI K ts = v) :
    Calls Tryd.prog 18 #[.agg #[.int .i64 K, .slice ao ts.length cap]] w fun e w' => e = .returned (.int .i64 v) ∧ Below w.heap.size w w' := by
  rw [← h]; exact implFlowWeak_any K ao cap ts w hn ht
theorem specWeak_v (v : Int) (K : Int) (ao : Option Addr) (cap : Nat) (ts : List (Int × Int)) (w : World) (hn : ts.length ≤ 1099511627776) (ht : TiesIn w w.heap.size ao ts) (h : weakI K ts = v) :
    Calls Tryd.prog 19 #[.agg #[.int .i64 K, .slice ao ts.length cap]] w fun e w' => e = .returned (.int .i64 v) ∧ Below w.heap.size w w' := by
  rw [← h]; exact specFlowWeak_any K ao cap ts w hn ht
end Go.Proofs.YtoldljbbjhipnaaDoor
