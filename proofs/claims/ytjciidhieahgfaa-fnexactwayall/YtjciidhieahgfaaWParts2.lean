/- Walk of spec.WayParts. -/
import Derived.Test.YtjciidhieahgfaaWParts
namespace Go.Proofs.Ytjciidhieahgfaa
open Go.RowKit
set_option linter.unusedVariables false

theorem specOk_is (v : Bool) (K : Int) (ao : Option Addr) (cap : Nat) (ts : List (Int × Int)) (w : World) (hn : ts.length ≤ 1099511627776) (ht : TiesIn w w.heap.size ao ts) (h : okB K ts = v) :
    Calls Try.prog 29 #[.agg #[.int .i64 K, .slice ao ts.length cap]] w fun e w' => e = .returned (.bool v) ∧ Below w.heap.size w w' := by
  rw [← h]; exact specOk_any K ao cap ts w hn ht
end Go.Proofs.Ytjciidhieahgfaa
