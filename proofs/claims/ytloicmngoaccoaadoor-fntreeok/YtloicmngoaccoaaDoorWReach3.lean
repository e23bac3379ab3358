/- The answers of impl.WayReach, WayCount, as the laws ask them. -/
import Derived.Test.YtloicmngoaccoaaDoorMathC
namespace Go.Proofs.YtloicmngoaccoaaDoor
open Go.RowKit
set_option linter.unusedVariables false

theorem implCount_ok (v : Int) (K : Int) (ao : Option Addr) (cap : Nat) (ts : List (Int × Int)) (w : World) (hn : ts.length ≤ 1099511627776) (ht : TiesIn w w.heap.size ao ts) (hT : Tab w) (h : countV K ts = v) :
    Calls Tryd.prog 15 #[.agg #[.int .i64 K, .slice ao ts.length cap]] w fun e w' => e = .returned (.int .i64 v) ∧ Below w.heap.size w w' := by
  rw [← h]; exact implCount_any K ao cap ts w hn ht hT
theorem specCount_ok (v : Int) (K : Int) (ao : Option Addr) (cap : Nat) (ts : List (Int × Int)) (w : World) (hn : ts.length ≤ 1099511627776) (ht : TiesIn w w.heap.size ao ts) (h : countV K ts = v) :
    Calls Tryd.prog 51 #[.agg #[.int .i64 K, .slice ao ts.length cap]] w fun e w' => e = .returned (.int .i64 v) ∧ Below w.heap.size w w' := by
  rw [← h]; exact specCount_any K ao cap ts w hn ht
theorem countV_ok {K : Int} {ts : List (Int × Int)} (h : okB K ts = true) : countV K ts = (cnt ts K.toNat : Int) := by simp [countV, h]

end Go.Proofs.YtloicmngoaccoaaDoor
