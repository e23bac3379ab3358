/- The answers of impl.WayReach, WayCount, as the laws ask them. -/
import Derived.Test.YtjcjabplfbgpnaaDoorMathC
namespace Go.Proofs.YtjcjabplfbgpnaaDoor
open Go.RowKit
set_option linter.unusedVariables false

theorem countV_ok {K : Int} {ts : List (Int × Int)} (h : okB K ts = true) : countV K ts = (cnt ts K.toNat : Int) := by simp [countV, h]

end Go.Proofs.YtjcjabplfbgpnaaDoor
