/- The answers of impl.WayReach, WayCount, as the laws ask them. -/
import Derived.Test.YtljnjpjnadlmhaaDoorPartMathL
namespace Go.Proofs.YtljnjpjnadlmhaaDoor
open Go.RowKit
set_option linter.unusedVariables false

theorem countV_ok {K : Int} {ts : List (Int × Int)} (h : okB K ts = true) : countV K ts = (cnt ts K.toNat : Int) := by simp [countV, h]

end Go.Proofs.YtljnjpjnadlmhaaDoor
