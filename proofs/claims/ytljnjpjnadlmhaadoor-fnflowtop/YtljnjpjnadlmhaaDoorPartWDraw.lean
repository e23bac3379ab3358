/- Texts put together: WDraw, WDrawFl. -/
import Derived.Deep.RegionHeld3
import Derived.Test.YtljnjpjnadlmhaaDoorPartWPairs
/- What a law draws: some net of memory of its own, and numbers. -/
namespace Go.Proofs.YtljnjpjnadlmhaaDoor
open Go.RowKit
set_option linter.unusedVariables false




end Go.Proofs.YtljnjpjnadlmhaaDoor

/- What the laws of flows draw. -/
namespace Go.Proofs.YtljnjpjnadlmhaaDoor
open Go.RowKit
set_option linter.unusedVariables false




end Go.Proofs.YtljnjpjnadlmhaaDoor
