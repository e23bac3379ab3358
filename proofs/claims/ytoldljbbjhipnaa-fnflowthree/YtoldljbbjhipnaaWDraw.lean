/- What a law draws: some net of memory of its own, and numbers. -/
import Derived.Deep.RegionHeld3
import Derived.Test.YtoldljbbjhipnaaWTied2
namespace Go.Proofs.Ytoldljbbjhipnaa
open Go.RowKit
set_option linter.unusedVariables false




end Go.Proofs.Ytoldljbbjhipnaa
