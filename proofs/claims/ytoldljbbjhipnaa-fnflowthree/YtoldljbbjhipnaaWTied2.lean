/- Walk of spec.l71Tied. -/
import Derived.Test.YtoldljbbjhipnaaWTied
import Derived.Deep.RegionHeld3
namespace Go.Proofs.Ytoldljbbjhipnaa
open Go.RowKit
set_option linter.unusedVariables false

end Go.Proofs.Ytoldljbbjhipnaa
