/- What the laws of ways that are found draw. -/
import Derived.Test.YtoldljbbjhipnaaWDraw
namespace Go.Proofs.Ytoldljbbjhipnaa
open Go.RowKit
set_option linter.unusedVariables false



end Go.Proofs.Ytoldljbbjhipnaa
