/- Walks of laws.loBools, loInts over rows that are the same. -/
import Derived.Test.YtoldljbbjhipnaaPartWCount
import Derived.BigRegion
namespace Go.Proofs.Ytoldljbbjhipnaa
open Go.RowKit
set_option linter.unusedVariables false


end Go.Proofs.Ytoldljbbjhipnaa
