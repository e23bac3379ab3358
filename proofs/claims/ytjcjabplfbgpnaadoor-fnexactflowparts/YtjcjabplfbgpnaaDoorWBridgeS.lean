/- Walks of spec.BridgeIs, spec.BridgeList. -/
import Derived.Test.YtjcjabplfbgpnaaDoorPartMathE
import Derived.Test.YtjcjabplfbgpnaaDoorWAlls
import Derived.Test.YtjcjabplfbgpnaaDoorWTreeS
import Derived.Test.YtjcjabplfbgpnaaDoorPartWCount
import Derived.Test.YtjcjabplfbgpnaaDoorWQuiet
import Derived.Test.YtjcjabplfbgpnaaDoorWReach3
import Derived.Test.YtjcjabplfbgpnaaDoorWLo
namespace Go.Proofs.YtjcjabplfbgpnaaDoor
open Go.RowKit
set_option linter.unusedVariables false

end Go.Proofs.YtjcjabplfbgpnaaDoor
