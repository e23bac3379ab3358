/- Rows of bools and of numbers: compared, marked, held; walks of eqBoolS, markBoolS, heldBoolS, markIntS, heldIntS. -/
import Derived.Test.YtmkbeiiifikbgaaDoorWMark
import Derived.Test.YtmkbeiiifikbgaaDoorPartWCount
import Derived.BigRegion
namespace Go.Proofs.YtmkbeiiifikbgaaDoor
open Go.RowKit
set_option linter.unusedVariables false






end Go.Proofs.YtmkbeiiifikbgaaDoor
