/- Walk of spec.l71Tied. -/
import Derived.Test.YthhlmnffacifeaaDoorWTied
import Derived.Deep.RegionHeld3
namespace Go.Proofs.YthhlmnffacifeaaDoor
open Go.RowKit
set_option linter.unusedVariables false

end Go.Proofs.YthhlmnffacifeaaDoor
