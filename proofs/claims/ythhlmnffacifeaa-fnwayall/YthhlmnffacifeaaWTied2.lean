/- Walk of spec.l71Tied. -/
import Derived.Test.YthhlmnffacifeaaWTied
import Derived.Deep.RegionHeld3
namespace Go.Proofs.Ythhlmnffacifeaa
open Go.RowKit
set_option linter.unusedVariables false

end Go.Proofs.Ythhlmnffacifeaa
