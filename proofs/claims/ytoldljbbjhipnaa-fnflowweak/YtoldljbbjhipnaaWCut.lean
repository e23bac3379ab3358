/- Walks of without, withoutKnot, impl.NetCut, impl.NetWithout. -/
import Derived.Test.YtoldljbbjhipnaaMath4
import Derived.Test.YtoldljbbjhipnaaWAdd
namespace Go.Proofs.Ytoldljbbjhipnaa
open Go.RowKit
set_option linter.unusedVariables false

theorem andNot_nat (p q : Nat) (hp : p < 2 ^ 64) (hq : q < 2 ^ 64) : bits .andNot .u64 (p : Int) (q : Int) = ((strike p q : Nat) : Int) := by
  have : (2 : Nat) ^ 64 = 18446744073709551616 := by decide
  exact u64_andNot_nat p q (by omega) (by omega)

end Go.Proofs.Ytoldljbbjhipnaa
