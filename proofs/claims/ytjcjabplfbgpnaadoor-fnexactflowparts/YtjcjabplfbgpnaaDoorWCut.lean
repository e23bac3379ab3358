/- Walks of without, withoutKnot, impl.NetCut, impl.NetWithout. -/
import Derived.Test.YtjcjabplfbgpnaaDoorMath4
import Derived.Test.YtjcjabplfbgpnaaDoorWAdd
namespace Go.Proofs.YtjcjabplfbgpnaaDoor
open Go.RowKit
set_option linter.unusedVariables false

theorem andNot_nat (p q : Nat) (hp : p < 2 ^ 64) (hq : q < 2 ^ 64) : bits .andNot .u64 (p : Int) (q : Int) = ((strike p q : Nat) : Int) := by
  have : (2 : Nat) ^ 64 = 18446744073709551616 := by decide
  exact u64_andNot_nat p q (by omega) (by omega)

set_option maxHeartbeats 400000 in
theorem without_any (p : Nat) (a b : Int) (w : World) (hp : p < 2 ^ 64) :
    Calls Tryd.prog 38 #[.int .u64 (p : Int), .int .i64 a, .int .i64 b] w fun e w' => e = .returned (.int .u64 ((strike p (pbit a b) : Nat) : Int)) ∧ w' = w := by
  have hor := andNot_nat p (pbit a b) hp (pbit_lt a b)
  clear hp
  go_enter Tryd.func38, Tryd.ntmps38
  go_wp2_with fail
  refine (pairBit_any a b _).mono ?_
  rintro e w' ⟨rfl, rfl⟩
  go_wp2
  go_ret
  exact ⟨rfl, rfl⟩

end Go.Proofs.YtjcjabplfbgpnaaDoor
