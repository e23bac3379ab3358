/- Walk of impl.pairs.with. -/
import Derived.Test.YtljnjpjnadlmhaaWHas
namespace Go.Proofs.Ytljnjpjnadlmhaa
open Go.RowKit
set_option linter.unusedVariables false

set_option maxHeartbeats 400000 in
theorem with_any (p : Nat) (a b : Int) (w : World) (hp : p < 2 ^ 64) :
    Calls Try.prog 62 #[.int .u64 (p : Int), .int .i64 a, .int .i64 b] w fun e w' => e = .returned (.int .u64 ((p ||| pbit a b : Nat) : Int)) ∧ w' = w := by
  have hor := or_nat p (pbit a b) hp (pbit_lt a b)
  clear hp
  go_enter Try.func62, Try.ntmps62
  go_wp2_with fail
  refine (pairBit_any a b _).mono ?_
  rintro e w' ⟨rfl, rfl⟩
  go_wp2
  go_ret
  exact ⟨rfl, rfl⟩

end Go.Proofs.Ytljnjpjnadlmhaa
