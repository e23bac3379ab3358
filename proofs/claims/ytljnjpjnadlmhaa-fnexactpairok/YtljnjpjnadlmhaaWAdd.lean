/- Walk of impl.NetAdd. -/
import Derived.Test.YtljnjpjnadlmhaaWTies
import Derived.Test.YtljnjpjnadlmhaaWBase
namespace Go.Proofs.Ytljnjpjnadlmhaa
open Go.RowKit
set_option linter.unusedVariables false

theorem bitsFrom_of {m : Nat} {ts : List (Int × Int)} (h : BitsOf m ts) : BitsFrom m ts 0 := by
  intro j
  rw [h j, ← mem_get]
  exact ⟨fun ⟨i, h1, h2⟩ => ⟨i, Nat.zero_le _, h1, h2⟩, fun ⟨i, _, h1, h2⟩ => ⟨i, h1, h2⟩⟩
end Go.Proofs.Ytljnjpjnadlmhaa
