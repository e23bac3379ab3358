/- The answer of spec.NetAdd in one form. -/
import Derived.Test.YtapnbnapfapneaaWSpecAdd
import Derived.Test.YtapnbnapfapneaaWOwn
namespace Go.Proofs.Ytapnbnapfapneaa
open Go.RowKit
set_option linter.unusedVariables false

def addK (K : Int) (ts : List (Int × Int)) (a b : Int) : Int := if addB K ts a b = true then K else 0
def addTs (K : Int) (ts : List (Int × Int)) (a b : Int) : List (Int × Int) := if addB K ts a b = true then ins (tieOf a b) ts else []
theorem addTs_len (K : Int) (ts : List (Int × Int)) (a b : Int) : (addTs K ts a b).length ≤ 65 := by
  unfold addTs
  split
  · rename_i h
    obtain ⟨hok, _⟩ := addB_yes h
    have := ok_short (okB_iff.1 hok)
    rw [ins_length]; omega
  · simp
end Go.Proofs.Ytapnbnapfapneaa
