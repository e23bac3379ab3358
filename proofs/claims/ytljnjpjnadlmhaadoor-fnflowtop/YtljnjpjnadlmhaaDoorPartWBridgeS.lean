/- Texts put together: WBridgeS, WBridgeL. -/
import Derived.Test.YtljnjpjnadlmhaaDoorPartMathE
import Derived.Test.YtljnjpjnadlmhaaDoorPartWSpecCut
import Derived.Test.YtljnjpjnadlmhaaDoorPartMathT
import Derived.Test.YtljnjpjnadlmhaaDoorPartWReach2
import Derived.Test.YtljnjpjnadlmhaaDoorPartWReach
import Derived.Test.YtljnjpjnadlmhaaDoorPartWReach3
/- Walks of spec.BridgeIs, spec.BridgeList. -/
namespace Go.Proofs.YtljnjpjnadlmhaaDoor
open Go.RowKit
set_option linter.unusedVariables false

end Go.Proofs.YtljnjpjnadlmhaaDoor

/- Walk of spec.BridgeList. -/
namespace Go.Proofs.YtljnjpjnadlmhaaDoor
open Go.RowKit
set_option linter.unusedVariables false

def brTo (K : Int) (ts : List (Int × Int)) (k : Nat) : List (Int × Int) := (ts.take k).filter (fun t => bridgeB K ts t.1 t.2)
theorem brTs_no {K : Int} {ts : List (Int × Int)} (h : okB K ts = false) : brTs K ts = [] := by simp [brTs, h]
theorem brTs_yes {K : Int} {ts : List (Int × Int)} (h : okB K ts = true) : brTs K ts = brTo K ts ts.length := by unfold brTs brTo; rw [if_pos h, List.take_length]
theorem brTo_len (K : Int) (ts : List (Int × Int)) (k : Nat) : (brTo K ts k).length ≤ k := Nat.le_trans (List.length_filter_le _ _) (by simp; omega)
theorem brTo_no {K : Int} {ts : List (Int × Int)} {k : Nat} (hk : k < ts.length) (h : bridgeB K ts (tA ts k) (tB ts k) = false) : brTo K ts (k + 1) = brTo K ts k := by
  rw [tA_get ts k hk, tB_get ts k hk] at h
  unfold brTo
  rw [filter_succ _ _ _ hk, if_neg (by simp [h]), List.append_nil]
theorem brTo_yes {K : Int} {ts : List (Int × Int)} {k : Nat} (hk : k < ts.length) (h : bridgeB K ts (tA ts k) (tB ts k) = true) : brTo K ts (k + 1) = brTo K ts k ++ [(tA ts k, tB ts k)] := by
  rw [tA_get ts k hk, tB_get ts k hk] at h ⊢
  unfold brTo
  rw [filter_succ _ _ _ hk, if_pos h]

end Go.Proofs.YtljnjpjnadlmhaaDoor
