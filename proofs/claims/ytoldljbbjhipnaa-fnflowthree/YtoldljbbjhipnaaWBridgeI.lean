/- Walks of impl.BridgeList, impl.BridgeIs. -/
import Derived.Test.YtoldljbbjhipnaaWBridge
import Derived.Test.YtoldljbbjhipnaaPartWReach2
namespace Go.Proofs.Ytoldljbbjhipnaa
open Go.RowKit
set_option linter.unusedVariables false

/-- the net that is gone down through: this one, or, if it is not ok, one without ties -/
def okK (K : Int) (ts : List (Int × Int)) : Int := if okB K ts = true then K else 8
def okTs (K : Int) (ts : List (Int × Int)) : List (Int × Int) := if okB K ts = true then ts else []
theorem okK_no {K : Int} {ts : List (Int × Int)} (h : okB K ts = false) : okK K ts = 8 := if_neg (by simp [h])
theorem okTs_no {K : Int} {ts : List (Int × Int)} (h : okB K ts = false) : okTs K ts = [] := if_neg (by simp [h])
theorem okK_yes {K : Int} {ts : List (Int × Int)} (h : okB K ts = true) : okK K ts = K := if_pos h
theorem okTs_yes {K : Int} {ts : List (Int × Int)} (h : okB K ts = true) : okTs K ts = ts := if_pos h
theorem okTs_ok (K : Int) (ts : List (Int × Int)) : okB (okK K ts) (okTs K ts) = true := by
  cases h : okB K ts
  · rw [okK_no h, okTs_no h]; decide
  · rw [okK_yes h, okTs_yes h]; exact h
theorem okTs_set (K : Int) (ts : List (Int × Int)) : setN (okK K ts) (okTs K ts) = setN K ts := by
  cases h : okB K ts
  · rw [setN_no h, okK_no h, okTs_no h]; decide
  · rw [okK_yes h, okTs_yes h]
theorem okTs_br (K : Int) (ts : List (Int × Int)) : brTs (okK K ts) (okTs K ts) = brTs K ts := by
  cases h : okB K ts
  · rw [show brTs K ts = [] by simp [brTs, h], okK_no h, okTs_no h]; decide
  · rw [okK_yes h, okTs_yes h]
theorem brTs_okK (K : Int) (ts : List (Int × Int)) : okB (okK K ts) (brTs K ts) = true := by
  rw [← okTs_br]; exact brTs_ok (okTs_ok K ts)
theorem br_has (K : Int) (ts : List (Int × Int)) (a b : Int) : decide (setN (okK K ts) (brTs K ts) &&& pbit a b ≠ 0) = bridgeB K ts a b := by
  rw [has_set _ _ _ _ (brTs_okK K ts)]
  cases h : okB K ts
  · rw [show brTs K ts = [] by simp [brTs, h], show bridgeB K ts a b = false by simp [bridgeB, hasB_no h]]
    rw [okK_no h, hasB_ok (by decide)]; rfl
  · rw [okK_yes h]; exact brTs_has h a b



end Go.Proofs.Ytoldljbbjhipnaa
