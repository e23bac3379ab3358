/- Walk of impl.onePart; which bridge parts two knots. -/
import Derived.Test.YtiaeffpjcinilaaDoorPartMathE
import Derived.Test.YtiaeffpjcinilaaDoorPartWForest
import Derived.Test.YtiaeffpjcinilaaDoorPartWReach2
import Derived.Test.YtiaeffpjcinilaaDoorPartWTies
namespace Go.Proofs.YtiaeffpjcinilaaDoor
open Go.RowKit
set_option linter.unusedVariables false

def apB (K : Int) (ts : List (Int × Int)) (a b : Int) (t : Int × Int) : Bool := !reachB (cutTs K ts t.1 t.2) a.toNat b.toNat
def apGo (K : Int) (ts : List (Int × Int)) (a b : Int) : Bool := okB K ts && knotB a K && knotB b K && reachB ts a.toNat b.toNat
/-- the first bridge that parts two knots -/
def apT (K : Int) (ts : List (Int × Int)) (a b : Int) : Option (Int × Int) := if apGo K ts a b = true then (brTs K ts).find? (apB K ts a b) else none
theorem apT_no {K : Int} {ts : List (Int × Int)} {a b : Int} (h : apGo K ts a b = false) : apT K ts a b = none := if_neg (by simp [h])
theorem apT_at {K : Int} {ts : List (Int × Int)} {a b : Int} (h : apGo K ts a b = true) {k : Nat} (hk : k < (brTs K ts).length) (hp : ∀ j, j < k → apB K ts a b (tA (brTs K ts) j, tB (brTs K ts) j) = false) (hy : apB K ts a b (tA (brTs K ts) k, tB (brTs K ts) k) = true) : apT K ts a b = some (tA (brTs K ts) k, tB (brTs K ts) k) := by
  unfold apT
  rw [if_pos h, List.find?_eq_some_iff_getElem]
  refine ⟨hy, k, hk, by rw [tA_get _ _ hk, tB_get _ _ hk], fun j hj => ?_⟩
  have := hp j hj
  rw [tA_get _ _ (by omega), tB_get _ _ (by omega)] at this
  simp only [this, Bool.not_false]
theorem apT_end {K : Int} {ts : List (Int × Int)} {a b : Int} (hp : ∀ j, j < (brTs K ts).length → apB K ts a b (tA (brTs K ts) j, tB (brTs K ts) j) = false) : apT K ts a b = none := by
  unfold apT
  split
  · rw [List.find?_eq_none]
    intro t ht
    obtain ⟨j, hj, e⟩ := List.mem_iff_getElem.1 ht
    have := hp j hj
    rw [tA_get _ _ hj, tB_get _ _ hj] at this
    rw [← e, this]; simp
  · rfl
/-- a bridge cut from the set -/
theorem set_cut {K : Int} {ts : List (Int × Int)} {a b : Int} (h : hasB K ts a b = true) : strike (setN K ts) (pbit a b) = setN K (cutTs K ts a b) := by
  have hC := cutOut (show cutB K ts a b = true from h)
  rw [setN_yes hC.ok, cutTs_yes (show cutB K ts a b = true from h)]
  apply Nat.eq_of_testBit_eq
  intro j
  rw [Bool.eq_iff_iff, (cut_good h).2.2 j, mask_bitsOf _ j]

end Go.Proofs.YtiaeffpjcinilaaDoor
