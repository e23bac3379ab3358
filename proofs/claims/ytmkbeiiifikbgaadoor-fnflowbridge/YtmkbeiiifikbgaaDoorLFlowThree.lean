/- Walk of laws.FnFlowThree: it returns true. -/
import Derived.Test.YtmkbeiiifikbgaaDoorPartWDraw
import Derived.Test.YtmkbeiiifikbgaaDoorPartWFlowCS
import Derived.Test.YtmkbeiiifikbgaaDoorWFound
namespace Go.Proofs.YtmkbeiiifikbgaaDoor
open Go.RowKit
set_option linter.unusedVariables false

theorem two_three {K : Int} {ts : List (Int × Int)} {x y k : Nat} (h : twoB K ts (x : Int) (y : Int) = true) (hk : (k : Int) < K) (hkx : k ≠ x) (hky : k ≠ y) :
    countI K ts (x : Int) (k : Int) ≤ countI K ts (x : Int) (y : Int) ∨ countI K ts (k : Int) (y : Int) ≤ countI K ts (x : Int) (y : Int) := by
  have h' := h
  unfold twoB knotB at h
  simp only [Bool.and_eq_true, decide_eq_true_eq] at h
  obtain ⟨⟨⟨h1, h2⟩, h3⟩, h4⟩ := h
  have hK := (okB_iff.1 h1).2.1
  have t1 : twoB K ts (x : Int) (k : Int) = true := by
    unfold twoB knotB
    simp only [Bool.and_eq_true, decide_eq_true_eq]
    exact ⟨⟨⟨h1, h2⟩, by omega, hk⟩, by omega⟩
  have t2 : twoB K ts (k : Int) (y : Int) = true := by
    unfold twoB knotB
    simp only [Bool.and_eq_true, decide_eq_true_eq]
    exact ⟨⟨⟨h1, by omega, hk⟩, h3⟩, by omega⟩
  unfold countI
  rw [if_pos h', if_pos t1, if_pos t2]
  exact flow_three (tieNB_turn ts) (a := x) (b := y) (k := k) (by omega) (by omega) (by omega) (by omega) hkx hky
end Go.Proofs.YtmkbeiiifikbgaaDoor
