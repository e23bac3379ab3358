/- Walks of impl.WayParts, spec.WayParts. -/
import Derived.Test.YtljnjpjnadlmhaaWReach2
namespace Go.Proofs.Ytljnjpjnadlmhaa
open Go.RowKit
set_option linter.unusedVariables false

def partN (K : Int) (ts : List (Int × Int)) : Nat := if okB K ts = true then K.toNat else 0
def topN (ts : List (Int × Int)) (j : Nat) : Nat := top (forest ts ts.length) j
def tTo (ts : List (Int × Int)) (k j : Nat) : Value := .int .i64 (if j < k then ((topN ts j : Nat) : Int) else 0)
theorem tTo_step (ts : List (Int × Int)) (k j : Nat) : (if j = k then Value.int .i64 ((topN ts k : Nat) : Int) else tTo ts k j) = tTo ts (k + 1) j := by
  unfold tTo
  by_cases h : j = k
  · subst h; rw [if_pos rfl, if_pos (by omega)]
  · rw [if_neg h]
    by_cases h2 : j < k
    · rw [if_pos h2, if_pos (by omega)]
    · rw [if_neg h2, if_neg (by omega)]
theorem topN_le (ts : List (Int × Int)) (k : Nat) : topN ts k ≤ k := top_le (forest_low ts _) k
theorem reach_top (ts : List (Int × Int)) (k : Nat) : reachB ts k (topN ts k) = true := by
  unfold reachB topN; rw [decide_eq_true_eq]; exact top_top (forest_low ts _) k
theorem reach_low (ts : List (Int × Int)) (k j : Nat) (h : j < topN ts k) : reachB ts k j = false := by
  unfold reachB; rw [decide_eq_false_iff_not]
  intro e
  have h1 := top_le (forest_low ts ts.length) j
  unfold topN at h
  omega


end Go.Proofs.Ytljnjpjnadlmhaa
