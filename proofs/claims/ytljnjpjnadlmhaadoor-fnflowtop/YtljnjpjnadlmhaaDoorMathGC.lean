/- Mathematics of flows: what impl.FlowOk tells is what the specification tells. -/
import Derived.Test.YtljnjpjnadlmhaaDoorMathGB
namespace Go.Proofs.YtljnjpjnadlmhaaDoor
set_option linter.unusedVariables false

/-- how many ways go over a tie -/
def usedN (xss : List (List Int)) (t : Int × Int) : Nat := (xss.filter (fun xs => usesB xs t)).length
theorem flow_is (K : Int) (ts : List (Int × Int)) (a b : Int) (xss : List (List Int)) : flowB K ts a b xss = (twoB K ts a b && decide (xss.length ≤ 8) && xss.all (fromB K ts a b) && ts.all (fun t => decide (usedN xss t ≤ 1))) := by
  unfold flowB
  cases h2 : twoB K ts a b with
  | false => rfl
  | true =>
    have hok : okB K ts = true := by
      unfold twoB at h2
      simp only [Bool.and_eq_true] at h2
      exact h2.1.1.1
    rw [Bool.true_and, Bool.and_assoc]
    congr 1
    rw [Bool.eq_iff_iff, good_iff xss _ (fun _ _ => rfl), Bool.and_eq_true, List.all_eq_true, List.all_eq_true]
    constructor
    · rintro ⟨h1, _, h3⟩
      exact ⟨h1, fun t ht => decide_eq_true ((apart_iff hok h1).1 h3 t ht)⟩
    · rintro ⟨h1, h3⟩
      refine ⟨h1, fun xs _ => (offP_iff _).2 (fun k hk => rfl), (apart_iff hok h1).2 (fun t ht => of_decide_eq_true (h3 t ht))⟩

end Go.Proofs.YtljnjpjnadlmhaaDoor
