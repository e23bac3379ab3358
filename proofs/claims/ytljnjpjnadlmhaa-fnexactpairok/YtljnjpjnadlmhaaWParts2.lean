/- Walk of spec.WayParts. -/
import Derived.Test.YtljnjpjnadlmhaaWParts
namespace Go.Proofs.Ytljnjpjnadlmhaa
open Go.RowKit
set_option linter.unusedVariables false

theorem specOk_is (v : Bool) (K : Int) (ao : Option Addr) (cap : Nat) (ts : List (Int × Int)) (w : World) (hn : ts.length ≤ 1099511627776) (ht : TiesIn w w.heap.size ao ts) (h : okB K ts = v) :
    Calls Try.prog 40 #[.agg #[.int .i64 K, .slice ao ts.length cap]] w fun e w' => e = .returned (.bool v) ∧ Below w.heap.size w w' := by
  rw [← h]; exact specOk_any K ao cap ts w hn ht
theorem specReach_ok (Kn : Nat) (ao : Option Addr) (cap : Nat) (ts : List (Int × Int)) (x : Nat) (w : World) (hn : ts.length ≤ 1099511627776) (ht : TiesIn w w.heap.size ao ts) (hok : okB (Kn : Int) ts = true) (hx : x < Kn) :
    Calls Try.prog 60 #[.agg #[.int .i64 (Kn : Int), .slice ao ts.length cap], .int .i64 (x : Int)] w fun e w' => ∃ g cap', e = .returned (.slice (some ⟨g, 0, none⟩) Kn cap') ∧ OwnI w' g Kn (bcell (reachB ts x)) ∧ Below w.heap.size w w' := by
  refine (specReach_any (Kn : Int) ao cap ts (x : Int) w hn ht).mono ?_
  rintro e w' ⟨ao', cap', rfl, ho, hb⟩
  have hN : reachN (Kn : Int) ts (x : Int) = Kn := by
    have hk : knotB (x : Int) (Kn : Int) = true := by simp [knotB]; omega
    simp [reachN, hok, hk]
  rw [hN] at ho ⊢
  rcases ho with ⟨h0, _⟩ | ⟨g, rfl, _, _, ho⟩
  · omega
  · exact ⟨g, cap', rfl, ho, hb⟩

end Go.Proofs.Ytljnjpjnadlmhaa
