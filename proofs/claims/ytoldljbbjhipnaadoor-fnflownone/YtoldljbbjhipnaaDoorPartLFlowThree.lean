/- Texts put together: LFlowThree, LFlowWeak. -/
import Derived.Test.YtoldljbbjhipnaaDoorPartWDraw
import Derived.Test.YtoldljbbjhipnaaDoorPartWFlowCS
import Derived.Test.YtoldljbbjhipnaaDoorWFound
import Derived.Test.YtoldljbbjhipnaaDoorPartWFlowW
/- Walk of laws.FnFlowThree: it returns true. -/
namespace Go.Proofs.YtoldljbbjhipnaaDoor
open Go.RowKit
set_option linter.unusedVariables false

theorem countI_neg {K : Int} {ts : List (Int × Int)} {a b : Int} (h : ¬ countI K ts a b < 0) : twoB K ts a b = true := by
  unfold countI at h
  by_cases e : twoB K ts a b = true
  · exact e
  · rw [if_neg e] at h; omega
theorem countI_le8 (K : Int) (ts : List (Int × Int)) (a b : Int) : -1 ≤ countI K ts a b ∧ countI K ts a b ≤ 8 := by
  unfold countI
  by_cases e : twoB K ts a b = true
  · rw [if_pos e]
    obtain ⟨_, x, y, rfl, rfl, hx, hy, _, _, hxy⟩ := knot_nat e
    have h1 := flowV_nonneg ts (a := x) (b := y) hx hxy
    obtain ⟨F, hF⟩ := (flowN_is (tieNB_turn ts) (a := x) (b := y) hx hxy).2.1
    have h2 := hF.few
    have h3 : flowV ts ((x : Int)).toNat ((y : Int)).toNat = flowN (tieNB ts) x y := rfl
    have h4 : flowV ts x y = flowN (tieNB ts) x y := rfl
    rw [h3]; omega
  · rw [if_neg e]; omega
theorem implFlow_v (v : Int) (K : Int) (ao : Option Addr) (cap : Nat) (ts : List (Int × Int)) (a b : Int) (w : World) (hn : ts.length ≤ 1099511627776) (ht : TiesIn w w.heap.size ao ts) (h : countI K ts a b = v) :
    Calls Tryd.prog 10 #[.agg #[.int .i64 K, .slice ao ts.length cap], .int .i64 a, .int .i64 b] w fun e w' => e = .returned (.int .i64 v) ∧ Below w.heap.size w w' := by
  rw [← h]; exact implFlowCount_any K ao cap ts a b w hn ht
theorem specFlow_v (v : Int) (K : Int) (ao : Option Addr) (cap : Nat) (ts : List (Int × Int)) (a b : Int) (w : World) (hn : ts.length ≤ 1099511627776) (ht : TiesIn w w.heap.size ao ts) (h : countI K ts a b = v) :
    Calls Tryd.prog 12 #[.agg #[.int .i64 K, .slice ao ts.length cap], .int .i64 a, .int .i64 b] w fun e w' => e = .returned (.int .i64 v) ∧ Below w.heap.size w w' := by
  rw [← h]; exact specFlowCount_any K ao cap ts a b w hn ht
theorem two_three {K : Int} {ts : List (Int × Int)} {x y k : Nat} (h : twoB K ts (x : Int) (y : Int) = true) (hk : (k : Int) < K) (hkx : k ≠ x) (hky : k ≠ y) :
    countI K ts (x : Int) (k : Int) ≤ countI K ts (x : Int) (y : Int) ∨ countI K ts (k : Int) (y : Int) ≤ countI K ts (x : Int) (y : Int) := by
  have h' := h
  unfold twoB knotB at h
  simp only [Bool.and_eq_true, decide_eq_true_eq] at h
  obtain ⟨⟨⟨h1, h2⟩, h3⟩, h4⟩ := h
  have hK := (okB_iff.1 h1).2.1
  have t1 : twoB K ts (x : Int) (k : Int) = true := by
    unfold twoB knotB
    simp only [Bool.and_eq_true, decide_eq_true_eq]
    exact ⟨⟨⟨h1, h2⟩, by omega, hk⟩, by omega⟩
  have t2 : twoB K ts (k : Int) (y : Int) = true := by
    unfold twoB knotB
    simp only [Bool.and_eq_true, decide_eq_true_eq]
    exact ⟨⟨⟨h1, by omega, hk⟩, h3⟩, by omega⟩
  unfold countI
  rw [if_pos h', if_pos t1, if_pos t2]
  exact flow_three (tieNB_turn ts) (a := x) (b := y) (k := k) (by omega) (by omega) (by omega) (by omega) hkx hky
end Go.Proofs.YtoldljbbjhipnaaDoor

/- Walk of laws.FnFlowWeak: it returns true. -/
namespace Go.Proofs.YtoldljbbjhipnaaDoor
open Go.RowKit
set_option linter.unusedVariables false

theorem implWeak_v (v : Int) (K : Int) (ao : Option Addr) (cap : Nat) (ts : List (Int × Int)) (w : World) (hn : ts.length ≤ 1099511627776) (ht : TiesIn w w.heap.size ao ts) (h : weakI K ts = v) :
    Calls Tryd.prog 18 #[.agg #[.int .i64 K, .slice ao ts.length cap]] w fun e w' => e = .returned (.int .i64 v) ∧ Below w.heap.size w w' := by
  rw [← h]; exact implFlowWeak_any K ao cap ts w hn ht
theorem specWeak_v (v : Int) (K : Int) (ao : Option Addr) (cap : Nat) (ts : List (Int × Int)) (w : World) (hn : ts.length ≤ 1099511627776) (ht : TiesIn w w.heap.size ao ts) (h : weakI K ts = v) :
    Calls Tryd.prog 19 #[.agg #[.int .i64 K, .slice ao ts.length cap]] w fun e w' => e = .returned (.int .i64 v) ∧ Below w.heap.size w w' := by
  rw [← h]; exact specFlowWeak_any K ao cap ts w hn ht
end Go.Proofs.YtoldljbbjhipnaaDoor
