/- Walk of laws.FnFlowTurn: it returns true. -/
import Derived.Test.YtljnjpjnadlmhaaDoorPartWDraw
import Derived.Test.YtljnjpjnadlmhaaDoorPartWFlowCS
import Derived.Test.YtljnjpjnadlmhaaDoorPartMathTf
import Derived.Test.YtljnjpjnadlmhaaDoorPartWFirst
namespace Go.Proofs.YtljnjpjnadlmhaaDoor
open Go.RowKit
set_option linter.unusedVariables false

theorem cutG_turn {a b : Nat} (ha : a < 8) (hb : b < 8) (hab : a ≠ b) : ∀ (r left : List (Int × Int)), cutG b a r left = cutG a b r left := by
  intro r
  induction r with
  | nil => intro left; rfl
  | cons s r ih =>
    intro left
    unfold cutG
    rw [flowV_turn _ ha hb hab, flowV_turn _ ha hb hab, ih, ih]
theorem twoB_turn (K : Int) (ts : List (Int × Int)) (a b : Int) : twoB K ts b a = twoB K ts a b := by
  unfold twoB
  rw [Bool.eq_iff_iff]
  simp only [Bool.and_eq_true, decide_eq_true_eq]
  exact ⟨fun h => ⟨⟨⟨h.1.1.1, h.1.2⟩, h.1.1.2⟩, fun e => h.2 e.symm⟩, fun h => ⟨⟨⟨h.1.1.1, h.1.2⟩, h.1.1.2⟩, fun e => h.2 e.symm⟩⟩
theorem cutI_turn (K : Int) (ts : List (Int × Int)) (a b : Int) : cutI K ts b a = cutI K ts a b := by
  unfold cutI
  rw [twoB_turn]
  by_cases e : twoB K ts a b = true
  · rw [if_pos e, if_pos e]
    obtain ⟨_, x, y, rfl, rfl, hx, hy, _, _, hxy⟩ := knot_nat e
    exact cutG_turn hx hy hxy ts ts
  · rw [if_neg e, if_neg e]
theorem countI_turn (K : Int) (ts : List (Int × Int)) (a b : Int) : countI K ts b a = countI K ts a b := by
  unfold countI
  rw [twoB_turn]
  by_cases e : twoB K ts a b = true
  · rw [if_pos e, if_pos e]
    obtain ⟨_, x, y, rfl, rfl, hx, hy, _, _, hxy⟩ := knot_nat e
    exact flowV_turn ts hx hy hxy
  · rw [if_neg e, if_neg e]
theorem implCut_v (p : Bool) (us : List (Int × Int)) (K : Int) (ao : Option Addr) (cap : Nat) (ts : List (Int × Int)) (a b : Int) (w : World) (hn : ts.length ≤ 1099511627776) (ht : TiesIn w w.heap.size ao ts) (hT : Tab w) (hp : twoB K ts a b = p) (hu : cutI K ts a b = us) :
    Calls Tryd.prog 7 #[.agg #[.int .i64 K, .slice ao ts.length cap], .int .i64 a, .int .i64 b] w fun e w' => ∃ ao' cap', e = .returned (.tuple #[.slice ao' us.length cap', .bool p]) ∧ TiesIn w' w'.heap.size ao' us ∧ Below w.heap.size w w' := by
  rw [← hp, ← hu]
  refine (implFlowCut_any K ao cap ts a b w hn ht hT).mono ?_
  rintro e w' ⟨ao', cap', rfl, ho, hb⟩
  exact ⟨ao', cap', rfl, ho.ties (Nat.le_refl _), hb⟩
end Go.Proofs.YtljnjpjnadlmhaaDoor
