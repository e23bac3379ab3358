/- Walks of impl.FlowCount, impl.FlowWeak. -/
import Derived.Test.YtoldljbbjhipnaaWMost
import Derived.Test.YtoldljbbjhipnaaWFlowP
import Derived.Test.YtoldljbbjhipnaaPartMathFN
namespace Go.Proofs.Ytoldljbbjhipnaa
open Go.RowKit
set_option linter.unusedVariables false

theorem stepT_set {K : Int} {ts : List (Int × Int)} (h : okB K ts = true) : stepT (setN K ts) = tieNB ts := by
  funext x y
  show decide (setN K ts &&& pbit (x : Int) (y : Int) ≠ 0) = tieNB ts x y
  rw [has_set K ts x y h]
  unfold hasB tieNB
  rw [h, Bool.true_and]
/-- how many ways there are at most that have no tie twice; -1, if it is not so -/
noncomputable def countI (K : Int) (ts : List (Int × Int)) (a b : Int) : Int := if twoB K ts a b = true then flowV ts a.toNat b.toNat else -1
set_option maxHeartbeats 800000 in
theorem implFlowCount_any (K : Int) (ao : Option Addr) (cap : Nat) (ts : List (Int × Int)) (a b : Int) (w : World) (hn : ts.length ≤ 1099511627776) (ht : TiesIn w w.heap.size ao ts) :
    Calls Try.prog 6 #[.agg #[.int .i64 K, .slice ao ts.length cap], .int .i64 a, .int .i64 b] w fun e w' => e = .returned (.int .i64 (countI K ts a b)) ∧ Below w.heap.size w w' := by
  have HT := hideP ht
  clear ht
  have X0 := fun (t : TypeId) => Bx.start w K (.slice ao ts.length cap) t
  have HX0 := hideP X0
  clear X0
  obtain ⟨p, hp⟩ : ∃ p, p = twoB K ts a b := ⟨_, rfl⟩
  have HP := hideP hp
  clear hp
  go_enter Try.func6, Try.ntmps6
  go_wp2_with fail
  refine (twoKnots_any K ao cap ts a b _ hn ((HT.out.below (HX0.out _).B (Nat.le_refl _)).wide (Nat.le_of_lt (HX0.out _).lt))).mono ?_
  rw [← HP.out]
  rintro e w2 ⟨rfl, hb1⟩
  have HB := hideP ((HX0.out _).next hb1).B
  clear hb1 HX0
  cases p
  · have HR : Hid (countI K ts a b = -1) := hideP (by unfold countI; rw [← HP.out]; rfl)
    go_wp2
    go_ret
    exact ⟨by rw [HR.out]; rfl, HB.out⟩
  · obtain ⟨hok, x, y, rfl, rfl, hx, hy, hxk, hyk, hxy⟩ := knot_nat HP.out.symm
    have HR : Hid (countI K ts (x : Int) (y : Int) = flowN (stepT (setN K ts)) x y) := hideP (by unfold countI; rw [← HP.out, if_pos rfl, stepT_set hok]; rfl)
    have HM := hideP (fun W => mostWays_any (setN K ts) x y W (setN_lt _ _) hx hy hxy)
    clear hok
    go_wp2_with (first | (go_at_call 14; refine (HM.out _).mono ?_; rintro e w3 ⟨rfl, hb3⟩; have HB3 := hideP (HB.out.trans (hb3.mono HB.out.size)); clear hb3))
    go_ret
    exact ⟨by rw [HR.out]; rfl, HB3.out⟩

end Go.Proofs.Ytoldljbbjhipnaa
