/- Texts put together: WReach2, WParts, WParts2. -/
import Derived.Test.YtljnjpjnadlmhaaPartWReach
/- Walk of impl.WayReach. -/
namespace Go.Proofs.Ytljnjpjnadlmhaa
open Go.RowKit
set_option linter.unusedVariables false

theorem hasKnot_v (v : Bool) (K : Int) (u : Value) (k : Int) (w : World) (h : knotB k K = v) :
    Calls Try.prog 51 #[.agg #[.int .i64 K, u], .int .i64 k] w fun e w' => e = .returned (.bool v) ∧ Below w.heap.size w w' := by
  rw [← h]; exact (hasKnot_any K u k w).mono fun e w' ⟨he, hw⟩ => ⟨he, by rw [hw]; exact below_one _ _⟩
/-- the bits of a net's set are its ties -/
def bTo (M : Nat → Bool) (k j : Nat) : Value := .bool (if j < k then M j else false)
theorem bTo_step (M : Nat → Bool) (k j : Nat) : (if j = k then Value.bool (M k) else bTo M k j) = bTo M (k + 1) j := by
  unfold bTo
  by_cases h : j = k
  · subst h; rw [if_pos rfl, if_pos (by omega)]
  · rw [if_neg h]
    by_cases h2 : j < k
    · rw [if_pos h2, if_pos (by omega)]
    · rw [if_neg h2, if_neg (by omega)]


end Go.Proofs.Ytljnjpjnadlmhaa

/- Walks of impl.WayParts, spec.WayParts. -/
namespace Go.Proofs.Ytljnjpjnadlmhaa
open Go.RowKit
set_option linter.unusedVariables false

def partN (K : Int) (ts : List (Int × Int)) : Nat := if okB K ts = true then K.toNat else 0
def topN (ts : List (Int × Int)) (j : Nat) : Nat := top (forest ts ts.length) j
def tTo (ts : List (Int × Int)) (k j : Nat) : Value := .int .i64 (if j < k then ((topN ts j : Nat) : Int) else 0)
theorem tTo_step (ts : List (Int × Int)) (k j : Nat) : (if j = k then Value.int .i64 ((topN ts k : Nat) : Int) else tTo ts k j) = tTo ts (k + 1) j := by
  unfold tTo
  by_cases h : j = k
  · subst h; rw [if_pos rfl, if_pos (by omega)]
  · rw [if_neg h]
    by_cases h2 : j < k
    · rw [if_pos h2, if_pos (by omega)]
    · rw [if_neg h2, if_neg (by omega)]
theorem topN_le (ts : List (Int × Int)) (k : Nat) : topN ts k ≤ k := top_le (forest_low ts _) k
theorem reach_top (ts : List (Int × Int)) (k : Nat) : reachB ts k (topN ts k) = true := by
  unfold reachB topN; rw [decide_eq_true_eq]; exact top_top (forest_low ts _) k
theorem reach_low (ts : List (Int × Int)) (k j : Nat) (h : j < topN ts k) : reachB ts k j = false := by
  unfold reachB; rw [decide_eq_false_iff_not]
  intro e
  have h1 := top_le (forest_low ts ts.length) j
  unfold topN at h
  omega


end Go.Proofs.Ytljnjpjnadlmhaa

/- Walk of spec.WayParts. -/
namespace Go.Proofs.Ytljnjpjnadlmhaa
open Go.RowKit
set_option linter.unusedVariables false

theorem specOk_is (v : Bool) (K : Int) (ao : Option Addr) (cap : Nat) (ts : List (Int × Int)) (w : World) (hn : ts.length ≤ 1099511627776) (ht : TiesIn w w.heap.size ao ts) (h : okB K ts = v) :
    Calls Try.prog 40 #[.agg #[.int .i64 K, .slice ao ts.length cap]] w fun e w' => e = .returned (.bool v) ∧ Below w.heap.size w w' := by
  rw [← h]; exact specOk_any K ao cap ts w hn ht
theorem specReach_ok (Kn : Nat) (ao : Option Addr) (cap : Nat) (ts : List (Int × Int)) (x : Nat) (w : World) (hn : ts.length ≤ 1099511627776) (ht : TiesIn w w.heap.size ao ts) (hok : okB (Kn : Int) ts = true) (hx : x < Kn) :
    Calls Try.prog 60 #[.agg #[.int .i64 (Kn : Int), .slice ao ts.length cap], .int .i64 (x : Int)] w fun e w' => ∃ g cap', e = .returned (.slice (some ⟨g, 0, none⟩) Kn cap') ∧ OwnI w' g Kn (bcell (reachB ts x)) ∧ Below w.heap.size w w' := by
  refine (specReach_any (Kn : Int) ao cap ts (x : Int) w hn ht).mono ?_
  rintro e w' ⟨ao', cap', rfl, ho, hb⟩
  have hN : reachN (Kn : Int) ts (x : Int) = Kn := by
    have hk : knotB (x : Int) (Kn : Int) = true := by simp [knotB]; omega
    simp [reachN, hok, hk]
  rw [hN] at ho ⊢
  rcases ho with ⟨h0, _⟩ | ⟨g, rfl, _, _, ho⟩
  · omega
  · exact ⟨g, cap', rfl, ho, hb⟩

end Go.Proofs.Ytljnjpjnadlmhaa
