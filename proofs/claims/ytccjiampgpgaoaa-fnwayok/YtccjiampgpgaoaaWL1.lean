/- Walk of spec.l1Knot. -/
import Derived.Test.YtccjiampgpgaoaaWSpecOk
namespace Go.Proofs.Ytccjiampgpgaoaa
open Go.RowKit
set_option linter.unusedVariables false

set_option maxHeartbeats 400000 in
theorem l1Knot_at (K : Int) (ao : Option Addr) (cap : Nat) (ts : List (Int × Int)) (k : Int) (w : World) (hn : ts.length ≤ 1099511627776) (ht : TiesIn w w.heap.size ao ts) :
    Calls Try.prog 16 #[.agg #[.int .i64 K, .slice ao ts.length cap], .int .i64 k] w fun e w' => e = .returned (.bool (okB K ts && knotB k K)) ∧ Below w.heap.size w w' := by
  have ht1 : TiesIn (w.alloc (.cells #[.int .i64 K, .slice ao ts.length cap] 25)) (w.heap.size + 1) ao ts := (ht.below (below_one _ _) (Nat.le_refl _)).wide (by omega)
  go_enter Try.func16, Try.ntmps16
  go_wp2_with fail
  refine (specOk_any K ao cap ts _ hn (by simpa using ht1)).mono ?_
  rintro e w1 ⟨rfl, hb⟩
  have hb' : Below (w.heap.size + 1) (w.alloc (.cells #[.int .i64 K, .slice ao ts.length cap] 25)) w1 := by simpa using hb
  have hbb : Below w.heap.size w w1 := (below_one _ _).trans (hb'.mono (by omega))
  have c0 : w1.cell? ⟨w.heap.size, 0, none⟩ = some (.int .i64 K) := (hb'.cell (p := ⟨w.heap.size, 0, none⟩) (by simp)).trans (by simp)
  clear hb hb' ht1
  cases hok : okB K ts
  · have HH : Hid ((okB K ts && knotB k K) = false) := by rw [hok]; rfl
    clear hok
    go_wp2
    go_ret
    exact ⟨by rw [HH.out]; rfl, hbb⟩
  · obtain ⟨hK0, hK8, _⟩ := okB_iff.1 hok
    have HE : Hid ((okB K ts && knotB k K) = inB k 0 (K - 1)) := by
      show (okB K ts && knotB k K) = inB k 0 (K - 1)
      rw [hok, Bool.true_and, knotB, inB]
      congr 1
      by_cases h : k < K
      · rw [decide_eq_true h, decide_eq_true (by omega)]
      · rw [decide_eq_false h, decide_eq_false (by omega)]
    clear hok
    go_wp2_with fail
    refine (in_any k 0 (K - 1) _).mono ?_
    rintro e w2 ⟨rfl, rfl⟩
    go_wp2
    go_ret
    exact ⟨by rw [HE.out]; rfl, hbb⟩
theorem l1Knot_v (v : Bool) (K : Int) (ao : Option Addr) (cap : Nat) (ts : List (Int × Int)) (k : Int) (w : World) (hn : ts.length ≤ 1099511627776) (ht : TiesIn w w.heap.size ao ts) (h : (okB K ts && knotB k K) = v) :
    Calls Try.prog 16 #[.agg #[.int .i64 K, .slice ao ts.length cap], .int .i64 k] w fun e w' => e = .returned (.bool v) ∧ Below w.heap.size w w' := by
  rw [← h]; exact l1Knot_at K ao cap ts k w hn ht

end Go.Proofs.Ytccjiampgpgaoaa
