/- The answers of NetAdd, NetCut, NetWithout in one form each. -/
import Derived.Test.YtjcjabplfbgpnaaDoorPartWSpecAdd
import Derived.Test.YtjcjabplfbgpnaaDoorWSpecCut
namespace Go.Proofs.YtjcjabplfbgpnaaDoor
open Go.RowKit
set_option linter.unusedVariables false

theorem cutB_no {K : Int} {ts : List (Int × Int)} {a b : Int} (h : cutB K ts a b = false) : hasB K ts a b = false := h
theorem cutB_yes {K : Int} {ts : List (Int × Int)} {a b : Int} (h : cutB K ts a b = true) : hasB K ts a b = true := h
theorem specCut_all (K : Int) (ao : Option Addr) (cap : Nat) (ts : List (Int × Int)) (a b : Int) (w : World) (hn : ts.length ≤ 1099511627776) (ht : TiesIn w w.heap.size ao ts) :
    Calls Tryd.prog 20 #[.agg #[.int .i64 K, .slice ao ts.length cap], .int .i64 a, .int .i64 b] w fun e w' => ∃ ao' cap', e = .returned (.tuple #[.agg #[.int .i64 (cutK K ts a b), .slice ao' (cutTs K ts a b).length cap'], .bool (cutB K ts a b)]) ∧
      OwnN w' w.heap.size w'.heap.size ao' (cutTs K ts a b).length (tcell (cutTs K ts a b)) ∧ Below w.heap.size w w' := by
  cases h : cutB K ts a b
  · refine (specCut_no K ao cap ts a b w hn ht (cutB_no h)).mono ?_
    rintro e w' ⟨rfl, hb⟩
    exact ⟨none, 0, by simp [cutK, cutTs, h], Or.inl ⟨by simp [cutTs, h], rfl⟩, hb⟩
  · refine (specCut_yes K ao cap ts a b w hn ht (cutB_yes h) (ok_short (okB_iff.1 (has_ok (cutB_yes h))))).mono ?_
    rintro e w' ⟨ao', cap', rfl, ho, hb⟩
    refine ⟨ao', cap', by simp [cutK, cutTs, h], ?_, hb⟩
    have e : cutTs K ts a b = ts.filter (other (tieOf a b)) := by simp [cutTs, h]
    rw [e]; exact OwnN.of_row ho
end Go.Proofs.YtjcjabplfbgpnaaDoor
