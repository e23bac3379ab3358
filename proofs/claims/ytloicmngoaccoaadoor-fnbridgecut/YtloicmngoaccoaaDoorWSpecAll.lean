/- The answer of spec.NetAdd in one form. -/
import Derived.Test.YtloicmngoaccoaaDoorWSpecAdd
import Derived.Test.YtloicmngoaccoaaDoorPartWLeaf
namespace Go.Proofs.YtloicmngoaccoaaDoor
open Go.RowKit
set_option linter.unusedVariables false

def addK (K : Int) (ts : List (Int × Int)) (a b : Int) : Int := if addB K ts a b = true then K else 0
def addTs (K : Int) (ts : List (Int × Int)) (a b : Int) : List (Int × Int) := if addB K ts a b = true then ins (tieOf a b) ts else []
theorem addTs_len (K : Int) (ts : List (Int × Int)) (a b : Int) : (addTs K ts a b).length ≤ 65 := by
  unfold addTs
  split
  · rename_i h
    obtain ⟨hok, _⟩ := addB_yes h
    have := ok_short (okB_iff.1 hok)
    rw [ins_length]; omega
  · simp
theorem specAdd_all (K : Int) (ao : Option Addr) (cap : Nat) (ts : List (Int × Int)) (a b : Int) (w : World) (hn : ts.length ≤ 1099511627776) (ht : TiesIn w w.heap.size ao ts) :
    Calls Tryd.prog 45 #[.agg #[.int .i64 K, .slice ao ts.length cap], .int .i64 a, .int .i64 b] w fun e w' => ∃ ao' cap', e = .returned (.tuple #[.agg #[.int .i64 (addK K ts a b), .slice ao' (addTs K ts a b).length cap'], .bool (addB K ts a b)]) ∧
      OwnN w' w.heap.size w'.heap.size ao' (addTs K ts a b).length (tcell (addTs K ts a b)) ∧ Below w.heap.size w w' := by
  cases h : addB K ts a b
  · refine (specAdd_no K ao cap ts a b w hn ht h).mono ?_
    rintro e w' ⟨rfl, hb⟩
    exact ⟨none, 0, by simp [addK, addTs, h], Or.inl ⟨by simp [addTs, h], rfl⟩, hb⟩
  · refine (specAdd_yes K ao cap ts a b w hn ht h).mono ?_
    rintro e w' ⟨ao', cap', rfl, ho, hb⟩
    refine ⟨ao', cap', by simp [addK, addTs, h], ?_, hb⟩
    have e : addTs K ts a b = ins (tieOf a b) ts := by simp [addTs, h]
    rw [e]; exact OwnN.of_row ho

end Go.Proofs.YtloicmngoaccoaaDoor
