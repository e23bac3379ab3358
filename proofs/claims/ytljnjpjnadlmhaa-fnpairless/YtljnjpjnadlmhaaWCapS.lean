/- spec.NetCut and spec.NetAdd, with the room that their ties have. -/
import Derived.Test.YtljnjpjnadlmhaaPartWSpecCut
import Derived.Test.YtljnjpjnadlmhaaPartWSpecAdd
namespace Go.Proofs.Ytljnjpjnadlmhaa
open Go.RowKit
set_option linter.unusedVariables false

theorem own_room {w : World} {base n cap sz : Nat} {ao : Option Addr} {e : TypeId} {xs : List Value} (h : w.ownsRow base e sz (.slice ao n cap) n xs) : n ≤ cap := by
  rcases h.2 with ⟨h1, h2⟩ | ⟨g', c', cur, h1, _, _, h4, _⟩
  · omega
  · simp only [Value.slice.injEq, true_and] at h1
    omega
theorem specAdd_cap (K : Int) (ao : Option Addr) (cap : Nat) (ts : List (Int × Int)) (a b : Int) (w : World) (hn : ts.length ≤ 1099511627776) (ht : TiesIn w w.heap.size ao ts) :
    Calls Try.prog 68 #[.agg #[.int .i64 K, .slice ao ts.length cap], .int .i64 a, .int .i64 b] w fun e w' => ∃ ao' cap', e = .returned (.tuple #[.agg #[.int .i64 (addK K ts a b), .slice ao' (addTs K ts a b).length cap'], .bool (addB K ts a b)]) ∧
      OwnN w' w.heap.size w'.heap.size ao' (addTs K ts a b).length (tcell (addTs K ts a b)) ∧ Below w.heap.size w w' ∧ (addTs K ts a b).length ≤ cap' := by
  cases h : addB K ts a b
  · refine (specAdd_no K ao cap ts a b w hn ht h).mono ?_
    rintro e w' ⟨rfl, hb⟩
    exact ⟨none, 0, by simp [addK, addTs, h], Or.inl ⟨by simp [addTs, h], rfl⟩, hb, by simp [addTs, h]⟩
  · refine (specAdd_yes K ao cap ts a b w hn ht h).mono ?_
    rintro e w' ⟨ao', cap', rfl, ho, hb⟩
    have e : addTs K ts a b = ins (tieOf a b) ts := by simp [addTs, h]
    refine ⟨ao', cap', by simp [addK, addTs, h], ?_, hb, ?_⟩
    · rw [e]; exact OwnN.of_row ho
    · rw [e]; exact own_room ho

end Go.Proofs.Ytljnjpjnadlmhaa
