/- Walk of impl.WayReach. -/
import Derived.Test.YtiaeffpjcinilaaDoorWReach
import Derived.Test.YtiaeffpjcinilaaDoorWQuiet
namespace Go.Proofs.YtiaeffpjcinilaaDoor
open Go.RowKit
set_option linter.unusedVariables false

theorem hasKnot_v (v : Bool) (K : Int) (u : Value) (k : Int) (w : World) (h : knotB k K = v) :
    Calls Tryd.prog 62 #[.agg #[.int .i64 K, u], .int .i64 k] w fun e w' => e = .returned (.bool v) ∧ Below w.heap.size w w' := by
  rw [← h]; exact (hasKnot_any K u k w).mono fun e w' ⟨he, hw⟩ => ⟨he, by rw [hw]; exact below_one _ _⟩
/-- the bits of a net's set are its ties -/
theorem set_bits {K : Int} {ts : List (Int × Int)} (h : okB K ts = true) : BitsFrom (setN K ts) ts 0 := by
  rw [setN_yes h]
  intro j
  rw [mask_bit]
  exact ⟨fun ⟨i, h1, h2⟩ => ⟨i, Nat.zero_le _, h1, h2⟩, fun ⟨i, _, h1, h2⟩ => ⟨i, h1, h2⟩⟩
theorem forestOf_ok (K : Int) (ts : List (Int × Int)) (w : World) (hT : Tab w) (h : okB K ts = true) :
    Calls Tryd.prog 50 #[.int .u64 ((setN K ts : Nat) : Int)] w fun e w' => e = .returned (forestV (forest ts ts.length)) ∧ Below w.heap.size w w' := by
  obtain ⟨_, h8, hg⟩ := okB_iff.1 h
  exact forestOf_any K ts (setN K ts) w hT h8 hg (ok_short (okB_iff.1 h)) (set_bits h) (setN_lt K ts)
def bTo (M : Nat → Bool) (k j : Nat) : Value := .bool (if j < k then M j else false)
theorem bTo_step (M : Nat → Bool) (k j : Nat) : (if j = k then Value.bool (M k) else bTo M k j) = bTo M (k + 1) j := by
  unfold bTo
  by_cases h : j = k
  · subst h; rw [if_pos rfl, if_pos (by omega)]
  · rw [if_neg h]
    by_cases h2 : j < k
    · rw [if_pos h2, if_pos (by omega)]
    · rw [if_neg h2, if_neg (by omega)]


end Go.Proofs.YtiaeffpjcinilaaDoor
