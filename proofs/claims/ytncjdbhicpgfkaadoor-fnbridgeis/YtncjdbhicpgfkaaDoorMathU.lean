/- All ways stand one ahead of the next. -/
import Derived.Test.YtncjdbhicpgfkaaDoorMathS
namespace Go.Proofs.YtncjdbhicpgfkaaDoor
set_option linter.unusedVariables false

theorem onW_strict {E : Nat → Nat → Bool} {b s : Nat} : ∀ f p, (onW E b s f p).Pairwise (fun x y => lexB x y = true) := by
  intro f
  induction f with
  | zero =>
    intro p
    by_cases h : lastN p = b
    · rw [onW_end h]; split <;> simp
    · rw [onW_stop h]; simp
  | succ f ih =>
    intro p
    by_cases h : lastN p = b
    · rw [onW_end h]; split <;> simp
    · rw [onW_go h]
      refine flat_sorted 8 (fun k hk => ?_) (fun i j hij hj x y hx hy => ?_)
      · by_cases hc : (E (lastN p) k && !decide (k ∈ p)) = true
        · rw [onK_yes hc]; exact ih _
        · rw [onK_no (by simpa using hc)]; simp
      · have form : ∀ k q, q ∈ onK E b s f p k → ∃ r, q = p ++ k :: r := by
          intro k q hq
          by_cases hc : (E (lastN p) k && !decide (k ∈ p)) = true
          · rw [onK_yes hc] at hq
            obtain ⟨r, hr⟩ := onW_pre _ _ _ hq
            exact ⟨r, by rw [hr]; simp⟩
          · rw [onK_no (by simpa using hc)] at hq; simp at hq
        obtain ⟨r1, rfl⟩ := form i x hx
        obtain ⟨r2, rfl⟩ := form j y hy
        rw [lexB_pre]
        simp only [lexB]
        rw [if_neg (by omega)]
        simp; omega
theorem allTo_strict (E : Nat → Nat → Bool) (a b n : Nat) : (allTo E a b n).Pairwise (fun x y => aheadB x y = true) := by
  refine flat_sorted n (fun i hi => ?_) (fun i j hij hj x y hx hy => ?_)
  · refine (onW_strict i [a]).imp_of_mem ?_
    intro x y hx hy h
    unfold aheadB
    rw [if_pos (by rw [onW_size _ _ _ hx, onW_size _ _ _ hy])]; exact h
  · have h1 := onW_size _ _ _ hx
    have h2 := onW_size _ _ _ hy
    unfold aheadB
    rw [if_neg (by omega)]; simp; omega
/-- each of all ways stands ahead of the next -/
theorem ways_ahead (K : Int) (ts : List (Int × Int)) (a b : Int) {i : Nat} (h : i + 1 < (waysB K ts a b).length) : aheadB ((waysB K ts a b).getD i []) ((waysB K ts a b).getD (i + 1) []) = true := by
  have hs : (waysB K ts a b).Pairwise (fun x y => aheadB x y = true) := by
    cases hc : (okB K ts && knotB a K && knotB b K)
    · rw [waysB_no hc]; simp
    · rw [waysB_yes hc]; exact allTo_strict _ _ _ _
  have := List.pairwise_iff_getElem.1 hs i (i + 1) (by omega) h (by omega)
  rw [List.getD_eq_getElem?_getD, List.getD_eq_getElem?_getD, List.getElem?_eq_getElem (by omega : i < _), List.getElem?_eq_getElem h]
  exact this

end Go.Proofs.YtncjdbhicpgfkaaDoor
