/- A way turned about is one; a piece of a way is one. -/
import Derived.Test.YtljnjpjnadlmhaaDoorPartWPath
namespace Go.Proofs.YtljnjpjnadlmhaaDoor
open Go.RowKit
set_option linter.unusedVariables false

theorem hasB_side (K : Int) (ts : List (Int × Int)) (a b : Int) : hasB K ts b a = hasB K ts a b := by
  unfold hasB; rw [Int.min_comm b a, Int.max_comm b a]
structure IsWay (K : Int) (ts : List (Int × Int)) (xs : List Int) : Prop where
  ok : okB K ts = true
  pos : 0 < xs.length
  knot : ∀ i, i < xs.length → knotB (xi xs i) K = true
  one : ∀ i j, i < j → j < xs.length → xi xs i ≠ xi xs j
  tie : ∀ i, i + 1 < xs.length → hasB K ts (xi xs i) (xi xs (i + 1)) = true

theorem xi_get (xs : List Int) (i : Nat) (h : i < xs.length) : xi xs i = xs[i] := by simp [xi, h]
theorem inI_take {xs : List Int} {k : Int} {i : Nat} (hi : i ≤ xs.length) : inI (xs.take i) k = true ↔ ∃ j, j < i ∧ xi xs j = k := by
  rw [inI_iff]
  constructor
  · rintro ⟨j, hj, e⟩
    rw [List.length_take] at hj
    exact ⟨j, by omega, by rw [← e, xi_take (by omega)]⟩
  · rintro ⟨j, hj, e⟩
    exact ⟨j, by rw [List.length_take]; omega, by rw [xi_take hj]; exact e⟩
theorem wayB_iff {K : Int} {ts : List (Int × Int)} {xs : List Int} : wayB K ts xs = true ↔ IsWay K ts xs := by
  constructor
  · intro h
    simp only [wayB, Bool.and_eq_true, decide_eq_true_eq, List.all_eq_true, List.mem_range] at h
    obtain ⟨⟨hok, hp⟩, hs⟩ := h
    refine ⟨hok, hp, fun i hi => ?_, fun i j hij hj => ?_, fun i hi => ?_⟩
    · have := hs i hi; simp only [stepB, Bool.and_eq_true] at this; exact this.1.1
    · exact step_new (hs j hj) i hij (by omega)
    · have := hs (i + 1) hi
      simp only [stepB, Bool.and_eq_true, Bool.or_eq_true, decide_eq_true_eq] at this
      rcases this.2 with h0 | h0
      · omega
      · simpa using h0
  · intro h
    refine wayB_all h.ok h.pos fun i hi => ?_
    simp only [stepB, Bool.and_eq_true, Bool.or_eq_true, decide_eq_true_eq, Bool.not_eq_true']
    refine ⟨⟨h.knot i hi, ?_⟩, ?_⟩
    · cases hc : inI (xs.take i) (xi xs i)
      · rfl
      · obtain ⟨j, hj, e⟩ := (inI_take (by omega)).1 hc
        exact absurd e (h.one j i hj hi)
    · by_cases h0 : i = 0
      · exact Or.inl h0
      · have := h.tie (i - 1) (by omega)
        rw [show i - 1 + 1 = i by omega] at this
        exact Or.inr this
theorem xi_rev (xs : List Int) (i : Nat) (h : i < xs.length) : xi xs.reverse i = xi xs (xs.length - 1 - i) := by
  rw [xi_get _ _ (by simpa using h), xi_get _ _ (by omega), List.getElem_reverse]
theorem IsWay.rev {K : Int} {ts : List (Int × Int)} {xs : List Int} (h : IsWay K ts xs) : IsWay K ts xs.reverse := by
  have hp := h.pos
  refine ⟨h.ok, by simpa using h.pos, fun i hi => ?_, fun i j hij hj => ?_, fun i hi => ?_⟩
  · rw [List.length_reverse] at hi; rw [xi_rev _ _ hi]; exact h.knot _ (by omega)
  · rw [List.length_reverse] at hj; rw [xi_rev _ _ hj, xi_rev _ _ (by omega)]; exact (h.one _ _ (by omega) (by omega)).symm
  · rw [List.length_reverse] at hi
    rw [xi_rev _ _ (by omega), xi_rev _ _ hi, hasB_side]
    have := h.tie (xs.length - 1 - (i + 1)) (by omega)
    rw [show xs.length - 1 - (i + 1) + 1 = xs.length - 1 - i by omega] at this
    exact this
theorem wayB_rev (K : Int) (ts : List (Int × Int)) (xs : List Int) : wayB K ts xs.reverse = wayB K ts xs := by
  cases h : wayB K ts xs
  · cases h' : wayB K ts xs.reverse
    · rfl
    · have := wayB_iff.2 (wayB_iff.1 h').rev
      rw [List.reverse_reverse, h] at this; cases this
  · exact wayB_iff.2 (wayB_iff.1 h).rev
theorem xi_drop (xs : List Int) (k i : Nat) : xi (xs.drop k) i = xi xs (k + i) := by simp [xi]
theorem IsWay.drop {K : Int} {ts : List (Int × Int)} {xs : List Int} (h : IsWay K ts xs) {k : Nat} (hk : k < xs.length) : IsWay K ts (xs.drop k) := by
  refine ⟨h.ok, by simp; omega, fun i hi => ?_, fun i j hij hj => ?_, fun i hi => ?_⟩
  · rw [List.length_drop] at hi; rw [xi_drop]; exact h.knot _ (by omega)
  · rw [List.length_drop] at hj; rw [xi_drop, xi_drop]; exact h.one _ _ (by omega) (by omega)
  · rw [List.length_drop] at hi; rw [xi_drop, xi_drop]; exact h.tie _ (by omega)
theorem IsWay.take {K : Int} {ts : List (Int × Int)} {xs : List Int} (h : IsWay K ts xs) {k : Nat} (hk : k < xs.length) : IsWay K ts (xs.take (k + 1)) := by
  refine ⟨h.ok, by simp; omega, fun i hi => ?_, fun i j hij hj => ?_, fun i hi => ?_⟩
  · rw [List.length_take] at hi; rw [xi_take (by omega)]; exact h.knot _ (by omega)
  · rw [List.length_take] at hj; rw [xi_take (by omega), xi_take (by omega)]; exact h.one _ _ (by omega) (by omega)
  · rw [List.length_take] at hi; rw [xi_take (by omega), xi_take (by omega)]; exact h.tie _ (by omega)
theorem wayB_drop {K : Int} {ts : List (Int × Int)} {xs : List Int} (h : wayB K ts xs = true) {k : Nat} (hk : k < xs.length) : wayB K ts (xs.drop k) = true := wayB_iff.2 ((wayB_iff.1 h).drop hk)
theorem wayB_take {K : Int} {ts : List (Int × Int)} {xs : List Int} (h : wayB K ts xs = true) {k : Nat} (hk : k < xs.length) : wayB K ts (xs.take (k + 1)) = true := wayB_iff.2 ((wayB_iff.1 h).take hk)

end Go.Proofs.YtljnjpjnadlmhaaDoor
