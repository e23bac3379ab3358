/- Plain mathematics of ways: what is one, step by step. No program stands here. -/
import Derived.Test.YtloicmngoaccoaaDoorWPath
namespace Go.Proofs.YtloicmngoaccoaaDoor

/-- the place i of the row can stand there: a knot that did not come before, tied to the one ahead -/
def stepB (K : Int) (ts : List (Int × Int)) (xs : List Int) (i : Nat) : Bool := knotB (xi xs i) K && !inI (xs.take i) (xi xs i) && (decide (i = 0) || hasB K ts (xi xs (i - 1)) (xi xs i))
def wayB (K : Int) (ts : List (Int × Int)) (xs : List Int) : Bool := okB K ts && decide (0 < xs.length) && (List.range xs.length).all (stepB K ts xs)
def StepsTo (K : Int) (ts : List (Int × Int)) (xs : List Int) (k : Nat) : Prop := ∀ i, i < k → stepB K ts xs i = true

theorem wayB_nok {K ts xs} (h : okB K ts = false) : wayB K ts xs = false := by simp [wayB, h]
theorem wayB_nil {K ts xs} (h : xs.length = 0) : wayB K ts xs = false := by simp [wayB, h]
theorem wayB_bad {K ts xs} {i : Nat} (hi : i < xs.length) (h : stepB K ts xs i = false) : wayB K ts xs = false := by
  have : (List.range xs.length).all (stepB K ts xs) = false := by
    rw [← Bool.not_eq_true, List.all_eq_true]
    intro g; have := g i (List.mem_range.2 hi); rw [h] at this; cases this
  simp [wayB, this]
theorem wayB_all {K ts xs} (h : okB K ts = true) (h0 : 0 < xs.length) (hs : StepsTo K ts xs xs.length) : wayB K ts xs = true := by
  have : (List.range xs.length).all (stepB K ts xs) = true := by
    rw [List.all_eq_true]; intro i hi; exact hs i (List.mem_range.1 hi)
  simp [wayB, this, h, h0]
theorem steps_snoc {K ts xs} {k : Nat} (h : StepsTo K ts xs k) (g : stepB K ts xs k = true) : StepsTo K ts xs (k + 1) := by
  intro i hi
  by_cases e : i = k
  · subst e; exact g
  · exact h i (by omega)

theorem pigeon : ∀ (K n : Nat) (f : Nat → Nat), (∀ i, i < n → f i < K) → (∀ i j, i < j → j < n → f i ≠ f j) → n ≤ K := by
  intro K
  induction K with
  | zero =>
    intro n f h _
    by_cases hn : n = 0
    · omega
    · have := h 0 (by omega); omega
  | succ K ih =>
    intro n f h hd
    by_cases he : ∃ i, i < n ∧ f i = K
    · obtain ⟨i0, hi0, e0⟩ := he
      have := ih (n - 1) (fun i => if i < i0 then f i else f (i + 1)) (by
        intro i hi
        by_cases c : i < i0
        · simp only [c, if_true]
          have h1 := h i (by omega)
          have h2 := hd i i0 c hi0
          omega
        · simp only [c, if_false]
          have h1 := h (i + 1) (by omega)
          have h2 := hd i0 (i + 1) (by omega) (by omega)
          omega) (by
        intro i j hij hj
        by_cases c : i < i0
        · by_cases c' : j < i0
          · simp only [c, c', if_true]; exact hd i j hij (by omega)
          · simp only [c, c', if_true, if_false]; exact hd i (j + 1) (by omega) (by omega)
        · have c' : ¬ j < i0 := by omega
          simp only [c, c', if_false]; exact hd (i + 1) (j + 1) (by omega) (by omega))
      omega
    · have := ih n f (by
        intro i hi
        have h1 := h i hi
        have h2 : f i ≠ K := fun e => he ⟨i, hi, e⟩
        omega) hd
      omega

theorem xi_take {xs : List Int} {i k : Nat} (h : i < k) : xi (xs.take k) i = xi xs i := by
  simp only [xi, List.getD_eq_getElem?_getD]; rw [List.getElem?_take_of_lt h]
theorem take_snoc {xs : List Int} {k : Nat} (h : k < xs.length) : xs.take k ++ [xi xs k] = xs.take (k + 1) := by
  rw [List.take_succ_eq_append_getElem h]
  simp [xi, List.getD_eq_getElem?_getD, h]
theorem len_take {xs : List Int} {k : Nat} (h : k ≤ xs.length) : (xs.take k).length = k := by simp; omega
theorem last_take {xs : List Int} {k : Nat} (h0 : 0 < k) (h : k ≤ xs.length) : lastI (xs.take k) = xi xs (k - 1) := by
  rw [lastI, len_take h, xi_take (by omega)]

theorem step_knot {K ts xs i} (h : stepB K ts xs i = true) : 0 ≤ xi xs i ∧ xi xs i < K := by
  simp only [stepB, Bool.and_eq_true, knotB, decide_eq_true_eq] at h; exact h.1.1
theorem step_new {K ts xs i} (h : stepB K ts xs i = true) : ∀ j, j < i → i ≤ xs.length → xi xs j ≠ xi xs i := by
  intro j hj hi e
  simp only [stepB, Bool.and_eq_true, Bool.not_eq_true'] at h
  have := inI_at (xs := xs.take i) (k := xi xs i) (i := j) (by rw [len_take hi]; exact hj) (by rw [xi_take hj, e])
  rw [this] at h; exact absurd h.1.2 (by simp)
theorem steps_short {K ts xs} {k : Nat} (hK : K ≤ 8) (hk : k ≤ xs.length) (h : StepsTo K ts xs k) : k ≤ 8 := by
  refine pigeon 8 k (fun i => (xi xs i).toNat) ?_ ?_
  · intro i hi; have := step_knot (h i hi); show (xi xs i).toNat < 8; omega
  · intro i j hij hj
    have a := step_knot (h i (by omega))
    have b := step_knot (h j hj)
    have c := step_new (h j hj) i hij (by omega)
    show (xi xs i).toNat ≠ (xi xs j).toNat
    omega
theorem hasB_knot {K ts a b} (h : hasB K ts a b = true) : (0 ≤ a ∧ a < K) ∧ (0 ≤ b ∧ b < K) := by
  simp only [hasB, Bool.and_eq_true] at h
  obtain ⟨_, _, hg⟩ := okB_iff.1 h.1
  obtain ⟨i, hi, ea, eb⟩ := tiedB_iff.1 h.2
  obtain ⟨h1, h2, h3⟩ := (hg i hi).1
  omega
/-- behind the first place, to go on is to be tied and new -/
theorem can_step {K ts xs} {i : Nat} (hok : okB K ts = true) (h0 : 0 < i) (hi : i < xs.length) : canB (setN K ts) (xs.take i) (xi xs i) = stepB K ts xs i := by
  unfold canB stepB
  rw [last_take h0 (by omega), has_set K ts _ _ hok]
  have e0 : decide (i = 0) = false := by simp; omega
  rw [e0, Bool.false_or]
  cases hh : hasB K ts (xi xs (i - 1)) (xi xs i)
  · simp
  · have := (hasB_knot hh).2
    have hk : knotB (xi xs i) K = true := by simp [knotB, this]
    simp [hk]
theorem step_zero {K ts xs} : stepB K ts xs 0 = knotB (xi xs 0) K := by
  have : inI (xs.take 0) (xi xs 0) = false := inI_none (fun i hi => absurd hi (by simp))
  unfold stepB; rw [this]; simp

end Go.Proofs.YtloicmngoaccoaaDoor
