/- Plain mathematics of nets: which pairs are tied, and the bits of the set. -/
import Derived.Test.YtccjiampgpgaoaaMath
namespace Go.Proofs.Ytccjiampgpgaoaa

/-- the pair is among the ties -/
def tiedB (ts : List (Int × Int)) (a b : Int) : Bool := (List.range ts.length).any fun i => decide (tA ts i = a) && decide (tB ts i = b)
def hasB (K : Int) (ts : List (Int × Int)) (a b : Int) : Bool := okB K ts && tiedB ts (min a b) (max a b)
/-- the bit of two knots, in either order; none of what is no pair -/
def pbit (a b : Int) : Nat := if min a b < 0 ∨ min a b = max a b ∨ 8 ≤ max a b then 0 else pb (min a b) (max a b)

theorem tiedB_iff {ts a b} : tiedB ts a b = true ↔ ∃ i, i < ts.length ∧ tA ts i = a ∧ tB ts i = b := by
  unfold tiedB
  simp only [List.any_eq_true, List.mem_range, Bool.and_eq_true, decide_eq_true_eq]

theorem mask_bit (ts : List (Int × Int)) (j : Nat) : ∀ k, (maskN ts k).testBit j = true ↔ ∃ i, i < k ∧ idx (tA ts i) (tB ts i) = j := by
  intro k
  induction k with
  | zero => simp [maskN]
  | succ k ih =>
    simp only [maskN, Nat.testBit_or, Bool.or_eq_true, ih, pb, Nat.testBit_two_pow, decide_eq_true_eq]
    constructor
    · rintro (⟨i, h, e⟩ | e)
      · exact ⟨i, by omega, e⟩
      · exact ⟨k, by omega, e⟩
    · rintro ⟨i, h, e⟩
      by_cases hik : i = k
      · subst hik; exact Or.inr e
      · exact Or.inl ⟨i, by omega, e⟩

theorem idx_inj {a b c d : Int} (h0 : 0 ≤ a) (h1 : a < b) (h2 : b < 8) (g0 : 0 ≤ c) (g1 : c < d) (g2 : d < 8) (e : idx a b = idx c d) : a = c ∧ b = d := by
  unfold idx at e; omega

theorem and_pow (x j : Nat) : (x &&& 2 ^ j = 0) ↔ x.testBit j = false := by
  constructor
  · intro h
    have := congrArg (fun y => y.testBit j) h
    simpa [Nat.testBit_and, Nat.testBit_two_pow] using this
  · intro h
    apply Nat.eq_of_testBit_eq
    intro i
    rw [Nat.testBit_and, Nat.testBit_two_pow, Nat.zero_testBit]
    by_cases e : j = i
    · subst e; simp [h]
    · simp [e]

/-- the bit of two knots is in the set just if they are tied -/
theorem has_bits (K : Int) (ts : List (Int × Int)) (a b : Int) (h : NetOk K ts) : (maskN ts ts.length &&& pbit a b = 0) ↔ tiedB ts (min a b) (max a b) = false := by
  obtain ⟨hK0, hK8, hg⟩ := h
  unfold pbit
  by_cases hb : min a b < 0 ∨ min a b = max a b ∨ 8 ≤ max a b
  · rw [if_pos hb, ← Bool.not_eq_true, tiedB_iff]
    simp only [Nat.and_zero, true_iff]
    rintro ⟨i, hi, ea, eb⟩
    obtain ⟨g1, g2, g3⟩ := (hg i hi).1
    omega
  · rw [if_neg hb, ← Bool.not_eq_true, tiedB_iff]
    unfold pb
    rw [and_pow, ← Bool.not_eq_true, mask_bit]
    refine not_congr ⟨?_, ?_⟩
    · rintro ⟨i, hi, e⟩
      obtain ⟨g1, g2, g3⟩ := (hg i hi).1
      have := idx_inj g1 g2 (by omega) (by omega) (by omega) (by omega) e
      exact ⟨i, hi, this.1, this.2⟩
    · rintro ⟨i, hi, ea, eb⟩
      exact ⟨i, hi, by rw [ea, eb]⟩

theorem hasB_no {K ts a b} (h : okB K ts = false) : hasB K ts a b = false := by simp [hasB, h]
theorem hasB_ok {K ts a b} (h : okB K ts = true) : hasB K ts a b = tiedB ts (min a b) (max a b) := by simp [hasB, h]
theorem pbit_lt (a b : Int) : pbit a b < 2 ^ 64 := by
  unfold pbit
  split
  · exact Nat.two_pow_pos _
  · unfold pb; exact Nat.pow_lt_pow_right (by omega) (by unfold idx; omega)
theorem setN_lt (K : Int) (ts : List (Int × Int)) : setN K ts < 2 ^ 64 := by
  unfold setN
  split
  · rename_i h
    obtain ⟨_, hK, hg⟩ := okB_iff.1 h
    exact (mask_bounds hK _ hg).2.2
  · exact Nat.two_pow_pos _
theorem has_set (K : Int) (ts : List (Int × Int)) (a b : Int) (h : okB K ts = true) : (decide (setN K ts &&& pbit a b ≠ 0)) = hasB K ts a b := by
  rw [hasB_ok h, setN_yes h]
  have := has_bits K ts a b (okB_iff.1 h)
  cases ht : tiedB ts (min a b) (max a b)
  · rw [ht] at this; simp [this.2 rfl]
  · rw [ht] at this; simp at this; simp [this]
/-- the pair at place i is that of a and b: as the model asks it -/
def samePair (ts : List (Int × Int)) (a b : Int) (i : Nat) : Bool := decide (tA ts i = min a b) && decide (tB ts i = max a b)
theorem tied_at {ts : List (Int × Int)} {a b : Int} {i : Nat} (h : i < ts.length) (e : samePair ts a b i = true) : tiedB ts (min a b) (max a b) = true := by
  simp only [samePair, Bool.and_eq_true, decide_eq_true_eq] at e
  exact tiedB_iff.2 ⟨i, h, e.1, e.2⟩
theorem tied_none {ts : List (Int × Int)} {a b : Int} (h : ∀ i, i < ts.length → samePair ts a b i = false) : tiedB ts (min a b) (max a b) = false := by
  rw [← Bool.not_eq_true, tiedB_iff]
  rintro ⟨i, hi, ea, eb⟩
  have := h i hi
  simp [samePair, ea, eb] at this

end Go.Proofs.Ytccjiampgpgaoaa
