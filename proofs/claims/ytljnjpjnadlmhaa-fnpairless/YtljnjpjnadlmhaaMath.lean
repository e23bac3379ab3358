/- Plain mathematics of nets: ties by their places, what is ok, and the set of bits of pairs. No program stands here. -/
import Derived.Test.YtljnjpjnadlmhaaRows
namespace Go.Proofs.Ytljnjpjnadlmhaa

def tA (ts : List (Int × Int)) (i : Nat) : Int := (ts.getD i (0, 0)).1
def tB (ts : List (Int × Int)) (i : Nat) : Int := (ts.getD i (0, 0)).2
def lessB (a b c d : Int) : Bool := decide (a < c) || (decide (a = c) && decide (b < d))
def inB (n lo hi : Int) : Bool := decide (lo ≤ n) && decide (n ≤ hi)
def knotB (k K : Int) : Bool := decide (0 ≤ k) && decide (k < K)
def idx (a b : Int) : Nat := (a * 8 + b).toNat
def pb (a b : Int) : Nat := 2 ^ idx a b
def TieOk (K a b : Int) : Prop := 0 ≤ a ∧ a < b ∧ b < K
def GoodAt (K : Int) (ts : List (Int × Int)) (i : Nat) : Prop := TieOk K (tA ts i) (tB ts i) ∧ (0 < i → lessB (tA ts (i - 1)) (tB ts (i - 1)) (tA ts i) (tB ts i) = true)
def GoodTo (K : Int) (ts : List (Int × Int)) (k : Nat) : Prop := ∀ i, i < k → GoodAt K ts i
def NetOk (K : Int) (ts : List (Int × Int)) : Prop := 0 ≤ K ∧ K ≤ 8 ∧ GoodTo K ts ts.length
def tieOkB (K a b : Int) : Bool := decide (0 ≤ a) && decide (a < b) && decide (b < K)
def goodB (K : Int) (ts : List (Int × Int)) (i : Nat) : Bool := tieOkB K (tA ts i) (tB ts i) && (decide (i = 0) || lessB (tA ts (i - 1)) (tB ts (i - 1)) (tA ts i) (tB ts i))
def okB (K : Int) (ts : List (Int × Int)) : Bool := decide (0 ≤ K) && decide (K ≤ 8) && (List.range ts.length).all (goodB K ts)
def maskN (ts : List (Int × Int)) : Nat → Nat
  | 0 => 0
  | k + 1 => maskN ts k ||| pb (tA ts k) (tB ts k)

theorem goodB_iff {K ts i} : goodB K ts i = true ↔ GoodAt K ts i := by
  unfold goodB GoodAt TieOk tieOkB
  simp only [Bool.and_eq_true, decide_eq_true_eq, Bool.or_eq_true]
  constructor
  · rintro ⟨⟨⟨a, b⟩, c⟩, d⟩
    exact ⟨⟨a, b, c⟩, fun h => d.resolve_left (by omega)⟩
  · rintro ⟨⟨a, b, c⟩, d⟩
    refine ⟨⟨⟨a, b⟩, c⟩, ?_⟩
    by_cases h : i = 0
    · exact Or.inl h
    · exact Or.inr (d (by omega))
theorem okB_iff {K ts} : okB K ts = true ↔ NetOk K ts := by
  unfold okB NetOk GoodTo
  simp only [Bool.and_eq_true, decide_eq_true_eq, List.all_eq_true, List.mem_range, goodB_iff, and_assoc]
/-- the set of a net's ties; none of one that is not ok -/
def setN (K : Int) (ts : List (Int × Int)) : Nat := if okB K ts = true then maskN ts ts.length else 0
theorem setN_yes {K ts} (h : okB K ts = true) : setN K ts = maskN ts ts.length := by simp [setN, h]
theorem setN_no {K ts} (h : okB K ts = false) : setN K ts = 0 := by simp [setN, h]
theorem okB_yes {K ts} (h : NetOk K ts) : okB K ts = true := okB_iff.2 h
theorem okB_no {K ts} (h : ¬ NetOk K ts) : okB K ts = false := by rw [← Bool.not_eq_true, okB_iff]; exact h

theorem lessB_iff (a b c d : Int) : lessB a b c d = true ↔ a < c ∨ (a = c ∧ b < d) := by simp [lessB]

theorem idx_lt {K a b : Int} (h : TieOk K a b) (hK : K ≤ 8) : idx a b < 64 := by
  obtain ⟨h1, h2, h3⟩ := h; unfold idx; omega
theorem idx_less {K a b c d : Int} (h : TieOk K a b) (g : TieOk K c d) (hK : K ≤ 8) : lessB a b c d = true ↔ idx a b < idx c d := by
  rw [lessB_iff]; obtain ⟨h1, h2, h3⟩ := h; obtain ⟨g1, g2, g3⟩ := g; unfold idx; omega

/-- what the bits of the first k ties come to: below the next power of the last one's bit, and not below that bit -/
theorem mask_bounds {K : Int} {ts : List (Int × Int)} (hK : K ≤ 8) : ∀ k, GoodTo K ts k → (0 < k → 2 ^ idx (tA ts (k - 1)) (tB ts (k - 1)) ≤ maskN ts k) ∧ (0 < k → maskN ts k < 2 ^ (idx (tA ts (k - 1)) (tB ts (k - 1)) + 1)) ∧ maskN ts k < 2 ^ 64 := by
  intro k
  induction k with
  | zero => intro _; exact ⟨fun h => absurd h (by omega), fun h => absurd h (by omega), by simp [maskN]⟩
  | succ k ih =>
    intro hg
    have hgk : GoodTo K ts k := fun i hi => hg i (by omega)
    obtain ⟨i1, i2, i3⟩ := ih hgk
    have gk := hg k (by omega)
    have l64 := idx_lt gk.1 hK
    have hlow : 2 ^ idx (tA ts k) (tB ts k) ≤ maskN ts (k + 1) := by
      simp only [maskN, pb]; exact Nat.right_le_or
    have hup : maskN ts (k + 1) < 2 ^ (idx (tA ts k) (tB ts k) + 1) := by
      simp only [maskN, pb]
      apply Nat.or_lt_two_pow
      · by_cases hk : k = 0
        · subst hk; simp [maskN]; exact Nat.two_pow_pos _
        · have hl := (idx_less (hg (k - 1) (by omega)).1 gk.1 hK).1 (gk.2 (by omega))
          have := i2 (by omega)
          exact Nat.lt_of_lt_of_le this (Nat.pow_le_pow_right (by omega) (by omega))
      · exact Nat.pow_lt_pow_right (by omega) (by omega)
    refine ⟨fun _ => by simpa using hlow, fun _ => by simpa using hup, ?_⟩
    exact Nat.lt_of_lt_of_le hup (Nat.pow_le_pow_right (by omega) (by omega))

/-- the bit of the next tie is above all bits that are set just if the tie stands behind the last one -/
theorem bit_above {K : Int} {ts : List (Int × Int)} (hK : K ≤ 8) {k : Nat} (hg : GoodTo K ts k) (ht : TieOk K (tA ts k) (tB ts k)) :
    GoodAt K ts k ↔ maskN ts k < pb (tA ts k) (tB ts k) := by
  obtain ⟨m1, m2, _⟩ := mask_bounds hK k hg
  unfold pb
  constructor
  · intro h
    by_cases hk : k = 0
    · subst hk; simp [maskN]; exact Nat.two_pow_pos _
    · have hl := (idx_less (hg (k - 1) (by omega)).1 ht hK).1 (h.2 (by omega))
      exact Nat.lt_of_lt_of_le (m2 (by omega)) (Nat.pow_le_pow_right (by omega) (by omega))
  · intro h
    refine ⟨ht, fun hk => ?_⟩
    rw [idx_less (hg (k - 1) (by omega)).1 ht hK]
    have h1 := m1 hk
    by_cases hc : idx (tA ts (k - 1)) (tB ts (k - 1)) < idx (tA ts k) (tB ts k)
    · exact hc
    · have := Nat.pow_le_pow_right (n := 2) (by omega) (Nat.le_of_not_lt hc)
      omega

theorem idx_grows {K : Int} {ts : List (Int × Int)} (hK : K ≤ 8) : ∀ k, GoodTo K ts (k + 1) → k ≤ idx (tA ts k) (tB ts k) := by
  intro k
  induction k with
  | zero => intro _; omega
  | succ k ih =>
    intro hg
    have h1 := ih (fun i hi => hg i (by omega))
    have := (idx_less (hg k (by omega)).1 (hg (k + 1) (by omega)).1 hK).1 ((hg (k + 1) (by omega)).2 (by omega))
    omega

theorem ok_short {K : Int} {ts : List (Int × Int)} (h : NetOk K ts) : ts.length ≤ 64 := by
  obtain ⟨_, hK, hg⟩ := h
  by_cases h0 : ts.length = 0
  · omega
  · have e : ts.length - 1 + 1 = ts.length := by omega
    have h1 := idx_grows hK (ts.length - 1) (by rw [e]; exact hg)
    have h2 := idx_lt (hg (ts.length - 1) (by omega)).1 hK
    omega

theorem good_snoc {K : Int} {ts : List (Int × Int)} {k : Nat} (h : GoodTo K ts k) (g : GoodAt K ts k) : GoodTo K ts (k + 1) := by
  intro i hi
  by_cases hik : i = k
  · subst hik; exact g
  · exact h i (by omega)

theorem not_ok_at {K : Int} {ts : List (Int × Int)} {k : Nat} (hk : k < ts.length) (h : ¬ GoodAt K ts k) : okB K ts = false := okB_no (fun ⟨_, _, g⟩ => h (g k hk))
theorem not_ok_tie {K : Int} {ts : List (Int × Int)} {k : Nat} (hk : k < ts.length) (h : ¬ TieOk K (tA ts k) (tB ts k)) : okB K ts = false := not_ok_at hk (fun g => h g.1)
theorem not_ok_knots {K : Int} {ts : List (Int × Int)} (h : K < 0 ∨ 8 < K) : okB K ts = false := okB_no (fun ⟨a, b, _⟩ => by omega)
theorem not_ok_long {K : Int} {ts : List (Int × Int)} (h : 64 < ts.length) : okB K ts = false := okB_no (fun g => by have := ok_short g; omega)
theorem ok_end {K : Int} {ts : List (Int × Int)} (h0 : 0 ≤ K) (h8 : K ≤ 8) (h : GoodTo K ts ts.length) : okB K ts = true := okB_yes ⟨h0, h8, h⟩
/-- the pair is among the ties -/
def tiedB (ts : List (Int × Int)) (a b : Int) : Bool := (List.range ts.length).any fun i => decide (tA ts i = a) && decide (tB ts i = b)
def hasB (K : Int) (ts : List (Int × Int)) (a b : Int) : Bool := okB K ts && tiedB ts (min a b) (max a b)
/-- the bit of two knots, in either order; none of what is no pair -/
def pbit (a b : Int) : Nat := if min a b < 0 ∨ min a b = max a b ∨ 8 ≤ max a b then 0 else pb (min a b) (max a b)

theorem tiedB_iff {ts a b} : tiedB ts a b = true ↔ ∃ i, i < ts.length ∧ tA ts i = a ∧ tB ts i = b := by
  unfold tiedB
  simp only [List.any_eq_true, List.mem_range, Bool.and_eq_true, decide_eq_true_eq]

theorem mask_bit (ts : List (Int × Int)) (j : Nat) : ∀ k, (maskN ts k).testBit j = true ↔ ∃ i, i < k ∧ idx (tA ts i) (tB ts i) = j := by
  intro k
  induction k with
  | zero => simp [maskN]
  | succ k ih =>
    simp only [maskN, Nat.testBit_or, Bool.or_eq_true, ih, pb, Nat.testBit_two_pow, decide_eq_true_eq]
    constructor
    · rintro (⟨i, h, e⟩ | e)
      · exact ⟨i, by omega, e⟩
      · exact ⟨k, by omega, e⟩
    · rintro ⟨i, h, e⟩
      by_cases hik : i = k
      · subst hik; exact Or.inr e
      · exact Or.inl ⟨i, by omega, e⟩

theorem idx_inj {a b c d : Int} (h0 : 0 ≤ a) (h1 : a < b) (h2 : b < 8) (g0 : 0 ≤ c) (g1 : c < d) (g2 : d < 8) (e : idx a b = idx c d) : a = c ∧ b = d := by
  unfold idx at e; omega

theorem and_pow (x j : Nat) : (x &&& 2 ^ j = 0) ↔ x.testBit j = false := by
  constructor
  · intro h
    have := congrArg (fun y => y.testBit j) h
    simpa [Nat.testBit_and, Nat.testBit_two_pow] using this
  · intro h
    apply Nat.eq_of_testBit_eq
    intro i
    rw [Nat.testBit_and, Nat.testBit_two_pow, Nat.zero_testBit]
    by_cases e : j = i
    · subst e; simp [h]
    · simp [e]

/-- the bit of two knots is in the set just if they are tied -/
theorem has_bits (K : Int) (ts : List (Int × Int)) (a b : Int) (h : NetOk K ts) : (maskN ts ts.length &&& pbit a b = 0) ↔ tiedB ts (min a b) (max a b) = false := by
  obtain ⟨hK0, hK8, hg⟩ := h
  unfold pbit
  by_cases hb : min a b < 0 ∨ min a b = max a b ∨ 8 ≤ max a b
  · rw [if_pos hb, ← Bool.not_eq_true, tiedB_iff]
    simp only [Nat.and_zero, true_iff]
    rintro ⟨i, hi, ea, eb⟩
    obtain ⟨g1, g2, g3⟩ := (hg i hi).1
    omega
  · rw [if_neg hb, ← Bool.not_eq_true, tiedB_iff]
    unfold pb
    rw [and_pow, ← Bool.not_eq_true, mask_bit]
    refine not_congr ⟨?_, ?_⟩
    · rintro ⟨i, hi, e⟩
      obtain ⟨g1, g2, g3⟩ := (hg i hi).1
      have := idx_inj g1 g2 (by omega) (by omega) (by omega) (by omega) e
      exact ⟨i, hi, this.1, this.2⟩
    · rintro ⟨i, hi, ea, eb⟩
      exact ⟨i, hi, by rw [ea, eb]⟩

theorem hasB_no {K ts a b} (h : okB K ts = false) : hasB K ts a b = false := by simp [hasB, h]
theorem hasB_ok {K ts a b} (h : okB K ts = true) : hasB K ts a b = tiedB ts (min a b) (max a b) := by simp [hasB, h]
theorem pbit_lt (a b : Int) : pbit a b < 2 ^ 64 := by
  unfold pbit
  split
  · exact Nat.two_pow_pos _
  · unfold pb; exact Nat.pow_lt_pow_right (by omega) (by unfold idx; omega)
theorem setN_lt (K : Int) (ts : List (Int × Int)) : setN K ts < 2 ^ 64 := by
  unfold setN
  split
  · rename_i h
    obtain ⟨_, hK, hg⟩ := okB_iff.1 h
    exact (mask_bounds hK _ hg).2.2
  · exact Nat.two_pow_pos _
theorem has_set (K : Int) (ts : List (Int × Int)) (a b : Int) (h : okB K ts = true) : (decide (setN K ts &&& pbit a b ≠ 0)) = hasB K ts a b := by
  rw [hasB_ok h, setN_yes h]
  have := has_bits K ts a b (okB_iff.1 h)
  cases ht : tiedB ts (min a b) (max a b)
  · rw [ht] at this; simp [this.2 rfl]
  · rw [ht] at this; simp at this; simp [this]
/-- the pair at place i is that of a and b: as the model asks it -/
def samePair (ts : List (Int × Int)) (a b : Int) (i : Nat) : Bool := decide (tA ts i = min a b) && decide (tB ts i = max a b)
theorem tied_at {ts : List (Int × Int)} {a b : Int} {i : Nat} (h : i < ts.length) (e : samePair ts a b i = true) : tiedB ts (min a b) (max a b) = true := by
  simp only [samePair, Bool.and_eq_true, decide_eq_true_eq] at e
  exact tiedB_iff.2 ⟨i, h, e.1, e.2⟩
theorem tied_none {ts : List (Int × Int)} {a b : Int} (h : ∀ i, i < ts.length → samePair ts a b i = false) : tiedB ts (min a b) (max a b) = false := by
  rw [← Bool.not_eq_true, tiedB_iff]
  rintro ⟨i, hi, ea, eb⟩
  have := h i hi
  simp [samePair, ea, eb] at this

end Go.Proofs.Ytljnjpjnadlmhaa
