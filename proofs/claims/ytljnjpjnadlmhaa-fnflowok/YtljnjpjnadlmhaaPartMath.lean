/- Texts put together: Math, Math3, Math5, MathB, MathD. -/
import Derived.Test.YtljnjpjnadlmhaaRows
/- Plain mathematics of nets: ties by their places, what is ok, and the set of bits of pairs. No program stands here. -/
namespace Go.Proofs.Ytljnjpjnadlmhaa

def tA (ts : List (Int × Int)) (i : Nat) : Int := (ts.getD i (0, 0)).1
def tB (ts : List (Int × Int)) (i : Nat) : Int := (ts.getD i (0, 0)).2
def lessB (a b c d : Int) : Bool := decide (a < c) || (decide (a = c) && decide (b < d))
def inB (n lo hi : Int) : Bool := decide (lo ≤ n) && decide (n ≤ hi)
def knotB (k K : Int) : Bool := decide (0 ≤ k) && decide (k < K)
def idx (a b : Int) : Nat := (a * 8 + b).toNat
def pb (a b : Int) : Nat := 2 ^ idx a b
def TieOk (K a b : Int) : Prop := 0 ≤ a ∧ a < b ∧ b < K
def GoodAt (K : Int) (ts : List (Int × Int)) (i : Nat) : Prop := TieOk K (tA ts i) (tB ts i) ∧ (0 < i → lessB (tA ts (i - 1)) (tB ts (i - 1)) (tA ts i) (tB ts i) = true)
def GoodTo (K : Int) (ts : List (Int × Int)) (k : Nat) : Prop := ∀ i, i < k → GoodAt K ts i
def NetOk (K : Int) (ts : List (Int × Int)) : Prop := 0 ≤ K ∧ K ≤ 8 ∧ GoodTo K ts ts.length
def tieOkB (K a b : Int) : Bool := decide (0 ≤ a) && decide (a < b) && decide (b < K)
def goodB (K : Int) (ts : List (Int × Int)) (i : Nat) : Bool := tieOkB K (tA ts i) (tB ts i) && (decide (i = 0) || lessB (tA ts (i - 1)) (tB ts (i - 1)) (tA ts i) (tB ts i))
def okB (K : Int) (ts : List (Int × Int)) : Bool := decide (0 ≤ K) && decide (K ≤ 8) && (List.range ts.length).all (goodB K ts)
def maskN (ts : List (Int × Int)) : Nat → Nat
  | 0 => 0
  | k + 1 => maskN ts k ||| pb (tA ts k) (tB ts k)

theorem goodB_iff {K ts i} : goodB K ts i = true ↔ GoodAt K ts i := by
  unfold goodB GoodAt TieOk tieOkB
  simp only [Bool.and_eq_true, decide_eq_true_eq, Bool.or_eq_true]
  constructor
  · rintro ⟨⟨⟨a, b⟩, c⟩, d⟩
    exact ⟨⟨a, b, c⟩, fun h => d.resolve_left (by omega)⟩
  · rintro ⟨⟨a, b, c⟩, d⟩
    refine ⟨⟨⟨a, b⟩, c⟩, ?_⟩
    by_cases h : i = 0
    · exact Or.inl h
    · exact Or.inr (d (by omega))
theorem okB_iff {K ts} : okB K ts = true ↔ NetOk K ts := by
  unfold okB NetOk GoodTo
  simp only [Bool.and_eq_true, decide_eq_true_eq, List.all_eq_true, List.mem_range, goodB_iff, and_assoc]
/-- the set of a net's ties; none of one that is not ok -/
def setN (K : Int) (ts : List (Int × Int)) : Nat := if okB K ts = true then maskN ts ts.length else 0
theorem setN_yes {K ts} (h : okB K ts = true) : setN K ts = maskN ts ts.length := by simp [setN, h]
theorem setN_no {K ts} (h : okB K ts = false) : setN K ts = 0 := by simp [setN, h]
theorem okB_yes {K ts} (h : NetOk K ts) : okB K ts = true := okB_iff.2 h
theorem okB_no {K ts} (h : ¬ NetOk K ts) : okB K ts = false := by rw [← Bool.not_eq_true, okB_iff]; exact h

theorem lessB_iff (a b c d : Int) : lessB a b c d = true ↔ a < c ∨ (a = c ∧ b < d) := by simp [lessB]

theorem idx_lt {K a b : Int} (h : TieOk K a b) (hK : K ≤ 8) : idx a b < 64 := by
  obtain ⟨h1, h2, h3⟩ := h; unfold idx; omega
theorem idx_less {K a b c d : Int} (h : TieOk K a b) (g : TieOk K c d) (hK : K ≤ 8) : lessB a b c d = true ↔ idx a b < idx c d := by
  rw [lessB_iff]; obtain ⟨h1, h2, h3⟩ := h; obtain ⟨g1, g2, g3⟩ := g; unfold idx; omega

/-- what the bits of the first k ties come to: below the next power of the last one's bit, and not below that bit -/
theorem mask_bounds {K : Int} {ts : List (Int × Int)} (hK : K ≤ 8) : ∀ k, GoodTo K ts k → (0 < k → 2 ^ idx (tA ts (k - 1)) (tB ts (k - 1)) ≤ maskN ts k) ∧ (0 < k → maskN ts k < 2 ^ (idx (tA ts (k - 1)) (tB ts (k - 1)) + 1)) ∧ maskN ts k < 2 ^ 64 := by
  intro k
  induction k with
  | zero => intro _; exact ⟨fun h => absurd h (by omega), fun h => absurd h (by omega), by simp [maskN]⟩
  | succ k ih =>
    intro hg
    have hgk : GoodTo K ts k := fun i hi => hg i (by omega)
    obtain ⟨i1, i2, i3⟩ := ih hgk
    have gk := hg k (by omega)
    have l64 := idx_lt gk.1 hK
    have hlow : 2 ^ idx (tA ts k) (tB ts k) ≤ maskN ts (k + 1) := by
      simp only [maskN, pb]; exact Nat.right_le_or
    have hup : maskN ts (k + 1) < 2 ^ (idx (tA ts k) (tB ts k) + 1) := by
      simp only [maskN, pb]
      apply Nat.or_lt_two_pow
      · by_cases hk : k = 0
        · subst hk; simp [maskN]; exact Nat.two_pow_pos _
        · have hl := (idx_less (hg (k - 1) (by omega)).1 gk.1 hK).1 (gk.2 (by omega))
          have := i2 (by omega)
          exact Nat.lt_of_lt_of_le this (Nat.pow_le_pow_right (by omega) (by omega))
      · exact Nat.pow_lt_pow_right (by omega) (by omega)
    refine ⟨fun _ => by simpa using hlow, fun _ => by simpa using hup, ?_⟩
    exact Nat.lt_of_lt_of_le hup (Nat.pow_le_pow_right (by omega) (by omega))

/-- the bit of the next tie is above all bits that are set just if the tie stands behind the last one -/
theorem bit_above {K : Int} {ts : List (Int × Int)} (hK : K ≤ 8) {k : Nat} (hg : GoodTo K ts k) (ht : TieOk K (tA ts k) (tB ts k)) :
    GoodAt K ts k ↔ maskN ts k < pb (tA ts k) (tB ts k) := by
  obtain ⟨m1, m2, _⟩ := mask_bounds hK k hg
  unfold pb
  constructor
  · intro h
    by_cases hk : k = 0
    · subst hk; simp [maskN]; exact Nat.two_pow_pos _
    · have hl := (idx_less (hg (k - 1) (by omega)).1 ht hK).1 (h.2 (by omega))
      exact Nat.lt_of_lt_of_le (m2 (by omega)) (Nat.pow_le_pow_right (by omega) (by omega))
  · intro h
    refine ⟨ht, fun hk => ?_⟩
    rw [idx_less (hg (k - 1) (by omega)).1 ht hK]
    have h1 := m1 hk
    by_cases hc : idx (tA ts (k - 1)) (tB ts (k - 1)) < idx (tA ts k) (tB ts k)
    · exact hc
    · have := Nat.pow_le_pow_right (n := 2) (by omega) (Nat.le_of_not_lt hc)
      omega

theorem idx_grows {K : Int} {ts : List (Int × Int)} (hK : K ≤ 8) : ∀ k, GoodTo K ts (k + 1) → k ≤ idx (tA ts k) (tB ts k) := by
  intro k
  induction k with
  | zero => intro _; omega
  | succ k ih =>
    intro hg
    have h1 := ih (fun i hi => hg i (by omega))
    have := (idx_less (hg k (by omega)).1 (hg (k + 1) (by omega)).1 hK).1 ((hg (k + 1) (by omega)).2 (by omega))
    omega

theorem ok_short {K : Int} {ts : List (Int × Int)} (h : NetOk K ts) : ts.length ≤ 64 := by
  obtain ⟨_, hK, hg⟩ := h
  by_cases h0 : ts.length = 0
  · omega
  · have e : ts.length - 1 + 1 = ts.length := by omega
    have h1 := idx_grows hK (ts.length - 1) (by rw [e]; exact hg)
    have h2 := idx_lt (hg (ts.length - 1) (by omega)).1 hK
    omega

theorem good_snoc {K : Int} {ts : List (Int × Int)} {k : Nat} (h : GoodTo K ts k) (g : GoodAt K ts k) : GoodTo K ts (k + 1) := by
  intro i hi
  by_cases hik : i = k
  · subst hik; exact g
  · exact h i (by omega)

theorem not_ok_at {K : Int} {ts : List (Int × Int)} {k : Nat} (hk : k < ts.length) (h : ¬ GoodAt K ts k) : okB K ts = false := okB_no (fun ⟨_, _, g⟩ => h (g k hk))
theorem not_ok_tie {K : Int} {ts : List (Int × Int)} {k : Nat} (hk : k < ts.length) (h : ¬ TieOk K (tA ts k) (tB ts k)) : okB K ts = false := not_ok_at hk (fun g => h g.1)
theorem not_ok_knots {K : Int} {ts : List (Int × Int)} (h : K < 0 ∨ 8 < K) : okB K ts = false := okB_no (fun ⟨a, b, _⟩ => by omega)
theorem not_ok_long {K : Int} {ts : List (Int × Int)} (h : 64 < ts.length) : okB K ts = false := okB_no (fun g => by have := ok_short g; omega)
theorem ok_end {K : Int} {ts : List (Int × Int)} (h0 : 0 ≤ K) (h8 : K ≤ 8) (h : GoodTo K ts ts.length) : okB K ts = true := okB_yes ⟨h0, h8, h⟩
/-- the pair is among the ties -/
def tiedB (ts : List (Int × Int)) (a b : Int) : Bool := (List.range ts.length).any fun i => decide (tA ts i = a) && decide (tB ts i = b)
def hasB (K : Int) (ts : List (Int × Int)) (a b : Int) : Bool := okB K ts && tiedB ts (min a b) (max a b)
/-- the bit of two knots, in either order; none of what is no pair -/
def pbit (a b : Int) : Nat := if min a b < 0 ∨ min a b = max a b ∨ 8 ≤ max a b then 0 else pb (min a b) (max a b)

theorem tiedB_iff {ts a b} : tiedB ts a b = true ↔ ∃ i, i < ts.length ∧ tA ts i = a ∧ tB ts i = b := by
  unfold tiedB
  simp only [List.any_eq_true, List.mem_range, Bool.and_eq_true, decide_eq_true_eq]

theorem mask_bit (ts : List (Int × Int)) (j : Nat) : ∀ k, (maskN ts k).testBit j = true ↔ ∃ i, i < k ∧ idx (tA ts i) (tB ts i) = j := by
  intro k
  induction k with
  | zero => simp [maskN]
  | succ k ih =>
    simp only [maskN, Nat.testBit_or, Bool.or_eq_true, ih, pb, Nat.testBit_two_pow, decide_eq_true_eq]
    constructor
    · rintro (⟨i, h, e⟩ | e)
      · exact ⟨i, by omega, e⟩
      · exact ⟨k, by omega, e⟩
    · rintro ⟨i, h, e⟩
      by_cases hik : i = k
      · subst hik; exact Or.inr e
      · exact Or.inl ⟨i, by omega, e⟩

theorem idx_inj {a b c d : Int} (h0 : 0 ≤ a) (h1 : a < b) (h2 : b < 8) (g0 : 0 ≤ c) (g1 : c < d) (g2 : d < 8) (e : idx a b = idx c d) : a = c ∧ b = d := by
  unfold idx at e; omega

theorem and_pow (x j : Nat) : (x &&& 2 ^ j = 0) ↔ x.testBit j = false := by
  constructor
  · intro h
    have := congrArg (fun y => y.testBit j) h
    simpa [Nat.testBit_and, Nat.testBit_two_pow] using this
  · intro h
    apply Nat.eq_of_testBit_eq
    intro i
    rw [Nat.testBit_and, Nat.testBit_two_pow, Nat.zero_testBit]
    by_cases e : j = i
    · subst e; simp [h]
    · simp [e]

/-- the bit of two knots is in the set just if they are tied -/
theorem has_bits (K : Int) (ts : List (Int × Int)) (a b : Int) (h : NetOk K ts) : (maskN ts ts.length &&& pbit a b = 0) ↔ tiedB ts (min a b) (max a b) = false := by
  obtain ⟨hK0, hK8, hg⟩ := h
  unfold pbit
  by_cases hb : min a b < 0 ∨ min a b = max a b ∨ 8 ≤ max a b
  · rw [if_pos hb, ← Bool.not_eq_true, tiedB_iff]
    simp only [Nat.and_zero, true_iff]
    rintro ⟨i, hi, ea, eb⟩
    obtain ⟨g1, g2, g3⟩ := (hg i hi).1
    omega
  · rw [if_neg hb, ← Bool.not_eq_true, tiedB_iff]
    unfold pb
    rw [and_pow, ← Bool.not_eq_true, mask_bit]
    refine not_congr ⟨?_, ?_⟩
    · rintro ⟨i, hi, e⟩
      obtain ⟨g1, g2, g3⟩ := (hg i hi).1
      have := idx_inj g1 g2 (by omega) (by omega) (by omega) (by omega) e
      exact ⟨i, hi, this.1, this.2⟩
    · rintro ⟨i, hi, ea, eb⟩
      exact ⟨i, hi, by rw [ea, eb]⟩

theorem hasB_no {K ts a b} (h : okB K ts = false) : hasB K ts a b = false := by simp [hasB, h]
theorem hasB_ok {K ts a b} (h : okB K ts = true) : hasB K ts a b = tiedB ts (min a b) (max a b) := by simp [hasB, h]
theorem pbit_lt (a b : Int) : pbit a b < 2 ^ 64 := by
  unfold pbit
  split
  · exact Nat.two_pow_pos _
  · unfold pb; exact Nat.pow_lt_pow_right (by omega) (by unfold idx; omega)
theorem setN_lt (K : Int) (ts : List (Int × Int)) : setN K ts < 2 ^ 64 := by
  unfold setN
  split
  · rename_i h
    obtain ⟨_, hK, hg⟩ := okB_iff.1 h
    exact (mask_bounds hK _ hg).2.2
  · exact Nat.two_pow_pos _
theorem has_set (K : Int) (ts : List (Int × Int)) (a b : Int) (h : okB K ts = true) : (decide (setN K ts &&& pbit a b ≠ 0)) = hasB K ts a b := by
  rw [hasB_ok h, setN_yes h]
  have := has_bits K ts a b (okB_iff.1 h)
  cases ht : tiedB ts (min a b) (max a b)
  · rw [ht] at this; simp [this.2 rfl]
  · rw [ht] at this; simp at this; simp [this]
/-- the pair at place i is that of a and b: as the model asks it -/
def samePair (ts : List (Int × Int)) (a b : Int) (i : Nat) : Bool := decide (tA ts i = min a b) && decide (tB ts i = max a b)
theorem tied_at {ts : List (Int × Int)} {a b : Int} {i : Nat} (h : i < ts.length) (e : samePair ts a b i = true) : tiedB ts (min a b) (max a b) = true := by
  simp only [samePair, Bool.and_eq_true, decide_eq_true_eq] at e
  exact tiedB_iff.2 ⟨i, h, e.1, e.2⟩
theorem tied_none {ts : List (Int × Int)} {a b : Int} (h : ∀ i, i < ts.length → samePair ts a b i = false) : tiedB ts (min a b) (max a b) = false := by
  rw [← Bool.not_eq_true, tiedB_iff]
  rintro ⟨i, hi, ea, eb⟩
  have := h i hi
  simp [samePair, ea, eb] at this

end Go.Proofs.Ytljnjpjnadlmhaa

/- Plain mathematics of nets: ties as a list in order; inserting and striking ties; the bits of such lists. -/
namespace Go.Proofs.Ytljnjpjnadlmhaa

def ix (t : Int × Int) : Nat := idx t.1 t.2
/-- ties of a net of K knots, in order, each once -/
def Srt (K : Int) (ts : List (Int × Int)) : Prop := (∀ t, t ∈ ts → TieOk K t.1 t.2) ∧ ts.Pairwise fun a b => ix a < ix b

theorem tA_get (ts : List (Int × Int)) (i : Nat) (h : i < ts.length) : tA ts i = ts[i].1 := by simp [tA, h]
theorem tB_get (ts : List (Int × Int)) (i : Nat) (h : i < ts.length) : tB ts i = ts[i].2 := by simp [tB, h]
theorem ix_get (ts : List (Int × Int)) (i : Nat) (h : i < ts.length) : idx (tA ts i) (tB ts i) = ix ts[i] := by rw [tA_get ts i h, tB_get ts i h]; rfl

theorem Srt.good {K : Int} {ts : List (Int × Int)} (hK : K ≤ 8) (h : Srt K ts) : GoodTo K ts ts.length := by
  intro i hi
  have t1 : TieOk K (tA ts i) (tB ts i) := by rw [tA_get ts i hi, tB_get ts i hi]; exact h.1 _ (List.getElem_mem hi)
  refine ⟨t1, fun h0 => ?_⟩
  have hj : i - 1 < ts.length := by omega
  have t2 : TieOk K (tA ts (i - 1)) (tB ts (i - 1)) := by rw [tA_get ts _ hj, tB_get ts _ hj]; exact h.1 _ (List.getElem_mem hj)
  rw [idx_less t2 t1 hK, ix_get ts _ hj, ix_get ts i hi]
  exact List.pairwise_iff_getElem.1 h.2 (i - 1) i hj hi (by omega)

theorem good_lt {K : Int} {ts : List (Int × Int)} (hK : K ≤ 8) (h : GoodTo K ts ts.length) (i : Nat) : ∀ j, i < j → j < ts.length → idx (tA ts i) (tB ts i) < idx (tA ts j) (tB ts j) := by
  intro j
  induction j with
  | zero => intro h0; omega
  | succ j ih =>
    intro hij hj
    have s := (idx_less (h j (by omega)).1 (h (j + 1) hj).1 hK).1 ((h (j + 1) hj).2 (by omega))
    by_cases e : i = j
    · subst e; exact s
    · have := ih (by omega) (by omega); omega

theorem srt_of_good {K : Int} {ts : List (Int × Int)} (hK : K ≤ 8) (h : GoodTo K ts ts.length) : Srt K ts := by
  constructor
  · intro t ht
    obtain ⟨i, hi, e⟩ := List.mem_iff_getElem.1 ht
    have := (h i hi).1
    rw [tA_get ts i hi, tB_get ts i hi, e] at this
    exact this
  · rw [List.pairwise_iff_getElem]
    intro i j hi hj hij
    have := good_lt hK h i j hij hj
    rwa [ix_get ts i hi, ix_get ts j hj] at this

theorem ok_srt {K : Int} {ts : List (Int × Int)} : NetOk K ts ↔ 0 ≤ K ∧ K ≤ 8 ∧ Srt K ts :=
  ⟨fun h => ⟨h.1, h.2.1, srt_of_good h.2.1 h.2.2⟩, fun h => ⟨h.1, h.2.1, h.2.2.good h.2.1⟩⟩

theorem ix_inj {K : Int} (hK : K ≤ 8) {s t : Int × Int} (hs : TieOk K s.1 s.2) (ht : TieOk K t.1 t.2) (e : ix s = ix t) : s = t := by
  obtain ⟨a, b, c⟩ := hs
  obtain ⟨a', b', c'⟩ := ht
  have := idx_inj a b (by omega) a' b' (by omega) e
  exact Prod.ext this.1 this.2
theorem ix_back {K : Int} (hK : K ≤ 8) {t : Int × Int} (ht : TieOk K t.1 t.2) : ((ix t / 8 : Nat) : Int) = t.1 ∧ ((ix t % 8 : Nat) : Int) = t.2 := by
  obtain ⟨a, b, c⟩ := ht
  unfold ix idx; omega
theorem ix_lt {K : Int} (hK : K ≤ 8) {t : Int × Int} (ht : TieOk K t.1 t.2) : ix t < 64 := idx_lt ht hK

theorem mem_get {ts : List (Int × Int)} {j : Nat} : (∃ i, i < ts.length ∧ idx (tA ts i) (tB ts i) = j) ↔ ∃ t, t ∈ ts ∧ ix t = j := by
  constructor
  · rintro ⟨i, hi, e⟩
    exact ⟨ts[i], List.getElem_mem hi, by rw [← ix_get ts i hi]; exact e⟩
  · rintro ⟨t, ht, e⟩
    obtain ⟨i, hi, rfl⟩ := List.mem_iff_getElem.1 ht
    exact ⟨i, hi, by rw [ix_get ts i hi]; exact e⟩

/-- the bits of m are just those of the ties ts -/
def BitsOf (m : Nat) (ts : List (Int × Int)) : Prop := ∀ j, m.testBit j = true ↔ ∃ t, t ∈ ts ∧ ix t = j
theorem mask_bitsOf (ts : List (Int × Int)) : BitsOf (maskN ts ts.length) ts := fun j => by rw [mask_bit, mem_get]

theorem tied_mem {ts : List (Int × Int)} {a b : Int} : tiedB ts a b = true ↔ (a, b) ∈ ts := by
  rw [tiedB_iff]
  constructor
  · rintro ⟨i, hi, ea, eb⟩
    rw [tA_get ts i hi] at ea
    rw [tB_get ts i hi] at eb
    rw [← ea, ← eb]
    exact List.getElem_mem hi
  · intro h
    obtain ⟨i, hi, e⟩ := List.mem_iff_getElem.1 h
    exact ⟨i, hi, by rw [tA_get ts i hi, e], by rw [tB_get ts i hi, e]⟩

/-! inserting -/
def lessT (s t : Int × Int) : Bool := lessB s.1 s.2 t.1 t.2
def ins (t : Int × Int) : List (Int × Int) → List (Int × Int)
  | [] => [t]
  | x :: r => if lessT t x = true then t :: x :: r else x :: ins t r
def insStep (t : Int × Int) (s : List (Int × Int) × Bool) (x : Int × Int) : List (Int × Int) × Bool :=
  if s.2 = false ∧ lessT t x = true then (s.1 ++ [t, x], true) else (s.1 ++ [x], s.2)
def insEnd (t : Int × Int) (s : List (Int × Int) × Bool) : List (Int × Int) := if s.2 = true then s.1 else s.1 ++ [t]
/-- what the model has behind k rounds -/
def insTo (t : Int × Int) (ts : List (Int × Int)) (k : Nat) : List (Int × Int) × Bool := (ts.take k).foldl (insStep t) ([], false)

theorem ins_done (t : Int × Int) : ∀ (r o : List (Int × Int)), r.foldl (insStep t) (o, true) = (o ++ r, true) := by
  intro r
  induction r with
  | nil => intro o; simp
  | cons x r ih => intro o; rw [List.foldl_cons]; simp only [insStep, Bool.true_eq_false, false_and, if_false]; rw [ih]; simp
theorem ins_fold (t : Int × Int) : ∀ (r o : List (Int × Int)), insEnd t (r.foldl (insStep t) (o, false)) = o ++ ins t r := by
  intro r
  induction r with
  | nil => intro o; simp [insEnd, ins]
  | cons x r ih =>
    intro o
    rw [List.foldl_cons]
    by_cases h : lessT t x = true
    · simp only [insStep, h, and_self, if_true, ins]
      rw [ins_done]; simp [insEnd]
    · simp only [insStep, h, and_false, if_false, ins, Bool.false_eq_true]
      rw [ih]; simp
theorem insTo_end (t : Int × Int) (ts : List (Int × Int)) : insEnd t (insTo t ts ts.length) = ins t ts := by
  unfold insTo; rw [List.take_length, ins_fold]; simp
theorem insTo_succ (t : Int × Int) (ts : List (Int × Int)) (k : Nat) (h : k < ts.length) : insTo t ts (k + 1) = insStep t (insTo t ts k) ts[k] := by
  unfold insTo; rw [List.take_succ_eq_append_getElem h, List.foldl_append]; rfl
theorem insTo_len (t : Int × Int) (ts : List (Int × Int)) : ∀ k, k ≤ ts.length → (insTo t ts k).1.length ≤ k + 1 := by
  have hd : ∀ k, k ≤ ts.length → (insTo t ts k).1.length = k + (if (insTo t ts k).2 = true then 1 else 0) := by
    intro k
    induction k with
    | zero => intro _; simp [insTo]
    | succ k ih =>
      intro hk
      have := ih (by omega)
      rw [insTo_succ t ts k (by omega)]
      unfold insStep
      cases hb : (insTo t ts k).2 <;> simp only [hb] at this ⊢
      · by_cases hl : lessT t ts[k] = true
        · simp [hl]; simp at this; omega
        · simp [hl]; simpa using this
      · simp; simp at this; omega
  intro k hk
  rw [hd k hk]; split <;> omega

theorem mem_ins (t x : Int × Int) (ts : List (Int × Int)) : x ∈ ins t ts ↔ x = t ∨ x ∈ ts := by
  induction ts with
  | nil => simp [ins]
  | cons y r ih =>
    unfold ins
    by_cases h : lessT t y = true
    · rw [if_pos h]; simp
    · rw [if_neg h]; simp only [List.mem_cons, ih]
      constructor
      · rintro (a | a | a)
        · exact Or.inr (Or.inl a)
        · exact Or.inl a
        · exact Or.inr (Or.inr a)
      · rintro (a | a | a)
        · exact Or.inr (Or.inl a)
        · exact Or.inl a
        · exact Or.inr (Or.inr a)
theorem ins_length (t : Int × Int) (ts : List (Int × Int)) : (ins t ts).length = ts.length + 1 := by
  induction ts with
  | nil => rfl
  | cons y r ih => unfold ins; split <;> simp [ih]
theorem lessT_iff {K : Int} (hK : K ≤ 8) {s t : Int × Int} (hs : TieOk K s.1 s.2) (ht : TieOk K t.1 t.2) : lessT s t = true ↔ ix s < ix t := idx_less hs ht hK
theorem srt_ins {K : Int} (hK : K ≤ 8) {t : Int × Int} (ht : TieOk K t.1 t.2) {ts : List (Int × Int)} (h : Srt K ts) (hn : t ∉ ts) : Srt K (ins t ts) := by
  refine ⟨fun x hx => ?_, ?_⟩
  · rcases (mem_ins t x ts).1 hx with rfl | e
    · exact ht
    · exact h.1 x e
  · obtain ⟨ha, hp⟩ := h
    induction ts with
    | nil => simp [ins]
    | cons y r ih =>
      have hy := ha y (by simp)
      have hp' := List.pairwise_cons.1 hp
      unfold ins
      by_cases hl : lessT t y = true
      · rw [if_pos hl]
        have hlt := (lessT_iff hK ht hy).1 hl
        refine List.pairwise_cons.2 ⟨fun z hz => ?_, hp⟩
        rcases List.mem_cons.1 hz with rfl | e
        · exact hlt
        · exact Nat.lt_trans hlt (hp'.1 z e)
      · rw [if_neg hl]
        refine List.pairwise_cons.2 ⟨fun z hz => ?_, ih (fun e => hn (by simp [e])) (fun x hx => ha x (by simp [hx])) hp'.2⟩
        rcases (mem_ins t z r).1 hz with rfl | e
        · have h1 : ¬ ix z < ix y := fun h => hl ((lessT_iff hK ht hy).2 h)
          have h2 : ix z ≠ ix y := fun e => hn (by simp [ix_inj hK ht hy e])
          omega
        · exact hp'.1 z e
theorem bits_ins {m : Nat} {ts : List (Int × Int)} (h : BitsOf m ts) (t : Int × Int) : BitsOf (m ||| 2 ^ ix t) (ins t ts) := by
  intro j
  rw [Nat.testBit_or, Bool.or_eq_true, h j, Nat.testBit_two_pow, decide_eq_true_eq]
  constructor
  · rintro (⟨x, hx, e⟩ | e)
    · exact ⟨x, (mem_ins t x ts).2 (Or.inr hx), e⟩
    · exact ⟨t, (mem_ins t t ts).2 (Or.inl rfl), e⟩
  · rintro ⟨x, hx, e⟩
    rcases (mem_ins t x ts).1 hx with rfl | hx'
    · exact Or.inr e
    · exact Or.inl ⟨x, hx', e⟩

/-! striking -/
theorem srt_filter {K : Int} {ts : List (Int × Int)} (h : Srt K ts) (p : Int × Int → Bool) : Srt K (ts.filter p) :=
  ⟨fun x hx => h.1 x (List.mem_filter.1 hx).1, h.2.filter p⟩
theorem filter_succ (p : Int × Int → Bool) (ts : List (Int × Int)) (k : Nat) (h : k < ts.length) : (ts.take (k + 1)).filter p = (ts.take k).filter p ++ if p ts[k] = true then [ts[k]] else [] := by
  rw [List.take_succ_eq_append_getElem h, List.filter_append]
  by_cases e : p ts[k] = true
  · simp [e]
  · simp [e]

/-! the lowest bit -/
theorem low_form {m c : Nat} (h0 : ∀ j, j < c → m.testBit j = false) (h1 : m.testBit c = true) : m = 2 ^ (c + 1) * (m / 2 ^ (c + 1)) + 2 ^ c := by
  apply Nat.eq_of_testBit_eq
  intro j
  rw [Nat.testBit_two_pow_mul_add _ (Nat.pow_lt_pow_right (by omega) (by omega)), Nat.testBit_two_pow, Nat.testBit_div_two_pow]
  by_cases hj : j < c + 1
  · rw [if_pos hj]
    by_cases e : c = j
    · subst e; simp [h1]
    · rw [h0 j (by omega)]; simp [e]
  · rw [if_neg hj]
    congr 1; omega
theorem low_pred (c q j : Nat) : (2 ^ (c + 1) * q + 2 ^ c - 1).testBit j = if j < c + 1 then decide (j < c) else q.testBit (j - (c + 1)) := by
  have e : 2 ^ (c + 1) * q + 2 ^ c - 1 = 2 ^ (c + 1) * q + (2 ^ c - 1) := by have := Nat.two_pow_pos c; omega
  rw [e, Nat.testBit_two_pow_mul_add _ (by have := Nat.two_pow_pos c; have : 2 ^ (c + 1) = 2 * 2 ^ c := by rw [Nat.pow_succ]; omega
                                           omega)]
  split
  · rw [Nat.testBit_two_pow_sub_one]
  · rfl
/-- the rest of the bits, without the lowest -/
theorem low_strike {m c : Nat} (h0 : ∀ j, j < c → m.testBit j = false) (h1 : m.testBit c = true) (j : Nat) : (m &&& (m - 1)).testBit j = (m.testBit j && decide (j ≠ c)) := by
  have hf := low_form h0 h1
  generalize m / 2 ^ (c + 1) = q at hf
  rw [Nat.testBit_and]
  have hp := low_pred c q j
  rw [← hf] at hp
  rw [hp]
  by_cases hj : j < c + 1
  · rw [if_pos hj]
    by_cases e : j = c
    · subst e; simp
    · rw [h0 j (by omega)]; simp
  · rw [if_neg hj]
    have : m.testBit j = q.testBit (j - (c + 1)) := by
      rw [hf, Nat.testBit_two_pow_mul_add _ (Nat.pow_lt_pow_right (by omega) (by omega)), if_neg hj]
    rw [this]
    have hne : j ≠ c := by omega
    simp [hne]
/-- a number and what stands against it have the lowest bit in common, and that alone -/
theorem low_only {m c : Nat} (h0 : ∀ j, j < c → m.testBit j = false) (h1 : m.testBit c = true) (hm : m < 2 ^ 64) : m &&& (2 ^ 64 - m) = 2 ^ c := by
  have hpos : 0 < m := by
    rcases Nat.eq_zero_or_pos m with e | e
    · subst e; simp at h1
    · exact e
  apply Nat.eq_of_testBit_eq
  intro j
  rw [Nat.testBit_and, Nat.testBit_two_pow]
  have e : 2 ^ 64 - m = 2 ^ 64 - ((m - 1) + 1) := by omega
  rw [e, Nat.testBit_two_pow_sub_succ (by omega)]
  have hs := low_strike h0 h1 j
  rw [Nat.testBit_and] at hs
  by_cases hj : j = c
  · subst hj
    have hlt : j < 64 := by
      apply Decidable.byContradiction
      intro hc
      have : m.testBit j = false := Nat.testBit_lt_two_pow (Nat.lt_of_lt_of_le hm (Nat.pow_le_pow_right (by omega) (by omega)))
      rw [this] at h1; simp at h1
    rw [h1] at hs ⊢
    simp at hs
    simp [hs, hlt]
  · have hne : ¬ c = j := fun h => hj h.symm
    cases hb : m.testBit j
    · simp [hne]
    · rw [hb] at hs
      simp [hj] at hs
      simp [hs, hne]
def strike (m q : Nat) : Nat := m &&& (18446744073709551615 - q)
theorem strike_lt (m q : Nat) (h : m < 2 ^ 64) : strike m q < 2 ^ 64 := Nat.lt_of_le_of_lt Nat.and_le_left h
theorem strike_bit (m q j : Nat) (hm : m < 2 ^ 64) (hq : q < 2 ^ 64) : (strike m q).testBit j = (m.testBit j && !(q.testBit j)) := by
  unfold strike
  have e : 18446744073709551615 - q = 2 ^ 64 - (q + 1) := by
    have : (2 : Nat) ^ 64 = 18446744073709551616 := by decide
    omega
  rw [Nat.testBit_and, e, Nat.testBit_two_pow_sub_succ hq]
  by_cases h : j < 64
  · simp [h]
  · have : m.testBit j = false := Nat.testBit_lt_two_pow (Nat.lt_of_lt_of_le hm (Nat.pow_le_pow_right (by omega) (by omega)))
    simp [this]

end Go.Proofs.Ytljnjpjnadlmhaa

/- Plain mathematics of parts: a forest of parents, its tops, and what hangs together. No program stands here. -/
namespace Go.Proofs.Ytljnjpjnadlmhaa

/-- the top above k, by at most n steps -/
def topF (f : Nat → Nat) : Nat → Nat → Nat
  | 0, k => k
  | n + 1, k => if f k = k then k else topF f n (f k)
def top (f : Nat → Nat) (k : Nat) : Nat := topF f k k
def Low (f : Nat → Nat) : Prop := ∀ k, f k ≤ k

theorem topF_enough {f : Nat → Nat} (h : Low f) : ∀ n m k, k ≤ n → k ≤ m → topF f n k = topF f m k := by
  intro n
  induction n with
  | zero =>
    intro m k hn hm
    obtain rfl : k = 0 := by omega
    have h0 : f 0 = 0 := by have := h 0; omega
    cases m with
    | zero => rfl
    | succ m => simp [topF, h0]
  | succ n ih =>
    intro m k hn hm
    cases m with
    | zero =>
      obtain rfl : k = 0 := by omega
      have h0 : f 0 = 0 := by have := h 0; omega
      simp [topF, h0]
    | succ m =>
      simp only [topF]
      by_cases hk : f k = k
      · rw [if_pos hk, if_pos hk]
      · rw [if_neg hk, if_neg hk]
        have := h k
        exact ih m (f k) (by omega) (by omega)
theorem top_fix {f : Nat → Nat} {k : Nat} (hk : f k = k) : top f k = k := by
  unfold top
  cases k with
  | zero => rfl
  | succ k => simp [topF, hk]
theorem top_step {f : Nat → Nat} (h : Low f) {k : Nat} : top f k = top f (f k) := by
  by_cases hk : f k = k
  · rw [hk]
  · have h1 := h k
    obtain ⟨j, rfl⟩ : ∃ j, k = j + 1 := ⟨k - 1, by omega⟩
    unfold top
    rw [topF, if_neg hk]
    exact topF_enough h _ _ _ (by omega) (Nat.le_refl _)
theorem top_le {f : Nat → Nat} (h : Low f) : ∀ k, top f k ≤ k := by
  intro k
  induction k using Nat.strongRecOn with
  | ind k ih =>
    by_cases hk : f k = k
    · rw [top_fix hk]; exact Nat.le_refl _
    · have h1 := h k
      have := ih (f k) (by omega)
      rw [top_step h]; omega
theorem top_is {f : Nat → Nat} (h : Low f) : ∀ k, f (top f k) = top f k := by
  intro k
  induction k using Nat.strongRecOn with
  | ind k ih =>
    by_cases hk : f k = k
    · rw [top_fix hk]; exact hk
    · have h1 := h k
      rw [top_step h]; exact ih (f k) (by omega)
theorem top_top {f : Nat → Nat} (h : Low f) (k : Nat) : top f (top f k) = top f k := top_fix (top_is h k)

/-- two tops are made one -/
def join (f : Nat → Nat) (a b : Nat) : Nat → Nat := fun k => if k = max (top f a) (top f b) then min (top f a) (top f b) else f k
theorem join_low {f : Nat → Nat} (h : Low f) (a b : Nat) : Low (join f a b) := by
  intro k
  unfold join
  by_cases e : k = max (top f a) (top f b)
  · rw [if_pos e]; omega
  · rw [if_neg e]; exact h k
theorem join_top {f : Nat → Nat} (h : Low f) (a b : Nat) : ∀ k, top (join f a b) k = if top f k = max (top f a) (top f b) then min (top f a) (top f b) else top f k := by
  have ha := top_is h a
  have hb := top_is h b
  have hJ := join_low h a b
  intro k
  induction k using Nat.strongRecOn with
  | ind k ih =>
    by_cases e : k = max (top f a) (top f b)
    · have ej : join f a b k = min (top f a) (top f b) := by unfold join; rw [if_pos e]
      have fk : f k = k := by
        by_cases hm : top f a ≤ top f b
        · rw [Nat.max_eq_right hm] at e; rw [e]; exact hb
        · rw [Nat.max_eq_left (by omega)] at e; rw [e]; exact ha
      have tk : top f k = k := top_fix fk
      rw [tk, if_pos e, top_step hJ, ej]
      have fm : join f a b (min (top f a) (top f b)) = min (top f a) (top f b) := by
        unfold join
        by_cases e2 : min (top f a) (top f b) = max (top f a) (top f b)
        · rw [if_pos e2]
        · rw [if_neg e2]
          by_cases hm : top f a ≤ top f b
          · rw [Nat.min_eq_left hm]; exact ha
          · rw [Nat.min_eq_right (by omega)]; exact hb
      exact top_fix fm
    · have ej : join f a b k = f k := by unfold join; rw [if_neg e]
      by_cases fk : f k = k
      · rw [top_fix (ej.trans fk), top_fix fk, if_neg e]
      · have h1 := h k
        rw [top_step hJ, ej, ih (f k) (by omega), ← top_step h]

/-- hangs together by what is tied -/
inductive Cn (E : Nat → Nat → Prop) : Nat → Nat → Prop
  | refl (x : Nat) : Cn E x x
  | fwd {x y z : Nat} : Cn E x y → E y z → Cn E x z
  | bwd {x y z : Nat} : Cn E x y → E z y → Cn E x z
theorem Cn.trans {E : Nat → Nat → Prop} {x y z : Nat} (h : Cn E x y) (k : Cn E y z) : Cn E x z := by
  induction k with
  | refl => exact h
  | fwd _ e ih => exact ih.fwd e
  | bwd _ e ih => exact ih.bwd e
theorem Cn.symm {E : Nat → Nat → Prop} {x y : Nat} (h : Cn E x y) : Cn E y x := by
  induction h with
  | refl => exact Cn.refl _
  | fwd _ e ih => exact ((Cn.refl _).bwd e).trans ih
  | bwd _ e ih => exact ((Cn.refl _).fwd e).trans ih
theorem Cn.mono {E E' : Nat → Nat → Prop} (hE : ∀ x y, E x y → E' x y) {x y : Nat} (h : Cn E x y) : Cn E' x y := by
  induction h with
  | refl => exact Cn.refl _
  | fwd _ e ih => exact ih.fwd (hE _ _ e)
  | bwd _ e ih => exact ih.bwd (hE _ _ e)

/-- tied by one of the first m ties -/
def Tied (ts : List (Int × Int)) (m : Nat) (x y : Nat) : Prop := ∃ i, i < m ∧ (tA ts i).toNat = x ∧ (tB ts i).toNat = y
/-- the forest behind the first m ties -/
def forest (ts : List (Int × Int)) : Nat → Nat → Nat
  | 0 => fun k => k
  | m + 1 => join (forest ts m) (tA ts m).toNat (tB ts m).toNat
theorem forest_low (ts : List (Int × Int)) : ∀ m, Low (forest ts m) := by
  intro m
  induction m with
  | zero => intro k; exact Nat.le_refl _
  | succ m ih => exact join_low ih _ _
theorem forest_cn (ts : List (Int × Int)) : ∀ m x y, top (forest ts m) x = top (forest ts m) y ↔ Cn (Tied ts m) x y := by
  intro m
  induction m with
  | zero =>
    intro x y
    have e : ∀ k, top (forest ts 0) k = k := fun k => top_fix rfl
    rw [e, e]
    constructor
    · rintro rfl; exact Cn.refl _
    · intro h
      cases h with
      | refl => rfl
      | fwd _ e => obtain ⟨i, hi, _⟩ := e; omega
      | bwd _ e => obtain ⟨i, hi, _⟩ := e; omega
  | succ m ih =>
    intro x y
    have hl := forest_low ts m
    have hE : ∀ x y, Tied ts m x y → Tied ts (m + 1) x y := fun x y ⟨i, hi, e⟩ => ⟨i, by omega, e⟩
    have ec : ∀ k, Cn (Tied ts (m + 1)) k (top (forest ts m) k) := fun k => ((ih k _).1 (top_top hl k).symm).mono hE
    have eab : Cn (Tied ts (m + 1)) (top (forest ts m) (tA ts m).toNat) (top (forest ts m) (tB ts m).toNat) :=
      ((ec _).symm.fwd ⟨m, by omega, rfl, rfl⟩).trans (ec _)
    show top (join (forest ts m) (tA ts m).toNat (tB ts m).toNat) x = top (join (forest ts m) (tA ts m).toNat (tB ts m).toNat) y ↔ _
    rw [join_top hl, join_top hl]
    obtain ⟨a, ha⟩ : ∃ a, a = (tA ts m).toNat := ⟨_, rfl⟩
    obtain ⟨b, hb⟩ : ∃ b, b = (tB ts m).toNat := ⟨_, rfl⟩
    rw [← ha, ← hb] at eab ⊢
    constructor
    · intro h
      have emm : Cn (Tied ts (m + 1)) (max (top (forest ts m) a) (top (forest ts m) b)) (min (top (forest ts m) a) (top (forest ts m) b)) := by
        by_cases hm : top (forest ts m) a ≤ top (forest ts m) b
        · rw [Nat.max_eq_right hm, Nat.min_eq_left hm]; exact eab.symm
        · rw [Nat.max_eq_left (by omega), Nat.min_eq_right (by omega)]; exact eab
      have key : ∀ k, Cn (Tied ts (m + 1)) k (if top (forest ts m) k = max (top (forest ts m) a) (top (forest ts m) b) then min (top (forest ts m) a) (top (forest ts m) b) else top (forest ts m) k) := by
        intro k
        by_cases e : top (forest ts m) k = max (top (forest ts m) a) (top (forest ts m) b)
        · rw [if_pos e]; have := ec k; rw [e] at this; exact this.trans emm
        · rw [if_neg e]; exact ec k
      exact (key x).trans (h ▸ (key y).symm)
    · intro h
      have one : ∀ x y, Tied ts (m + 1) x y → (if top (forest ts m) x = max (top (forest ts m) a) (top (forest ts m) b) then min (top (forest ts m) a) (top (forest ts m) b) else top (forest ts m) x) = (if top (forest ts m) y = max (top (forest ts m) a) (top (forest ts m) b) then min (top (forest ts m) a) (top (forest ts m) b) else top (forest ts m) y) := by
        rintro x y ⟨i, hi, ex, ey⟩
        by_cases him : i = m
        · subst him
          rw [← ha] at ex
          rw [← hb] at ey
          subst ex
          subst ey
          by_cases hm : top (forest ts i) a ≤ top (forest ts i) b
          · rw [Nat.max_eq_right hm, Nat.min_eq_left hm, if_pos rfl]
            by_cases e : top (forest ts i) a = top (forest ts i) b
            · rw [if_pos e]
            · rw [if_neg e]
          · rw [Nat.max_eq_left (by omega), Nat.min_eq_right (by omega), if_pos rfl]
            by_cases e : top (forest ts i) b = top (forest ts i) a
            · rw [if_pos e]
            · rw [if_neg e]
        · have : top (forest ts m) x = top (forest ts m) y := (ih x y).2 ((Cn.refl x).fwd ⟨i, by omega, ex, ey⟩)
          rw [this]
      induction h with
      | refl => rfl
      | fwd _ e ih2 => exact ih2.trans (one _ _ e)
      | bwd _ e ih2 => exact ih2.trans (one _ _ e).symm

end Go.Proofs.Ytljnjpjnadlmhaa

/- Plain mathematics of going through a net: what is marked in the end is what hangs together. No program stands here. -/
namespace Go.Proofs.Ytljnjpjnadlmhaa
set_option linter.unusedVariables false

/-- two knots are tied, either way -/
def tieNB (ts : List (Int × Int)) (x y : Nat) : Bool := tiedB ts (min (x : Int) (y : Int)) (max (x : Int) (y : Int))
theorem tieNB_iff {K : Int} {ts : List (Int × Int)} (h : NetOk K ts) {x y : Nat} : tieNB ts x y = true ↔ Tied ts ts.length x y ∨ Tied ts ts.length y x := by
  obtain ⟨h0, h8, hg⟩ := h
  unfold tieNB
  rw [tiedB_iff]
  constructor
  · rintro ⟨i, hi, e1, e2⟩
    obtain ⟨q1, q2, q3⟩ := (hg i hi).1
    by_cases hxy : x ≤ y
    · left; exact ⟨i, hi, by omega, by omega⟩
    · right; exact ⟨i, hi, by omega, by omega⟩
  · rintro (⟨i, hi, e1, e2⟩ | ⟨i, hi, e1, e2⟩)
    · obtain ⟨q1, q2, q3⟩ := (hg i hi).1
      exact ⟨i, hi, by omega, by omega⟩
    · obtain ⟨q1, q2, q3⟩ := (hg i hi).1
      exact ⟨i, hi, by omega, by omega⟩
theorem tied_lt {K : Int} {ts : List (Int × Int)} (h : NetOk K ts) {x y : Nat} (ht : Tied ts ts.length x y) : x < K.toNat ∧ y < K.toNat := by
  obtain ⟨h0, h8, hg⟩ := h
  obtain ⟨i, hi, e1, e2⟩ := ht
  obtain ⟨q1, q2, q3⟩ := (hg i hi).1
  omega

/-- marked so far, and what waits; ex: what is under way -/
structure Bfs (K : Int) (ts : List (Int × Int)) (a : Nat) (M : Nat → Bool) (row : List Nat) (ex : Nat → Prop) : Prop where
  start : M a = true
  reach : ∀ y, M y = true → y < K.toNat ∧ Cn (Tied ts ts.length) a y
  inrow : ∀ y, y ∈ row → M y = true
  closed : ∀ y, M y = true → y ∈ row ∨ ex y ∨ ∀ z, z < K.toNat → tieNB ts y z = true → M z = true
def mark (M : Nat → Bool) (y : Nat) : Nat → Bool := fun j => if j = y then true else M j
theorem mark_old {M : Nat → Bool} {y j : Nat} (h : M j = true) : mark M y j = true := by unfold mark; split <;> simp_all
theorem Bfs.first {K : Int} {ts : List (Int × Int)} {a : Nat} (ha : a < K.toNat) : Bfs K ts a (mark (fun _ => false) a) [a] (fun _ => False) := by
  have h1 : ∀ y, mark (fun _ => false) a y = true → y = a := by intro y h; unfold mark at h; by_cases e : y = a; exact e; simp [e] at h
  refine ⟨by simp [mark], fun y h => ?_, fun y h => ?_, fun y h => ?_⟩
  · rw [h1 y h]; exact ⟨ha, Cn.refl _⟩
  · simp at h; simp [mark, h]
  · left; rw [h1 y h]; simp
theorem Bfs.pop {K : Int} {ts : List (Int × Int)} {a : Nat} {M : Nat → Bool} {x : Nat} {row : List Nat} (h : Bfs K ts a M (x :: row) (fun _ => False)) : Bfs K ts a M row (fun y => y = x) := by
  refine ⟨h.start, h.reach, fun y hy => h.inrow y (List.mem_cons_of_mem _ hy), fun y hy => ?_⟩
  rcases h.closed y hy with h1 | h1 | h1
  · rcases List.mem_cons.1 h1 with h2 | h2
    · exact Or.inr (Or.inl h2)
    · exact Or.inl h2
  · exact absurd h1 (by simp)
  · exact Or.inr (Or.inr h1)
theorem Bfs.push {K : Int} {ts : List (Int × Int)} (hok : NetOk K ts) {a : Nat} {M : Nat → Bool} {x y : Nat} {row : List Nat} {ex : Nat → Prop} (h : Bfs K ts a M row ex) (hx : M x = true) (hy : y < K.toNat) (hxy : tieNB ts x y = true) :
    Bfs K ts a (mark M y) (row ++ [y]) ex := by
  refine ⟨mark_old h.start, fun z hz => ?_, fun z hz => ?_, fun z hz => ?_⟩
  · by_cases e : z = y
    · subst e
      refine ⟨hy, ?_⟩
      have hc := (h.reach x hx).2
      rcases (tieNB_iff hok).1 hxy with h1 | h1
      · exact hc.fwd h1
      · exact hc.bwd h1
    · exact h.reach z (by unfold mark at hz; rwa [if_neg e] at hz)
  · rcases List.mem_append.1 hz with h1 | h1
    · exact mark_old (h.inrow z h1)
    · simp at h1; simp [mark, h1]
  · by_cases e : z = y
    · subst e; left; simp
    · have hz' : M z = true := by unfold mark at hz; rwa [if_neg e] at hz
      rcases h.closed z hz' with h1 | h1 | h1
      · exact Or.inl (List.mem_append_left _ h1)
      · exact Or.inr (Or.inl h1)
      · exact Or.inr (Or.inr fun u hu he => mark_old (h1 u hu he))
theorem Bfs.done {K : Int} {ts : List (Int × Int)} {a : Nat} {M : Nat → Bool} {x : Nat} {row : List Nat} (h : Bfs K ts a M row (fun y => y = x)) (hn : ∀ z, z < K.toNat → tieNB ts x z = true → M z = true) : Bfs K ts a M row (fun _ => False) := by
  refine ⟨h.start, h.reach, h.inrow, fun y hy => ?_⟩
  rcases h.closed y hy with h1 | h1 | h1
  · exact Or.inl h1
  · subst h1; exact Or.inr (Or.inr hn)
  · exact Or.inr (Or.inr h1)
theorem Bfs.all {K : Int} {ts : List (Int × Int)} (hok : NetOk K ts) {a : Nat} {M : Nat → Bool} (h : Bfs K ts a M [] (fun _ => False)) (y : Nat) : M y = true ↔ Cn (Tied ts ts.length) a y := by
  have hc : ∀ y, M y = true → ∀ z, z < K.toNat → tieNB ts y z = true → M z = true := by
    intro y hy
    rcases h.closed y hy with h1 | h1 | h1
    · simp at h1
    · exact absurd h1 (by simp)
    · exact h1
  constructor
  · exact fun hy => (h.reach y hy).2
  · intro hy
    induction hy with
    | refl => exact h.start
    | fwd _ e ih => exact hc _ ih _ (tied_lt hok e).2 ((tieNB_iff hok).2 (Or.inl e))
    | bwd _ e ih => exact hc _ ih _ (tied_lt hok e).1 ((tieNB_iff hok).2 (Or.inr e))
/-- the answer: as the forest has it -/
def reachB (ts : List (Int × Int)) (a y : Nat) : Bool := decide (top (forest ts ts.length) y = top (forest ts ts.length) a)
theorem Bfs.answer {K : Int} {ts : List (Int × Int)} (hok : NetOk K ts) {a : Nat} {M : Nat → Bool} (h : Bfs K ts a M [] (fun _ => False)) (y : Nat) : M y = reachB ts a y := by
  unfold reachB
  have h1 := h.all hok y
  have h2 := forest_cn ts ts.length a y
  by_cases e : top (forest ts ts.length) y = top (forest ts ts.length) a
  · rw [decide_eq_true e]; exact h1.2 (h2.1 e.symm)
  · rw [decide_eq_false e, ← Bool.not_eq_true]; exact fun hm => e (h2.2 (h1.1 hm)).symm

/-- how many are not marked -/
def unm (M : Nat → Bool) : Nat → Nat
  | 0 => 0
  | n + 1 => unm M n + if M n = true then 0 else 1
theorem unm_same (M : Nat → Bool) (y : Nat) : ∀ n, n ≤ y → unm (mark M y) n = unm M n := by
  intro n
  induction n with
  | zero => intro _; rfl
  | succ n ih =>
    intro h
    simp only [unm]
    rw [ih (by omega)]
    have : mark M y n = M n := by unfold mark; rw [if_neg (by omega)]
    rw [this]
theorem unm_mark (M : Nat → Bool) {y : Nat} (hM : M y = false) : ∀ n, y < n → unm (mark M y) n + 1 = unm M n := by
  intro n
  induction n with
  | zero => intro h; omega
  | succ n ih =>
    intro h
    simp only [unm]
    by_cases e : n = y
    · subst e
      rw [unm_same M n n (Nat.le_refl _), hM]
      simp [mark]
    · have h1 := ih (by omega)
      have : mark M y n = M n := by unfold mark; rw [if_neg e]
      rw [this]; omega
theorem unm_le (M : Nat → Bool) : ∀ n, unm M n ≤ n := by
  intro n
  induction n with
  | zero => exact Nat.le_refl _
  | succ n ih => simp only [unm]; split <;> omega

/-- all knots that one is tied to, ascending, of the first m -/
def nbrs (ts : List (Int × Int)) (x m : Nat) : List Nat := (List.range m).filter (fun i => tieNB ts x i)
theorem nbrs_yes {ts : List (Int × Int)} {x m : Nat} (h : tieNB ts x m = true) : nbrs ts x (m + 1) = nbrs ts x m ++ [m] := by
  unfold nbrs; rw [List.range_succ, List.filter_append]; simp [h]
theorem nbrs_no {ts : List (Int × Int)} {x m : Nat} (h : tieNB ts x m = false) : nbrs ts x (m + 1) = nbrs ts x m := by
  unfold nbrs; rw [List.range_succ, List.filter_append]; simp [h]
theorem mem_nbrs {ts : List (Int × Int)} {x m y : Nat} : y ∈ nbrs ts x m ↔ y < m ∧ tieNB ts x y = true := by
  unfold nbrs; rw [List.mem_filter, List.mem_range]
theorem nbrs_len (ts : List (Int × Int)) (x m : Nat) : (nbrs ts x m).length ≤ m := by
  have := List.length_filter_le (fun i => tieNB ts x i) (List.range m)
  simpa [nbrs] using this

end Go.Proofs.Ytljnjpjnadlmhaa

/- Plain mathematics of going down through a net once: what is told in the end is just the bridges. No program stands here. -/
namespace Go.Proofs.Ytljnjpjnadlmhaa
set_option linter.unusedVariables false

/-- all ties but one -/
def But (E : Nat → Nat → Prop) (a b : Nat) (x y : Nat) : Prop := E x y ∧ ¬ (x = a ∧ y = b) ∧ ¬ (x = b ∧ y = a)
/-- two knots hang together without the tie between them -/
def Nb (E : Nat → Nat → Prop) (a b : Nat) : Prop := Cn (But E a b) a b
theorem But.turn {E : Nat → Nat → Prop} {a b x y : Nat} (h : But E a b x y) : But E b a x y := ⟨h.1, h.2.2, h.2.1⟩
theorem Nb.turn {E : Nat → Nat → Prop} {a b : Nat} (h : Nb E a b) : Nb E b a := (Cn.mono (fun _ _ => But.turn) h).symm
/-- a net that is gone down through: m knots hang from each other (kn), each with the one above (fr), the next to look at (nx), the least turn (le); tu the turns, cn the last one; br the bridges; par of each knot the one above -/
structure Dv where
  m : Nat
  kn : Nat → Nat
  fr : Nat → Nat
  nx : Nat → Nat
  le : Nat → Nat
  tu : Nat → Nat
  cn : Nat
  br : Nat → Nat → Prop
  par : Nat → Nat
def upd (f : Nat → Nat) (i v : Nat) : Nat → Nat := fun j => if j = i then v else f j
theorem upd_at (f : Nat → Nat) (i v : Nat) : upd f i v i = v := by simp [upd]
theorem upd_no (f : Nat → Nat) {i j : Nat} (v : Nat) (h : j ≠ i) : upd f i v j = f j := by simp [upd, h]
/-- it was come to, and left -/
def Dn (d : Dv) (v : Nat) : Prop := 0 < d.tu v ∧ ∀ i, i < d.m → d.kn i ≠ v
/-- ties of which one end is not above the i-th knot, but the one to the knot above -/
def Ew (E : Nat → Nat → Prop) (tu : Nat → Nat) (k f : Nat) (x y : Nat) : Prop := E x y ∧ (tu k ≤ tu x ∨ tu k ≤ tu y) ∧ ¬ (x = f ∧ y = k) ∧ ¬ (x = k ∧ y = f)
structure Gr (E : Nat → Nat → Prop) : Prop where
  sym : ∀ x y, E x y → E y x
  irr : ∀ x, ¬ E x x
  inn : ∀ x y, E x y → x < 8
structure Inv (E : Nat → Nat → Prop) (d : Dv) : Prop where
  knk : ∀ i, i < d.m → d.kn i < 8 ∧ 0 < d.tu (d.kn i) ∧ d.fr i = d.par (d.kn i) ∧ d.nx i ≤ 8 ∧ d.le i ≤ d.tu (d.kn i) ∧ d.tu (d.kn 0) ≤ d.le i
  chain : ∀ i, i + 1 < d.m → d.fr (i + 1) = d.kn i ∧ E (d.kn i) (d.kn (i + 1)) ∧ d.tu (d.kn i) < d.tu (d.kn (i + 1))
  root : 0 < d.m → d.fr 0 = d.kn 0
  tucn : ∀ v, d.tu v ≤ d.cn
  tuinj : ∀ v w, 0 < d.tu v → d.tu v = d.tu w → v = w
  tu8 : ∀ v, 0 < d.tu v → v < 8
  tree : ∀ v, 0 < d.tu v → d.par v = v ∨ (E (d.par v) v ∧ 0 < d.tu (d.par v) ∧ d.tu (d.par v) < d.tu v)
  seg : 0 < d.m → ∀ v, d.tu (d.kn 0) ≤ d.tu v → v = d.kn 0 ∨ (d.par v ≠ v ∧ d.tu (d.kn 0) ≤ d.tu (d.par v))
  old : 0 < d.m → ∀ v x, 0 < d.tu v → d.tu v < d.tu (d.kn 0) → E v x → 0 < d.tu x ∧ d.tu x < d.tu (d.kn 0)
  done : ∀ v, Dn d v → ∀ x, E v x → 0 < d.tu x ∧ (d.par v = x ∨ d.par x = v ∨ Nb E v x)
  seen : ∀ i, i < d.m → ∀ x, x < d.nx i → E (d.kn i) x → 0 < d.tu x ∧ (d.par (d.kn i) = x ∨ d.par x = d.kn i ∨ Nb E (d.kn i) x) ∧ (x ≠ d.fr i → d.le i ≤ d.tu x)
  low : ∀ i, i < d.m → ∀ v, Dn d v → d.tu (d.kn i) ≤ d.tu v → (i + 1 < d.m → d.tu v < d.tu (d.kn (i + 1))) → ∀ x, E v x → d.le i ≤ d.tu x
  wit : ∀ i, i < d.m → ∃ u, d.tu u = d.le i ∧ Cn (Ew E d.tu (d.kn i) (d.fr i)) (d.kn i) u
  br1 : ∀ x y, d.br x y → E x y ∧ ¬ Nb E x y
  brs : ∀ x y, d.br x y → d.br y x
  br2 : ∀ v, Dn d v → d.par v ≠ v → d.br (d.par v) v ∨ Nb E (d.par v) v

theorem Inv.up {E : Nat → Nat → Prop} {d : Dv} (h : Inv E d) {i : Nat} : ∀ j, i < j → j < d.m → d.tu (d.kn i) < d.tu (d.kn j) := by
  intro j
  induction j with
  | zero => intro h0; omega
  | succ j ih =>
    intro hij hj
    have h1 := (h.chain j hj).2.2
    by_cases e : i = j
    · subst e; exact h1
    · have := ih (by omega) (by omega); omega
theorem Inv.le0 {E : Nat → Nat → Prop} {d : Dv} (h : Inv E d) {j : Nat} (hj : j < d.m) : d.tu (d.kn 0) ≤ d.tu (d.kn j) := by
  by_cases e : j = 0
  · subst e; exact Nat.le_refl _
  · have := h.up j (i := 0) (by omega) hj; omega
theorem Inv.knInj {E : Nat → Nat → Prop} {d : Dv} (h : Inv E d) {i j : Nat} (hi : i < d.m) (hj : j < d.m) (e : d.kn i = d.kn j) : i = j := by
  rcases Nat.lt_trichotomy i j with h1 | h1 | h1
  · have := h.up j h1 hj; rw [e] at this; omega
  · exact h1
  · have := h.up i h1 hi; rw [e] at this; omega
/-- the tie of a knot to the one above -/
def Up (E : Nat → Nat → Prop) (d : Dv) (b : Nat) (x y : Nat) : Prop := E x y ∧ d.par y = x ∧ d.tu y ≤ b ∧ d.tu x < d.tu y
/-- all that was come to since the first of the stack hangs together with it by ties to the knots above -/
theorem Inv.rooted {E : Nat → Nat → Prop} {d : Dv} (h : Inv E d) (hm : 0 < d.m) : ∀ n v, d.tu v ≤ n → d.tu (d.kn 0) ≤ d.tu v → Cn (Up E d (d.tu v)) (d.kn 0) v := by
  intro n
  have p0 := (h.knk 0 hm).2.1
  induction n with
  | zero => intro v hv h0; omega
  | succ n ih =>
    intro v hv h0
    rcases h.seg hm v h0 with rfl | ⟨hp, hp2⟩
    · exact Cn.refl _
    · rcases h.tree v (by omega) with e | ⟨e1, e2, e3⟩
      · exact absurd e hp
      · exact (Cn.mono (fun x y q => ⟨q.1, q.2.1, by have := q.2.2.1; omega, q.2.2.2⟩) (ih (d.par v) (by omega) hp2)).fwd ⟨e1, rfl, Nat.le_refl _, e3⟩

/-- what is put on the stack -/
def Dv.push (d : Dv) (k f : Nat) : Dv := { d with m := d.m + 1, kn := upd d.kn d.m k, fr := upd d.fr d.m f, nx := upd d.nx d.m 0, le := upd d.le d.m (d.cn + 1), tu := upd d.tu k (d.cn + 1), cn := d.cn + 1, par := upd d.par k f }
/-- the lowest looks at one more -/
def Dv.skip (d : Dv) (i x : Nat) : Dv := { d with nx := upd d.nx i (x + 1) }
def Dv.look (d : Dv) (i x : Nat) : Dv := { d with nx := upd d.nx i (x + 1), le := upd d.le i (min (d.le i) (d.tu x)) }

theorem inv_begin {E : Nat → Nat → Prop} (tu0 : Nat → Nat) (h0 : ∀ v, tu0 v = 0) (kn fr nx le par : Nat → Nat) : Inv E ⟨0, kn, fr, nx, le, tu0, 0, fun _ _ => False, par⟩ := by
  have hz : ∀ v, ¬ 0 < tu0 v := fun v => by rw [h0]; omega
  refine ⟨fun i hi => absurd hi (by simp), fun i hi => absurd hi (by simp), fun hi => absurd hi (by simp), fun v => by simp [h0], fun v w hv => absurd hv (hz v), fun v hv => absurd hv (hz v), fun v hv => absurd hv (hz v), fun hi => absurd hi (by simp), fun hi => absurd hi (by simp), fun v hv => absurd hv.1 (hz v), fun i hi => absurd hi (by simp), fun i hi => absurd hi (by simp), fun i hi => absurd hi (by simp), fun x y hb => absurd hb (by simp), fun x y hb => absurd hb (by simp), fun v hv => absurd hv.1 (hz v)⟩

theorem Inv.pushRoot {E : Nat → Nat → Prop} (G : Gr E) {d : Dv} (h : Inv E d) (hm : d.m = 0) {k : Nat} (hk : k < 8) (hz : d.tu k = 0) : Inv E (d.push k k) := by
  have hd : ∀ v, 0 < d.tu v → Dn d v := fun v hv => ⟨hv, fun i hi => by omega⟩
  obtain ⟨d', hd'⟩ : ∃ d', d' = d.push k k := ⟨_, rfl⟩
  have tk : d'.tu k = d.cn + 1 := by rw [hd']; exact upd_at _ _ _
  have tn : ∀ v, v ≠ k → d'.tu v = d.tu v := fun v hv => by rw [hd']; exact upd_no _ _ hv
  have pk : d'.par k = k := by rw [hd']; exact upd_at _ _ _
  have pn : ∀ v, v ≠ k → d'.par v = d.par v := fun v hv => by rw [hd']; exact upd_no _ _ hv
  have k0 : d'.kn 0 = k := by rw [hd']; show upd d.kn d.m k 0 = k; rw [hm]; exact upd_at _ _ _
  have f0 : d'.fr 0 = k := by rw [hd']; show upd d.fr d.m k 0 = k; rw [hm]; exact upd_at _ _ _
  have n0 : d'.nx 0 = 0 := by rw [hd']; show upd d.nx d.m 0 0 = 0; rw [hm]; exact upd_at _ _ _
  have l0 : d'.le 0 = d.cn + 1 := by rw [hd']; show upd d.le d.m (d.cn + 1) 0 = _; rw [hm]; exact upd_at _ _ _
  have m1 : d'.m = 1 := by rw [hd']; show d.m + 1 = 1; omega
  have c1 : d'.cn = d.cn + 1 := by rw [hd']; rfl
  have b1 : d'.br = d.br := by rw [hd']; rfl
  rw [← hd']
  clear hd'
  have dn : ∀ v, Dn d' v → v ≠ k ∧ Dn d v := by
    intro v hv
    have hvk : v ≠ k := fun e => hv.2 0 (by omega) (by rw [k0, e])
    exact ⟨hvk, hd v (by rw [← tn v hvk]; exact hv.1)⟩
  have nok : ∀ v, 0 < d.tu v → ¬ E v k := fun v hv he => by have := (h.done v (hd v hv) k he).1; omega
  refine ⟨?_, ?_, ?_, ?_, ?_, ?_, ?_, ?_, ?_, ?_, ?_, ?_, ?_, ?_, ?_, ?_⟩
  · intro i hi
    obtain rfl : i = 0 := by omega
    rw [k0, f0, n0, l0, tk, pk]; exact ⟨hk, by omega, rfl, by omega, Nat.le_refl _, Nat.le_refl _⟩
  · intro i hi; omega
  · intro _; rw [f0, k0]
  · intro v
    by_cases e : v = k
    · subst e; rw [tk, c1]; omega
    · rw [tn v e, c1]; have := h.tucn v; omega
  · intro v w hv e
    by_cases e1 : v = k
    · by_cases e2 : w = k
      · rw [e1, e2]
      · rw [e1, tk, tn w e2] at e; have := h.tucn w; omega
    · by_cases e2 : w = k
      · rw [e2, tk, tn v e1] at e; have := h.tucn v; omega
      · rw [tn v e1, tn w e2] at e; rw [tn v e1] at hv; exact h.tuinj v w hv e
  · intro v hv
    by_cases e : v = k
    · subst e; exact hk
    · rw [tn v e] at hv; exact h.tu8 v hv
  · intro v hv
    by_cases e : v = k
    · left; subst e; exact pk
    · rw [tn v e] at hv
      rw [pn v e]
      rcases h.tree v hv with h1 | ⟨h1, h2, h3⟩
      · left; exact h1
      · right
        have : d.par v ≠ k := fun e => by rw [e] at h2; omega
        rw [tn v e, tn _ this]; exact ⟨h1, h2, h3⟩
  · intro _ v hv
    rw [k0, tk] at hv
    left
    by_cases e : v = k
    · rw [k0]; exact e
    · rw [tn v e] at hv; have := h.tucn v; omega
  · intro _ v x hv hlt he
    rw [k0, tk] at hlt ⊢
    by_cases e : v = k
    · rw [e, tk] at hlt; omega
    · rw [tn v e] at hv
      have hx : x ≠ k := fun e2 => nok v hv (e2 ▸ he)
      rw [tn x hx]
      have h1 := (h.done v (hd v hv) x he).1
      have := h.tucn x
      exact ⟨h1, by omega⟩
  · intro v hv x he
    obtain ⟨hvk, hvd⟩ := dn v hv
    have hx : x ≠ k := fun e2 => nok v hvd.1 (e2 ▸ he)
    rw [tn x hx, pn v hvk, pn x hx]
    exact h.done v hvd x he
  · intro i hi x hx
    obtain rfl : i = 0 := by omega
    rw [n0] at hx; omega
  · intro i hi v hv hle
    obtain rfl : i = 0 := by omega
    obtain ⟨hvk, hvd⟩ := dn v hv
    rw [k0, tk, tn v hvk] at hle
    have := h.tucn v; omega
  · intro i hi
    obtain rfl : i = 0 := by omega
    rw [k0, l0]
    exact ⟨k, tk, Cn.refl _⟩
  · rw [b1]; exact h.br1
  · rw [b1]; exact h.brs
  · intro v hv hp
    obtain ⟨hvk, hvd⟩ := dn v hv
    rw [pn v hvk] at hp ⊢
    rw [b1]
    exact h.br2 v hvd hp

theorem Inv.pushChild {E : Nat → Nat → Prop} (G : Gr E) {d : Dv} (h : Inv E d) {i k : Nat} (hi : i + 1 = d.m) (he : E (d.kn i) k) (hz : d.tu k = 0) (hn : d.nx i = k) : Inv E ((d.skip i k).push k (d.kn i)) := by
  have hk : k < 8 := G.inn k (d.kn i) (G.sym _ _ he)
  have hkk : ∀ j, j < d.m → d.kn j ≠ k := fun j hj e => by have := (h.knk j hj).2.1; rw [e] at this; omega
  obtain ⟨d', hd'⟩ : ∃ d', d' = (d.skip i k).push k (d.kn i) := ⟨_, rfl⟩
  have m1 : d'.m = d.m + 1 := by rw [hd']; rfl
  have tk : d'.tu k = d.cn + 1 := by rw [hd']; exact upd_at _ _ _
  have tn : ∀ v, v ≠ k → d'.tu v = d.tu v := fun v hv => by rw [hd']; exact upd_no _ _ hv
  have pk : d'.par k = d.kn i := by rw [hd']; exact upd_at _ _ _
  have pn : ∀ v, v ≠ k → d'.par v = d.par v := fun v hv => by rw [hd']; exact upd_no _ _ hv
  have kt : d'.kn d.m = k := by rw [hd']; exact upd_at _ _ _
  have ko : ∀ j, j < d.m → d'.kn j = d.kn j := fun j hj => by rw [hd']; exact upd_no _ _ (by show j ≠ d.m; omega)
  have ft : d'.fr d.m = d.kn i := by rw [hd']; exact upd_at _ _ _
  have fo : ∀ j, j < d.m → d'.fr j = d.fr j := fun j hj => by rw [hd']; exact upd_no _ _ (by show j ≠ d.m; omega)
  have nt : d'.nx d.m = 0 := by rw [hd']; exact upd_at _ _ _
  have no : ∀ j, j < d.m → j ≠ i → d'.nx j = d.nx j := fun j hj hji => by rw [hd']; exact (upd_no _ _ (by show j ≠ d.m; omega)).trans (upd_no _ _ hji)
  have ni : d'.nx i = k + 1 := by rw [hd']; exact (upd_no _ _ (by show i ≠ d.m; omega)).trans (upd_at _ _ _)
  have lt : d'.le d.m = d.cn + 1 := by rw [hd']; exact upd_at _ _ _
  have lo : ∀ j, j < d.m → d'.le j = d.le j := fun j hj => by rw [hd']; exact upd_no _ _ (by show j ≠ d.m; omega)
  have c1 : d'.cn = d.cn + 1 := by rw [hd']; rfl
  have b1 : d'.br = d.br := by rw [hd']; rfl
  rw [← hd']
  clear hd'
  have him : i < d.m := by omega
  have hm0 : 0 < d.m := by omega
  have k0 : d'.kn 0 = d.kn 0 := ko 0 hm0
  have t0 : d'.tu (d.kn 0) = d.tu (d.kn 0) := tn _ (hkk 0 hm0)
  have pos : ∀ v, 0 < d.tu v → v ≠ k := fun v hv e => by rw [e] at hv; omega
  have dn : ∀ v, Dn d' v → v ≠ k ∧ Dn d v := by
    intro v hv
    have hvk : v ≠ k := fun e => hv.2 d.m (by omega) (by rw [kt, e])
    exact ⟨hvk, by rw [← tn v hvk]; exact hv.1, fun j hj => by rw [← ko j hj]; exact hv.2 j (by omega)⟩
  have nok : ∀ v, Dn d v → ¬ E v k := fun v hv he => by have := (h.done v hv k he).1; omega
  refine ⟨?_, ?_, ?_, ?_, ?_, ?_, ?_, ?_, ?_, ?_, ?_, ?_, ?_, ?_, ?_, ?_⟩
  · intro j hj
    rw [k0, t0]
    by_cases e : j = d.m
    · subst e
      rw [kt, ft, nt, lt, tk, pk]
      have := h.tucn (d.kn 0)
      exact ⟨hk, by omega, rfl, by omega, Nat.le_refl _, by omega⟩
    · have hj' : j < d.m := by omega
      obtain ⟨q1, q2, q3, q4, q5, q6⟩ := h.knk j hj'
      rw [ko j hj', fo j hj', lo j hj', tn _ (hkk j hj'), pn _ (hkk j hj')]
      refine ⟨q1, q2, q3, ?_, q5, q6⟩
      by_cases e2 : j = i
      · subst e2; rw [ni]; omega
      · rw [no j hj' e2]; exact q4
  · intro j hj
    by_cases e : j + 1 = d.m
    · obtain rfl : j = i := by omega
      rw [e, ft, kt, ko j him, tk, tn _ (hkk j him)]
      have := h.tucn (d.kn j)
      exact ⟨rfl, he, by omega⟩
    · have hj' : j + 1 < d.m := by omega
      rw [fo _ hj', ko _ hj', ko j (by omega), tn _ (hkk j (by omega)), tn _ (hkk _ hj')]
      exact h.chain j hj'
  · intro _; rw [k0, fo 0 hm0]; exact h.root hm0
  · intro v
    by_cases e : v = k
    · subst e; rw [tk, c1]; omega
    · rw [tn v e, c1]; have := h.tucn v; omega
  · intro v w hv e
    by_cases e1 : v = k
    · by_cases e2 : w = k
      · rw [e1, e2]
      · rw [e1, tk, tn w e2] at e; have := h.tucn w; omega
    · by_cases e2 : w = k
      · rw [e2, tk, tn v e1] at e; have := h.tucn v; omega
      · rw [tn v e1, tn w e2] at e; rw [tn v e1] at hv; exact h.tuinj v w hv e
  · intro v hv
    by_cases e : v = k
    · subst e; exact hk
    · rw [tn v e] at hv; exact h.tu8 v hv
  · intro v hv
    by_cases e : v = k
    · subst e
      right
      rw [pk, tk, tn _ (hkk i him)]
      have := h.tucn (d.kn i)
      exact ⟨he, (h.knk i him).2.1, by omega⟩
    · rw [tn v e] at hv
      rw [pn v e]
      rcases h.tree v hv with h1 | ⟨h1, h2, h3⟩
      · left; exact h1
      · right
        rw [tn v e, tn _ (pos _ h2)]; exact ⟨h1, h2, h3⟩
  · intro _ v hv
    rw [k0, t0] at hv ⊢
    by_cases e : v = k
    · subst e
      right
      rw [pk, tn _ (hkk i him)]
      exact ⟨fun e => hkk i him e, h.le0 him⟩
    · rw [tn v e] at hv
      rw [pn v e]
      rcases h.seg hm0 v hv with h1 | ⟨h1, h2⟩
      · left; exact h1
      · right
        have := (h.knk 0 hm0).2.1
        rw [tn _ (pos _ (by omega))]; exact ⟨h1, h2⟩
  · intro _ v x hv hlt hvx
    rw [k0, t0] at hlt ⊢
    by_cases e : v = k
    · rw [e, tk] at hlt; have := h.tucn (d.kn 0); omega
    · rw [tn v e] at hv hlt
      have := h.old hm0 v x hv hlt hvx
      rw [tn x (pos _ this.1)]; exact this
  · intro v hv x hvx
    obtain ⟨hvk, hvd⟩ := dn v hv
    have hx : x ≠ k := fun e2 => nok v hvd (e2 ▸ hvx)
    rw [tn x hx, pn v hvk, pn x hx]
    exact h.done v hvd x hvx
  · intro j hj x hx hjx
    by_cases e : j = d.m
    · subst e; rw [nt] at hx; omega
    · have hj' : j < d.m := by omega
      rw [ko j hj'] at hjx ⊢
      rw [fo j hj', lo j hj']
      by_cases exk : x = k
      · subst exk
        have hle := (h.knk j hj').2.2.2.2.1
        have hcn := h.tucn (d.kn j)
        by_cases e2 : j = i
        · subst e2
          rw [tk, pk]
          exact ⟨by omega, Or.inr (Or.inl rfl), fun _ => by omega⟩
        · rw [no j hj' e2] at hx
          have := (h.seen j hj' x hx hjx).1; omega
      · have hx' : x < d.nx j := by
          by_cases e2 : j = i
          · subst e2; rw [ni] at hx; omega
          · rw [no j hj' e2] at hx; exact hx
        rw [tn x exk, pn x exk, pn _ (hkk j hj')]
        exact h.seen j hj' x hx' hjx
  · intro j hj v hv hle hnx x hvx
    obtain ⟨hvk, hvd⟩ := dn v hv
    have hx : x ≠ k := fun e2 => nok v hvd (e2 ▸ hvx)
    rw [tn v hvk] at hle hnx
    rw [tn x hx]
    by_cases e : j = d.m
    · subst e; rw [kt, tk] at hle; have := h.tucn v; omega
    · have hj' : j < d.m := by omega
      rw [ko j hj', tn _ (hkk j hj')] at hle
      rw [lo j hj']
      refine h.low j hj' v hvd hle (fun hj2 => ?_) x hvx
      have := hnx (by omega)
      rw [ko _ hj2, tn _ (hkk _ hj2)] at this
      exact this
  · intro j hj
    by_cases e : j = d.m
    · subst e; rw [kt, lt]; exact ⟨k, tk, Cn.refl _⟩
    · have hj' : j < d.m := by omega
      obtain ⟨u, hu, hc⟩ := h.wit j hj'
      have hl := (h.knk j hj').2.2.2.2.2
      have h00 := (h.knk 0 hm0).2.1
      refine ⟨u, ?_, ?_⟩
      · rw [lo j hj', tn u (pos u (by omega))]; exact hu
      · rw [ko j hj', fo j hj']
        refine Cn.mono (fun x y hxy => ?_) hc
        obtain ⟨q1, q2, q3, q4⟩ := hxy
        refine ⟨q1, ?_, q3, q4⟩
        have hcn := h.tucn (d.kn j)
        rw [tn _ (hkk j hj')]
        rcases q2 with q2 | q2
        · left
          by_cases ex : x = k
          · rw [ex, tk]; omega
          · rw [tn x ex]; exact q2
        · right
          by_cases ey : y = k
          · rw [ey, tk]; omega
          · rw [tn y ey]; exact q2
  · rw [b1]; exact h.br1
  · rw [b1]; exact h.brs
  · intro v hv hp
    obtain ⟨hvk, hvd⟩ := dn v hv
    rw [pn v hvk] at hp ⊢
    rw [b1]
    exact h.br2 v hvd hp

/-- the parts that hang from turns, parents, bridges and the stack's knots stay, where only what is looked at changes -/
theorem Inv.skipTo {E : Nat → Nat → Prop} (G : Gr E) {d : Dv} (h : Inv E d) {i k : Nat} (hi : i + 1 = d.m) (hn : d.nx i = k) (hk : k < 8) (hno : ¬ E (d.kn i) k ∨ k = d.fr i) : Inv E (d.skip i k) := by
  have him : i < d.m := by omega
  have no : ∀ j, j ≠ i → (d.skip i k).nx j = d.nx j := fun j hj => upd_no _ _ hj
  have ni : (d.skip i k).nx i = k + 1 := upd_at _ _ _
  refine ⟨?_, h.chain, h.root, h.tucn, h.tuinj, h.tu8, h.tree, h.seg, h.old, h.done, ?_, h.low, h.wit, h.br1, h.brs, h.br2⟩
  · intro j hj
    obtain ⟨q1, q2, q3, q4, q5, q6⟩ := h.knk j hj
    refine ⟨q1, q2, q3, ?_, q5, q6⟩
    by_cases e : j = i
    · subst e; rw [ni]; omega
    · rw [no j e]; exact q4
  · intro j hj x hx hjx
    by_cases e : j = i
    · subst e
      rw [ni] at hx
      by_cases ex : x = k
      · subst ex
        rcases hno with h1 | h1
        · exact absurd hjx h1
        · have hp : d.par (d.kn j) = x := by rw [h1]; exact ((h.knk j hj).2.2.1).symm
          refine ⟨?_, Or.inl hp, fun hne => absurd h1 hne⟩
          have h2 := h.tree (d.kn j) (h.knk j hj).2.1
          rw [hp] at h2
          rcases h2 with h2 | h2
          · exact absurd (h2 ▸ hjx : E (d.kn j) (d.kn j)) (G.irr _)
          · exact h2.2.1
      · exact h.seen j hj x (by omega) hjx
    · rw [no j e] at hx; exact h.seen j hj x hx hjx

theorem Inv.lookAt {E : Nat → Nat → Prop} (G : Gr E) {d : Dv} (h : Inv E d) {i k : Nat} (hi : i + 1 = d.m) (hn : d.nx i = k) (hk : k < 8) (he : E (d.kn i) k) (hf : k ≠ d.fr i) (ht : 0 < d.tu k) : Inv E (d.look i k) := by
  have him : i < d.m := by omega
  have hm0 : 0 < d.m := by omega
  have no : ∀ j, j ≠ i → (d.look i k).nx j = d.nx j := fun j hj => upd_no _ _ hj
  have ni : (d.look i k).nx i = k + 1 := upd_at _ _ _
  have lo : ∀ j, j ≠ i → (d.look i k).le j = d.le j := fun j hj => upd_no _ _ hj
  have li : (d.look i k).le i = min (d.le i) (d.tu k) := upd_at _ _ _
  have q := h.knk i him
  have hseg : d.tu (d.kn 0) ≤ d.tu k := by
    apply Decidable.byContradiction
    intro hc
    have := (h.old hm0 k (d.kn i) ht (by omega) (G.sym _ _ he)).2
    have := h.le0 him
    omega
  have hnb : d.par (d.kn i) = k ∨ d.par k = d.kn i ∨ Nb E (d.kn i) k := by
    by_cases h1 : d.par (d.kn i) = k
    · exact Or.inl h1
    by_cases h2 : d.par k = d.kn i
    · exact Or.inr (Or.inl h2)
    right; right
    have cut : ∀ b x y, Up E d b x y → But E (d.kn i) k x y := by
      rintro b x y ⟨u1, u2, u3⟩
      refine ⟨u1, ?_, ?_⟩
      · rintro ⟨rfl, rfl⟩; exact h2 u2
      · rintro ⟨rfl, rfl⟩; exact h1 u2
    have c1 := Cn.mono (cut _) (h.rooted hm0 _ (d.kn i) (Nat.le_refl _) (h.le0 him))
    have c2 := Cn.mono (cut _) (h.rooted hm0 _ k (Nat.le_refl _) hseg)
    exact c1.symm.trans c2
  refine ⟨?_, h.chain, h.root, h.tucn, h.tuinj, h.tu8, h.tree, h.seg, h.old, h.done, ?_, ?_, ?_, h.br1, h.brs, h.br2⟩
  · intro j hj
    obtain ⟨q1, q2, q3, q4, q5, q6⟩ := h.knk j hj
    show d.kn j < 8 ∧ 0 < d.tu (d.kn j) ∧ d.fr j = d.par (d.kn j) ∧ (d.look i k).nx j ≤ 8 ∧ (d.look i k).le j ≤ d.tu (d.kn j) ∧ d.tu (d.kn 0) ≤ (d.look i k).le j
    by_cases e : j = i
    · subst e; rw [ni, li]; exact ⟨q1, q2, q3, by omega, by omega, by omega⟩
    · rw [no j e, lo j e]; exact ⟨q1, q2, q3, q4, q5, q6⟩
  · intro j hj x hx hjx
    show 0 < d.tu x ∧ (d.par (d.kn j) = x ∨ d.par x = d.kn j ∨ Nb E (d.kn j) x) ∧ (x ≠ d.fr j → (d.look i k).le j ≤ d.tu x)
    by_cases e : j = i
    · subst e
      rw [ni] at hx
      rw [li]
      by_cases ex : x = k
      · subst ex; exact ⟨ht, hnb, fun _ => by omega⟩
      · have := h.seen j hj x (by omega) hjx
        exact ⟨this.1, this.2.1, fun hne => by have := this.2.2 hne; omega⟩
    · rw [no j e] at hx; rw [lo j e]; exact h.seen j hj x hx hjx
  · intro j hj v hv hle hnx x hvx
    show (d.look i k).le j ≤ d.tu x
    have := h.low j hj v hv hle hnx x hvx
    by_cases e : j = i
    · subst e; rw [li]; omega
    · rw [lo j e]; exact this
  · intro j hj
    show ∃ u, d.tu u = (d.look i k).le j ∧ Cn (Ew E d.tu (d.kn j) (d.fr j)) (d.kn j) u
    by_cases e : j = i
    · subst e
      rw [li]
      by_cases hl : d.le j ≤ d.tu k
      · rw [Nat.min_eq_left hl]; exact h.wit j hj
      · rw [Nat.min_eq_right (by omega)]
        refine ⟨k, rfl, (Cn.refl _).fwd ⟨he, Or.inl (Nat.le_refl _), ?_, ?_⟩⟩
        · rintro ⟨_, rfl⟩; exact G.irr _ he
        · rintro ⟨_, e⟩; exact hf e
    · rw [lo j e]; exact h.wit j hj

/-- the lowest is left -/
def Dv.leave (d : Dv) (i : Nat) : Dv := { d with m := i + 1, le := upd d.le i (min (d.le i) (d.le (i + 1))), br := fun x y => d.br x y ∨ (d.le (i + 1) = d.tu (d.kn (i + 1)) ∧ ((x = d.fr (i + 1) ∧ y = d.kn (i + 1)) ∨ (x = d.kn (i + 1) ∧ y = d.fr (i + 1)))) }
theorem Inv.leaveTo {E : Nat → Nat → Prop} (G : Gr E) {d : Dv} (h : Inv E d) {i : Nat} (hi : i + 2 = d.m) (hn : d.nx (i + 1) = 8) : Inv E (d.leave i) := by
  have him : i < d.m := by omega
  have hjm : i + 1 < d.m := by omega
  have hm0 : 0 < d.m := by omega
  obtain ⟨f1, f2, f3⟩ := h.chain i hjm
  obtain ⟨q1, q2, q3, q4, q5, q6⟩ := h.knk (i + 1) hjm
  have p := h.knk i him
  have hp : d.par (d.kn (i + 1)) = d.kn i := by rw [← q3, f1]
  -- what lies not above the lowest is left, or it
  have hdn : ∀ w, d.tu (d.kn (i + 1)) ≤ d.tu w → w ≠ d.kn (i + 1) → Dn d w := by
    intro w hw hne
    refine ⟨by omega, fun j hj e => ?_⟩
    by_cases e1 : j = i + 1
    · subst e1; exact hne e.symm
    · have := h.up (i + 1) (i := j) (by omega) hjm; rw [e] at this; omega
  have hbr : d.le (i + 1) = d.tu (d.kn (i + 1)) → ¬ Nb E (d.kn i) (d.kn (i + 1)) := by
    intro hl hnb
    have key : ∀ y, Cn (But E (d.kn i) (d.kn (i + 1))) (d.kn (i + 1)) y → d.tu (d.kn (i + 1)) ≤ d.tu y := by
      have step : ∀ y z, d.tu (d.kn (i + 1)) ≤ d.tu y → E y z → ¬ (y = d.kn (i + 1) ∧ z = d.kn i) → d.tu (d.kn (i + 1)) ≤ d.tu z := by
        intro y z hy hyz hnot
        by_cases e : y = d.kn (i + 1)
        · subst e
          have hz8 : z < 8 := G.inn z _ (G.sym _ _ hyz)
          have := (h.seen (i + 1) hjm z (by omega) hyz).2.2 (fun e => hnot ⟨rfl, by rw [e, f1]⟩)
          omega
        · have := h.low (i + 1) hjm y (hdn y hy e) hy (fun hc => by omega) z hyz
          omega
      intro y hy
      induction hy with
      | refl => exact Nat.le_refl _
      | fwd _ e ih => exact step _ _ ih e.1 (fun hc => e.2.2 ⟨hc.1, hc.2⟩)
      | bwd _ e ih => exact step _ _ ih (G.sym _ _ e.1) (fun hc => e.2.1 ⟨hc.2, hc.1⟩)
    have := key _ (Cn.symm hnb)
    omega
  have hnb : d.le (i + 1) ≠ d.tu (d.kn (i + 1)) → Nb E (d.kn i) (d.kn (i + 1)) := by
    intro hl
    obtain ⟨u, hu, hc⟩ := h.wit (i + 1) hjm
    have hult : d.tu u < d.tu (d.kn (i + 1)) := by omega
    have c1 : Cn (But E (d.kn i) (d.kn (i + 1))) (d.kn (i + 1)) u := Cn.mono (fun x y hxy => ⟨hxy.1, by rw [← f1]; exact hxy.2.2.1, by rw [← f1]; exact hxy.2.2.2⟩) hc
    have cut : ∀ b x y, b < d.tu (d.kn (i + 1)) → Up E d b x y → But E (d.kn i) (d.kn (i + 1)) x y := by
      rintro b x y hb ⟨u1, u2, u3, u4⟩
      refine ⟨u1, ?_, ?_⟩
      · rintro ⟨rfl, rfl⟩; omega
      · rintro ⟨rfl, rfl⟩; omega
    have c2 := Cn.mono (fun x y => cut _ x y hult) (h.rooted hm0 _ u (Nat.le_refl _) (by omega))
    have c3 := Cn.mono (fun x y => cut _ x y f3) (h.rooted hm0 _ (d.kn i) (Nat.le_refl _) (h.le0 him))
    exact c3.symm.trans (c2.trans c1.symm)
  have lo : ∀ j, j ≠ i → (d.leave i).le j = d.le j := fun j hj => upd_no _ _ hj
  have li : (d.leave i).le i = min (d.le i) (d.le (i + 1)) := upd_at _ _ _
  have dn : ∀ v, Dn (d.leave i) v → v = d.kn (i + 1) ∨ Dn d v := by
    intro v hv
    by_cases e : v = d.kn (i + 1)
    · exact Or.inl e
    · refine Or.inr ⟨hv.1, fun j hj ej => ?_⟩
      by_cases e1 : j = i + 1
      · subst e1; exact e ej.symm
      · exact hv.2 j (by show j < i + 1; omega) ej
  refine ⟨?_, ?_, fun _ => h.root hm0, h.tucn, h.tuinj, h.tu8, h.tree, fun _ => h.seg hm0, fun _ => h.old hm0, ?_, ?_, ?_, ?_, ?_, ?_, ?_⟩
  · intro j hj
    have hj' : j < i + 1 := hj
    obtain ⟨r1, r2, r3, r4, r5, r6⟩ := h.knk j (by omega)
    show d.kn j < 8 ∧ 0 < d.tu (d.kn j) ∧ d.fr j = d.par (d.kn j) ∧ d.nx j ≤ 8 ∧ (d.leave i).le j ≤ d.tu (d.kn j) ∧ d.tu (d.kn 0) ≤ (d.leave i).le j
    by_cases e : j = i
    · subst e; rw [li]; exact ⟨r1, r2, r3, r4, by omega, by omega⟩
    · rw [lo j e]; exact ⟨r1, r2, r3, r4, r5, r6⟩
  · intro j hj
    have hj' : j + 1 < i + 1 := hj
    exact h.chain j (by omega)
  · intro v hv x hvx
    rcases dn v hv with rfl | hv'
    · have hx8 : x < 8 := G.inn x _ (G.sym _ _ hvx)
      have := h.seen (i + 1) hjm x (by omega) hvx
      exact ⟨this.1, this.2.1⟩
    · exact h.done v hv' x hvx
  · intro j hj x hx hjx
    have hj' : j < i + 1 := hj
    have := h.seen j (by omega) x hx hjx
    refine ⟨this.1, this.2.1, fun hne => ?_⟩
    show (d.leave i).le j ≤ d.tu x
    have h2 := this.2.2 hne
    by_cases e : j = i
    · subst e; rw [li]; omega
    · rw [lo j e]; exact h2
  · intro j hj v hv hle hnx x hvx
    have hj' : j < i + 1 := hj
    show (d.leave i).le j ≤ d.tu x
    by_cases e : j = i
    · subst e
      rw [li]
      rcases dn v hv with rfl | hv'
      · by_cases ex : x = d.kn j
        · subst ex; omega
        · have hx8 : x < 8 := G.inn x _ (G.sym _ _ hvx)
          have := (h.seen (j + 1) hjm x (by omega) hvx).2.2 (by rw [f1]; exact ex)
          omega
      · by_cases hc : d.tu v < d.tu (d.kn (j + 1))
        · have := h.low j him v hv' hle (fun _ => hc) x hvx; omega
        · have := h.low (j + 1) hjm v hv' (by omega) (fun hc => by omega) x hvx; omega
    · rw [lo j e]
      have hnx' := hnx (by show j + 1 < i + 1; omega)
      rcases dn v hv with rfl | hv'
      · have h3 : d.tu (d.kn (i + 1)) < d.tu (d.kn (j + 1)) := hnx'
        by_cases e2 : j + 1 = i
        · rw [e2] at h3; omega
        · have := h.up (i + 1) (i := j + 1) (by omega) hjm; omega
      · exact h.low j (by omega) v hv' hle (fun _ => hnx') x hvx
  · intro j hj
    have hj' : j < i + 1 := hj
    show ∃ u, d.tu u = (d.leave i).le j ∧ Cn (Ew E d.tu (d.kn j) (d.fr j)) (d.kn j) u
    by_cases e : j = i
    · subst e
      rw [li]
      by_cases hl : d.le j ≤ d.le (j + 1)
      · rw [Nat.min_eq_left hl]; exact h.wit j him
      · rw [Nat.min_eq_right (by omega)]
        obtain ⟨u, hu, hc⟩ := h.wit (j + 1) hjm
        refine ⟨u, hu, ?_⟩
        have hfr : d.tu (d.fr j) ≤ d.tu (d.kn j) := by
          rw [p.2.2.1]
          rcases h.tree (d.kn j) p.2.1 with e | e
          · rw [e]; exact Nat.le_refl _
          · omega
        have e1 : Ew E d.tu (d.kn j) (d.fr j) (d.kn j) (d.kn (j + 1)) := by
          refine ⟨f2, Or.inl (Nat.le_refl _), ?_, ?_⟩
          · rintro ⟨_, e⟩; rw [e] at f3; omega
          · rintro ⟨_, e⟩; rw [← e] at hfr; omega
        refine ((Cn.refl _).fwd e1).trans (Cn.mono ?_ hc)
        rintro x y ⟨g1, g2, g3, g4⟩
        refine ⟨g1, by omega, ?_, ?_⟩
        · rintro ⟨rfl, rfl⟩; omega
        · rintro ⟨rfl, rfl⟩; omega
    · rw [lo j e]; exact h.wit j (by omega)
  · rintro x y (hb | ⟨hl, hb⟩)
    · exact h.br1 x y hb
    · rcases hb with ⟨rfl, rfl⟩ | ⟨rfl, rfl⟩
      · rw [f1]; exact ⟨f2, hbr hl⟩
      · rw [f1]; exact ⟨G.sym _ _ f2, fun hc => hbr hl hc.turn⟩
  · rintro x y (hb | ⟨hl, hb⟩)
    · exact Or.inl (h.brs x y hb)
    · refine Or.inr ⟨hl, ?_⟩
      rcases hb with ⟨rfl, rfl⟩ | ⟨rfl, rfl⟩
      · exact Or.inr ⟨rfl, rfl⟩
      · exact Or.inl ⟨rfl, rfl⟩
  · intro v hv hpv
    rcases dn v hv with rfl | hv'
    · show (d.br (d.par (d.kn (i + 1))) (d.kn (i + 1)) ∨ _) ∨ Nb E (d.par (d.kn (i + 1))) (d.kn (i + 1))
      rw [hp]
      by_cases hl : d.le (i + 1) = d.tu (d.kn (i + 1))
      · exact Or.inl (Or.inr ⟨hl, Or.inl ⟨q3.symm, rfl⟩⟩)
      · exact Or.inr (hnb hl)
    · rcases h.br2 v hv' hpv with h1 | h1
      · exact Or.inl (Or.inl h1)
      · exact Or.inr h1

/-- the first is left -/
theorem Inv.leaveRoot {E : Nat → Nat → Prop} (G : Gr E) {d : Dv} (h : Inv E d) (hm : d.m = 1) (hn : d.nx 0 = 8) : Inv E { d with m := 0 } := by
  have q := h.knk 0 (by omega)
  have dn : ∀ v, Dn { d with m := 0 } v → v = d.kn 0 ∨ Dn d v := by
    intro v hv
    by_cases e : v = d.kn 0
    · exact Or.inl e
    · refine Or.inr ⟨hv.1, fun j hj ej => ?_⟩
      obtain rfl : j = 0 := by omega
      exact e ej.symm
  refine ⟨fun i hi => absurd hi (by simp), fun i hi => absurd hi (by simp), fun hi => absurd hi (by simp), h.tucn, h.tuinj, h.tu8, h.tree, fun hi => absurd hi (by simp), fun hi => absurd hi (by simp), ?_, fun i hi => absurd hi (by simp), fun i hi => absurd hi (by simp), fun i hi => absurd hi (by simp), h.br1, h.brs, ?_⟩
  · intro v hv x hvx
    rcases dn v hv with rfl | hv'
    · have hx8 : x < 8 := G.inn x _ (G.sym _ _ hvx)
      have := h.seen 0 (by omega) x (by omega) hvx
      exact ⟨this.1, this.2.1⟩
    · exact h.done v hv' x hvx
  · intro v hv hpv
    rcases dn v hv with rfl | hv'
    · exfalso
      apply hpv
      show d.par (d.kn 0) = d.kn 0
      rw [← q.2.2.1]; exact h.root (by omega)
    · exact h.br2 v hv' hpv
/-- in the end just the bridges are told -/
theorem Inv.answer {E : Nat → Nat → Prop} (G : Gr E) {d : Dv} (h : Inv E d) (hm : d.m = 0) (hall : ∀ v, v < 8 → 0 < d.tu v) (x y : Nat) : d.br x y ↔ E x y ∧ ¬ Nb E x y := by
  refine ⟨h.br1 x y, fun ⟨he, hn⟩ => ?_⟩
  have dn : ∀ v, v < 8 → Dn d v := fun v hv => ⟨hall v hv, fun i hi => by omega⟩
  have hx := G.inn x y he
  have hy := G.inn y x (G.sym _ _ he)
  rcases (h.done x (dn x hx) y he).2 with h1 | h1 | h1
  · rcases h.br2 x (dn x hx) (fun e => G.irr x (by rw [← h1, e] at he; exact he)) with h2 | h2
    · rw [h1] at h2; exact h.brs _ _ h2
    · rw [h1] at h2; exact absurd h2.turn hn
  · rcases h.br2 y (dn y hy) (fun e => G.irr y (by rw [← h1, e] at he; exact he)) with h2 | h2
    · rw [h1] at h2; exact h2
    · rw [h1] at h2; exact absurd h2 hn
  · exact absurd h1 hn

/-! ### How many are left -/
def vis (tu : Nat → Nat) (v : Nat) : Bool := decide (0 < tu v)
theorem vis_upd (tu : Nat → Nat) (k c : Nat) (hc : 0 < c) : vis (upd tu k c) = mark (vis tu) k := by
  funext j
  unfold vis mark upd
  by_cases e : j = k
  · simp [e, hc]
  · simp [e]
/-- looks that are still to come on the stack -/
def sm (nx : Nat → Nat) : Nat → Nat
  | 0 => 0
  | m + 1 => sm nx m + (9 - nx m)
theorem sm_above (nx : Nat → Nat) {i : Nat} (v : Nat) : ∀ m, m ≤ i → sm (upd nx i v) m = sm nx m := by
  intro m
  induction m with
  | zero => intro _; rfl
  | succ m ih =>
    intro h
    have e : upd nx i v m = nx m := upd_no nx v (by omega)
    simp only [sm, ih (by omega), e]
/-- what stands of the numbers -/
structure Aux (d : Dv) : Prop where
  mcn : d.m ≤ d.cn
  sum : d.cn + unm (vis d.tu) 8 = 8
def mu (d : Dv) : Nat := 10 * unm (vis d.tu) 8 + sm d.nx d.m
theorem Aux.push {d : Dv} (h : Aux d) {k f : Nat} (hk : k < 8) (hz : d.tu k = 0) : Aux (d.push k f) := by
  have h1 : (d.push k f).tu = upd d.tu k (d.cn + 1) := rfl
  have h2 := unm_mark (vis d.tu) (y := k) (by simp [vis, hz]) 8 hk
  refine ⟨by show d.m + 1 ≤ d.cn + 1; have := h.mcn; omega, ?_⟩
  rw [h1, vis_upd _ _ _ (by omega)]
  show d.cn + 1 + _ = 8
  have := h.sum; omega
theorem Aux.skip {d : Dv} (h : Aux d) (i x : Nat) : Aux (d.skip i x) := ⟨h.mcn, h.sum⟩
theorem Aux.look {d : Dv} (h : Aux d) (i x : Nat) : Aux (d.look i x) := ⟨h.mcn, h.sum⟩
theorem Aux.leave {d : Dv} (h : Aux d) {i : Nat} (hi : i + 2 = d.m) : Aux (d.leave i) := ⟨by show i + 1 ≤ d.cn; have := h.mcn; omega, h.sum⟩
theorem Aux.root {d : Dv} (h : Aux d) : Aux { d with m := 0 } := ⟨Nat.zero_le _, h.sum⟩
theorem mu_skip {d : Dv} {i x : Nat} (hi : i + 1 = d.m) (hn : d.nx i = x) (hx : x < 8) : mu (d.skip i x) < mu d := by
  unfold mu
  show 10 * unm (vis d.tu) 8 + sm (upd d.nx i (x + 1)) d.m < _
  rw [← hi]
  simp only [sm]
  rw [sm_above _ _ _ (Nat.le_refl _), upd_at, hn]; omega
theorem mu_look {d : Dv} {i x : Nat} (hi : i + 1 = d.m) (hn : d.nx i = x) (hx : x < 8) : mu (d.look i x) < mu d := mu_skip hi hn hx
theorem mu_push {d : Dv} {i k f : Nat} (hi : i + 1 = d.m) (hn : d.nx i = k) (hk : k < 8) (hz : d.tu k = 0) : mu ((d.skip i k).push k f) < mu d := by
  have h1 : ((d.skip i k).push k f).tu = upd d.tu k (d.cn + 1) := rfl
  have h2 := unm_mark (vis d.tu) (y := k) (by simp [vis, hz]) 8 hk
  have h3 := mu_skip (d := d) hi hn hk
  unfold mu at h3 ⊢
  rw [h1, vis_upd _ _ _ (by omega)]
  show 10 * unm (mark (vis d.tu) k) 8 + sm (upd (d.skip i k).nx d.m 0) (d.m + 1) < _
  simp only [sm]
  rw [sm_above _ _ _ (Nat.le_refl _), upd_at]
  have e : sm (d.skip i k).nx (d.skip i k).m = sm (d.skip i k).nx d.m := rfl
  have e2 : (d.skip i k).tu = d.tu := rfl
  rw [e, e2] at h3
  omega
theorem mu_leave {d : Dv} {i : Nat} (hi : i + 2 = d.m) (hn : d.nx (i + 1) = 8) : mu (d.leave i) < mu d := by
  unfold mu
  show 10 * unm (vis d.tu) 8 + sm d.nx (i + 1) < _
  rw [← hi]
  show _ < 10 * unm (vis d.tu) 8 + (sm d.nx (i + 1) + (9 - d.nx (i + 1)))
  rw [hn]; omega
theorem mu_root {d : Dv} (hm : d.m = 1) (hn : d.nx 0 = 8) : mu { d with m := 0 } < mu d := by
  unfold mu
  show 10 * unm (vis d.tu) 8 + 0 < _
  rw [hm]
  show _ < 10 * unm (vis d.tu) 8 + (0 + (9 - d.nx 0))
  rw [hn]; omega
theorem Aux.begin (tu0 : Nat → Nat) (h0 : ∀ v, tu0 v = 0) (kn fr nx le par : Nat → Nat) : Aux ⟨0, kn, fr, nx, le, tu0, 0, fun _ _ => False, par⟩ := by
  refine ⟨Nat.le_refl _, ?_⟩
  have : vis tu0 = fun _ => false := by funext v; simp [vis, h0]
  rw [this]
  show 0 + unm (fun _ => false) 8 = 8
  rfl

/-- a move that is told: from a knot to another one; up, with the least turn below -/
structure Mv where
  f : Nat
  t : Nat
  u : Bool
  l : Nat
/-- one step of going down, and what is told of it -/
inductive Tr (E : Nat → Nat → Prop) (d : Dv) : Option Mv → Dv → Prop where
  | root {k : Nat} (hm : d.m = 0) (hk : k < 8) (hz : d.tu k = 0) : Tr E d none (d.push k k)
  | skip {i x : Nat} (hi : d.m = i + 1) (hn : d.nx i = x) (hx : x < 8) (hc : ¬ E (d.kn i) x ∨ x = d.fr i) : Tr E d none (d.skip i x)
  | later {i x : Nat} (hi : d.m = i + 1) (hn : d.nx i = x) (hx : x < 8) (he : E (d.kn i) x) (hf : x ≠ d.fr i) (ht : d.tu (d.kn i) < d.tu x) : Tr E d none (d.look i x)
  | down {i x : Nat} (hi : d.m = i + 1) (hn : d.nx i = x) (hx : x < 8) (he : E (d.kn i) x) (hf : x ≠ d.fr i) (ht : d.tu x = 0) : Tr E d (some ⟨d.kn i, x, false, 0⟩) ((d.skip i x).push x (d.kn i))
  | back {i x : Nat} (hi : d.m = i + 1) (hn : d.nx i = x) (hx : x < 8) (he : E (d.kn i) x) (hf : x ≠ d.fr i) (h0 : 0 < d.tu x) (ht : d.tu x ≤ d.tu (d.kn i)) : Tr E d (some ⟨d.kn i, x, false, 0⟩) (d.look i x)
  | up {i : Nat} (hi : d.m = i + 2) (hn : d.nx (i + 1) = 8) : Tr E d (some ⟨d.fr (i + 1), d.kn (i + 1), true, d.le (i + 1)⟩) (d.leave i)
  | out (hm : d.m = 1) (hn : d.nx 0 = 8) : Tr E d none { d with m := 0 }
theorem Tr.inv {E : Nat → Nat → Prop} (G : Gr E) {d d' : Dv} {o : Option Mv} (t : Tr E d o d') (h : Inv E d) : Inv E d' := by
  cases t with
  | root hm hk hz => exact h.pushRoot G hm hk hz
  | skip hi hn hx hc => exact h.skipTo G (by omega) hn hx hc
  | later hi hn hx he hf ht => exact h.lookAt G (by omega) hn hx he hf (by omega)
  | down hi hn hx he hf ht => exact h.pushChild G (by omega) he ht hn
  | back hi hn hx he hf h0 ht => exact h.lookAt G (by omega) hn hx he hf h0
  | up hi hn => exact h.leaveTo G (by omega) hn
  | out hm hn => exact h.leaveRoot G hm hn
theorem Tr.aux {E : Nat → Nat → Prop} {d d' : Dv} {o : Option Mv} (t : Tr E d o d') (h : Aux d) : Aux d' := by
  cases t with
  | root hm hk hz => exact h.push hk hz
  | skip hi hn hx hc => exact h.skip _ _
  | later hi hn hx he hf ht => exact h.look _ _
  | down hi hn hx he hf ht => exact (h.skip _ _).push hx ht
  | back hi hn hx he hf h0 ht => exact h.look _ _
  | up hi hn => exact h.leave (by omega)
  | out hm hn => exact h.root
theorem Tr.less {E : Nat → Nat → Prop} {d d' : Dv} {o : Option Mv} (t : Tr E d o d') (hm : 0 < d.m) : mu d' < mu d := by
  cases t with
  | root h0 hk hz => omega
  | skip hi hn hx hc => exact mu_skip (by omega) hn hx
  | later hi hn hx he hf ht => exact mu_look (by omega) hn hx
  | down hi hn hx he hf ht => exact mu_push (by omega) hn hx ht
  | back hi hn hx he hf h0 ht => exact mu_look (by omega) hn hx
  | up hi hn => exact mu_leave (by omega) hn
  | out h1 hn => exact mu_root h1 hn
theorem Tr.tu {E : Nat → Nat → Prop} {d d' : Dv} {o : Option Mv} (t : Tr E d o d') {y : Nat} (hy : 0 < d.tu y) : d'.tu y = d.tu y := by
  cases t with
  | root h0 hk hz => exact upd_no _ _ (fun e => by subst e; omega)
  | skip hi hn hx hc => rfl
  | later hi hn hx he hf ht => rfl
  | down hi hn hx he hf ht => exact upd_no _ _ (fun e => by subst e; omega)
  | back hi hn hx he hf h0 ht => rfl
  | up hi hn => rfl
  | out h1 hn => rfl

end Go.Proofs.Ytljnjpjnadlmhaa
