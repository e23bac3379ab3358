/- Texts put together: Math, WLeaf, WOk, WLaw. -/
import Derived.Test.YticoiolpofibdaaDoorRows
import Derived.WalkKit
import Derived.WalkSpells
import Derived.WalkLawsBesides
import Derived.Laws.Bits64b
import Derived.Deep.QuietTactic
import Derived.BigQuiet
import Derived.Deep.RegionHeld3
/- Plain mathematics of nets: ties by their places, what is ok, and the set of bits of pairs. No program stands here. -/
namespace Go.Proofs.YticoiolpofibdaaDoor

def tA (ts : List (Int × Int)) (i : Nat) : Int := (ts.getD i (0, 0)).1
def tB (ts : List (Int × Int)) (i : Nat) : Int := (ts.getD i (0, 0)).2
def lessB (a b c d : Int) : Bool := decide (a < c) || (decide (a = c) && decide (b < d))
def inB (n lo hi : Int) : Bool := decide (lo ≤ n) && decide (n ≤ hi)
def knotB (k K : Int) : Bool := decide (0 ≤ k) && decide (k < K)
def idx (a b : Int) : Nat := (a * 8 + b).toNat
def pb (a b : Int) : Nat := 2 ^ idx a b
def TieOk (K a b : Int) : Prop := 0 ≤ a ∧ a < b ∧ b < K
def GoodAt (K : Int) (ts : List (Int × Int)) (i : Nat) : Prop := TieOk K (tA ts i) (tB ts i) ∧ (0 < i → lessB (tA ts (i - 1)) (tB ts (i - 1)) (tA ts i) (tB ts i) = true)
def GoodTo (K : Int) (ts : List (Int × Int)) (k : Nat) : Prop := ∀ i, i < k → GoodAt K ts i
def NetOk (K : Int) (ts : List (Int × Int)) : Prop := 0 ≤ K ∧ K ≤ 8 ∧ GoodTo K ts ts.length
def tieOkB (K a b : Int) : Bool := decide (0 ≤ a) && decide (a < b) && decide (b < K)
def goodB (K : Int) (ts : List (Int × Int)) (i : Nat) : Bool := tieOkB K (tA ts i) (tB ts i) && (decide (i = 0) || lessB (tA ts (i - 1)) (tB ts (i - 1)) (tA ts i) (tB ts i))
def okB (K : Int) (ts : List (Int × Int)) : Bool := decide (0 ≤ K) && decide (K ≤ 8) && (List.range ts.length).all (goodB K ts)
def maskN (ts : List (Int × Int)) : Nat → Nat
  | 0 => 0
  | k + 1 => maskN ts k ||| pb (tA ts k) (tB ts k)

theorem goodB_iff {K ts i} : goodB K ts i = true ↔ GoodAt K ts i := by
  unfold goodB GoodAt TieOk tieOkB
  simp only [Bool.and_eq_true, decide_eq_true_eq, Bool.or_eq_true]
  constructor
  · rintro ⟨⟨⟨a, b⟩, c⟩, d⟩
    exact ⟨⟨a, b, c⟩, fun h => d.resolve_left (by omega)⟩
  · rintro ⟨⟨a, b, c⟩, d⟩
    refine ⟨⟨⟨a, b⟩, c⟩, ?_⟩
    by_cases h : i = 0
    · exact Or.inl h
    · exact Or.inr (d (by omega))
theorem okB_iff {K ts} : okB K ts = true ↔ NetOk K ts := by
  unfold okB NetOk GoodTo
  simp only [Bool.and_eq_true, decide_eq_true_eq, List.all_eq_true, List.mem_range, goodB_iff, and_assoc]
/-- the set of a net's ties; none of one that is not ok -/
def setN (K : Int) (ts : List (Int × Int)) : Nat := if okB K ts = true then maskN ts ts.length else 0
theorem setN_yes {K ts} (h : okB K ts = true) : setN K ts = maskN ts ts.length := by simp [setN, h]
theorem setN_no {K ts} (h : okB K ts = false) : setN K ts = 0 := by simp [setN, h]
theorem okB_yes {K ts} (h : NetOk K ts) : okB K ts = true := okB_iff.2 h
theorem okB_no {K ts} (h : ¬ NetOk K ts) : okB K ts = false := by rw [← Bool.not_eq_true, okB_iff]; exact h

theorem lessB_iff (a b c d : Int) : lessB a b c d = true ↔ a < c ∨ (a = c ∧ b < d) := by simp [lessB]

theorem idx_lt {K a b : Int} (h : TieOk K a b) (hK : K ≤ 8) : idx a b < 64 := by
  obtain ⟨h1, h2, h3⟩ := h; unfold idx; omega
theorem idx_less {K a b c d : Int} (h : TieOk K a b) (g : TieOk K c d) (hK : K ≤ 8) : lessB a b c d = true ↔ idx a b < idx c d := by
  rw [lessB_iff]; obtain ⟨h1, h2, h3⟩ := h; obtain ⟨g1, g2, g3⟩ := g; unfold idx; omega

/-- what the bits of the first k ties come to: below the next power of the last one's bit, and not below that bit -/
theorem mask_bounds {K : Int} {ts : List (Int × Int)} (hK : K ≤ 8) : ∀ k, GoodTo K ts k → (0 < k → 2 ^ idx (tA ts (k - 1)) (tB ts (k - 1)) ≤ maskN ts k) ∧ (0 < k → maskN ts k < 2 ^ (idx (tA ts (k - 1)) (tB ts (k - 1)) + 1)) ∧ maskN ts k < 2 ^ 64 := by
  intro k
  induction k with
  | zero => intro _; exact ⟨fun h => absurd h (by omega), fun h => absurd h (by omega), by simp [maskN]⟩
  | succ k ih =>
    intro hg
    have hgk : GoodTo K ts k := fun i hi => hg i (by omega)
    obtain ⟨i1, i2, i3⟩ := ih hgk
    have gk := hg k (by omega)
    have l64 := idx_lt gk.1 hK
    have hlow : 2 ^ idx (tA ts k) (tB ts k) ≤ maskN ts (k + 1) := by
      simp only [maskN, pb]; exact Nat.right_le_or
    have hup : maskN ts (k + 1) < 2 ^ (idx (tA ts k) (tB ts k) + 1) := by
      simp only [maskN, pb]
      apply Nat.or_lt_two_pow
      · by_cases hk : k = 0
        · subst hk; simp [maskN]; exact Nat.two_pow_pos _
        · have hl := (idx_less (hg (k - 1) (by omega)).1 gk.1 hK).1 (gk.2 (by omega))
          have := i2 (by omega)
          exact Nat.lt_of_lt_of_le this (Nat.pow_le_pow_right (by omega) (by omega))
      · exact Nat.pow_lt_pow_right (by omega) (by omega)
    refine ⟨fun _ => by simpa using hlow, fun _ => by simpa using hup, ?_⟩
    exact Nat.lt_of_lt_of_le hup (Nat.pow_le_pow_right (by omega) (by omega))

/-- the bit of the next tie is above all bits that are set just if the tie stands behind the last one -/
theorem bit_above {K : Int} {ts : List (Int × Int)} (hK : K ≤ 8) {k : Nat} (hg : GoodTo K ts k) (ht : TieOk K (tA ts k) (tB ts k)) :
    GoodAt K ts k ↔ maskN ts k < pb (tA ts k) (tB ts k) := by
  obtain ⟨m1, m2, _⟩ := mask_bounds hK k hg
  unfold pb
  constructor
  · intro h
    by_cases hk : k = 0
    · subst hk; simp [maskN]; exact Nat.two_pow_pos _
    · have hl := (idx_less (hg (k - 1) (by omega)).1 ht hK).1 (h.2 (by omega))
      exact Nat.lt_of_lt_of_le (m2 (by omega)) (Nat.pow_le_pow_right (by omega) (by omega))
  · intro h
    refine ⟨ht, fun hk => ?_⟩
    rw [idx_less (hg (k - 1) (by omega)).1 ht hK]
    have h1 := m1 hk
    by_cases hc : idx (tA ts (k - 1)) (tB ts (k - 1)) < idx (tA ts k) (tB ts k)
    · exact hc
    · have := Nat.pow_le_pow_right (n := 2) (by omega) (Nat.le_of_not_lt hc)
      omega

theorem idx_grows {K : Int} {ts : List (Int × Int)} (hK : K ≤ 8) : ∀ k, GoodTo K ts (k + 1) → k ≤ idx (tA ts k) (tB ts k) := by
  intro k
  induction k with
  | zero => intro _; omega
  | succ k ih =>
    intro hg
    have h1 := ih (fun i hi => hg i (by omega))
    have := (idx_less (hg k (by omega)).1 (hg (k + 1) (by omega)).1 hK).1 ((hg (k + 1) (by omega)).2 (by omega))
    omega

theorem ok_short {K : Int} {ts : List (Int × Int)} (h : NetOk K ts) : ts.length ≤ 64 := by
  obtain ⟨_, hK, hg⟩ := h
  by_cases h0 : ts.length = 0
  · omega
  · have e : ts.length - 1 + 1 = ts.length := by omega
    have h1 := idx_grows hK (ts.length - 1) (by rw [e]; exact hg)
    have h2 := idx_lt (hg (ts.length - 1) (by omega)).1 hK
    omega

theorem good_snoc {K : Int} {ts : List (Int × Int)} {k : Nat} (h : GoodTo K ts k) (g : GoodAt K ts k) : GoodTo K ts (k + 1) := by
  intro i hi
  by_cases hik : i = k
  · subst hik; exact g
  · exact h i (by omega)

theorem not_ok_at {K : Int} {ts : List (Int × Int)} {k : Nat} (hk : k < ts.length) (h : ¬ GoodAt K ts k) : okB K ts = false := okB_no (fun ⟨_, _, g⟩ => h (g k hk))
theorem not_ok_tie {K : Int} {ts : List (Int × Int)} {k : Nat} (hk : k < ts.length) (h : ¬ TieOk K (tA ts k) (tB ts k)) : okB K ts = false := not_ok_at hk (fun g => h g.1)
theorem not_ok_knots {K : Int} {ts : List (Int × Int)} (h : K < 0 ∨ 8 < K) : okB K ts = false := okB_no (fun ⟨a, b, _⟩ => by omega)
theorem not_ok_long {K : Int} {ts : List (Int × Int)} (h : 64 < ts.length) : okB K ts = false := okB_no (fun g => by have := ok_short g; omega)
theorem ok_end {K : Int} {ts : List (Int × Int)} (h0 : 0 ≤ K) (h8 : K ≤ 8) (h : GoodTo K ts ts.length) : okB K ts = true := okB_yes ⟨h0, h8, h⟩
/-- the pair is among the ties -/
def tiedB (ts : List (Int × Int)) (a b : Int) : Bool := (List.range ts.length).any fun i => decide (tA ts i = a) && decide (tB ts i = b)
def hasB (K : Int) (ts : List (Int × Int)) (a b : Int) : Bool := okB K ts && tiedB ts (min a b) (max a b)
/-- the bit of two knots, in either order; none of what is no pair -/
def pbit (a b : Int) : Nat := if min a b < 0 ∨ min a b = max a b ∨ 8 ≤ max a b then 0 else pb (min a b) (max a b)

theorem tiedB_iff {ts a b} : tiedB ts a b = true ↔ ∃ i, i < ts.length ∧ tA ts i = a ∧ tB ts i = b := by
  unfold tiedB
  simp only [List.any_eq_true, List.mem_range, Bool.and_eq_true, decide_eq_true_eq]

theorem mask_bit (ts : List (Int × Int)) (j : Nat) : ∀ k, (maskN ts k).testBit j = true ↔ ∃ i, i < k ∧ idx (tA ts i) (tB ts i) = j := by
  intro k
  induction k with
  | zero => simp [maskN]
  | succ k ih =>
    simp only [maskN, Nat.testBit_or, Bool.or_eq_true, ih, pb, Nat.testBit_two_pow, decide_eq_true_eq]
    constructor
    · rintro (⟨i, h, e⟩ | e)
      · exact ⟨i, by omega, e⟩
      · exact ⟨k, by omega, e⟩
    · rintro ⟨i, h, e⟩
      by_cases hik : i = k
      · subst hik; exact Or.inr e
      · exact Or.inl ⟨i, by omega, e⟩

theorem idx_inj {a b c d : Int} (h0 : 0 ≤ a) (h1 : a < b) (h2 : b < 8) (g0 : 0 ≤ c) (g1 : c < d) (g2 : d < 8) (e : idx a b = idx c d) : a = c ∧ b = d := by
  unfold idx at e; omega

theorem and_pow (x j : Nat) : (x &&& 2 ^ j = 0) ↔ x.testBit j = false := by
  constructor
  · intro h
    have := congrArg (fun y => y.testBit j) h
    simpa [Nat.testBit_and, Nat.testBit_two_pow] using this
  · intro h
    apply Nat.eq_of_testBit_eq
    intro i
    rw [Nat.testBit_and, Nat.testBit_two_pow, Nat.zero_testBit]
    by_cases e : j = i
    · subst e; simp [h]
    · simp [e]

/-- the bit of two knots is in the set just if they are tied -/
theorem has_bits (K : Int) (ts : List (Int × Int)) (a b : Int) (h : NetOk K ts) : (maskN ts ts.length &&& pbit a b = 0) ↔ tiedB ts (min a b) (max a b) = false := by
  obtain ⟨hK0, hK8, hg⟩ := h
  unfold pbit
  by_cases hb : min a b < 0 ∨ min a b = max a b ∨ 8 ≤ max a b
  · rw [if_pos hb, ← Bool.not_eq_true, tiedB_iff]
    simp only [Nat.and_zero, true_iff]
    rintro ⟨i, hi, ea, eb⟩
    obtain ⟨g1, g2, g3⟩ := (hg i hi).1
    omega
  · rw [if_neg hb, ← Bool.not_eq_true, tiedB_iff]
    unfold pb
    rw [and_pow, ← Bool.not_eq_true, mask_bit]
    refine not_congr ⟨?_, ?_⟩
    · rintro ⟨i, hi, e⟩
      obtain ⟨g1, g2, g3⟩ := (hg i hi).1
      have := idx_inj g1 g2 (by omega) (by omega) (by omega) (by omega) e
      exact ⟨i, hi, this.1, this.2⟩
    · rintro ⟨i, hi, ea, eb⟩
      exact ⟨i, hi, by rw [ea, eb]⟩

theorem hasB_no {K ts a b} (h : okB K ts = false) : hasB K ts a b = false := by simp [hasB, h]
theorem hasB_ok {K ts a b} (h : okB K ts = true) : hasB K ts a b = tiedB ts (min a b) (max a b) := by simp [hasB, h]
theorem pbit_lt (a b : Int) : pbit a b < 2 ^ 64 := by
  unfold pbit
  split
  · exact Nat.two_pow_pos _
  · unfold pb; exact Nat.pow_lt_pow_right (by omega) (by unfold idx; omega)
theorem setN_lt (K : Int) (ts : List (Int × Int)) : setN K ts < 2 ^ 64 := by
  unfold setN
  split
  · rename_i h
    obtain ⟨_, hK, hg⟩ := okB_iff.1 h
    exact (mask_bounds hK _ hg).2.2
  · exact Nat.two_pow_pos _
theorem has_set (K : Int) (ts : List (Int × Int)) (a b : Int) (h : okB K ts = true) : (decide (setN K ts &&& pbit a b ≠ 0)) = hasB K ts a b := by
  rw [hasB_ok h, setN_yes h]
  have := has_bits K ts a b (okB_iff.1 h)
  cases ht : tiedB ts (min a b) (max a b)
  · rw [ht] at this; simp [this.2 rfl]
  · rw [ht] at this; simp at this; simp [this]
/-- the pair at place i is that of a and b: as the model asks it -/
def samePair (ts : List (Int × Int)) (a b : Int) (i : Nat) : Bool := decide (tA ts i = min a b) && decide (tB ts i = max a b)
theorem tied_at {ts : List (Int × Int)} {a b : Int} {i : Nat} (h : i < ts.length) (e : samePair ts a b i = true) : tiedB ts (min a b) (max a b) = true := by
  simp only [samePair, Bool.and_eq_true, decide_eq_true_eq] at e
  exact tiedB_iff.2 ⟨i, h, e.1, e.2⟩
theorem tied_none {ts : List (Int × Int)} {a b : Int} (h : ∀ i, i < ts.length → samePair ts a b i = false) : tiedB ts (min a b) (max a b) = false := by
  rw [← Bool.not_eq_true, tiedB_iff]
  rintro ⟨i, hi, ea, eb⟩
  have := h i hi
  simp [samePair, ea, eb] at this

end Go.Proofs.YticoiolpofibdaaDoor

/- Walks of the leaves: l6In, hasKnot, pairBit, with, l1Less. -/
namespace Go.Proofs.YticoiolpofibdaaDoor
open Go.RowKit
set_option linter.unusedVariables false

theorem ret_int {k : IntKind} {a b : Int} (h : a = b) : Ending.returned (.int k a) = .returned (.int k b) := by rw [h]
theorem ret_bool {a b : Bool} (h : a = b) : Ending.returned (.bool a) = .returned (.bool b) := by rw [h]
theorem below_one (w : World) (o : Obj) : Below w.heap.size w (w.alloc o) := (Below.refl _ _).alloc (Nat.le_refl _) o
theorem below_two (w : World) (o p : Obj) : Below w.heap.size w ((w.alloc o).alloc p) := (below_one w o).alloc (by simp) p

set_option maxHeartbeats 400000 in
theorem in_any (n lo hi : Int) (w : World) :
    Calls Tryd.prog 75 #[.int .i64 n, .int .i64 lo, .int .i64 hi] w fun e w' => e = .returned (.bool (inB n lo hi)) ∧ w' = w := by
  go_enter Tryd.func75, Tryd.ntmps75
  go_wp2
  · go_ret
    exact ⟨ret_bool (by simp [inB]; omega), rfl⟩
  · go_ret
    exact ⟨ret_bool (by simp [inB]; omega), rfl⟩
theorem in_yes (n lo hi : Int) (w : World) (h : lo ≤ n) (g : n ≤ hi) :
    Calls Tryd.prog 75 #[.int .i64 n, .int .i64 lo, .int .i64 hi] w fun e w' => e = .returned (.bool true) ∧ w' = w := by
  have e : inB n lo hi = true := by simp [inB, h, g]
  rw [← e]; exact in_any n lo hi w
theorem in_no (n lo hi : Int) (w : World) (h : n < lo ∨ hi < n) :
    Calls Tryd.prog 75 #[.int .i64 n, .int .i64 lo, .int .i64 hi] w fun e w' => e = .returned (.bool false) ∧ w' = w := by
  have e : inB n lo hi = false := by simp [inB]; omega
  rw [← e]; exact in_any n lo hi w

set_option maxHeartbeats 400000 in
theorem hasKnot_any (K : Int) (v : Value) (k : Int) (w : World) :
    Calls Tryd.prog 73 #[.agg #[.int .i64 K, v], .int .i64 k] w fun e w' => e = .returned (.bool (knotB k K)) ∧ w' = w.alloc (.cells #[.int .i64 K, v] 25) := by
  go_enter Tryd.func73, Tryd.ntmps73
  go_wp2
  · go_ret
    exact ⟨ret_bool (by simp [knotB]; omega), rfl⟩
  · go_ret
    exact ⟨ret_bool (by simp [knotB]; omega), rfl⟩
theorem hasKnot_yes (K : Int) (v : Value) (k : Int) (w : World) (h : 0 ≤ k) (g : k < K) :
    Calls Tryd.prog 73 #[.agg #[.int .i64 K, v], .int .i64 k] w fun e w' => e = .returned (.bool true) ∧ w' = w.alloc (.cells #[.int .i64 K, v] 25) := by
  have e : knotB k K = true := by simp [knotB, h, g]
  rw [← e]; exact hasKnot_any K v k w
theorem hasKnot_no (K : Int) (v : Value) (k : Int) (w : World) (h : k < 0 ∨ K ≤ k) :
    Calls Tryd.prog 73 #[.agg #[.int .i64 K, v], .int .i64 k] w fun e w' => e = .returned (.bool false) ∧ w' = w.alloc (.cells #[.int .i64 K, v] 25) := by
  have e : knotB k K = false := by simp [knotB]; omega
  rw [← e]; exact hasKnot_any K v k w

theorem wrap_pow (a b : Int) (h : 0 ≤ a) (hab : a < b) (hb : b < 8) : IntKind.u64.wrap (2 ^ (a * 8 + b).toNat) = ((pb a b : Nat) : Int) := by
  rw [IntKind.wrap_u64]
  unfold pb idx
  have hl : (a * 8 + b).toNat ≤ 63 := by omega
  have h1 : (2 : Nat) ^ (a * 8 + b).toNat ≤ 2 ^ 63 := Nat.pow_le_pow_right (by omega) hl
  have e : ((2 : Int) ^ (a * 8 + b).toNat) = (((2 : Nat) ^ (a * 8 + b).toNat : Nat) : Int) := by simp
  rw [e]
  generalize (2 : Nat) ^ (a * 8 + b).toNat = x at *
  omega

set_option maxHeartbeats 400000 in
theorem pairBit_yes (a b : Int) (w : World) (ha : 0 ≤ a) (hab : a < b) (hb : b < 8) :
    Calls Tryd.prog 88 #[.int .i64 a, .int .i64 b] w fun e w' => e = .returned (.int .u64 ((pb a b : Nat) : Int)) ∧ w' = w := by
  go_enter Tryd.func88, Tryd.ntmps88
  go_wp2
  · exfalso
    have h : (a < 0 ∨ (a == b) = true) ∨ 8 ≤ b := by assumption
    simp at h; omega
  · go_ret
    exact ⟨ret_int (wrap_pow a b ha hab hb), rfl⟩

theorem or_nat (p q : Nat) (hp : p < 2 ^ 64) (hq : q < 2 ^ 64) : bits .or .u64 (p : Int) (q : Int) = ((p ||| q : Nat) : Int) :=
  bits_or_u64_nat p q (by simpa using hp) (by simpa using hq)
theorem pb_lt {a b : Int} (ha : 0 ≤ a) (hab : a < b) (hb : b < 8) : pb a b < 2 ^ 64 := by
  unfold pb; exact Nat.pow_lt_pow_right (by omega) (by unfold idx; omega)

set_option maxHeartbeats 400000 in
theorem with_yes (p : Nat) (a b : Int) (w : World) (hp : p < 2 ^ 64) (ha : 0 ≤ a) (hab : a < b) (hb : b < 8) :
    Calls Tryd.prog 74 #[.int .u64 (p : Int), .int .i64 a, .int .i64 b] w fun e w' => e = .returned (.int .u64 ((p ||| pb a b : Nat) : Int)) ∧ w' = w := by
  have hq := pb_lt ha hab hb
  have hor := or_nat p (pb a b) hp hq
  clear hp hq
  go_enter Tryd.func74, Tryd.ntmps74
  go_wp2_with (go_at_call 88; refine (pairBit_yes a b _ ha hab hb).mono ?_; rintro e w' ⟨rfl, rfl⟩)
  go_ret
  exact ⟨rfl, rfl⟩

def boxed2 (w : World) (a b c d : Int) : World := (w.alloc (.cells #[.int .i64 a, .int .i64 b] 35)).alloc (.cells #[.int .i64 c, .int .i64 d] 35)
set_option maxHeartbeats 400000 in
theorem less_any (a b c d : Int) (w : World) :
    Calls Tryd.prog 76 #[.agg #[.int .i64 a, .int .i64 b], .agg #[.int .i64 c, .int .i64 d]] w fun e w' => e = .returned (.bool (lessB a b c d)) ∧ w' = (w.alloc (.cells #[.int .i64 a, .int .i64 b] 35)).alloc (.cells #[.int .i64 c, .int .i64 d] 35) := by
  have L : Hid (lessB a b c d = (decide (a < c) || (decide (a = c) && decide (b < d)))) := rfl
  have E : Hid (boxed2 w a b c d = (w.alloc (.cells #[.int .i64 a, .int .i64 b] 35)).alloc (.cells #[.int .i64 c, .int .i64 d] 35)) := rfl
  rw [← E.out]
  go_enter Tryd.func76, Tryd.ntmps76
  go_wp2
  · go_ret
    have e : a = c := by assumption
    have e2 : lessB a b c d = decide (b < d) := by unfold lessB; simp [e]
    exact ⟨ret_bool e2.symm, by rw [E.out, e]⟩
  · go_ret
    exact ⟨ret_bool (by rw [L.out]; simp; omega), E.out.symm⟩
  · go_ret
    exact ⟨ret_bool (by rw [L.out]; simp; omega), E.out.symm⟩
theorem less_is (v : Bool) (a b c d : Int) (w : World) (h : lessB a b c d = v) :
    Calls Tryd.prog 76 #[.agg #[.int .i64 a, .int .i64 b], .agg #[.int .i64 c, .int .i64 d]] w fun e w' => e = .returned (.bool v) ∧ w' = (w.alloc (.cells #[.int .i64 a, .int .i64 b] 35)).alloc (.cells #[.int .i64 c, .int .i64 d] 35) := by
  rw [← h]; exact less_any a b c d w
theorem in_is (v : Bool) (n lo hi : Int) (w : World) (h : inB n lo hi = v) :
    Calls Tryd.prog 75 #[.int .i64 n, .int .i64 lo, .int .i64 hi] w fun e w' => e = .returned (.bool v) ∧ w' = w := by
  rw [← h]; exact in_any n lo hi w

end Go.Proofs.YticoiolpofibdaaDoor

/- Walks of impl.pairsOf and impl.NetOk. -/
namespace Go.Proofs.YticoiolpofibdaaDoor
open Go.RowKit
set_option linter.unusedVariables false

/-- the ties ts lie in w behind the address ao, two cells each, in a block below B -/
def TiesIn (w : World) (B : Nat) (ao : Option Addr) (ts : List (Int × Int)) : Prop :=
  ∀ i, i < ts.length → ∃ b off, ao = some ⟨b, off, none⟩ ∧ b < B ∧ w.cell? ⟨b, off + i * 2, none⟩ = some (.int .i64 (tA ts i)) ∧ w.cell? ⟨b, off + i * 2 + 1, none⟩ = some (.int .i64 (tB ts i))

theorem TiesIn.below {w w' : World} {B : Nat} {ao : Option Addr} {ts : List (Int × Int)} (h : TiesIn w B ao ts) {C : Nat} (hb : Below C w w') (hC : B ≤ C) : TiesIn w' B ao ts := by
  intro i hi
  obtain ⟨b, off, e, hlt, c0, c1⟩ := h i hi
  exact ⟨b, off, e, hlt, (hb.cell (p := ⟨b, off + i * 2, none⟩) (by simpa using Nat.lt_of_lt_of_le hlt hC)).trans c0, (hb.cell (p := ⟨b, off + i * 2 + 1, none⟩) (by simpa using Nat.lt_of_lt_of_le hlt hC)).trans c1⟩

theorem TiesIn.wide {w : World} {B C : Nat} {ao : Option Addr} {ts : List (Int × Int)} (h : TiesIn w B ao ts) (hC : B ≤ C) : TiesIn w C ao ts := by
  intro i hi
  obtain ⟨b, off, e, hlt, c0, c1⟩ := h i hi
  exact ⟨b, off, e, Nat.lt_of_lt_of_le hlt hC, c0, c1⟩

set_option maxHeartbeats 800000 in
theorem pairsOf_any (K : Int) (ao : Option Addr) (cap : Nat) (ts : List (Int × Int)) (w : World) (hn : ts.length ≤ 1099511627776) (ht : TiesIn w w.heap.size ao ts) :
    Calls Tryd.prog 55 #[.agg #[.int .i64 K, .slice ao ts.length cap]] w fun e w' =>
      e = .returned (.tuple #[.int .u64 ((setN K ts : Nat) : Int), .bool (okB K ts)]) ∧ Below w.heap.size w w' := by
  by_cases hK : K < 0 ∨ 8 < K
  · have hno := not_ok_knots (ts := ts) hK
    rw [setN_no hno, hno]
    rcases hK with h | h
    · go_enter Tryd.func55, Tryd.ntmps55
      go_wp2
      go_ret2
      exact ⟨rfl, below_one _ _⟩
    · have h' : ¬ K < 0 := by omega
      go_enter Tryd.func55, Tryd.ntmps55
      go_wp2
      go_ret2
      exact ⟨rfl, below_one _ _⟩
  · have hK0 : 0 ≤ K := by omega
    have hK8 : K ≤ 8 := by omega
    clear hK
    have d1 : decide (K < 0) = false := by simp; omega
    have d2 : decide (8 < K) = false := by simp; omega
    obtain ⟨n, hnn⟩ : ∃ n, n = ts.length := ⟨_, rfl⟩
    have HN : Hid (n = ts.length) := hnn
    rw [← hnn] at hn ⊢
    clear hnn
    go_enter Tryd.func55, Tryd.ntmps55
    go_wp2
    go_loopw [4, 18] (fun s i wr => ∃ k : Nat, k ≤ n ∧ i = .int .i64 k ∧ s = .int .u64 ((maskN ts k : Nat) : Int) ∧ GoodTo K ts k ∧ Below (w.heap.size + 1) (w.alloc (.cells #[.int .i64 K, .slice ao n cap] 25)) wr)
      (fun _ i _ => n - (intOf i).toNat)
    case atStart => exact ⟨0, Nat.zero_le _, rfl, rfl, fun i hi => absurd hi (by omega), Below.refl _ _⟩
    case round =>
      obtain ⟨k, hk, rfl, rfl, hgood, hnx⟩ := hrel
      by_cases hlt : k < n
      · obtain ⟨b, off, rfl, hbw, c0, c1⟩ := ht k (by rw [← HN.out]; exact hlt)
        have c0' : wr.cell? ⟨b, off + k * 2, none⟩ = some (.int .i64 (tA ts k)) := (hnx.cell (p := ⟨b, off + k * 2, none⟩) (by simp; omega)).trans ((World.cell?_alloc_past _ _ _ hbw).trans c0)
        have c1' : wr.cell? ⟨b, off + k * 2 + 1, none⟩ = some (.int .i64 (tB ts k)) := (hnx.cell (p := ⟨b, off + k * 2 + 1, none⟩) (by simp; omega)).trans ((World.cell?_alloc_past _ _ _ hbw).trans c1)
        have hz : w.heap.size < wr.heap.size := by have := hnx.size; simp at this; omega
        have hz1 : w.heap.size < wr.heap.size + 1 := by omega
        have hz2 : w.heap.size < wr.heap.size + 1 + 1 := by omega
        have hz3 : wr.heap.size < wr.heap.size + 1 + 1 := by omega
        have k0 : wr.cell? ⟨w.heap.size, 0, none⟩ = some (.int .i64 K) := (hnx.cell (p := ⟨w.heap.size, 0, none⟩) (by simp)).trans (by simp)
        have k1 : wr.cell? ⟨w.heap.size, 1, none⟩ = some (.slice (some ⟨b, off, none⟩) n cap) := (hnx.cell (p := ⟨w.heap.size, 1, none⟩) (by simp)).trans (by simp)
        have hbel : Below w.heap.size w wr := (below_one _ _).trans (hnx.mono (by omega))
        obtain ⟨x, hx⟩ : ∃ x, x = tA ts k := ⟨_, rfl⟩
        obtain ⟨y, hy⟩ : ∃ y, y = tB ts k := ⟨_, rfl⟩
        rw [← hx] at c0'; rw [← hy] at c1'
        clear c0 c1
        have hkl : k < ts.length := by rw [← HN.out]; exact hlt
        have HB : ¬ TieOk K x y → Hid (okB K ts = false) := fun h => not_ok_tie hkl (by rw [← hx, ← hy]; exact h)
        have HM := (mask_bounds hK8 k hgood).2.2
        have HX : Hid (x = tA ts k ∧ y = tB ts k) := ⟨hx, hy⟩
        clear hx hy ht
        by_cases hgt : TieOk K x y
        · have hgt' := hgt
          obtain ⟨q1, q2, q3⟩ := hgt
          have q4 : y < 8 := by omega
          have hbit := bit_above hK8 hgood (k := k) (by rw [← HX.out.1, ← HX.out.2]; exact hgt')
          rw [← HX.out.1, ← HX.out.2] at hbit
          by_cases hga : GoodAt K ts k
          · have hm : ¬ (((pb x y : Nat) : Int) ≤ ((maskN ts k : Nat) : Int)) := by have := hbit.1 hga; omega
            have hlow : ((maskN ts k : Nat) : Int) < ((pb x y : Nat) : Int) := by omega
            have HG : Hid (GoodTo K ts (k + 1)) := good_snoc hgood hga
            have HMK : Hid (maskN ts (k + 1) = maskN ts k ||| pb x y) := by rw [HX.out.1, HX.out.2]; rfl
            clear hbit hga hgood HB hgt' hm
            go_wp2_with fail
            refine (hasKnot_yes K _ x _ q1 (by omega)).mono ?_
            rintro e w1 ⟨rfl, rfl⟩
            go_wp2_with fail
            refine (hasKnot_yes K _ y _ (by omega) q3).mono ?_
            rintro e w1 ⟨rfl, rfl⟩
            go_wp2_with fail
            refine (pairBit_yes x y _ q1 q2 q4).mono ?_
            rintro e w1 ⟨rfl, rfl⟩
            go_wp2_with fail
            refine (with_yes (maskN ts k) x y _ HM q1 q2 q4).mono ?_
            rintro e w1 ⟨rfl, rfl⟩
            go_wp2
            go_roundw
            case rel => exact ⟨k + 1, by omega, by go_num, by rw [HMK.out], HG.out, ((hnx.alloc (by omega) _).alloc (by simp; omega) _).alloc (by simp; omega) _⟩
            case measure => simp [intOf]; omega
          · have hm : ((pb x y : Nat) : Int) ≤ ((maskN ts k : Nat) : Int) := by
              have : ¬ maskN ts k < pb x y := fun h => hga (hbit.2 h)
              omega
            have HO : Hid (okB K ts = false) := not_ok_at hkl hga
            have hfin : Hid (setN K ts = 0) := setN_no HO.out
            clear hbit hga hgood HB hgt'
            go_wp2_with fail
            refine (hasKnot_yes K _ x _ q1 (by omega)).mono ?_
            rintro e w1 ⟨rfl, rfl⟩
            go_wp2_with fail
            refine (hasKnot_yes K _ y _ (by omega) q3).mono ?_
            rintro e w1 ⟨rfl, rfl⟩
            go_wp2_with fail
            refine (pairBit_yes x y _ q1 q2 q4).mono ?_
            rintro e w1 ⟨rfl, rfl⟩
            go_wp2
            go_ret2
            exact ⟨by rw [hfin.out, HO.out]; rfl, ((hbel.alloc hbel.size _).alloc (by simp; omega) _).alloc (by simp; omega) _⟩
        · have HO := HB hgt
          have hfin : Hid (setN K ts = 0) := setN_no HO.out
          clear HB HM hgood
          by_cases h1 : y ≤ x
          · go_wp2
            go_ret2
            exact ⟨by rw [hfin.out, HO.out]; rfl, hbel.alloc hbel.size _⟩
          · by_cases h2 : 0 ≤ x ∧ x < K
            · obtain ⟨h2a, h2b⟩ := h2
              have h3 : K ≤ y := by
                apply Decidable.byContradiction; intro hc; exact hgt ⟨h2a, by omega, by omega⟩
              clear hgt
              go_wp2_with fail
              refine (hasKnot_yes K _ x _ h2a h2b).mono ?_
              rintro e w1 ⟨rfl, rfl⟩
              go_wp2_with fail
              refine (hasKnot_no K _ y _ (Or.inr h3)).mono ?_
              rintro e w1 ⟨rfl, rfl⟩
              go_wp2
              go_ret2
              exact ⟨by rw [hfin.out, HO.out]; rfl, ((hbel.alloc hbel.size _).alloc (by simp; omega) _).alloc (by simp; omega) _⟩
            · have h3 : x < 0 ∨ K ≤ x := by omega
              clear hgt h2
              go_wp2_with fail
              refine (hasKnot_no K _ x _ h3).mono ?_
              rintro e w1 ⟨rfl, rfl⟩
              go_wp2
              go_ret2
              exact ⟨by rw [hfin.out, HO.out]; rfl, (hbel.alloc hbel.size _).alloc (by simp; omega) _⟩
      · have hkn : k = n := by omega
        subst hkn
        have hok : okB K ts = true := ok_end hK0 hK8 (by rw [← HN.out]; exact hgood)
        have HS : Hid (setN K ts = maskN ts k) := by rw [HN.out]; exact setN_yes hok
        have HO : Hid (okB K ts = true) := hok
        clear hok
        go_wp2
        go_ret2
        refine ⟨?_, (below_one _ _).trans (hnx.mono (by omega))⟩
        rw [HS.out, HO.out]; rfl

set_option maxHeartbeats 400000 in
theorem netOk_any (K : Int) (ao : Option Addr) (cap : Nat) (ts : List (Int × Int)) (w : World) (hn : ts.length ≤ 1099511627776) (ht : TiesIn w w.heap.size ao ts) :
    Calls Tryd.prog 62 #[.agg #[.int .i64 K, .slice ao ts.length cap]] w fun e w' => e = .returned (.bool (okB K ts)) ∧ Below w.heap.size w w' := by
  have ht1 : TiesIn (w.alloc (.cells #[.int .i64 K, .slice ao ts.length cap] 25)) (w.heap.size + 1) ao ts := (ht.below (below_one _ _) (Nat.le_refl _)).wide (by omega)
  go_enter Tryd.func62, Tryd.ntmps62
  go_wp2_with fail
  refine (pairsOf_any K ao cap ts _ hn (by simpa using ht1)).mono ?_
  rintro e w1 ⟨rfl, hb⟩
  go_wp2
  go_ret
  exact ⟨rfl, (below_one _ _).trans (hb.mono (by simp))⟩

end Go.Proofs.YticoiolpofibdaaDoor

/- Walks of the laws' own helpers: toTie, toTieS, toNet, eqTie, eqTieS, eqNet, szTieS, szNet. -/
namespace Go.Proofs.YticoiolpofibdaaDoor
open Go.RowKit
set_option linter.unusedVariables false

theorem Tryd.infoTie : (Tryd.prog.info? 35).map (fun i => (i.zero, i.size, i.bytes)) = some (some (.agg #[.int .i64 0, .int .i64 0]), 2, 16) := by kernel_rfl

theorem cell_twod (w : World) (o p : Obj) (b i : Nat) (h : b < w.heap.size) : (((w.alloc o).alloc p).drew).cell? ⟨b, i, none⟩ = w.cell? ⟨b, i, none⟩ := by
  show ((w.alloc o).alloc p).cell? ⟨b, i, none⟩ = _
  rw [World.cell?_alloc_past _ _ _ (by simp; omega), World.cell?_alloc_past _ _ _ h]
/-- block g of w holds 2 * n cells, f j at place j, none frozen -/
def OwnT (w : World) (g n : Nat) (f : Nat → Value) : Prop :=
  (∀ j, j < n * 2 → w.cell? ⟨g, j, none⟩ = some (f j)) ∧ (∀ j, w.frozen? ⟨g, j, none⟩ = false) ∧ g < w.heap.size
def tcell (ts : List (Int × Int)) (j : Nat) : Value := .int .i64 (if j % 2 = 0 then tA ts (j / 2) else tB ts (j / 2))
def fcell (ts : List (Int × Int)) (k j : Nat) : Value := if j < k * 2 then tcell ts j else .int .i64 0

theorem tcell0 (ts : List (Int × Int)) (k : Nat) : tcell ts (k * 2) = .int .i64 (tA ts k) := by
  have h1 : (k * 2) % 2 = 0 := by omega
  have h2 : k * 2 / 2 = k := by omega
  simp [tcell, h1, h2]
theorem tcell1 (ts : List (Int × Int)) (k : Nat) : tcell ts (k * 2 + 1) = .int .i64 (tB ts k) := by
  have h1 : (k * 2 + 1) % 2 = 1 := by omega
  have h2 : (k * 2 + 1) / 2 = k := by omega
  simp [tcell, h1, h2]

theorem OwnT.below {w w' : World} {g n : Nat} {f : Nat → Value} {B : Nat} (h : OwnT w g n f) (hb : Below B w w') (hg : g < B) : OwnT w' g n f :=
  ⟨fun j hj => (hb.cell (p := ⟨g, j, none⟩) hg).trans (h.1 j hj), fun j => (hb.frozen (p := ⟨g, j, none⟩) hg).trans (h.2.1 j), Nat.lt_of_lt_of_le h.2.2 hb.size⟩
theorem OwnT.congr {w : World} {g n : Nat} {f f' : Nat → Value} (h : OwnT w g n f) (he : ∀ j, j < n * 2 → f j = f' j) : OwnT w g n f' :=
  ⟨fun j hj => (h.1 j hj).trans (by rw [he j hj]), h.2⟩
theorem OwnT.set {w : World} {g n : Nat} {f : Nat → Value} (h : OwnT w g n f) {i : Nat} (hi : i < n * 2) (u : Value) : OwnT (w.setCell ⟨g, i, none⟩ u) g n (fun j => if j = i then u else f j) := by
  refine ⟨fun j hj => ?_, fun j => ?_, by simpa using h.2.2⟩
  · by_cases hji : j = i
    · subst hji; simp only [if_true]; exact World.cell?_setCell_same w ⟨g, j, none⟩ u (h.1 j hj)
    · show _ = some (if j = i then u else f j)
      rw [if_neg hji, World.cell?_setCell_other _ _ _ _ (by simp)]; exact h.1 j hj
  · rw [World.frozen?_setCell]; exact h.2.1 j
theorem OwnT.other {w : World} {g n : Nat} {f : Nat → Value} (h : OwnT w g n f) {p : Addr} (hp : p.block ≠ g) (u : Value) : OwnT (w.setCell p u) g n f := by
  have e := Below.heap_setCell w p u g (fun e => hp e.symm)
  exact ⟨fun j hj => (World.cell?_of_block (a := ⟨g, j, none⟩) e).trans (h.1 j hj), fun j => (World.frozen?_of_block (a := ⟨g, j, none⟩) e).trans (h.2.1 j), by simpa using h.2.2⟩
theorem OwnT.ties {w : World} {g : Nat} {ts : List (Int × Int)} (h : OwnT w g ts.length (tcell ts)) {B : Nat} (hB : g < B) : TiesIn w B (some ⟨g, 0, none⟩) ts := by
  intro i hi
  refine ⟨g, 0, rfl, hB, ?_, ?_⟩
  · rw [show 0 + i * 2 = i * 2 by omega, h.1 (i * 2) (by omega), tcell0]
  · rw [show 0 + i * 2 + 1 = i * 2 + 1 by omega, h.1 (i * 2 + 1) (by omega), tcell1]
theorem OwnT.made {w : World} {g n cap : Nat} {base : Nat} (h : w.ownsRow base 35 2 (.slice (some ⟨g, 0, none⟩) n cap) n (madeCells #[.int .i64 0, .int .i64 0] (n * 2)).toList) (ts : List (Int × Int)) : OwnT w g n (fcell ts 0) := by
  refine ⟨fun j hj => ?_, fun j => h.frozenAt j, ?_⟩
  · rw [h.cellAt j hj]
    simp [madeCells, hj, fcell]
    have : j % 2 = 0 ∨ j % 2 = 1 := by omega
    rcases this with e | e <;> simp [e]
  · rcases h.2 with ⟨h', _⟩ | ⟨g', cap', cur, h', _, hg, _⟩
    · simp at h'
    · simp only [Value.slice.injEq, Option.some.injEq, Addr.mk.injEq, and_true, true_and] at h'
      obtain ⟨rfl, _⟩ := h'
      exact (Array.getElem?_eq_some_iff.1 hg).1
theorem fill_step (ts : List (Int × Int)) (n k j : Nat) (hk : k < n) (hj : j < n * 2) :
    (if j = k * 2 + 1 then Value.int .i64 (tB ts k) else if j = k * 2 then .int .i64 (tA ts k) else fcell ts k j) = fcell ts (k + 1) j := by
  by_cases h1 : j = k * 2 + 1
  · subst h1; rw [if_pos rfl, fcell, if_pos (by omega), tcell1]
  · rw [if_neg h1]
    by_cases h2 : j = k * 2
    · subst h2; rw [if_pos rfl, fcell, if_pos (by omega), tcell0]
    · rw [if_neg h2]
      unfold fcell
      by_cases h3 : j < k * 2
      · rw [if_pos h3, if_pos (by omega)]
      · rw [if_neg h3, if_neg (by omega)]
theorem fill_end (ts : List (Int × Int)) (n j : Nat) (hj : j < n * 2) : fcell ts n j = tcell ts j := by rw [fcell, if_pos hj]





theorem three_last (w : World) (o p : Obj) (c : Array Value) (t : TypeId) (i : Nat) : (((w.alloc o).alloc p).alloc (.cells c t)).cell? ⟨w.heap.size + 2, i, none⟩ = c[i]? := World.cell?_alloc_at _ _ _ _ (by simp)
theorem three_mid (w : World) (o q : Obj) (c : Array Value) (t : TypeId) (i : Nat) : (((w.alloc o).alloc (.cells c t)).alloc q).cell? ⟨w.heap.size + 1, i, none⟩ = c[i]? := by
  rw [World.cell?_alloc_past _ _ _ (by simp)]; exact World.cell?_alloc_at _ _ _ _ (by simp)
theorem three_lastF (w : World) (o p : Obj) (c : Array Value) (t : TypeId) (i : Nat) : (((w.alloc o).alloc p).alloc (.cells c t)).frozen? ⟨w.heap.size + 2, i, none⟩ = false := World.frozen?_alloc_at _ _ _ _ (by simp)
theorem three_midF (w : World) (o q : Obj) (c : Array Value) (t : TypeId) (i : Nat) : (((w.alloc o).alloc (.cells c t)).alloc q).frozen? ⟨w.heap.size + 1, i, none⟩ = false := by
  rw [World.frozen?_alloc_past _ _ _ (by simp)]; exact World.frozen?_alloc_at _ _ _ _ (by simp)
theorem below_three (w : World) (o p q : Obj) : Below w.heap.size w (((w.alloc o).alloc p).alloc q) := (below_two w o p).alloc (by simp; omega) q





end Go.Proofs.YticoiolpofibdaaDoor
