/- Texts put together: WTies, WAdd, WCut. -/
import Derived.Test.YtljnjpjnadlmhaaPartWSpecOk
import Derived.Laws.BitsAllLaws
import Derived.Test.YtljnjpjnadlmhaaPartWInts
import Derived.Test.YtljnjpjnadlmhaaPartWLeaf
import Derived.Deep.LoopGhost
import Derived.Test.YtljnjpjnadlmhaaMath4
/- Walks of bits.TrailingZeros64 and of ties. -/
namespace Go.Proofs.Ytljnjpjnadlmhaa
open Go.RowKit
set_option linter.unusedVariables false

def dbT : List Int := [0, 1, 56, 2, 57, 49, 28, 3, 61, 58, 42, 50, 38, 29, 17, 4, 62, 47, 59, 36, 45, 43, 51, 22, 53, 39, 33, 30, 24, 18, 12, 5, 63, 55, 48, 27, 60, 41, 37, 16, 46, 35, 44, 21, 52, 32, 23, 11, 54, 26, 40, 15, 34, 20, 31, 10, 25, 14, 19, 9, 13, 8, 7, 6]
def dbAt (c : Nat) : Nat := 2 ^ c * 285870213051353865 % 18446744073709551616 / 288230376151711744
theorem db_table : ∀ c : Fin 64, dbT.getD (dbAt c.val) 0 = (c.val : Int) ∧ dbAt c.val < 64 := by decide +kernel
theorem db_index (m c : Nat) (h0 : ∀ j, j < c → m.testBit j = false) (h1 : m.testBit c = true) (hm : m < 2 ^ 64) :
    IntKind.u64.wrap (bits BinOp.and IntKind.u64 (m : Int) (IntKind.u64.wrap (-(m : Int))) * 285870213051353865) / 288230376151711744 = ((dbAt c : Nat) : Int) := by
  have hpos : 0 < m := by
    rcases Nat.eq_zero_or_pos m with e | e
    · subst e; simp at h1
    · exact e
  have e1 : IntKind.u64.wrap (-(m : Int)) = ((2 ^ 64 - m : Nat) : Int) := by
    rw [IntKind.wrap_u64]
    have : (2 : Nat) ^ 64 = 18446744073709551616 := by decide
    rw [this] at hm ⊢
    omega
  rw [e1, and_nat m (2 ^ 64 - m) hm (by omega), low_only h0 h1 hm, IntKind.wrap_u64]
  unfold dbAt
  have e2 : (((2 ^ c : Nat) : Int) * 285870213051353865) = ((2 ^ c * 285870213051353865 : Nat) : Int) := by simp
  rw [e2]
  generalize 2 ^ c * 285870213051353865 = y
  omega
theorem bit_lt {m c : Nat} (h1 : m.testBit c = true) (hm : m < 2 ^ 64) : c < 64 := by
  apply Decidable.byContradiction
  intro hc
  have : m.testBit c = false := Nat.testBit_lt_two_pow (Nat.lt_of_lt_of_le hm (Nat.pow_le_pow_right (by omega) (by omega)))
  rw [this] at h1; simp at h1
/-- the bits from the k-th tie on -/
def BitsFrom (m : Nat) (ts : List (Int × Int)) (k : Nat) : Prop := ∀ j, m.testBit j = true ↔ ∃ i, k ≤ i ∧ i < ts.length ∧ idx (tA ts i) (tB ts i) = j
theorem bitsFrom_low {K : Int} {ts : List (Int × Int)} (hK : K ≤ 8) (hg : GoodTo K ts ts.length) {m k : Nat} (hb : BitsFrom m ts k) (hk : k < ts.length) :
    (∀ j, j < idx (tA ts k) (tB ts k) → m.testBit j = false) ∧ m.testBit (idx (tA ts k) (tB ts k)) = true := by
  constructor
  · intro j hj
    rw [← Bool.not_eq_true, hb j]
    rintro ⟨i, h1, h2, e⟩
    by_cases hik : i = k
    · subst hik; omega
    · have := good_lt hK hg k i (by omega) h2; omega
  · exact (hb _).2 ⟨k, Nat.le_refl _, hk, rfl⟩
theorem bitsFrom_next {K : Int} {ts : List (Int × Int)} (hK : K ≤ 8) (hg : GoodTo K ts ts.length) {m k : Nat} (hb : BitsFrom m ts k) (hk : k < ts.length) : BitsFrom (m &&& (m - 1)) ts (k + 1) := by
  obtain ⟨l0, l1⟩ := bitsFrom_low hK hg hb hk
  intro j
  rw [low_strike l0 l1 j, Bool.and_eq_true, hb j, decide_eq_true_eq]
  constructor
  · rintro ⟨⟨i, h1, h2, e⟩, hne⟩
    refine ⟨i, ?_, h2, e⟩
    by_cases hik : i = k
    · subst hik; exact absurd e.symm hne
    · omega
  · rintro ⟨i, h1, h2, e⟩
    refine ⟨⟨i, by omega, h2, e⟩, ?_⟩
    have := good_lt hK hg k i (by omega) h2
    omega
theorem bitsFrom_end {ts : List (Int × Int)} {m k : Nat} (hb : BitsFrom m ts k) (hk : ts.length ≤ k) : m = 0 := by
  apply Nat.eq_of_testBit_eq
  intro j
  rw [Nat.zero_testBit, ← Bool.not_eq_true, hb j]
  rintro ⟨i, h1, h2, _⟩
  omega
theorem bitsFrom_pos {K : Int} {ts : List (Int × Int)} (hK : K ≤ 8) (hg : GoodTo K ts ts.length) {m k : Nat} (hb : BitsFrom m ts k) (hk : k < ts.length) : 0 < m := by
  have := (bitsFrom_low hK hg hb hk).2
  rcases Nat.eq_zero_or_pos m with e | e
  · subst e; simp at this
  · exact e
end Go.Proofs.Ytljnjpjnadlmhaa

/- Walk of impl.NetAdd. -/
namespace Go.Proofs.Ytljnjpjnadlmhaa
open Go.RowKit
set_option linter.unusedVariables false

theorem bitsFrom_of {m : Nat} {ts : List (Int × Int)} (h : BitsOf m ts) : BitsFrom m ts 0 := by
  intro j
  rw [h j, ← mem_get]
  exact ⟨fun ⟨i, h1, h2⟩ => ⟨i, Nat.zero_le _, h1, h2⟩, fun ⟨i, _, h1, h2⟩ => ⟨i, h1, h2⟩⟩
end Go.Proofs.Ytljnjpjnadlmhaa

/- Walks of without, withoutKnot, impl.NetCut, impl.NetWithout. -/
namespace Go.Proofs.Ytljnjpjnadlmhaa
open Go.RowKit
set_option linter.unusedVariables false

theorem andNot_nat (p q : Nat) (hp : p < 2 ^ 64) (hq : q < 2 ^ 64) : bits .andNot .u64 (p : Int) (q : Int) = ((strike p q : Nat) : Int) := by
  have : (2 : Nat) ^ 64 = 18446744073709551616 := by decide
  exact u64_andNot_nat p q (by omega) (by omega)

set_option maxHeartbeats 400000 in
theorem without_any (p : Nat) (a b : Int) (w : World) (hp : p < 2 ^ 64) :
    Calls Try.prog 70 #[.int .u64 (p : Int), .int .i64 a, .int .i64 b] w fun e w' => e = .returned (.int .u64 ((strike p (pbit a b) : Nat) : Int)) ∧ w' = w := by
  have hor := andNot_nat p (pbit a b) hp (pbit_lt a b)
  clear hp
  go_enter Try.func70, Try.ntmps70
  go_wp2_with fail
  refine (pairBit_any a b _).mono ?_
  rintro e w' ⟨rfl, rfl⟩
  go_wp2
  go_ret
  exact ⟨rfl, rfl⟩

set_option maxHeartbeats 800000 in
theorem withoutKnot_any (K : Int) (hK : K ≤ 8) (ts : List (Int × Int)) (hs : Srt K ts) (p : Nat) (k : Int) (w : World) (hp : p < 2 ^ 64) (hb : BitsOf p ts) :
    Calls Try.prog 63 #[.int .u64 (p : Int), .int .i64 k] w fun e w' => ∃ m : Nat, e = .returned (.int .u64 (m : Int)) ∧ w' = w ∧ m < 2 ^ 64 ∧ BitsOf m (ts.filter (notOf k)) := by
  go_enter Try.func63, Try.ntmps63
  go_wp2
  go_loop [0, 6] (fun q i => ∃ j m : Nat, j ≤ 8 ∧ i = .int .i64 j ∧ q = .int .u64 (m : Int) ∧ m < 2 ^ 64 ∧ BitsOf m (ts.filter (apartTo k j))) (fun _ i => 8 - (intOf i).toNat)
  case atStart => exact ⟨0, p, Nat.zero_le _, rfl, rfl, hp, by
    have e : ts.filter (apartTo k 0) = ts := by
      rw [List.filter_eq_self]; intro x _; simp [apartTo]
    rw [e]; exact hb⟩
  case round =>
    obtain ⟨j, m, hj, rfl, rfl, hm, hbits⟩ := hrel
    clear hp hb
    by_cases hlt : j < 8
    · have hnx : BitsOf (strike m (pbit k (j : Int))) (ts.filter (apartTo k (j + 1))) := by
        rw [apart_succ]
        exact bits_strike hK (fun t ht => hs.1 t (List.mem_filter.1 ht).1) hm hbits k (j : Int)
      have HNX := hideP hnx
      have HM := hideP (strike_lt m (pbit k (j : Int)) hm)
      clear hnx hbits
      go_wp2_with fail
      refine (without_any m k (j : Int) _ hm).mono ?_
      rintro e w' ⟨rfl, rfl⟩
      go_wp2
      go_round
      case rel => exact ⟨j + 1, _, by omega, by go_num, rfl, HM.out, HNX.out⟩
      case measure => simp [intOf]; omega
    · have hj8 : j = 8 := by omega
      subst hj8
      have hfin : BitsOf m (ts.filter (notOf k)) := by rw [← apart_all hK k hs.1]; exact hbits
      have HF := hideP hfin
      clear hfin hbits
      go_wp2
      go_ret
      exact ⟨m, rfl, rfl, hm, HF.out⟩
end Go.Proofs.Ytljnjpjnadlmhaa
