/- Walks of the leaves: l6In, hasKnot, pairBit, with, l1Less. -/
import Derived.Test.YtljnjpjnadlmhaaMath
import Derived.WalkKit
import Derived.WalkSpells
import Derived.WalkLawsBesides
import Derived.Laws.Bits64b
import Derived.Deep.QuietTactic
import Derived.BigQuiet
namespace Go.Proofs.Ytljnjpjnadlmhaa
open Go.RowKit
set_option linter.unusedVariables false

theorem ret_int {k : IntKind} {a b : Int} (h : a = b) : Ending.returned (.int k a) = .returned (.int k b) := by rw [h]
theorem ret_bool {a b : Bool} (h : a = b) : Ending.returned (.bool a) = .returned (.bool b) := by rw [h]
theorem below_one (w : World) (o : Obj) : Below w.heap.size w (w.alloc o) := (Below.refl _ _).alloc (Nat.le_refl _) o
theorem below_two (w : World) (o p : Obj) : Below w.heap.size w ((w.alloc o).alloc p) := (below_one w o).alloc (by simp) p

set_option maxHeartbeats 400000 in
theorem in_any (n lo hi : Int) (w : World) :
    Calls Try.prog 55 #[.int .i64 n, .int .i64 lo, .int .i64 hi] w fun e w' => e = .returned (.bool (inB n lo hi)) ∧ w' = w := by
  go_enter Try.func55, Try.ntmps55
  go_wp2
  · go_ret
    exact ⟨ret_bool (by simp [inB]; omega), rfl⟩
  · go_ret
    exact ⟨ret_bool (by simp [inB]; omega), rfl⟩
theorem in_yes (n lo hi : Int) (w : World) (h : lo ≤ n) (g : n ≤ hi) :
    Calls Try.prog 55 #[.int .i64 n, .int .i64 lo, .int .i64 hi] w fun e w' => e = .returned (.bool true) ∧ w' = w := by
  have e : inB n lo hi = true := by simp [inB, h, g]
  rw [← e]; exact in_any n lo hi w
theorem in_no (n lo hi : Int) (w : World) (h : n < lo ∨ hi < n) :
    Calls Try.prog 55 #[.int .i64 n, .int .i64 lo, .int .i64 hi] w fun e w' => e = .returned (.bool false) ∧ w' = w := by
  have e : inB n lo hi = false := by simp [inB]; omega
  rw [← e]; exact in_any n lo hi w

set_option maxHeartbeats 400000 in
theorem hasKnot_any (K : Int) (v : Value) (k : Int) (w : World) :
    Calls Try.prog 51 #[.agg #[.int .i64 K, v], .int .i64 k] w fun e w' => e = .returned (.bool (knotB k K)) ∧ w' = w.alloc (.cells #[.int .i64 K, v] 25) := by
  go_enter Try.func51, Try.ntmps51
  go_wp2
  · go_ret
    exact ⟨ret_bool (by simp [knotB]; omega), rfl⟩
  · go_ret
    exact ⟨ret_bool (by simp [knotB]; omega), rfl⟩
theorem hasKnot_yes (K : Int) (v : Value) (k : Int) (w : World) (h : 0 ≤ k) (g : k < K) :
    Calls Try.prog 51 #[.agg #[.int .i64 K, v], .int .i64 k] w fun e w' => e = .returned (.bool true) ∧ w' = w.alloc (.cells #[.int .i64 K, v] 25) := by
  have e : knotB k K = true := by simp [knotB, h, g]
  rw [← e]; exact hasKnot_any K v k w
theorem hasKnot_no (K : Int) (v : Value) (k : Int) (w : World) (h : k < 0 ∨ K ≤ k) :
    Calls Try.prog 51 #[.agg #[.int .i64 K, v], .int .i64 k] w fun e w' => e = .returned (.bool false) ∧ w' = w.alloc (.cells #[.int .i64 K, v] 25) := by
  have e : knotB k K = false := by simp [knotB]; omega
  rw [← e]; exact hasKnot_any K v k w

theorem wrap_pow (a b : Int) (h : 0 ≤ a) (hab : a < b) (hb : b < 8) : IntKind.u64.wrap (2 ^ (a * 8 + b).toNat) = ((pb a b : Nat) : Int) := by
  rw [IntKind.wrap_u64]
  unfold pb idx
  have hl : (a * 8 + b).toNat ≤ 63 := by omega
  have h1 : (2 : Nat) ^ (a * 8 + b).toNat ≤ 2 ^ 63 := Nat.pow_le_pow_right (by omega) hl
  have e : ((2 : Int) ^ (a * 8 + b).toNat) = (((2 : Nat) ^ (a * 8 + b).toNat : Nat) : Int) := by simp
  rw [e]
  generalize (2 : Nat) ^ (a * 8 + b).toNat = x at *
  omega

set_option maxHeartbeats 400000 in
theorem pairBit_yes (a b : Int) (w : World) (ha : 0 ≤ a) (hab : a < b) (hb : b < 8) :
    Calls Try.prog 61 #[.int .i64 a, .int .i64 b] w fun e w' => e = .returned (.int .u64 ((pb a b : Nat) : Int)) ∧ w' = w := by
  go_enter Try.func61, Try.ntmps61
  go_wp2
  · exfalso
    have h : (a < 0 ∨ (a == b) = true) ∨ 8 ≤ b := by assumption
    simp at h; omega
  · go_ret
    exact ⟨ret_int (wrap_pow a b ha hab hb), rfl⟩

theorem or_nat (p q : Nat) (hp : p < 2 ^ 64) (hq : q < 2 ^ 64) : bits .or .u64 (p : Int) (q : Int) = ((p ||| q : Nat) : Int) :=
  bits_or_u64_nat p q (by simpa using hp) (by simpa using hq)
theorem pb_lt {a b : Int} (ha : 0 ≤ a) (hab : a < b) (hb : b < 8) : pb a b < 2 ^ 64 := by
  unfold pb; exact Nat.pow_lt_pow_right (by omega) (by unfold idx; omega)

set_option maxHeartbeats 400000 in
theorem with_yes (p : Nat) (a b : Int) (w : World) (hp : p < 2 ^ 64) (ha : 0 ≤ a) (hab : a < b) (hb : b < 8) :
    Calls Try.prog 62 #[.int .u64 (p : Int), .int .i64 a, .int .i64 b] w fun e w' => e = .returned (.int .u64 ((p ||| pb a b : Nat) : Int)) ∧ w' = w := by
  have hq := pb_lt ha hab hb
  have hor := or_nat p (pb a b) hp hq
  clear hp hq
  go_enter Try.func62, Try.ntmps62
  go_wp2_with (go_at_call 61; refine (pairBit_yes a b _ ha hab hb).mono ?_; rintro e w' ⟨rfl, rfl⟩)
  go_ret
  exact ⟨rfl, rfl⟩

def boxed2 (w : World) (a b c d : Int) : World := (w.alloc (.cells #[.int .i64 a, .int .i64 b] 37)).alloc (.cells #[.int .i64 c, .int .i64 d] 37)
set_option maxHeartbeats 400000 in
theorem less_any (a b c d : Int) (w : World) :
    Calls Try.prog 64 #[.agg #[.int .i64 a, .int .i64 b], .agg #[.int .i64 c, .int .i64 d]] w fun e w' => e = .returned (.bool (lessB a b c d)) ∧ w' = (w.alloc (.cells #[.int .i64 a, .int .i64 b] 37)).alloc (.cells #[.int .i64 c, .int .i64 d] 37) := by
  have L : Hid (lessB a b c d = (decide (a < c) || (decide (a = c) && decide (b < d)))) := rfl
  have E : Hid (boxed2 w a b c d = (w.alloc (.cells #[.int .i64 a, .int .i64 b] 37)).alloc (.cells #[.int .i64 c, .int .i64 d] 37)) := rfl
  rw [← E.out]
  go_enter Try.func64, Try.ntmps64
  go_wp2
  · go_ret
    have e : a = c := by assumption
    have e2 : lessB a b c d = decide (b < d) := by unfold lessB; simp [e]
    exact ⟨ret_bool e2.symm, by rw [E.out, e]⟩
  · go_ret
    exact ⟨ret_bool (by rw [L.out]; simp; omega), E.out.symm⟩
  · go_ret
    exact ⟨ret_bool (by rw [L.out]; simp; omega), E.out.symm⟩
theorem less_is (v : Bool) (a b c d : Int) (w : World) (h : lessB a b c d = v) :
    Calls Try.prog 64 #[.agg #[.int .i64 a, .int .i64 b], .agg #[.int .i64 c, .int .i64 d]] w fun e w' => e = .returned (.bool v) ∧ w' = (w.alloc (.cells #[.int .i64 a, .int .i64 b] 37)).alloc (.cells #[.int .i64 c, .int .i64 d] 37) := by
  rw [← h]; exact less_any a b c d w
theorem in_is (v : Bool) (n lo hi : Int) (w : World) (h : inB n lo hi = v) :
    Calls Try.prog 55 #[.int .i64 n, .int .i64 lo, .int .i64 hi] w fun e w' => e = .returned (.bool v) ∧ w' = w := by
  rw [← h]; exact in_any n lo hi w

end Go.Proofs.Ytljnjpjnadlmhaa
