/- Walks of without, withoutKnot, impl.NetCut, impl.NetWithout. -/
import Derived.Test.YtljnjpjnadlmhaaMath4
import Derived.Test.YtljnjpjnadlmhaaWAdd
namespace Go.Proofs.Ytljnjpjnadlmhaa
open Go.RowKit
set_option linter.unusedVariables false

theorem andNot_nat (p q : Nat) (hp : p < 2 ^ 64) (hq : q < 2 ^ 64) : bits .andNot .u64 (p : Int) (q : Int) = ((strike p q : Nat) : Int) := by
  have : (2 : Nat) ^ 64 = 18446744073709551616 := by decide
  exact u64_andNot_nat p q (by omega) (by omega)

set_option maxHeartbeats 400000 in
theorem without_any (p : Nat) (a b : Int) (w : World) (hp : p < 2 ^ 64) :
    Calls Try.prog 70 #[.int .u64 (p : Int), .int .i64 a, .int .i64 b] w fun e w' => e = .returned (.int .u64 ((strike p (pbit a b) : Nat) : Int)) ∧ w' = w := by
  have hor := andNot_nat p (pbit a b) hp (pbit_lt a b)
  clear hp
  go_enter Try.func70, Try.ntmps70
  go_wp2_with fail
  refine (pairBit_any a b _).mono ?_
  rintro e w' ⟨rfl, rfl⟩
  go_wp2
  go_ret
  exact ⟨rfl, rfl⟩

set_option maxHeartbeats 800000 in
theorem withoutKnot_any (K : Int) (hK : K ≤ 8) (ts : List (Int × Int)) (hs : Srt K ts) (p : Nat) (k : Int) (w : World) (hp : p < 2 ^ 64) (hb : BitsOf p ts) :
    Calls Try.prog 63 #[.int .u64 (p : Int), .int .i64 k] w fun e w' => ∃ m : Nat, e = .returned (.int .u64 (m : Int)) ∧ w' = w ∧ m < 2 ^ 64 ∧ BitsOf m (ts.filter (notOf k)) := by
  go_enter Try.func63, Try.ntmps63
  go_wp2
  go_loop [0, 6] (fun q i => ∃ j m : Nat, j ≤ 8 ∧ i = .int .i64 j ∧ q = .int .u64 (m : Int) ∧ m < 2 ^ 64 ∧ BitsOf m (ts.filter (apartTo k j))) (fun _ i => 8 - (intOf i).toNat)
  case atStart => exact ⟨0, p, Nat.zero_le _, rfl, rfl, hp, by
    have e : ts.filter (apartTo k 0) = ts := by
      rw [List.filter_eq_self]; intro x _; simp [apartTo]
    rw [e]; exact hb⟩
  case round =>
    obtain ⟨j, m, hj, rfl, rfl, hm, hbits⟩ := hrel
    clear hp hb
    by_cases hlt : j < 8
    · have hnx : BitsOf (strike m (pbit k (j : Int))) (ts.filter (apartTo k (j + 1))) := by
        rw [apart_succ]
        exact bits_strike hK (fun t ht => hs.1 t (List.mem_filter.1 ht).1) hm hbits k (j : Int)
      have HNX := hideP hnx
      have HM := hideP (strike_lt m (pbit k (j : Int)) hm)
      clear hnx hbits
      go_wp2_with fail
      refine (without_any m k (j : Int) _ hm).mono ?_
      rintro e w' ⟨rfl, rfl⟩
      go_wp2
      go_round
      case rel => exact ⟨j + 1, _, by omega, by go_num, rfl, HM.out, HNX.out⟩
      case measure => simp [intOf]; omega
    · have hj8 : j = 8 := by omega
      subst hj8
      have hfin : BitsOf m (ts.filter (notOf k)) := by rw [← apart_all hK k hs.1]; exact hbits
      have HF := hideP hfin
      clear hfin hbits
      go_wp2
      go_ret
      exact ⟨m, rfl, rfl, hm, HF.out⟩
end Go.Proofs.Ytljnjpjnadlmhaa
