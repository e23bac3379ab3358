/- Walk of slices.Index over a row that has what is looked for: the first place. -/
import Derived.Test.YtloicmngoaccoaaDoorWInts
namespace Go.Proofs.YtloicmngoaccoaaDoor
open Go.RowKit
set_option linter.unusedVariables false

set_option maxHeartbeats 400000 in
theorem index_at (ao : Option Addr) (cap : Nat) (xs : List Int) (k : Int) (w : World) (m : Nat) (hn : xs.length ≤ 1099511627776) (hx : IntsIn w w.heap.size ao xs) (hm : m < xs.length) (hk : xi xs m = k) (hno : ∀ i, i < m → xi xs i ≠ k) :
    Calls Tryd.prog 93 #[.slice ao xs.length cap, .int .i64 k] w fun e w' => e = .returned (.int .i64 (m : Int)) ∧ Below w.heap.size w w' := by
  obtain ⟨n, hnn⟩ : ∃ n, n = xs.length := ⟨_, rfl⟩
  have HN : Hid (n = xs.length) := hnn
  have HNO := hideP hno
  have HK := hideP hk
  rw [← hnn] at hn hm ⊢
  clear hnn hno hk
  go_enter Tryd.func93, Tryd.ntmps93
  go_wp2
  go_loopw [8] (fun i wr => ∃ j : Nat, j ≤ m ∧ i = .int .i64 j ∧ Below w.heap.size w wr)
    (fun i _ => n - (intOf i).toNat)
  case atStart => exact ⟨0, Nat.zero_le _, rfl, Below.refl _ _⟩
  case round =>
    obtain ⟨j, hj, rfl, hbel⟩ := hrel
    have hlt : j < n := by omega
    have hjl : j < xs.length := by rw [← HN.out]; exact hlt
    obtain ⟨b, off, rfl, hbw, c0⟩ := hx j hjl
    have c0' : wr.cell? ⟨b, off + j, none⟩ = some (.int .i64 (xi xs j)) := (hbel.cell (p := ⟨b, off + j, none⟩) hbw).trans c0
    obtain ⟨x, hxx⟩ : ∃ x, x = xi xs j := ⟨_, rfl⟩
    rw [← hxx] at c0'
    have HX : Hid (x = xi xs j) := hxx
    clear c0 hxx hx
    by_cases he : j = m
    · subst he
      have hkx : k = x := by rw [HX.out]; exact HK.out.symm
      clear HK
      subst hkx
      go_wp2
      go_ret
      exact ⟨rfl, hbel⟩
    · have hkx : ¬ k = x := fun e => HNO.out j (by omega) (by rw [← HX.out, e])
      go_wp2
      go_roundw
      case rel => exact ⟨j + 1, by omega, by go_num, hbel⟩
      case measure => simp [intOf]; omega

end Go.Proofs.YtloicmngoaccoaaDoor
