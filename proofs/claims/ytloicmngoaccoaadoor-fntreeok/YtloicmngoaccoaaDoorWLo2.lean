/- Walks of laws.loBools, loInts over rows that are the same. -/
import Derived.Test.YtloicmngoaccoaaDoorPartWCount
import Derived.BigRegion
namespace Go.Proofs.YtloicmngoaccoaaDoor
open Go.RowKit
set_option linter.unusedVariables false

set_option maxHeartbeats 400000 in
theorem loInts_same (a1 a2 : Option Addr) (cap1 cap2 n : Nat) (M : Nat → Nat) (w : World) (hn : n ≤ 1000) (h1 : RowV w w.heap.size a1 n (pcellN M)) (h2 : RowV w w.heap.size a2 n (pcellN M)) :
    Calls Tryd.prog 13 #[.slice a1 n cap1, .slice a2 n cap2] w fun e w' => e = .returned (.bool true) ∧ Below w.heap.size w w' := by
  go_enter Tryd.func13, Tryd.ntmps13
  go_wp2
  go_loopw [5] (fun i wr => ∃ j : Nat, j ≤ n ∧ i = .int .i64 j ∧ Below w.heap.size w wr)
    (fun i _ => n - (intOf i).toNat)
  case atStart => exact ⟨0, Nat.zero_le _, rfl, Below.refl _ _⟩
  case round =>
    obtain ⟨j, hj, rfl, hbel⟩ := hrel
    by_cases hlt : j < n
    · obtain ⟨b, off, rfl, hbw, c0⟩ := h1 j hlt
      obtain ⟨b2, off2, rfl, hbw2, e0⟩ := h2 j hlt
      have c0' : wr.cell? ⟨b, off + j, none⟩ = some (.int .i64 ((M j : Nat) : Int)) := (hbel.cell (p := ⟨b, off + j, none⟩) hbw).trans c0
      have e0' : wr.cell? ⟨b2, off2 + j, none⟩ = some (.int .i64 ((M j : Nat) : Int)) := (hbel.cell (p := ⟨b2, off2 + j, none⟩) hbw2).trans e0
      obtain ⟨x, hxx⟩ : ∃ x, x = M j := ⟨_, rfl⟩
      rw [← hxx] at c0' e0'
      have hk0 : (0 : Int) ≤ (j : Int) := by omega
      have hk1 : (j : Int) < (n : Int) := by omega
      clear c0 e0 hxx h1 h2
      go_wp2
      go_region
      go_wp2
      go_roundw
      case rel => exact ⟨j + 1, by omega, by go_num, hbel.drew⟩
      case measure => simp [intOf]; omega
    · have hjn : j = n := by omega
      subst hjn
      go_wp2
      go_ret
      exact ⟨rfl, hbel⟩

end Go.Proofs.YtloicmngoaccoaaDoor
