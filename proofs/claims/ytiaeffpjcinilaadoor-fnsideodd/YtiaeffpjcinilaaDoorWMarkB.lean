/- Rows of bools and of numbers: compared, marked, held; walks of eqBoolS, markBoolS, heldBoolS, markIntS, heldIntS. -/
import Derived.Test.YtiaeffpjcinilaaDoorWMark
import Derived.Test.YtiaeffpjcinilaaDoorPartWCount
import Derived.BigRegion
namespace Go.Proofs.YtiaeffpjcinilaaDoor
open Go.RowKit
set_option linter.unusedVariables false



set_option maxHeartbeats 800000 in
theorem markIntS_any (lo hi : Nat) (ao : Option Addr) (n cap : Nat) (f : Nat → Value) (w : World) (hn : n ≤ 1000) (ho : OwnR w lo hi ao n f) :
    Calls Tryd.prog 39 #[.slice ao n cap, .int .i64 1] w fun e w' => e = .returned (.int .i64 (1 + (n : Int))) ∧ OwnR w' lo hi ao n imark ∧ Turned lo hi w w' := by
  go_enter Tryd.func39, Tryd.ntmps39
  go_wp2
  go_loopw [1, 5] (fun q i wr => ∃ k : Nat, k ≤ n ∧ i = .int .i64 k ∧ q = .int .i64 (1 + (k : Int)) ∧ OwnR wr lo hi ao n (upTo imark f k) ∧ Turned lo hi w wr) (fun _ i _ => n - (intOf i).toNat)
  case atStart => exact ⟨0, Nat.zero_le _, rfl, rfl, ho.congr (fun j hj => by simp [upTo]), Turned.refl _ _ _⟩
  case round =>
    obtain ⟨k, hk, rfl, rfl, hown, hgr⟩ := hrel
    clear ho
    by_cases hlt : k < n
    · rcases hown with ⟨h0, _⟩ | ⟨g, rfl, h1, h2, h3⟩
      · omega
      have d0 := h3.1 k hlt
      have f0 := h3.2.1 k
      have hk0 : (0 : Int) ≤ (k : Int) := by omega
      have hk1 : (k : Int) < (n : Int) := by omega
      have hkb : (k : Int) < 1000 := by omega
      have HO : Hid (OwnR (wr.setCell ⟨g, k, none⟩ (.int .i64 (1 + (k : Int)))) lo hi (some ⟨g, 0, none⟩) n (upTo imark f (k + 1))) := Or.inr ⟨g, rfl, h1, h2, (h3.set hlt _).congr (fun j _ => upTo_step imark f k j)⟩
      have HG : Hid (Turned lo hi w (wr.setCell ⟨g, k, none⟩ (.int .i64 (1 + (k : Int))))) := ⟨hgr.os, hgr.tape, hgr.output, by simpa [World.setCell] using hgr.size, fun i hi' ho' => (Below.heap_setCell _ _ _ _ (by show i ≠ g; omega)).trans (hgr.block i hi' ho')⟩
      clear h3 hgr
      go_wp2
      go_roundw
      case rel => exact ⟨k + 1, by omega, by go_num, by go_num, HO.out, HG.out⟩
      case measure => simp [intOf]; omega
    · have hkn : k = n := by omega
      subst hkn
      have HO := hideP (hown.congr (f' := imark) (fun j hj => by simp [upTo, hj]))
      clear hown
      go_wp2
      go_ret
      exact ⟨rfl, HO.out, hgr⟩


set_option maxHeartbeats 800000 in
theorem heldIntS_any (lo hi : Nat) (ao : Option Addr) (n cap : Nat) (w : World) (hn : n ≤ 1000) (ho : OwnR w lo hi ao n imark) :
    Calls Tryd.prog 40 #[.slice ao n cap, .int .i64 1] w fun e w' => e = .returned (.int .i64 (1 + (n : Int))) ∧ Below w.heap.size w w' := by
  go_enter Tryd.func40, Tryd.ntmps40
  go_wp2
  go_loopw [1, 5] (fun q i wr => ∃ k : Nat, k ≤ n ∧ i = .int .i64 k ∧ q = .int .i64 (1 + (k : Int)) ∧ Below w.heap.size w wr) (fun _ i _ => n - (intOf i).toNat)
  case atStart => exact ⟨0, Nat.zero_le _, rfl, rfl, Below.refl _ _⟩
  case round =>
    obtain ⟨k, hk, rfl, rfl, hb⟩ := hrel
    by_cases hlt : k < n
    · rcases ho with ⟨h0, _⟩ | ⟨g, rfl, h1, h2, h3⟩
      · omega
      have d0 : wr.cell? ⟨g, k, none⟩ = some (.int .i64 (1 + (k : Int))) := (hb.cell (p := ⟨g, k, none⟩) h3.2.2).trans (h3.1 k hlt)
      have hk0 : (0 : Int) ≤ (k : Int) := by omega
      have hk1 : (k : Int) < (n : Int) := by omega
      have hkb : (k : Int) < 1000 := by omega
      clear h3
      go_wp2
      try go_region
      try go_wp2
      go_roundw
      case rel => exact ⟨k + 1, by omega, by go_num, by go_num, by first | exact hb | exact hb.drew⟩
      case measure => simp [intOf]; omega
    · have hkn : k = n := by omega
      subst hkn
      go_wp2
      go_ret
      exact ⟨rfl, hb⟩

end Go.Proofs.YtiaeffpjcinilaaDoor
