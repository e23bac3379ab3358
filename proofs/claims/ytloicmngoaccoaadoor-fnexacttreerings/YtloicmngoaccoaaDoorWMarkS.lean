/- Rows of rows of numbers: compared, marked, held; walks of eqIntSS, markIntSS, heldIntSS. -/
import Derived.Test.YtloicmngoaccoaaDoorWMarkB
import Derived.Test.YtloicmngoaccoaaDoorPartWAllI
import Derived.Test.YtloicmngoaccoaaDoorWCamp
import Derived.Deep.RegionHeld3
namespace Go.Proofs.YtloicmngoaccoaaDoor
open Go.RowKit
set_option linter.unusedVariables false

def kmark (s j : Nat) : Value := .int .i64 ((s : Int) + (j : Int))
set_option maxHeartbeats 800000 in
theorem markIntS_k (g n cap s : Nat) (f : Nat → Value) (w : World) (hn : n ≤ 8) (hs : s ≤ 400000000) (ho : OwnI w g n f) :
    Calls Tryd.prog 77 #[.slice (some ⟨g, 0, none⟩) n cap, .int .i64 (s : Int)] w fun e w' => e = .returned (.int .i64 ((s : Int) + (n : Int))) ∧ OwnI w' g n (kmark s) ∧ Turned g (g + 1) w w' := by
  go_enter Tryd.func77, Tryd.ntmps77
  go_wp2
  go_loopw [1, 5] (fun q i wr => ∃ k : Nat, k ≤ n ∧ i = .int .i64 k ∧ q = .int .i64 ((s : Int) + (k : Int)) ∧ OwnI wr g n (upTo (kmark s) f k) ∧ Turned g (g + 1) w wr) (fun _ i _ => n - (intOf i).toNat)
  case atStart => exact ⟨0, Nat.zero_le _, rfl, by simp, ho.congr (fun j hj => by simp [upTo]), Turned.refl _ _ _⟩
  case round =>
    obtain ⟨k, hk, rfl, rfl, h3, hgr⟩ := hrel
    clear ho
    by_cases hlt : k < n
    · have d0 := h3.1 k hlt
      have f0 := h3.2.1 k
      have hk0 : (0 : Int) ≤ (k : Int) := by omega
      have hk1 : (k : Int) < (n : Int) := by omega
      have hkb : (k : Int) < 1000 := by omega
      have hsb : (s : Int) ≤ 400000000 := by omega
      have hs0 : (0 : Int) ≤ (s : Int) := by omega
      have HO : Hid (OwnI (wr.setCell ⟨g, k, none⟩ (.int .i64 ((s : Int) + (k : Int)))) g n (upTo (kmark s) f (k + 1))) := (h3.set hlt _).congr (fun j _ => upTo_step (kmark s) f k j)
      have HG : Hid (Turned g (g + 1) w (wr.setCell ⟨g, k, none⟩ (.int .i64 ((s : Int) + (k : Int))))) := ⟨hgr.os, hgr.tape, hgr.output, by simpa [World.setCell] using hgr.size, fun i hi' ho' => (Below.heap_setCell _ _ _ _ (by show i ≠ g; omega)).trans (hgr.block i hi' ho')⟩
      clear h3 hgr
      go_wp2
      go_roundw
      case rel => exact ⟨k + 1, by omega, by go_num, by go_num, HO.out, HG.out⟩
      case measure => simp [intOf]; omega
    · have hkn : k = n := by omega
      subst hkn
      have HO := hideP (h3.congr (f' := kmark s) (fun j hj => by simp [upTo, hj]))
      clear h3
      go_wp2
      go_ret
      exact ⟨rfl, HO.out, hgr⟩
set_option maxHeartbeats 800000 in
theorem heldIntS_k (g n cap s : Nat) (w : World) (hn : n ≤ 8) (hs : s ≤ 400000000) (h3 : OwnI w g n (kmark s)) :
    Calls Tryd.prog 78 #[.slice (some ⟨g, 0, none⟩) n cap, .int .i64 (s : Int)] w fun e w' => e = .returned (.int .i64 ((s : Int) + (n : Int))) ∧ Below w.heap.size w w' := by
  have HO := hideP h3
  clear h3
  go_enter Tryd.func78, Tryd.ntmps78
  go_wp2
  go_loopw [1, 5] (fun q i wr => ∃ k : Nat, k ≤ n ∧ i = .int .i64 k ∧ q = .int .i64 ((s : Int) + (k : Int)) ∧ Below w.heap.size w wr) (fun _ i _ => n - (intOf i).toNat)
  case atStart => exact ⟨0, Nat.zero_le _, rfl, by simp, Below.refl _ _⟩
  case round =>
    obtain ⟨k, hk, rfl, rfl, hb⟩ := hrel
    by_cases hlt : k < n
    · have d0 : wr.cell? ⟨g, k, none⟩ = some (.int .i64 ((s : Int) + (k : Int))) := (hb.cell (p := ⟨g, k, none⟩) HO.out.2.2).trans (HO.out.1 k hlt)
      have hk0 : (0 : Int) ≤ (k : Int) := by omega
      have hk1 : (k : Int) < (n : Int) := by omega
      have hkb : (k : Int) < 1000 := by omega
      have hsb : (s : Int) ≤ 400000000 := by omega
      have hs0 : (0 : Int) ≤ (s : Int) := by omega
      go_wp2
      try go_region
      try go_wp2
      go_roundw
      case rel => exact ⟨k + 1, by omega, by go_num, by go_num, by first | exact hb | exact hb.drew⟩
      case measure => simp [intOf]; omega
    · have hkn : k = n := by omega
      subst hkn
      go_wp2
      go_ret
      exact ⟨rfl, hb⟩

end Go.Proofs.YtloicmngoaccoaaDoor
