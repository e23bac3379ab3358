/- Rows of bools and of numbers: compared, marked, held; walks of eqBoolS, markBoolS, heldBoolS, markIntS, heldIntS. -/
import Derived.Test.YtjaabnodimgckaaDoorWMark
import Derived.Test.YtjaabnodimgckaaDoorWRowV
import Derived.BigRegion
namespace Go.Proofs.YtjaabnodimgckaaDoor
open Go.RowKit
set_option linter.unusedVariables false

set_option maxHeartbeats 400000 in
theorem eqBoolS_same (a1 a2 : Option Addr) (cap1 cap2 n : Nat) (M : Nat → Bool) (w : World) (hn : n ≤ 1000) (h1 : RowV w w.heap.size a1 n (bcell M)) (h2 : RowV w w.heap.size a2 n (bcell M)) :
    Calls Tryd.prog 10 #[.slice a1 n cap1, .slice a2 n cap2] w fun e w' => e = .returned (.bool true) ∧ Below w.heap.size w w' := by
  go_enter Tryd.func10, Tryd.ntmps10
  go_wp2
  go_loopw [5] (fun i wr => ∃ j : Nat, j ≤ n ∧ i = .int .i64 j ∧ Below w.heap.size w wr)
    (fun i _ => n - (intOf i).toNat)
  case atStart => exact ⟨0, Nat.zero_le _, rfl, Below.refl _ _⟩
  case round =>
    obtain ⟨j, hj, rfl, hbel⟩ := hrel
    by_cases hlt : j < n
    · obtain ⟨b, off, rfl, hbw, c0⟩ := h1 j hlt
      obtain ⟨b2, off2, rfl, hbw2, e0⟩ := h2 j hlt
      have c0' : wr.cell? ⟨b, off + j, none⟩ = some (.bool (M j)) := (hbel.cell (p := ⟨b, off + j, none⟩) hbw).trans c0
      have e0' : wr.cell? ⟨b2, off2 + j, none⟩ = some (.bool (M j)) := (hbel.cell (p := ⟨b2, off2 + j, none⟩) hbw2).trans e0
      obtain ⟨x, hxx⟩ : ∃ x, x = M j := ⟨_, rfl⟩
      rw [← hxx] at c0' e0'
      have hk0 : (0 : Int) ≤ (j : Int) := by omega
      have hk1 : (j : Int) < (n : Int) := by omega
      have hxb : (x != x) = false := by simp
      clear c0 e0 hxx h1 h2
      go_wp2
      go_region
      go_wp2
      go_roundw
      case rel => exact ⟨j + 1, by omega, by go_num, hbel.drew⟩
      case measure => simp [intOf]; omega
    · have hjn : j = n := by omega
      subst hjn
      go_wp2
      go_ret
      exact ⟨rfl, hbel⟩

set_option maxHeartbeats 800000 in
theorem markBoolS_any (lo hi : Nat) (ao : Option Addr) (n cap : Nat) (f : Nat → Value) (w : World) (hn : n ≤ 1000) (ho : OwnR w lo hi ao n f) :
    Calls Tryd.prog 13 #[.slice ao n cap, .int .i64 1] w fun e w' => e = .returned (.int .i64 (1 + (n : Int))) ∧ OwnR w' lo hi ao n bmark ∧ Turned lo hi w w' := by
  go_enter Tryd.func13, Tryd.ntmps13
  go_wp2
  go_loopw [1, 5] (fun q i wr => ∃ k : Nat, k ≤ n ∧ i = .int .i64 k ∧ q = .int .i64 (1 + (k : Int)) ∧ OwnR wr lo hi ao n (upTo bmark f k) ∧ Turned lo hi w wr) (fun _ i _ => n - (intOf i).toNat)
  case atStart => exact ⟨0, Nat.zero_le _, rfl, rfl, ho.congr (fun j hj => by simp [upTo]), Turned.refl _ _ _⟩
  case round =>
    obtain ⟨k, hk, rfl, rfl, hown, hgr⟩ := hrel
    clear ho
    by_cases hlt : k < n
    · rcases hown with ⟨h0, _⟩ | ⟨g, rfl, h1, h2, h3⟩
      · omega
      have d0 := h3.1 k hlt
      have f0 := h3.2.1 k
      have hk0 : (0 : Int) ≤ (k : Int) := by omega
      have hk1 : (k : Int) < (n : Int) := by omega
      have hkb : (k : Int) < 1000 := by omega
      have HO : Hid (OwnR (wr.setCell ⟨g, k, none⟩ (.bool ((1 + (k : Int)) % 3 == 0))) lo hi (some ⟨g, 0, none⟩) n (upTo bmark f (k + 1))) := Or.inr ⟨g, rfl, h1, h2, (h3.set hlt _).congr (fun j _ => upTo_step bmark f k j)⟩
      have HG : Hid (Turned lo hi w (wr.setCell ⟨g, k, none⟩ (.bool ((1 + (k : Int)) % 3 == 0)))) := ⟨hgr.os, hgr.tape, hgr.output, by simpa [World.setCell] using hgr.size, fun i hi' ho' => (Below.heap_setCell _ _ _ _ (by show i ≠ g; omega)).trans (hgr.block i hi' ho')⟩
      clear h3 hgr
      go_wp2
      go_roundw
      case rel => exact ⟨k + 1, by omega, by go_num, by go_num, HO.out, HG.out⟩
      case measure => simp [intOf]; omega
    · have hkn : k = n := by omega
      subst hkn
      have HO := hideP (hown.congr (f' := bmark) (fun j hj => by simp [upTo, hj]))
      clear hown
      go_wp2
      go_ret
      exact ⟨rfl, HO.out, hgr⟩

set_option maxHeartbeats 800000 in
theorem markIntS_any (lo hi : Nat) (ao : Option Addr) (n cap : Nat) (f : Nat → Value) (w : World) (hn : n ≤ 1000) (ho : OwnR w lo hi ao n f) :
    Calls Tryd.prog 18 #[.slice ao n cap, .int .i64 1] w fun e w' => e = .returned (.int .i64 (1 + (n : Int))) ∧ OwnR w' lo hi ao n imark ∧ Turned lo hi w w' := by
  go_enter Tryd.func18, Tryd.ntmps18
  go_wp2
  go_loopw [1, 5] (fun q i wr => ∃ k : Nat, k ≤ n ∧ i = .int .i64 k ∧ q = .int .i64 (1 + (k : Int)) ∧ OwnR wr lo hi ao n (upTo imark f k) ∧ Turned lo hi w wr) (fun _ i _ => n - (intOf i).toNat)
  case atStart => exact ⟨0, Nat.zero_le _, rfl, rfl, ho.congr (fun j hj => by simp [upTo]), Turned.refl _ _ _⟩
  case round =>
    obtain ⟨k, hk, rfl, rfl, hown, hgr⟩ := hrel
    clear ho
    by_cases hlt : k < n
    · rcases hown with ⟨h0, _⟩ | ⟨g, rfl, h1, h2, h3⟩
      · omega
      have d0 := h3.1 k hlt
      have f0 := h3.2.1 k
      have hk0 : (0 : Int) ≤ (k : Int) := by omega
      have hk1 : (k : Int) < (n : Int) := by omega
      have hkb : (k : Int) < 1000 := by omega
      have HO : Hid (OwnR (wr.setCell ⟨g, k, none⟩ (.int .i64 (1 + (k : Int)))) lo hi (some ⟨g, 0, none⟩) n (upTo imark f (k + 1))) := Or.inr ⟨g, rfl, h1, h2, (h3.set hlt _).congr (fun j _ => upTo_step imark f k j)⟩
      have HG : Hid (Turned lo hi w (wr.setCell ⟨g, k, none⟩ (.int .i64 (1 + (k : Int))))) := ⟨hgr.os, hgr.tape, hgr.output, by simpa [World.setCell] using hgr.size, fun i hi' ho' => (Below.heap_setCell _ _ _ _ (by show i ≠ g; omega)).trans (hgr.block i hi' ho')⟩
      clear h3 hgr
      go_wp2
      go_roundw
      case rel => exact ⟨k + 1, by omega, by go_num, by go_num, HO.out, HG.out⟩
      case measure => simp [intOf]; omega
    · have hkn : k = n := by omega
      subst hkn
      have HO := hideP (hown.congr (f' := imark) (fun j hj => by simp [upTo, hj]))
      clear hown
      go_wp2
      go_ret
      exact ⟨rfl, HO.out, hgr⟩

set_option maxHeartbeats 800000 in
theorem heldBoolS_any (lo hi : Nat) (ao : Option Addr) (n cap : Nat) (w : World) (hn : n ≤ 1000) (ho : OwnR w lo hi ao n bmark) :
    Calls Tryd.prog 14 #[.slice ao n cap, .int .i64 1] w fun e w' => e = .returned (.int .i64 (1 + (n : Int))) ∧ Below w.heap.size w w' := by
  go_enter Tryd.func14, Tryd.ntmps14
  go_wp2
  go_loopw [1, 5] (fun q i wr => ∃ k : Nat, k ≤ n ∧ i = .int .i64 k ∧ q = .int .i64 (1 + (k : Int)) ∧ Below w.heap.size w wr) (fun _ i _ => n - (intOf i).toNat)
  case atStart => exact ⟨0, Nat.zero_le _, rfl, rfl, Below.refl _ _⟩
  case round =>
    obtain ⟨k, hk, rfl, rfl, hb⟩ := hrel
    by_cases hlt : k < n
    · rcases ho with ⟨h0, _⟩ | ⟨g, rfl, h1, h2, h3⟩
      · omega
      have d0 : wr.cell? ⟨g, k, none⟩ = some (.bool ((1 + (k : Int)) % 3 == 0)) := (hb.cell (p := ⟨g, k, none⟩) h3.2.2).trans (h3.1 k hlt)
      have hk0 : (0 : Int) ≤ (k : Int) := by omega
      have hk1 : (k : Int) < (n : Int) := by omega
      have hkb : (k : Int) < 1000 := by omega
      clear h3
      go_wp2
      try go_region
      try go_wp2
      go_roundw
      case rel => exact ⟨k + 1, by omega, by go_num, by go_num, by first | exact hb | exact hb.drew⟩
      case measure => simp [intOf]; omega
    · have hkn : k = n := by omega
      subst hkn
      go_wp2
      go_ret
      exact ⟨rfl, hb⟩

set_option maxHeartbeats 800000 in
theorem heldIntS_any (lo hi : Nat) (ao : Option Addr) (n cap : Nat) (w : World) (hn : n ≤ 1000) (ho : OwnR w lo hi ao n imark) :
    Calls Tryd.prog 19 #[.slice ao n cap, .int .i64 1] w fun e w' => e = .returned (.int .i64 (1 + (n : Int))) ∧ Below w.heap.size w w' := by
  go_enter Tryd.func19, Tryd.ntmps19
  go_wp2
  go_loopw [1, 5] (fun q i wr => ∃ k : Nat, k ≤ n ∧ i = .int .i64 k ∧ q = .int .i64 (1 + (k : Int)) ∧ Below w.heap.size w wr) (fun _ i _ => n - (intOf i).toNat)
  case atStart => exact ⟨0, Nat.zero_le _, rfl, rfl, Below.refl _ _⟩
  case round =>
    obtain ⟨k, hk, rfl, rfl, hb⟩ := hrel
    by_cases hlt : k < n
    · rcases ho with ⟨h0, _⟩ | ⟨g, rfl, h1, h2, h3⟩
      · omega
      have d0 : wr.cell? ⟨g, k, none⟩ = some (.int .i64 (1 + (k : Int))) := (hb.cell (p := ⟨g, k, none⟩) h3.2.2).trans (h3.1 k hlt)
      have hk0 : (0 : Int) ≤ (k : Int) := by omega
      have hk1 : (k : Int) < (n : Int) := by omega
      have hkb : (k : Int) < 1000 := by omega
      clear h3
      go_wp2
      try go_region
      try go_wp2
      go_roundw
      case rel => exact ⟨k + 1, by omega, by go_num, by go_num, by first | exact hb | exact hb.drew⟩
      case measure => simp [intOf]; omega
    · have hkn : k = n := by omega
      subst hkn
      go_wp2
      go_ret
      exact ⟨rfl, hb⟩

end Go.Proofs.YtjaabnodimgckaaDoor
