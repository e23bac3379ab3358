/- Texts put together: WLo, WLo2. -/
import Derived.Test.YtiaeffpjcinilaaDoorPartWLeaf
import Derived.Test.YtiaeffpjcinilaaDoorPartMath
import Derived.Test.YtiaeffpjcinilaaDoorPartWReach
import Derived.BigRegion
import Derived.Test.YtiaeffpjcinilaaDoorPartWCount
/- Nets in variables of a law; walks of laws.loTies, loNet, loHas, loTie. -/
namespace Go.Proofs.YtiaeffpjcinilaaDoor
open Go.RowKit
set_option linter.unusedVariables false

/-- a net in a variable: its two cells, its ties -/
structure NetV (w : World) (A : Nat) (K : Int) (ao : Option Addr) (cap : Nat) (ts : List (Int × Int)) : Prop where
  c0 : w.cell? ⟨A, 0, none⟩ = some (.int .i64 K)
  c1 : w.cell? ⟨A, 1, none⟩ = some (.slice ao ts.length cap)
  lt : A < w.heap.size
  ties : TiesIn w w.heap.size ao ts
theorem NetV.next {w w' : World} {A : Nat} {K : Int} {ao : Option Addr} {cap : Nat} {ts : List (Int × Int)} (h : NetV w A K ao cap ts) (hb : Below w.heap.size w w') : NetV w' A K ao cap ts :=
  ⟨(hb.cell (p := ⟨A, 0, none⟩) h.lt).trans h.c0, (hb.cell (p := ⟨A, 1, none⟩) h.lt).trans h.c1, Nat.lt_of_lt_of_le h.lt hb.size, (h.ties.below hb (Nat.le_refl _)).wide hb.size⟩
theorem NetV.new {w : World} {K : Int} {ao : Option Addr} {cap : Nat} {ts : List (Int × Int)} (t : TypeId) (h : TiesIn w w.heap.size ao ts) : NetV (w.alloc (.cells #[.int .i64 K, .slice ao ts.length cap] t)) w.heap.size K ao cap ts :=
  ⟨by simp, by simp, by simp, (h.below (below_one _ _) (Nat.le_refl _)).wide (by simp)⟩

set_option maxHeartbeats 400000 in
theorem loTies_same (a1 a2 : Option Addr) (cap1 cap2 : Nat) (ts : List (Int × Int)) (w : World) (hn : ts.length ≤ 1099511627776) (h1 : TiesIn w w.heap.size a1 ts) (h2 : TiesIn w w.heap.size a2 ts) :
    Calls Tryd.prog 31 #[.slice a1 ts.length cap1, .slice a2 ts.length cap2] w fun e w' => e = .returned (.bool true) ∧ Below w.heap.size w w' := by
  obtain ⟨n, hnn⟩ : ∃ n, n = ts.length := ⟨_, rfl⟩
  have HN : Hid (n = ts.length) := hnn
  rw [← hnn] at hn ⊢
  clear hnn
  go_enter Tryd.func31, Tryd.ntmps31
  go_wp2
  go_loopw [5] (fun i wr => ∃ k : Nat, k ≤ n ∧ i = .int .i64 k ∧ Below w.heap.size w wr)
    (fun i _ => n - (intOf i).toNat)
  case atStart => exact ⟨0, Nat.zero_le _, rfl, Below.refl _ _⟩
  case round =>
    obtain ⟨k, hk, rfl, hbel⟩ := hrel
    by_cases hlt : k < n
    · obtain ⟨b, off, rfl, hbw, c0, c1⟩ := h1 k (by rw [← HN.out]; exact hlt)
      obtain ⟨b2, off2, rfl, hbw2, e0, e1⟩ := h2 k (by rw [← HN.out]; exact hlt)
      have c0' : wr.cell? ⟨b, off + k * 2, none⟩ = some (.int .i64 (tA ts k)) := (hbel.cell (p := ⟨b, off + k * 2, none⟩) hbw).trans c0
      have c1' : wr.cell? ⟨b, off + k * 2 + 1, none⟩ = some (.int .i64 (tB ts k)) := (hbel.cell (p := ⟨b, off + k * 2 + 1, none⟩) hbw).trans c1
      have e0' : wr.cell? ⟨b2, off2 + k * 2, none⟩ = some (.int .i64 (tA ts k)) := (hbel.cell (p := ⟨b2, off2 + k * 2, none⟩) hbw2).trans e0
      have e1' : wr.cell? ⟨b2, off2 + k * 2 + 1, none⟩ = some (.int .i64 (tB ts k)) := (hbel.cell (p := ⟨b2, off2 + k * 2 + 1, none⟩) hbw2).trans e1
      obtain ⟨x, hx⟩ : ∃ x, x = tA ts k := ⟨_, rfl⟩
      obtain ⟨y, hy⟩ : ∃ y, y = tB ts k := ⟨_, rfl⟩
      rw [← hx] at c0' e0'; rw [← hy] at c1' e1'
      have hk0 : (0 : Int) ≤ (k : Int) := by omega
      have hk1 : (k : Int) < (n : Int) := by omega
      clear c0 c1 e0 e1 hx hy h1 h2
      go_wp2
      go_region
      go_wp2
      go_roundw
      case rel => exact ⟨k + 1, by omega, by go_num, hbel.drew⟩
      case measure => simp [intOf]; omega
    · have hkn : k = n := by omega
      subst hkn
      go_wp2
      go_ret
      exact ⟨rfl, hbel⟩



end Go.Proofs.YtiaeffpjcinilaaDoor

/- Walks of laws.loBools, loInts over rows that are the same. -/
namespace Go.Proofs.YtiaeffpjcinilaaDoor
open Go.RowKit
set_option linter.unusedVariables false

set_option maxHeartbeats 400000 in
theorem loInts_same (a1 a2 : Option Addr) (cap1 cap2 n : Nat) (M : Nat → Nat) (w : World) (hn : n ≤ 1000) (h1 : RowV w w.heap.size a1 n (pcellN M)) (h2 : RowV w w.heap.size a2 n (pcellN M)) :
    Calls Tryd.prog 17 #[.slice a1 n cap1, .slice a2 n cap2] w fun e w' => e = .returned (.bool true) ∧ Below w.heap.size w w' := by
  go_enter Tryd.func17, Tryd.ntmps17
  go_wp2
  go_loopw [5] (fun i wr => ∃ j : Nat, j ≤ n ∧ i = .int .i64 j ∧ Below w.heap.size w wr)
    (fun i _ => n - (intOf i).toNat)
  case atStart => exact ⟨0, Nat.zero_le _, rfl, Below.refl _ _⟩
  case round =>
    obtain ⟨j, hj, rfl, hbel⟩ := hrel
    by_cases hlt : j < n
    · obtain ⟨b, off, rfl, hbw, c0⟩ := h1 j hlt
      obtain ⟨b2, off2, rfl, hbw2, e0⟩ := h2 j hlt
      have c0' : wr.cell? ⟨b, off + j, none⟩ = some (.int .i64 ((M j : Nat) : Int)) := (hbel.cell (p := ⟨b, off + j, none⟩) hbw).trans c0
      have e0' : wr.cell? ⟨b2, off2 + j, none⟩ = some (.int .i64 ((M j : Nat) : Int)) := (hbel.cell (p := ⟨b2, off2 + j, none⟩) hbw2).trans e0
      obtain ⟨x, hxx⟩ : ∃ x, x = M j := ⟨_, rfl⟩
      rw [← hxx] at c0' e0'
      have hk0 : (0 : Int) ≤ (j : Int) := by omega
      have hk1 : (j : Int) < (n : Int) := by omega
      clear c0 e0 hxx h1 h2
      go_wp2
      go_region
      go_wp2
      go_roundw
      case rel => exact ⟨j + 1, by omega, by go_num, hbel.drew⟩
      case measure => simp [intOf]; omega
    · have hjn : j = n := by omega
      subst hjn
      go_wp2
      go_ret
      exact ⟨rfl, hbel⟩

end Go.Proofs.YtiaeffpjcinilaaDoor
