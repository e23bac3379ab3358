/- Walks of impl.forest.least, impl.forest.join. -/
import Derived.Test.YtiaeffpjcinilaaDoorWInts
import Derived.Test.YtiaeffpjcinilaaDoorWOwn
import Derived.Test.YtiaeffpjcinilaaDoorMath5
namespace Go.Proofs.YtiaeffpjcinilaaDoor
open Go.RowKit
set_option linter.unusedVariables false

def pcellN (f : Nat → Nat) (j : Nat) : Value := .int .i64 (f j : Int)
set_option maxHeartbeats 400000 in
theorem least_any (F : Nat) (f : Nat → Nat) (k : Nat) (w : World) (hF : OwnI w F 8 (pcellN f)) (hl : Low f) (hk : k < 8) :
    Calls Tryd.prog 51 #[.pointer (some ⟨F, 0, none⟩), .int .i64 (k : Int)] w fun e w' => e = .returned (.int .i64 (top f k : Int)) ∧ w' = w := by
  go_enter Tryd.func51, Tryd.ntmps51
  go_wp2
  go_loopw [1] (fun i wr => ∃ j : Nat, j < 8 ∧ i = .int .i64 j ∧ top f j = top f k ∧ wr = w)
    (fun i _ => (intOf i).toNat)
  case atStart => exact ⟨k, hk, rfl, rfl, rfl⟩
  case round =>
    obtain ⟨j, hj, rfl, htop, rfl⟩ := hrel
    have c0 : wr.cell? ⟨F, j, none⟩ = some (.int .i64 (f j : Int)) := hF.1 j hj
    have hj0 : (0 : Int) ≤ (j : Int) := by omega
    have hj8 : (j : Int) < 8 := by omega
    have HL := hideP hl
    have hlow := hl j
    by_cases hfj : f j = j
    · have HT : Hid (top f k = j) := by rw [← htop]; exact top_fix hfj
      have hne : ((f j : Int) != (j : Int)) = false := by simp [hfj]
      rw [hfj] at c0
      clear htop hlow hne hF hl
      go_wp2
      go_ret
      exact ⟨by rw [HT.out]; rfl, rfl⟩
    · have HT : Hid (top f (f j) = top f k) := by rw [← htop]; exact (top_step hl).symm
      have hne : ((f j : Int) == (j : Int)) = false := by simp; omega
      have hne2 : ¬ ((f j : Int) = (j : Int)) := by omega
      have hlt : f j < j := by omega
      obtain ⟨y, hy⟩ : ∃ y, y = f j := ⟨_, rfl⟩
      rw [← hy] at c0 hne hne2 hlt HT
      clear htop hlow hF hl hy hfj
      go_wp2
      go_roundw
      case rel => exact ⟨y, by omega, rfl, HT.out, trivial⟩
      case measure => simp [intOf]; omega

theorem join_cells (f : Nat → Nat) (a b j : Nat) : (if j = max (top f a) (top f b) then Value.int .i64 ((min (top f a) (top f b) : Nat) : Int) else pcellN f j) = pcellN (join f a b) j := by
  unfold pcellN join
  by_cases e : j = max (top f a) (top f b)
  · rw [if_pos e, if_pos e]
  · rw [if_neg e, if_neg e]
def joinB (f : Nat → Nat) (a b : Nat) : Bool := decide (top f a ≠ top f b)
set_option maxHeartbeats 400000 in
theorem join_any (F : Nat) (f : Nat → Nat) (a b : Nat) (w : World) (hF : OwnI w F 8 (pcellN f)) (hl : Low f) (ha : a < 8) (hb : b < 8) :
    Calls Tryd.prog 81 #[.pointer (some ⟨F, 0, none⟩), .int .i64 (a : Int), .int .i64 (b : Int)] w fun e w' => e = .returned (.bool (joinB f a b)) ∧ OwnI w' F 8 (pcellN (join f a b)) ∧ Turned F (F + 1) w w' := by
  have ra8 : top f a < 8 := Nat.lt_of_le_of_lt (top_le hl a) ha
  have rb8 : top f b < 8 := Nat.lt_of_le_of_lt (top_le hl b) hb
  have HJ : Hid (joinB f a b = decide (top f a ≠ top f b)) := rfl
  obtain ⟨r, hr⟩ : ∃ r, r = joinB f a b := ⟨_, rfl⟩
  rw [← hr] at HJ ⊢
  clear hr
  obtain ⟨mx, hmx⟩ : ∃ m, m = max (top f a) (top f b) := ⟨_, rfl⟩
  obtain ⟨mn, hmn⟩ : ∃ m, m = min (top f a) (top f b) := ⟨_, rfl⟩
  have mx8 : mx < 8 := by omega
  have c0 : w.cell? ⟨F, mx, none⟩ = some (.int .i64 (f mx : Int)) := hF.1 mx mx8
  have f0 := hF.2.1 mx
  have HO : Hid (OwnI (w.setCell ⟨F, mx, none⟩ (.int .i64 (mn : Int))) F 8 (pcellN (join f a b))) :=
    (hF.set (i := mx) mx8 (.int .i64 (mn : Int))).congr (fun j _ => by rw [hmx, hmn]; exact join_cells f a b j)
  have HTu : Hid (Turned F (F + 1) w (w.setCell ⟨F, mx, none⟩ (.int .i64 (mn : Int)))) :=
    ⟨rfl, rfl, rfl, by simp [World.setCell], fun k _ hk => Below.heap_setCell _ _ _ _ (by show k ≠ F; omega)⟩
  have la := fun w h => least_any F f a w h hl ha
  have lb := fun w h => least_any F f b w h hl hb
  obtain ⟨ra, hra⟩ : ∃ r, r = top f a := ⟨_, rfl⟩
  obtain ⟨rb, hrb⟩ : ∃ r, r = top f b := ⟨_, rfl⟩
  rw [← hra] at la hmx hmn ra8 HJ
  rw [← hrb] at lb hmx hmn rb8 HJ
  have LA := hideP (la w hF)
  have LB := hideP (lb w hF)
  have mx0 : (0 : Int) ≤ (mx : Int) := by omega
  have mx8' : (mx : Int) < 8 := by omega
  clear la lb hF hra hrb
  rcases Nat.lt_trichotomy ra rb with hab | hab | hab
  · obtain rfl : mx = rb := by omega
    obtain rfl : mn = ra := by omega
    have hab' : (mn : Int) < (mx : Int) := by omega
    have hne : Hid (((mn : Int) != (mx : Int)) = true) := by show ((mn : Int) != (mx : Int)) = true; rw [bne_iff_ne]; omega
    have HR : Hid (r = true) := by rw [HJ.out]; exact decide_eq_true (by omega)
    clear HJ
    clear hmx hmn
    go_enter Tryd.func81, Tryd.ntmps81
    go_wp2_with fail
    refine LA.out.mono ?_
    rintro e w1 ⟨rfl, rfl⟩
    go_wp2_with fail
    refine LB.out.mono ?_
    rintro e w2 ⟨rfl, rfl⟩
    go_wp2
    go_ret
    refine ⟨?_, HO.out, HTu.out⟩
    rw [HR.out]
    exact congrArg (fun b => Ending.returned (Value.bool b)) hne.out
  · obtain rfl : mx = rb := by omega
    obtain rfl : mn = ra := by omega
    obtain rfl : mn = mx := by omega
    have HR : Hid (r = false) := by rw [HJ.out]; exact decide_eq_false (by omega)
    clear HJ
    clear hmx hmn
    go_enter Tryd.func81, Tryd.ntmps81
    go_wp2_with fail
    refine LA.out.mono ?_
    rintro e w1 ⟨rfl, rfl⟩
    go_wp2_with fail
    refine LB.out.mono ?_
    rintro e w2 ⟨rfl, rfl⟩
    go_wp2
    go_ret
    refine ⟨?_, HO.out, HTu.out⟩
    rw [HR.out]
    rfl
  · obtain rfl : mx = ra := by omega
    obtain rfl : mn = rb := by omega
    have hab' : (mn : Int) < (mx : Int) := by omega
    have hne : Hid (((mx : Int) != (mn : Int)) = true) := by show ((mx : Int) != (mn : Int)) = true; rw [bne_iff_ne]; omega
    have HR : Hid (r = true) := by rw [HJ.out]; exact decide_eq_true (by omega)
    clear HJ
    clear hmx hmn
    go_enter Tryd.func81, Tryd.ntmps81
    go_wp2_with fail
    refine LA.out.mono ?_
    rintro e w1 ⟨rfl, rfl⟩
    go_wp2_with fail
    refine LB.out.mono ?_
    rintro e w2 ⟨rfl, rfl⟩
    go_wp2
    go_ret
    refine ⟨?_, HO.out, HTu.out⟩
    rw [HR.out]
    exact congrArg (fun b => Ending.returned (Value.bool b)) hne.out

end Go.Proofs.YtiaeffpjcinilaaDoor
