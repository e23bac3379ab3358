/- Walk of spec.l21Uses. -/
import Derived.Test.YtljnjpjnadlmhaaDoorPartWSpecAdd
import Derived.Test.YtljnjpjnadlmhaaDoorPartWInts
import Derived.Deep.RegionHeld3
namespace Go.Proofs.YtljnjpjnadlmhaaDoor
open Go.RowKit
set_option linter.unusedVariables false

/-- a way goes over a tie -/
def usesB (xs : List Int) (t : Int × Int) : Bool := (List.range xs.length).any fun k => decide (1 ≤ k) && decide (tieOf (xi xs (k - 1)) (xi xs k) = t)
theorem uses_at {xs : List Int} {t : Int × Int} {k : Nat} (h1 : 1 ≤ k) (hk : k < xs.length) (h : tieOf (xi xs (k - 1)) (xi xs k) = t) : usesB xs t = true := by
  unfold usesB
  rw [List.any_eq_true]
  exact ⟨k, List.mem_range.2 hk, by rw [decide_eq_true h1, decide_eq_true h]; rfl⟩
theorem uses_no {xs : List Int} {t : Int × Int} (h : ∀ k, 1 ≤ k → k < xs.length → tieOf (xi xs (k - 1)) (xi xs k) ≠ t) : usesB xs t = false := by
  unfold usesB
  rw [List.any_eq_false]
  intro k hk
  by_cases h1 : 1 ≤ k
  · rw [decide_eq_false (h k h1 (List.mem_range.1 hk))]; simp
  · rw [decide_eq_false h1]; simp
set_option maxHeartbeats 1600000 in
theorem uses_any (bo : Option Addr) (cap : Nat) (xs : List Int) (t1 t2 : Int) (w : World) (hxn : xs.length ≤ 1099511627776) (hx : IntsIn w w.heap.size bo xs) :
    Calls Tryd.prog 34 #[.slice bo xs.length cap, .agg #[.int .i64 t1, .int .i64 t2]] w fun e w' => e = .returned (.bool (usesB xs (t1, t2))) ∧ Below w.heap.size w w' := by
  have HXI := hideP hx
  obtain ⟨r, hr⟩ : ∃ r, usesB xs (t1, t2) = r := ⟨_, rfl⟩
  have HR := hideP hr
  obtain ⟨m, hm⟩ : ∃ m, xs.length = m := ⟨_, rfl⟩
  have HM := hideP hm
  rw [hr, hm]
  rw [hm] at hxn
  clear hx hr hm
  go_enter Tryd.func34, Tryd.ntmps34
  go_wp2
  go_loopw [5] (fun i wr => ∃ k : Nat, 1 ≤ k ∧ k ≤ m + 1 ∧ i = .int .i64 (k : Int) ∧ (∀ j, 1 ≤ j → j < k → j < m → tieOf (xi xs (j - 1)) (xi xs j) ≠ (t1, t2)) ∧ Below w.heap.size w wr ∧ wr.cell? ⟨w.heap.size, 0, none⟩ = some (.int .i64 t1) ∧ wr.cell? ⟨w.heap.size, 1, none⟩ = some (.int .i64 t2) ∧ w.heap.size < wr.heap.size)
    (fun i _ => m - (intOf i).toNat)
  case atStart => exact ⟨1, Nat.le_refl _, by omega, rfl, fun j h1 h2 => by omega, below_one _ _, by simp, by simp, by simp⟩
  case round =>
    obtain ⟨k, hk1, hk, rfl, hP, hBr, t0, t1', hwl⟩ := hrel
    have HP := hideP hP
    have HBr := hideP hBr
    clear hP hBr
    by_cases hlt : k < m
    · obtain ⟨j, hj⟩ : ∃ j, j = k - 1 := ⟨k - 1, rfl⟩
      obtain ⟨x, hx⟩ : ∃ x, x = xi xs (k - 1) := ⟨_, rfl⟩
      obtain ⟨y, hy⟩ : ∃ y, y = xi xs k := ⟨_, rfl⟩
      have HTI : Hid (tieOf (xi xs (k - 1)) (xi xs k) = (min x y, max x y)) := hideP (by rw [hx, hy]; rfl)
      rw [← hj] at hx
      obtain ⟨g, off, rfl, hg, e0⟩ := (HXI.out.below HBr.out (Nat.le_refl _)) j (by rw [HM.out]; omega)
      obtain ⟨g2, off2, eg, _, e1⟩ := (HXI.out.below HBr.out (Nat.le_refl _)) k (by rw [HM.out]; omega)
      cases eg
      rw [← hx] at e0
      rw [← hy] at e1
      have hgr : g < wr.heap.size := Nat.lt_of_lt_of_le hg HBr.out.size
      have i0 : (0 : Int) ≤ (j : Int) := by omega
      have i1 : (j : Int) < (m : Int) := by omega
      have i2 : (0 : Int) ≤ (k : Int) := by omega
      have i3 : (k : Int) < (m : Int) := by omega
      have i4 : IntKind.i64.wrap ((k : Int) - 1) = (j : Int) := by
        rw [show (k : Int) - 1 = (j : Int) by omega]
        rw [IntKind.wrap_i64]; omega
      have b0 : Below wr.heap.size wr wr.drew := (Below.refl _ _).drew
      have HE : Hid (∀ W, Below wr.heap.size wr W → W.cell? ⟨g, off + j, none⟩ = some (.int .i64 x) ∧ W.cell? ⟨g, off + k, none⟩ = some (.int .i64 y) ∧ W.cell? ⟨w.heap.size, 0, none⟩ = some (.int .i64 t1) ∧ W.cell? ⟨w.heap.size, 1, none⟩ = some (.int .i64 t2)) := hideP (fun W hb => ⟨(hb.cell (p := ⟨g, off + j, none⟩) hgr).trans e0, (hb.cell (p := ⟨g, off + k, none⟩) hgr).trans e1, (hb.cell (p := ⟨w.heap.size, 0, none⟩) hwl).trans t0, (hb.cell (p := ⟨w.heap.size, 1, none⟩) hwl).trans t1'⟩)
      have HT2 := hideP t0
      have HT3 := hideP t1'
      clear hx hy hj e0 e1 t0 t1'
      obtain ⟨lo, hlo⟩ : ∃ lo, lo = min x y := ⟨_, rfl⟩
      obtain ⟨hi, hhi⟩ : ∃ hi, hi = max x y := ⟨_, rfl⟩
      have HL : Hid (∀ W, Calls Tryd.prog 58 #[.int .i64 x, .int .i64 y] W fun e w' => e = .returned (.agg #[.int .i64 lo, .int .i64 hi]) ∧ Below W.heap.size W w') := hideP (fun W => by
        refine (l1Tie_any x y W).mono ?_
        rintro e w' ⟨rfl, rfl⟩
        exact ⟨by rw [hlo, hhi], below_one _ _⟩)
      rw [← hlo, ← hhi] at HTI
      clear hlo hhi HT2 HT3
      by_cases h1 : lo = t1
      · subst h1
        by_cases h2 : hi = t2
        · subst h2
          go_wp2
          go_region_held3 (fun w' => w'.cell? ⟨g, off + j, none⟩ = some (.int .i64 x) ∧ w'.cell? ⟨g, off + k, none⟩ = some (.int .i64 y) ∧ w'.cell? ⟨w.heap.size, 0, none⟩ = some (.int .i64 lo) ∧ w'.cell? ⟨w.heap.size, 1, none⟩ = some (.int .i64 hi)) (first | exact HE.out _ b1 | exact HE.out _ b0) (first | (go_at_call 58; refine (HL.out _).mono ?_; rintro e w1 ⟨rfl, hw1⟩; have b1 : Below wr.heap.size wr w1 := b0.trans hw1; clear hw1))
          have B1 := hideP (HBr.out.trans (b1.mono HBr.out.size))
          have s0 := (HE.out _ b1).2.2.1
          have s1 := (HE.out _ b1).2.2.2
          have hwl1 : w.heap.size < w1.heap.size := Nat.lt_of_lt_of_le hwl b1.size
          have HN : Hid (r = true) := hideP (by rw [← HR.out]; exact uses_at hk1 (by rw [HM.out]; exact hlt) HTI.out)
          clear HTI HP b1 b0 HE HL s0 s1
          go_wp2
          go_ret
          exact ⟨by rw [HN.out]; rfl, B1.out⟩
        · have h2b : (hi == t2) = false := by simp [h2]
          have HNE : ¬ hi = t2 := h2
          go_wp2
          go_region_held3 (fun w' => w'.cell? ⟨g, off + j, none⟩ = some (.int .i64 x) ∧ w'.cell? ⟨g, off + k, none⟩ = some (.int .i64 y) ∧ w'.cell? ⟨w.heap.size, 0, none⟩ = some (.int .i64 lo) ∧ w'.cell? ⟨w.heap.size, 1, none⟩ = some (.int .i64 t2)) (first | exact HE.out _ b1 | exact HE.out _ b0) (first | (go_at_call 58; refine (HL.out _).mono ?_; rintro e w1 ⟨rfl, hw1⟩; have b1 : Below wr.heap.size wr w1 := b0.trans hw1; clear hw1))
          have B1 := hideP (HBr.out.trans (b1.mono HBr.out.size))
          have s0 := (HE.out _ b1).2.2.1
          have s1 := (HE.out _ b1).2.2.2
          have hwl1 : w.heap.size < w1.heap.size := Nat.lt_of_lt_of_le hwl b1.size
          have HP2 : Hid (∀ j, 1 ≤ j → j < k + 1 → j < m → tieOf (xi xs (j - 1)) (xi xs j) ≠ (lo, t2)) := hideP (fun j h1 h2 h3 => by
            rcases Nat.lt_or_ge j k with h | h
            · exact HP.out j h1 h h3
            · obtain rfl : j = k := by omega
              rw [HTI.out]; intro e; cases e; exact HNE rfl)
          clear HTI HP b1 b0 HE HL
          go_wp2
          go_roundw
          case measure => (simp [intOf] <;> omega)
          case rel => exact ⟨k + 1, by omega, by omega, by go_num, HP2.out, B1.out, s0, s1, hwl1⟩
      · have h1b : (lo == t1) = false := by simp [h1]
        have HNE : ¬ lo = t1 := h1
        go_wp2
        go_region_held3 (fun w' => w'.cell? ⟨g, off + j, none⟩ = some (.int .i64 x) ∧ w'.cell? ⟨g, off + k, none⟩ = some (.int .i64 y) ∧ w'.cell? ⟨w.heap.size, 0, none⟩ = some (.int .i64 t1) ∧ w'.cell? ⟨w.heap.size, 1, none⟩ = some (.int .i64 t2)) (first | exact HE.out _ b1 | exact HE.out _ b0) (first | (go_at_call 58; refine (HL.out _).mono ?_; rintro e w1 ⟨rfl, hw1⟩; have b1 : Below wr.heap.size wr w1 := b0.trans hw1; clear hw1))
        have B1 := hideP (HBr.out.trans (b1.mono HBr.out.size))
        have s0 := (HE.out _ b1).2.2.1
        have s1 := (HE.out _ b1).2.2.2
        have hwl1 : w.heap.size < w1.heap.size := Nat.lt_of_lt_of_le hwl b1.size
        have HP2 : Hid (∀ j, 1 ≤ j → j < k + 1 → j < m → tieOf (xi xs (j - 1)) (xi xs j) ≠ (t1, t2)) := hideP (fun j h1 h2 h3 => by
          rcases Nat.lt_or_ge j k with h | h
          · exact HP.out j h1 h h3
          · obtain rfl : j = k := by omega
            rw [HTI.out]; intro e; cases e; exact HNE rfl)
        clear HTI HP b1 b0 HE HL
        go_wp2
        go_roundw
        case measure => (simp [intOf] <;> omega)
        case rel => exact ⟨k + 1, by omega, by omega, by go_num, HP2.out, B1.out, s0, s1, hwl1⟩
    · have HN : Hid (r = false) := hideP (by rw [← HR.out]; exact uses_no (fun j h1 h2 => HP.out j h1 (by rw [HM.out] at h2; omega) (by rw [HM.out] at h2; exact h2)))
      clear HP
      go_wp2
      go_ret
      exact ⟨by rw [HN.out]; rfl, HBr.out⟩

end Go.Proofs.YtljnjpjnadlmhaaDoor
