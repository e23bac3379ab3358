/- Walks of impl.pairsOf and impl.NetOk. -/
import Derived.Test.YtljnjpjnadlmhaaWLeaf
namespace Go.Proofs.Ytljnjpjnadlmhaa
open Go.RowKit
set_option linter.unusedVariables false

/-- the ties ts lie in w behind the address ao, two cells each, in a block below B -/
def TiesIn (w : World) (B : Nat) (ao : Option Addr) (ts : List (Int × Int)) : Prop :=
  ∀ i, i < ts.length → ∃ b off, ao = some ⟨b, off, none⟩ ∧ b < B ∧ w.cell? ⟨b, off + i * 2, none⟩ = some (.int .i64 (tA ts i)) ∧ w.cell? ⟨b, off + i * 2 + 1, none⟩ = some (.int .i64 (tB ts i))

theorem TiesIn.below {w w' : World} {B : Nat} {ao : Option Addr} {ts : List (Int × Int)} (h : TiesIn w B ao ts) {C : Nat} (hb : Below C w w') (hC : B ≤ C) : TiesIn w' B ao ts := by
  intro i hi
  obtain ⟨b, off, e, hlt, c0, c1⟩ := h i hi
  exact ⟨b, off, e, hlt, (hb.cell (p := ⟨b, off + i * 2, none⟩) (by simpa using Nat.lt_of_lt_of_le hlt hC)).trans c0, (hb.cell (p := ⟨b, off + i * 2 + 1, none⟩) (by simpa using Nat.lt_of_lt_of_le hlt hC)).trans c1⟩

theorem TiesIn.wide {w : World} {B C : Nat} {ao : Option Addr} {ts : List (Int × Int)} (h : TiesIn w B ao ts) (hC : B ≤ C) : TiesIn w C ao ts := by
  intro i hi
  obtain ⟨b, off, e, hlt, c0, c1⟩ := h i hi
  exact ⟨b, off, e, Nat.lt_of_lt_of_le hlt hC, c0, c1⟩

set_option maxHeartbeats 800000 in
theorem pairsOf_any (K : Int) (ao : Option Addr) (cap : Nat) (ts : List (Int × Int)) (w : World) (hn : ts.length ≤ 1099511627776) (ht : TiesIn w w.heap.size ao ts) :
    Calls Try.prog 37 #[.agg #[.int .i64 K, .slice ao ts.length cap]] w fun e w' =>
      e = .returned (.tuple #[.int .u64 ((setN K ts : Nat) : Int), .bool (okB K ts)]) ∧ Below w.heap.size w w' := by
  by_cases hK : K < 0 ∨ 8 < K
  · have hno := not_ok_knots (ts := ts) hK
    rw [setN_no hno, hno]
    rcases hK with h | h
    · go_enter Try.func37, Try.ntmps37
      go_wp2
      go_ret2
      exact ⟨rfl, below_one _ _⟩
    · have h' : ¬ K < 0 := by omega
      go_enter Try.func37, Try.ntmps37
      go_wp2
      go_ret2
      exact ⟨rfl, below_one _ _⟩
  · have hK0 : 0 ≤ K := by omega
    have hK8 : K ≤ 8 := by omega
    clear hK
    have d1 : decide (K < 0) = false := by simp; omega
    have d2 : decide (8 < K) = false := by simp; omega
    obtain ⟨n, hnn⟩ : ∃ n, n = ts.length := ⟨_, rfl⟩
    have HN : Hid (n = ts.length) := hnn
    rw [← hnn] at hn ⊢
    clear hnn
    go_enter Try.func37, Try.ntmps37
    go_wp2
    go_loopw [4, 18] (fun s i wr => ∃ k : Nat, k ≤ n ∧ i = .int .i64 k ∧ s = .int .u64 ((maskN ts k : Nat) : Int) ∧ GoodTo K ts k ∧ Below (w.heap.size + 1) (w.alloc (.cells #[.int .i64 K, .slice ao n cap] 25)) wr)
      (fun _ i _ => n - (intOf i).toNat)
    case atStart => exact ⟨0, Nat.zero_le _, rfl, rfl, fun i hi => absurd hi (by omega), Below.refl _ _⟩
    case round =>
      obtain ⟨k, hk, rfl, rfl, hgood, hnx⟩ := hrel
      by_cases hlt : k < n
      · obtain ⟨b, off, rfl, hbw, c0, c1⟩ := ht k (by rw [← HN.out]; exact hlt)
        have c0' : wr.cell? ⟨b, off + k * 2, none⟩ = some (.int .i64 (tA ts k)) := (hnx.cell (p := ⟨b, off + k * 2, none⟩) (by simp; omega)).trans ((World.cell?_alloc_past _ _ _ hbw).trans c0)
        have c1' : wr.cell? ⟨b, off + k * 2 + 1, none⟩ = some (.int .i64 (tB ts k)) := (hnx.cell (p := ⟨b, off + k * 2 + 1, none⟩) (by simp; omega)).trans ((World.cell?_alloc_past _ _ _ hbw).trans c1)
        have hz : w.heap.size < wr.heap.size := by have := hnx.size; simp at this; omega
        have hz1 : w.heap.size < wr.heap.size + 1 := by omega
        have hz2 : w.heap.size < wr.heap.size + 1 + 1 := by omega
        have hz3 : wr.heap.size < wr.heap.size + 1 + 1 := by omega
        have k0 : wr.cell? ⟨w.heap.size, 0, none⟩ = some (.int .i64 K) := (hnx.cell (p := ⟨w.heap.size, 0, none⟩) (by simp)).trans (by simp)
        have k1 : wr.cell? ⟨w.heap.size, 1, none⟩ = some (.slice (some ⟨b, off, none⟩) n cap) := (hnx.cell (p := ⟨w.heap.size, 1, none⟩) (by simp)).trans (by simp)
        have hbel : Below w.heap.size w wr := (below_one _ _).trans (hnx.mono (by omega))
        obtain ⟨x, hx⟩ : ∃ x, x = tA ts k := ⟨_, rfl⟩
        obtain ⟨y, hy⟩ : ∃ y, y = tB ts k := ⟨_, rfl⟩
        rw [← hx] at c0'; rw [← hy] at c1'
        clear c0 c1
        have hkl : k < ts.length := by rw [← HN.out]; exact hlt
        have HB : ¬ TieOk K x y → Hid (okB K ts = false) := fun h => not_ok_tie hkl (by rw [← hx, ← hy]; exact h)
        have HM := (mask_bounds hK8 k hgood).2.2
        have HX : Hid (x = tA ts k ∧ y = tB ts k) := ⟨hx, hy⟩
        clear hx hy ht
        by_cases hgt : TieOk K x y
        · have hgt' := hgt
          obtain ⟨q1, q2, q3⟩ := hgt
          have q4 : y < 8 := by omega
          have hbit := bit_above hK8 hgood (k := k) (by rw [← HX.out.1, ← HX.out.2]; exact hgt')
          rw [← HX.out.1, ← HX.out.2] at hbit
          by_cases hga : GoodAt K ts k
          · have hm : ¬ (((pb x y : Nat) : Int) ≤ ((maskN ts k : Nat) : Int)) := by have := hbit.1 hga; omega
            have hlow : ((maskN ts k : Nat) : Int) < ((pb x y : Nat) : Int) := by omega
            have HG : Hid (GoodTo K ts (k + 1)) := good_snoc hgood hga
            have HMK : Hid (maskN ts (k + 1) = maskN ts k ||| pb x y) := by rw [HX.out.1, HX.out.2]; rfl
            clear hbit hga hgood HB hgt' hm
            go_wp2_with fail
            refine (hasKnot_yes K _ x _ q1 (by omega)).mono ?_
            rintro e w1 ⟨rfl, rfl⟩
            go_wp2_with fail
            refine (hasKnot_yes K _ y _ (by omega) q3).mono ?_
            rintro e w1 ⟨rfl, rfl⟩
            go_wp2_with fail
            refine (pairBit_yes x y _ q1 q2 q4).mono ?_
            rintro e w1 ⟨rfl, rfl⟩
            go_wp2_with fail
            refine (with_yes (maskN ts k) x y _ HM q1 q2 q4).mono ?_
            rintro e w1 ⟨rfl, rfl⟩
            go_wp2
            go_roundw
            case rel => exact ⟨k + 1, by omega, by go_num, by rw [HMK.out], HG.out, ((hnx.alloc (by omega) _).alloc (by simp; omega) _).alloc (by simp; omega) _⟩
            case measure => simp [intOf]; omega
          · have hm : ((pb x y : Nat) : Int) ≤ ((maskN ts k : Nat) : Int) := by
              have : ¬ maskN ts k < pb x y := fun h => hga (hbit.2 h)
              omega
            have HO : Hid (okB K ts = false) := not_ok_at hkl hga
            have hfin : Hid (setN K ts = 0) := setN_no HO.out
            clear hbit hga hgood HB hgt'
            go_wp2_with fail
            refine (hasKnot_yes K _ x _ q1 (by omega)).mono ?_
            rintro e w1 ⟨rfl, rfl⟩
            go_wp2_with fail
            refine (hasKnot_yes K _ y _ (by omega) q3).mono ?_
            rintro e w1 ⟨rfl, rfl⟩
            go_wp2_with fail
            refine (pairBit_yes x y _ q1 q2 q4).mono ?_
            rintro e w1 ⟨rfl, rfl⟩
            go_wp2
            go_ret2
            exact ⟨by rw [hfin.out, HO.out]; rfl, ((hbel.alloc hbel.size _).alloc (by simp; omega) _).alloc (by simp; omega) _⟩
        · have HO := HB hgt
          have hfin : Hid (setN K ts = 0) := setN_no HO.out
          clear HB HM hgood
          by_cases h1 : y ≤ x
          · go_wp2
            go_ret2
            exact ⟨by rw [hfin.out, HO.out]; rfl, hbel.alloc hbel.size _⟩
          · by_cases h2 : 0 ≤ x ∧ x < K
            · obtain ⟨h2a, h2b⟩ := h2
              have h3 : K ≤ y := by
                apply Decidable.byContradiction; intro hc; exact hgt ⟨h2a, by omega, by omega⟩
              clear hgt
              go_wp2_with fail
              refine (hasKnot_yes K _ x _ h2a h2b).mono ?_
              rintro e w1 ⟨rfl, rfl⟩
              go_wp2_with fail
              refine (hasKnot_no K _ y _ (Or.inr h3)).mono ?_
              rintro e w1 ⟨rfl, rfl⟩
              go_wp2
              go_ret2
              exact ⟨by rw [hfin.out, HO.out]; rfl, ((hbel.alloc hbel.size _).alloc (by simp; omega) _).alloc (by simp; omega) _⟩
            · have h3 : x < 0 ∨ K ≤ x := by omega
              clear hgt h2
              go_wp2_with fail
              refine (hasKnot_no K _ x _ h3).mono ?_
              rintro e w1 ⟨rfl, rfl⟩
              go_wp2
              go_ret2
              exact ⟨by rw [hfin.out, HO.out]; rfl, (hbel.alloc hbel.size _).alloc (by simp; omega) _⟩
      · have hkn : k = n := by omega
        subst hkn
        have hok : okB K ts = true := ok_end hK0 hK8 (by rw [← HN.out]; exact hgood)
        have HS : Hid (setN K ts = maskN ts k) := by rw [HN.out]; exact setN_yes hok
        have HO : Hid (okB K ts = true) := hok
        clear hok
        go_wp2
        go_ret2
        refine ⟨?_, (below_one _ _).trans (hnx.mono (by omega))⟩
        rw [HS.out, HO.out]; rfl

end Go.Proofs.Ytljnjpjnadlmhaa
