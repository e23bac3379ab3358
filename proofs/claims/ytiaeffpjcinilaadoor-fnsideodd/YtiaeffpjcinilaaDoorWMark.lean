/- Walks of markTieS, heldTieS, markNet, heldNet. -/
import Derived.Test.YtiaeffpjcinilaaDoorPartWLeaf
namespace Go.Proofs.YtiaeffpjcinilaaDoor
open Go.RowKit
set_option linter.unusedVariables false

def mcell (k0 : Int) (j : Nat) : Value := .int .i64 (k0 + j)
def mfill (k0 : Int) (f : Nat → Value) (k j : Nat) : Value := if j < k * 2 then mcell k0 j else f j
theorem mfill_step (k0 : Int) (f : Nat → Value) (n k j : Nat) (hk : k < n) (hj : j < n * 2) :
    (if j = k * 2 + 1 then Value.int .i64 (k0 + (k * 2 + 1 : Nat)) else if j = k * 2 then .int .i64 (k0 + (k * 2 : Nat)) else mfill k0 f k j) = mfill k0 f (k + 1) j := by
  by_cases h1 : j = k * 2 + 1
  · subst h1; rw [if_pos rfl, mfill, if_pos (by omega)]; rfl
  · rw [if_neg h1]
    by_cases h2 : j = k * 2
    · subst h2; rw [if_pos rfl, mfill, if_pos (by omega)]; rfl
    · rw [if_neg h2]
      unfold mfill
      by_cases h3 : j < k * 2
      · rw [if_pos h3, if_pos (by omega)]
      · rw [if_neg h3, if_neg (by omega)]
theorem grown_refl (w : World) (r : Option Nat) : w.grownBy w r := ⟨rfl, rfl, rfl, Nat.le_refl _, fun _ _ _ => rfl⟩
theorem grown_set {w w1 : World} {r : Nat} (h : w.grownBy w1 (some r)) (j : Nat) (u : Value) : w.grownBy (w1.setCell ⟨r, j, none⟩ u) (some r) :=
  ⟨h.os, h.tape, h.output, by simpa using h.size, fun k hk hne => by
    rw [Below.heap_setCell w1 ⟨r, j, none⟩ u k (by simpa using hne)]; exact h.block k hk hne⟩
set_option maxHeartbeats 800000 in
theorem markRow (g n cap : Nat) (f : Nat → Value) (w : World) (hn : n ≤ 1099511627776) (ho : OwnT w g n f) :
    Calls Tryd.prog 73 #[.slice (some ⟨g, 0, none⟩) n cap, .int .i64 1] w fun e w' => e = .returned (.int .i64 (1 + (n * 2 : Nat))) ∧ OwnT w' g n (mcell 1) ∧ w.grownBy w' (some g) := by
  go_enter Tryd.func73, Tryd.ntmps73
  go_wp2
  go_loopw [1, 5] (fun q i wr => ∃ k : Nat, k ≤ n ∧ i = .int .i64 k ∧ q = .int .i64 (1 + (k * 2 : Nat)) ∧ OwnT wr g n (mfill 1 f k) ∧ w.grownBy wr (some g)) (fun _ i _ => n - (intOf i).toNat)
  case atStart => exact ⟨0, Nat.zero_le _, rfl, rfl, ho.congr (fun j hj => by simp [mfill]), grown_refl _ _⟩
  case round =>
    obtain ⟨k, hk, rfl, rfl, hown, hgr⟩ := hrel
    clear ho
    by_cases hlt : k < n
    · have d0 := hown.1 (k * 2) (by omega)
      have d1 := hown.1 (k * 2 + 1) (by omega)
      have f0 := hown.2.1 (k * 2)
      have f1 := hown.2.1 (k * 2 + 1)
      have e1 : (1 : Int) + ((k * 2 : Nat) : Int) = 1 + (k : Int) * 2 := by omega
      have e2 : (1 : Int) + ((k * 2 + 1 : Nat) : Int) = 1 + (k : Int) * 2 + 1 := by omega
      have HO : OwnT ((wr.setCell ⟨g, k * 2, none⟩ (.int .i64 (1 + (k : Int) * 2))).setCell ⟨g, k * 2 + 1, none⟩ (.int .i64 (1 + (k : Int) * 2 + 1))) g n (mfill 1 f (k + 1)) := by
        rw [← e2, ← e1]
        exact ((hown.set (i := k * 2) (by omega) (.int .i64 (1 + (k * 2 : Nat)))).set (i := k * 2 + 1) (by omega) (.int .i64 (1 + (k * 2 + 1 : Nat)))).congr (fun j hj => mfill_step 1 f n k j hlt hj)
      have HG : w.grownBy ((wr.setCell ⟨g, k * 2, none⟩ (.int .i64 (1 + (k : Int) * 2))).setCell ⟨g, k * 2 + 1, none⟩ (.int .i64 (1 + (k : Int) * 2 + 1))) (some g) := grown_set (grown_set hgr _ _) _ _
      have HO' := hideP HO
      have HG' := hideP HG
      clear HO HG e1 e2
      have hkb : (k : Int) < 1099511627776 := by omega
      clear hown hgr
      go_wp2
      go_roundw
      case rel => exact ⟨k + 1, by omega, by go_num, by go_num, HO'.out, HG'.out⟩
      case measure => simp [intOf]; omega
    · have hkn : k = n := by omega
      subst hkn
      have HO : Hid (OwnT wr g k (mcell 1)) := hown.congr (fun j hj => by simp [mfill, hj])
      clear hown
      go_wp2
      go_ret
      exact ⟨rfl, HO.out, hgr⟩
set_option maxHeartbeats 400000 in
theorem markNil (cap : Nat) (w : World) : Calls Tryd.prog 73 #[.slice none 0 cap, .int .i64 1] w fun e w' => e = .returned (.int .i64 1) ∧ w' = w := by
  go_enter Tryd.func73, Tryd.ntmps73
  go_wp2
  refine wp_loop_rounds 1 ?_
  rw [rounds_succ]
  go_wp2
  go_ret
  exact ⟨rfl, rfl⟩
/-- marks written into a row: behind it the row holds them, and nothing else has turned -/
theorem markTieS_any (lo hi : Nat) (ao : Option Addr) (n cap : Nat) (f : Nat → Value) (w : World) (hn : n ≤ 1099511627776) (ho : OwnN w lo hi ao n f) :
    Calls Tryd.prog 73 #[.slice ao n cap, .int .i64 1] w fun e w' => e = .returned (.int .i64 (1 + (n * 2 : Nat))) ∧ OwnN w' lo hi ao n (mcell 1) ∧ Turned lo hi w w' := by
  rcases ho with ⟨rfl, rfl⟩ | ⟨g, rfl, h1, h2, h3⟩
  · refine (markNil cap w).mono ?_
    rintro e w' ⟨rfl, rfl⟩
    exact ⟨rfl, Or.inl ⟨rfl, rfl⟩, Turned.refl _ _ _⟩
  · refine (markRow g n cap f w hn h3).mono ?_
    rintro e w' ⟨rfl, h4, h5⟩
    exact ⟨rfl, Or.inr ⟨g, rfl, h1, h2, h4⟩, Turned.of_grown h5 h1 h2⟩
set_option maxHeartbeats 400000 in
theorem markNet_any (lo hi : Nat) (K : Int) (ao : Option Addr) (n cap : Nat) (f : Nat → Value) (w : World) (hn : n ≤ 1099511627776) (ho : OwnN w lo hi ao n f) :
    Calls Tryd.prog 38 #[.agg #[.int .i64 K, .slice ao n cap], .int .i64 1] w fun e w' => e = .returned (.int .i64 (1 + (n * 2 : Nat))) ∧ OwnN w' lo hi ao n (mcell 1) ∧ Turned lo hi w w' := by
  have ho1 := fun o => ho.next (below_one w o)
  go_enter Tryd.func38, Tryd.ntmps38
  go_wp2_with fail
  refine (markTieS_any lo hi ao n cap f _ hn (ho1 _)).mono ?_
  rintro e w1 ⟨rfl, ho2, hg⟩
  have hg' : Turned lo hi w w1 := by
    refine ⟨hg.os, hg.tape, hg.output, by have := hg.size; simp at this; omega, fun k hk hne => ?_⟩
    rw [hg.block k (by simp; omega) hne]; exact Below.heap_alloc _ _ _ hk
  clear hg
  go_wp2
  go_ret
  exact ⟨rfl, ho2, hg'⟩
end Go.Proofs.YtiaeffpjcinilaaDoor
