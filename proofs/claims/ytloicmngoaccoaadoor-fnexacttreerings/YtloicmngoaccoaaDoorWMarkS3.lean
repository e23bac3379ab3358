/- Rows of rows of numbers, held and compared as a whole. -/
import Derived.Test.YtloicmngoaccoaaDoorWMarkS2
import Derived.Deep.RegionHeld3
namespace Go.Proofs.YtloicmngoaccoaaDoor
open Go.RowKit
set_option linter.unusedVariables false

set_option maxHeartbeats 800000 in
theorem heldIntSS_any (lo hi : Nat) (ao : Option Addr) (cap : Nat) (ps : List (List Nat)) (w : World) (h20 : ps.length ≤ 20000000) (h8 : ∀ i, i < ps.length → (wayAt ps i).length ≤ 8) (h : Rw2 w lo hi ao ps (markF ps)) :
    Calls Tryd.prog 40 #[.slice ao ps.length cap, .int .i64 1] w fun e w' => e = .returned (.int .i64 (stK ps ps.length : Int)) ∧ Below w.heap.size w w' := by
  have HST := hideP (stK_le ps h8)
  have H8 := hideP h8
  rcases h with rfl | ⟨G, gs, cs, rfl, hM⟩
  · clear H8 h8 HST h20
    go_enter Tryd.func40, Tryd.ntmps40
    go_wp2
    go_loopw [1, 5] (fun q i wr => q = .int .i64 1 ∧ i = .int .i64 0 ∧ Below w.heap.size w wr) (fun _ i _ => 0)
    case atStart => exact ⟨rfl, rfl, Below.refl _ _⟩
    case round =>
      obtain ⟨rfl, rfl, ht⟩ := hrel
      go_wp2
      go_ret
      exact ⟨rfl, ht⟩
  clear h8
  have HM := hideP hM
  clear hM
  go_enter Tryd.func40, Tryd.ntmps40
  go_wp2
  go_loopw [1, 5] (fun q i wr => ∃ k : Nat, k ≤ ps.length ∧ i = .int .i64 k ∧ q = .int .i64 (stK ps k : Int) ∧ Mk wr lo hi G gs cs ps (markF ps) ∧ Below w.heap.size w wr) (fun _ i _ => ps.length - (intOf i).toNat)
  case atStart => exact ⟨0, Nat.zero_le _, rfl, rfl, HM.out, Below.refl _ _⟩
  case round =>
    clear HM
    obtain ⟨k, hk, rfl, rfl, hM, ht⟩ := hrel
    have HM := hideP hM
    have HT := hideP ht
    clear hM ht
    by_cases hlt : k < ps.length
    · have hcell := HM.out.out.1 k hlt
      unfold rowV at hcell
      obtain ⟨g, hg⟩ : ∃ g, g = gs k := ⟨_, rfl⟩
      obtain ⟨m, hm⟩ : ∃ m, m = (wayAt ps k).length := ⟨_, rfl⟩
      obtain ⟨s, hs⟩ : ∃ s, s = stK ps k := ⟨_, rfl⟩
      have hs8 : s ≤ 400000000 := by rw [hs]; have := HST.out k hk; omega
      have hm8 : m ≤ 8 := by rw [hm]; exact H8.out k hlt
      have hrow := (HM.out.row k hlt).2.2.2
      unfold markF at hrow
      rw [← hg, ← hm] at hcell
      rw [← hg, ← hm, ← hs] at hrow
      rw [← hs]
      have HROW := hideP hrow
      have HMM := hideP hm
      have HSS := hideP hs
      have hk0 : (0 : Int) ≤ (k : Int) := by omega
      have hk1 : (k : Int) < (ps.length : Int) := by omega
      have hq0 : decide ((s : Int) + (m : Int) < 0) = false := by simp; omega
      clear hrow hg hm hs
      go_wp2_with fail
      refine (heldIntS_k g m _ s _ hm8 hs8 HROW.out).mono ?_
      rintro e w5 ⟨rfl, hb5⟩
      have M5 := hideP (HM.out.next hb5)
      have T5 := hideP (HT.out.trans (hb5.mono HT.out.size))
      have HQ : Hid ((s : Int) + (m : Int) = (stK ps (k + 1) : Int)) := by show _ = _; simp only [stK]; rw [← HSS.out, ← HMM.out]; omega
      clear hb5 HM HT HROW hcell
      go_wp2
      go_roundw
      case rel => exact ⟨k + 1, by omega, by go_num, by rw [HQ.out], M5.out, T5.out⟩
      case measure => simp [intOf]; omega
    · obtain rfl : k = ps.length := by omega
      clear HM
      go_wp2
      go_ret
      exact ⟨rfl, HT.out⟩
theorem eqIntSS_same (a1 a2 : Option Addr) (cap1 cap2 : Nat) (ps : List (List Nat)) (w : World) (h20 : ps.length ≤ 20000000) (h8 : ∀ i, i < ps.length → (ps.getD i []).length ≤ 8) (h1 : AllV w a1 ps) (h2 : AllV w a2 ps) :
    Calls Tryd.prog 36 #[.slice a1 ps.length cap1, .slice a2 ps.length cap2] w fun e w' => e = .returned (.bool true) ∧ Below w.heap.size w w' := by
  have H1 := hideP h1
  have H2 := hideP h2
  have H8 := hideP h8
  obtain ⟨n, hn⟩ : ∃ n, n = ps.length := ⟨_, rfl⟩
  have HN := hideP hn
  rw [← hn] at h20 ⊢
  clear h1 h2 h8 hn
  go_enter Tryd.func36, Tryd.ntmps36
  go_wp2
  go_loopw [5] (fun i wr => ∃ k : Nat, k ≤ n ∧ i = .int .i64 k ∧ AllV wr a1 ps ∧ AllV wr a2 ps ∧ Below w.heap.size w wr) (fun i _ => n - (intOf i).toNat)
  case atStart => exact ⟨0, Nat.zero_le _, rfl, H1.out, H2.out, Below.refl _ _⟩
  case round =>
    clear H1 H2
    obtain ⟨k, hk, rfl, hA, hB, hbr⟩ := hrel
    have HA := hideP hA
    have HB := hideP hB
    have HBR := hideP hbr
    clear hA hB hbr
    by_cases hlt : k < n
    · have hk' : k < ps.length := by have := HN.out; omega
      obtain ⟨g1, o1, r1, k1, rfl, l1, d1, e1⟩ := HA.out.at' k hk'
      obtain ⟨g2, o2, r2, k2, rfl, l2, d2, e2⟩ := HB.out.at' k hk'
      obtain ⟨q, hq⟩ : ∃ q, q = ps.getD k [] := ⟨_, rfl⟩
      have hq8 : q.length ≤ 8 := by rw [hq]; exact H8.out k hk'
      rw [← hq] at d1 d2 e1 e2
      have R1 := hideP e1
      have R2 := hideP e2
      have hk0 : (0 : Int) ≤ (k : Int) := by omega
      have hk1 : (k : Int) < (n : Int) := by omega
      clear e1 e2 hk' hq
      have HAd := hideP (HA.out.next (Below.refl _ _).drew)
      have HBd := hideP (HB.out.next (Below.refl _ _).drew)
      have R1d := hideP (R1.out.next (Below.refl _ _).drew)
      have R2d := hideP (R2.out.next (Below.refl _ _).drew)
      have HBRd := hideP HBR.out.drew
      clear HA HB R1 R2 HBR
      go_wp2
      go_region_held3 (fun w' => w'.cell? ⟨g1, o1 + k, none⟩ = some (.slice (some ⟨r1, 0, none⟩) q.length k1) ∧ w'.cell? ⟨g2, o2 + k, none⟩ = some (.slice (some ⟨r2, 0, none⟩) q.length k2)) (first | exact ⟨d16, d26⟩ | exact ⟨d1, d2⟩) (first | (go_at_call 74; refine (eqIntS_row _ _ _ _ q.length (pn q) _ (by omega) R1d.out R2d.out).mono ?_; rintro e w6 ⟨rfl, hb6⟩; have A6 := hideP (HAd.out.next hb6); have B6 := hideP (HBd.out.next hb6); have HB6 := hideP (HBRd.out.trans (hb6.mono HBRd.out.size)); have d16 : w6.cell? ⟨g1, o1 + k, none⟩ = some (.slice (some ⟨r1, 0, none⟩) q.length k1) := ((hb6.cell (p := ⟨g1, o1 + k, none⟩) l1).trans d1); have d26 : w6.cell? ⟨g2, o2 + k, none⟩ = some (.slice (some ⟨r2, 0, none⟩) q.length k2) := ((hb6.cell (p := ⟨g2, o2 + k, none⟩) l2).trans d2); clear hb6))
      go_wp2
      go_roundw
      case rel => exact ⟨k + 1, by omega, by go_num, A6.out, B6.out, HB6.out⟩
      case measure => simp [intOf]; omega
    · obtain rfl : k = n := by omega
      go_wp2
      go_ret
      exact ⟨rfl, HBR.out⟩


end Go.Proofs.YtloicmngoaccoaaDoor
