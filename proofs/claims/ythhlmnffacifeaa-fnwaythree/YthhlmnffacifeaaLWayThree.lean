/- Walk of laws.FnWayThree: it returns true. -/
import Derived.Test.YthhlmnffacifeaaWFound
namespace Go.Proofs.Ythhlmnffacifeaa
open Go.RowKit
set_option linter.unusedVariables false

set_option maxHeartbeats 1600000 in
theorem wayThree_walk (bo0 : Option Addr) (n0 cap0 : Nat) (bo1 : Option Addr) (n1 cap1 : Nat) (w : World) (hb : BytesIn w bo0 n0) (hnil : bo0 = none → n0 = 0 ∧ cap0 = 0) (hc : n0 ≤ cap0) (hm : cap0 ≤ maxLen) (hb' : BytesIn w bo1 n1) (hnil' : bo1 = none → n1 = 0 ∧ cap1 = 0) (hc' : n1 ≤ cap1) (hm' : cap1 ≤ maxLen) :
    Calls Try.prog 6 #[.slice bo0 n0 cap0, .slice bo1 n1 cap1] w fun e w' => e = .returned (.bool true) ∧ Below w.heap.size w w' := by
  have hn0' : n0 ≤ 9223372036854775807 := by unfold maxLen at hm; omega
  have hn1' : n1 ≤ 9223372036854775807 := by unfold maxLen at hm'; omega
  by_cases hl : 1048576 < n0
  · have hl' : (1048576 : Int) < (n0 : Int) := by omega
    have hl2 : decide (1048576 < (n0 : Int)) = true := by simp; omega
    go_enter Try.func6, Try.ntmps6
    go_wp2
    go_ret
    exact ⟨rfl, Below.refl _ _⟩
  have hl' : decide ((1048576 : Int) < (n0 : Int)) = false := by simp; omega
  by_cases hk : 1048576 < n1
  · have hk' : (1048576 : Int) < (n1 : Int) := by omega
    have hk2 : decide (1048576 < (n1 : Int)) = true := by simp; omega
    go_enter Try.func6, Try.ntmps6
    go_wp2
    go_ret
    exact ⟨rfl, Below.refl _ _⟩
  have hk' : decide ((1048576 : Int) < (n1 : Int)) = false := by simp; omega
  go_enter Try.func6, Try.ntmps6
  go_wp2_with fail
  refine (drawWayFind_any bo0 n0 cap0 _ hb hnil hc hm).mono ?_
  rintro e w1 ⟨K, ao, cap', ts, a, b, rfl, D1⟩
  have hn : ts.length ≤ 1099511627776 := by have := D1.short; omega
  have HB1 := hideP (D1.bel.trans ((below_one w1 (.cells #[.int .i64 K, .slice ao ts.length cap'] 25)).mono D1.bel.size))
  have N1 := hideP (NetV.new (K := K) (cap := cap') 25 (D1.own.ties (Nat.le_refl _)))
  clear D1
  obtain ⟨p, hp⟩ : ∃ p, findB K ts a b = p := ⟨_, rfl⟩
  obtain ⟨V, hV⟩ : ∃ V, foundB K ts a b = V := ⟨_, rfl⟩
  have HP := hideP hp
  have HV := hideP hV
  have hp8 : p.length ≤ 8 := by rw [← hp]; exact findB_le K ts a b
  clear hp hV
  go_wp2_with fail
  refine (specFind_v V p K ao cap' ts a b _ hn N1.out.ties HP.out HV.out).mono ?_
  rintro e w2 ⟨aoS, capS, rfl, hoS, hb2⟩
  have N2 := hideP (N1.out.next hb2)
  have HB2 := hideP (HB1.out.trans (hb2.mono HB1.out.size))
  have S2 := hideP hoS
  clear hb2 N1 HB1 hoS
  have c0 := N2.out.c0
  have c1 := N2.out.c1
  go_wp2_with fail
  refine (implFind_v V p K ao cap' ts a b _ hn N2.out.ties HP.out HV.out).mono ?_
  rintro e w3 ⟨aoW, capW, rfl, hoW, hb3, hcw⟩
  have N3 := hideP (N2.out.next hb3)
  have HB3 := hideP (HB2.out.trans (hb3.mono HB2.out.size))
  have S3 := hideP (S2.out.next hb3)
  have W3 := hideP hoW
  clear hb3 N2 HB2 S2 hoW c0 c1
  cases V
  · go_wp2_with fail
    refine (loInts_same _ _ _ _ p.length (pn p) _ (by omega) W3.out.row S3.out.row).mono ?_
    rintro e w4 ⟨rfl, hb4⟩
    have HB4 := hideP (HB3.out.trans (hb4.mono HB3.out.size))
    have S4 := hideP (S3.out.next hb4)
    have W4 := hideP (W3.out.next hb4)
    clear hb4
    go_wp2_with fail
    refine (loInts_same _ _ _ _ p.length (pn p) _ (by omega) W4.out.row S4.out.row).mono ?_
    rintro e w5 ⟨rfl, hb5⟩
    have HB5 := hideP (HB4.out.trans (hb5.mono HB4.out.size))
    clear hb5
    go_wp2
    go_ret
    exact ⟨rfl, HB5.out⟩
  · go_wp2_with fail
    refine (loInts_same _ _ _ _ p.length (pn p) _ (by omega) W3.out.row S3.out.row).mono ?_
    rintro e w4 ⟨rfl, hb4⟩
    have HB4 := hideP (HB3.out.trans (hb4.mono HB3.out.size))
    have N4 := hideP (N3.out.next hb4)
    have W4 := hideP (W3.out.next hb4)
    clear hb4 N3 HB3 W3 S3
    have c0 := N4.out.c0
    have c1 := N4.out.c1
    obtain ⟨Kn, x, y, NT, rfl, rfl, hx, hy, h8⟩ := found_net HV.out
    have hK := NT.K
    subst hK
    obtain ⟨k, hk⟩ : ∃ k, k = n1 % Kn := ⟨_, rfl⟩
    have hkK : k < Kn := by rw [hk]; exact Nat.mod_lt _ (by omega)
    have HT3 := hideP (way_three HV.out (k := k) (by omega))
    have hmod : (n1 : Int).tmod (Kn : Int) = (k : Int) := by rw [hk]; exact (Int.ofNat_tmod n1 Kn).symm
    have hKne : ((Kn : Int) == 0) = false := by rw [beq_eq_false_iff_ne]; omega
    have hKne2 : (Kn : Int) ≠ 0 := by omega
    have hKm1 : ((Kn : Int) == -1) = false := by rw [beq_eq_false_iff_ne]; omega
    obtain ⟨p1, hp1⟩ : ∃ p1, findB (Kn : Int) ts (x : Int) (k : Int) = p1 := ⟨_, rfl⟩
    obtain ⟨p2, hp2⟩ : ∃ p2, findB (Kn : Int) ts (k : Int) (y : Int) = p2 := ⟨_, rfl⟩
    obtain ⟨V1, hV1⟩ : ∃ V1, foundB (Kn : Int) ts (x : Int) (k : Int) = V1 := ⟨_, rfl⟩
    have hV2 : foundB (Kn : Int) ts (k : Int) (y : Int) = V1 := HT3.out.1.symm.trans hV1
    have hp18 : p1.length ≤ 8 := by rw [← hp1]; exact findB_le _ ts _ _
    have hp28 : p2.length ≤ 8 := by rw [← hp2]; exact findB_le _ ts _ _
    have HLE : Hid (V1 = true → p.length ≤ p1.length + p2.length - 1 ∧ 0 < p1.length) := fun q => by
      have := HT3.out.2 (hV1.trans q)
      rw [HP.out, hp1, hp2] at this
      exact this
    have HP1 := hideP hp1
    have HP2 := hideP hp2
    have HV1 := hideP hV1
    have HV2 := hideP hV2
    clear hk hp1 hp2 hV1 hV2 HT3 HP HV NT
    go_wp2_with fail
    refine (implFind_v V1 p1 _ ao cap' ts _ _ _ hn N4.out.ties HP1.out HV1.out).mono ?_
    rintro e w5 ⟨ao5, cap5, rfl, ho5, hb5, _⟩
    have N5 := hideP (N4.out.next hb5)
    have HB5 := hideP (HB4.out.trans (hb5.mono HB4.out.size))
    clear hb5 N4 HB4 W4 ho5 c0 c1
    have c0 := N5.out.c0
    have c1 := N5.out.c1
    go_wp2_with fail
    refine (implFind_v V1 p2 _ ao cap' ts _ _ _ hn N5.out.ties HP2.out HV2.out).mono ?_
    rintro e w6 ⟨ao6, cap6, rfl, ho6, hb6, _⟩
    have HB6 := hideP (HB5.out.trans (hb6.mono HB5.out.size))
    clear hb6 N5 HB5 ho6 c0 c1
    cases V1
    · go_wp2
      go_ret
      exact ⟨rfl, HB6.out⟩
    · have hle := HLE.out rfl
      have hle' : (p.length : Int) ≤ (p1.length : Int) + (p2.length : Int) - 1 := by omega
      clear HLE
      go_wp2
      go_ret
      exact ⟨rfl, HB6.out⟩

end Go.Proofs.Ythhlmnffacifeaa
