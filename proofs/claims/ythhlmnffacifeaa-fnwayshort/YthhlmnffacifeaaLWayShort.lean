/- Walk of laws.FnWayShort: it returns true. -/
import Derived.Test.YthhlmnffacifeaaWFound
import Derived.Test.YthhlmnffacifeaaWAllV
namespace Go.Proofs.Ythhlmnffacifeaa
open Go.RowKit
set_option linter.unusedVariables false

set_option maxHeartbeats 1600000 in
theorem wayShort_walk (bo0 : Option Addr) (n0 cap0 : Nat) (w : World) (hb : BytesIn w bo0 n0) (hnil : bo0 = none → n0 = 0 ∧ cap0 = 0) (hc : n0 ≤ cap0) (hm : cap0 ≤ maxLen) :
    Calls Try.prog 3 #[.slice bo0 n0 cap0] w fun e w' => e = .returned (.bool true) ∧ Below w.heap.size w w' := by
  by_cases hl : 1048576 < n0
  · have hl' : (1048576 : Int) < (n0 : Int) := by omega
    have hn' : n0 ≤ 9223372036854775807 := by unfold maxLen at hm; omega
    go_enter Try.func3, Try.ntmps3
    go_wp2
    go_ret
    exact ⟨rfl, Below.refl _ _⟩
  have hl' : decide ((1048576 : Int) < (n0 : Int)) = false := by simp; omega
  go_enter Try.func3, Try.ntmps3
  go_wp2_with fail
  refine (drawWayFind_any bo0 n0 cap0 _ hb hnil hc hm).mono ?_
  rintro e w1 ⟨K, ao, cap', ts, a, b, rfl, D1⟩
  have hn : ts.length ≤ 1099511627776 := by have := D1.short; omega
  have HB1 := hideP (D1.bel.trans ((below_one w1 (.cells #[.int .i64 K, .slice ao ts.length cap'] 25)).mono D1.bel.size))
  have N1 := hideP (NetV.new (K := K) (cap := cap') 25 (D1.own.ties (Nat.le_refl _)))
  clear D1
  obtain ⟨p, hp⟩ : ∃ p, findB K ts a b = p := ⟨_, rfl⟩
  obtain ⟨V, hV⟩ : ∃ V, foundB K ts a b = V := ⟨_, rfl⟩
  have HP := hideP hp
  have HV := hideP hV
  have hp8 : p.length ≤ 8 := by rw [← hp]; exact findB_le K ts a b
  clear hp hV
  go_wp2_with fail
  refine (specFind_v V p K ao cap' ts a b _ hn N1.out.ties HP.out HV.out).mono ?_
  rintro e w2 ⟨aoS, capS, rfl, hoS, hb2⟩
  have N2 := hideP (N1.out.next hb2)
  have HB2 := hideP (HB1.out.trans (hb2.mono HB1.out.size))
  have S2 := hideP hoS
  clear hb2 N1 HB1 hoS
  have c0 := N2.out.c0
  have c1 := N2.out.c1
  go_wp2_with fail
  refine (implFind_v V p K ao cap' ts a b _ hn N2.out.ties HP.out HV.out).mono ?_
  rintro e w3 ⟨aoW, capW, rfl, hoW, hb3, hcw⟩
  have N3 := hideP (N2.out.next hb3)
  have HB3 := hideP (HB2.out.trans (hb3.mono HB2.out.size))
  have S3 := hideP (S2.out.next hb3)
  have W3 := hideP hoW
  clear hb3 N2 HB2 S2 hoW c0 c1
  obtain ⟨ps, hps⟩ : ∃ ps, waysB K ts a b = ps := ⟨_, rfl⟩
  have HPS := hideP hps
  have HLE : Hid (∀ i, i < ps.length → aheadB (ps.getD i []) p = false ∧ (ps.getD i []).length ≤ 8) := fun i hi => by
    have hm : ps.getD i [] ∈ waysB K ts a b := by rw [hps]; simp [hi]
    rw [← HP.out]
    exact ⟨first_least hm, (waysB_len hm).2⟩
  have HFI : Hid ((V = false → ps = [] ∧ p = []) ∧ (V = true → 0 < ps.length ∧ ps.getD 0 [] = p)) := by
    have h1 := HP.out
    have h2 := HV.out
    unfold findB at h1
    unfold foundB at h2
    rw [hps] at h1 h2
    cases ps with
    | nil => exact ⟨fun _ => ⟨rfl, h1.symm⟩, fun q => (by rw [← h2] at q; cases q)⟩
    | cons z zs => exact ⟨fun q => (by rw [← h2] at q; cases q), fun _ => ⟨by simp, h1⟩⟩
  have hpsn : ps.length ≤ 20000000 := by rw [← hps]; exact waysB_few K ts a b
  clear hps HP HV
  go_wp2_with fail
  refine (loInts_same _ _ _ _ p.length (pn p) _ (by omega) W3.out.row S3.out.row).mono ?_
  rintro e w4 ⟨rfl, hb4⟩
  have HB4 := hideP (HB3.out.trans (hb4.mono HB3.out.size))
  have N4 := hideP (N3.out.next hb4)
  have W4 := hideP (W3.out.next hb4)
  clear hb4 N3 HB3 W3 S3
  have c0 := N4.out.c0
  have c1 := N4.out.c1
  have hvv : (V != V) = false := by simp
  go_wp2_with fail
  refine (implAll_v ps K ao cap' ts a b _ hn N4.out.ties HPS.out).mono ?_
  rintro e w5 ⟨aoA, capA, rfl, hA, hb5⟩
  have HB5 := hideP (HB4.out.trans (hb5.mono HB4.out.size))
  have W5 := hideP (W4.out.next hb5)
  have A5 := hideP hA
  clear hb5 HB4 N4 W4 hA c0 c1 HPS
  go_wp2
  go_loopw [11] (fun i wr => ∃ k : Nat, k ≤ ps.length ∧ i = .int .i64 k ∧ AllV wr aoA ps ∧ RowV wr wr.heap.size aoW p.length (pcellN (pn p)) ∧ Below w.heap.size w wr)
    (fun i _ => ps.length - (intOf i).toNat)
  case atStart => exact ⟨0, Nat.zero_le _, rfl, A5.out, W5.out.row, HB5.out⟩
  case round =>
    clear A5 W5 HB5
    obtain ⟨k, hk, rfl, hA, hR, hBel⟩ := hrel
    have HA := hideP hA
    have HR := hideP hR
    have HBL := hideP hBel
    clear hA hR hBel
    by_cases hlt : k < ps.length
    · obtain ⟨G, off, g, c, rfl, hG, hcell, hrow⟩ := HA.out.at' k hlt
      obtain ⟨q, hq⟩ : ∃ q, q = ps.getD k [] := ⟨_, rfl⟩
      rw [← hq] at hcell hrow
      have hk0 : (0 : Int) ≤ (k : Int) := by omega
      have hk1 : (k : Int) < (ps.length : Int) := by omega
      have HROW := hideP hrow
      have HAH : Hid (aheadB q p = false ∧ q.length ≤ 8) := by rw [hq]; exact hideP (HLE.out k hlt)
      clear hrow hq
      go_wp2_with fail
      refine (loAhead_any _ _ _ _ q p _ (by have := HAH.out.2; omega) (by omega) HROW.out HR.out HAH.out.1).mono ?_
      rintro e w6 ⟨rfl, hb6⟩
      have A6 := hideP (HA.out.next hb6)
      have R6 := hideP ((HR.out.next hb6).wide hb6.size)
      have HB6 := hideP (HBL.out.trans (hb6.mono HBL.out.size))
      clear hb6 HA HR HBL hcell HROW
      go_wp2
      go_roundw
      case rel => exact ⟨k + 1, by omega, by go_num, A6.out, R6.out, HB6.out⟩
      case measure => simp [intOf]; omega
    · obtain rfl : k = ps.length := by omega
      clear hlt
      cases V
      · obtain ⟨e1, e2⟩ := HFI.out.1 rfl
        subst e1
        go_wp2
        go_ret
        exact ⟨rfl, HBL.out⟩
      · obtain ⟨e1, e2⟩ := HFI.out.2 rfl
        obtain ⟨G, off, g, c, rfl, hG, hcell, hrow⟩ := HA.out.at' 0 e1
        rw [e2] at hcell hrow
        have HROW := hideP hrow
        have hz0 : (0 : Int) < (ps.length : Int) := by omega
        have hz1 : 0 < ps.length := e1
        rw [Nat.add_zero] at hcell
        clear hrow e1 e2 HFI
        go_wp2_with fail
        refine (loInts_same _ _ _ _ p.length (pn p) _ (by omega) HROW.out HR.out).mono ?_
        rintro e w6 ⟨rfl, hb6⟩
        have HB6 := hideP (HBL.out.trans (hb6.mono HBL.out.size))
        clear hb6
        go_wp2
        go_ret
        exact ⟨rfl, HB6.out⟩

end Go.Proofs.Ythhlmnffacifeaa
