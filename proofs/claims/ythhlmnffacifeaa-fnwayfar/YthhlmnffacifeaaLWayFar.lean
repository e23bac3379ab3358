/- Walk of laws.FnWayFar: it returns true. -/
import Derived.Test.YthhlmnffacifeaaWFound
namespace Go.Proofs.Ythhlmnffacifeaa
open Go.RowKit
set_option linter.unusedVariables false

theorem netHas_is (v : Bool) (K : Int) (ao : Option Addr) (cap : Nat) (ts : List (Int × Int)) (a b : Int) (w : World) (hn : ts.length ≤ 1099511627776) (ht : TiesIn w w.heap.size ao ts) (h : hasB K ts a b = v) :
    Calls Try.prog 21 #[.agg #[.int .i64 K, .slice ao ts.length cap], .int .i64 a, .int .i64 b] w fun e w' => e = .returned (.bool v) ∧ Below w.heap.size w w' := by
  rw [← h]; exact netHas_any K ao cap ts a b w hn ht
set_option maxHeartbeats 1600000 in
theorem wayFar_walk (bo0 : Option Addr) (n0 cap0 : Nat) (w : World) (hb : BytesIn w bo0 n0) (hnil : bo0 = none → n0 = 0 ∧ cap0 = 0) (hc : n0 ≤ cap0) (hm : cap0 ≤ maxLen) :
    Calls Try.prog 8 #[.slice bo0 n0 cap0] w fun e w' => e = .returned (.bool true) ∧ Below w.heap.size w w' := by
  by_cases hl : 1048576 < n0
  · have hl' : (1048576 : Int) < (n0 : Int) := by omega
    have hn' : n0 ≤ 9223372036854775807 := by unfold maxLen at hm; omega
    go_enter Try.func8, Try.ntmps8
    go_wp2
    go_ret
    exact ⟨rfl, Below.refl _ _⟩
  have hl' : decide ((1048576 : Int) < (n0 : Int)) = false := by simp; omega
  go_enter Try.func8, Try.ntmps8
  go_wp2_with fail
  refine (drawWayFind_any bo0 n0 cap0 _ hb hnil hc hm).mono ?_
  rintro e w1 ⟨K, ao, cap', ts, a, b, rfl, D1⟩
  have hn : ts.length ≤ 1099511627776 := by have := D1.short; omega
  have HB1 := hideP (D1.bel.trans ((below_one w1 (.cells #[.int .i64 K, .slice ao ts.length cap'] 25)).mono D1.bel.size))
  have N1 := hideP (NetV.new (K := K) (cap := cap') 25 (D1.own.ties (Nat.le_refl _)))
  clear D1
  obtain ⟨p, hp⟩ : ∃ p, findB K ts a b = p := ⟨_, rfl⟩
  obtain ⟨V, hV⟩ : ∃ V, foundB K ts a b = V := ⟨_, rfl⟩
  have HP := hideP hp
  have HV := hideP hV
  have hp8 : p.length ≤ 8 := by rw [← hp]; exact findB_le K ts a b
  clear hp hV
  go_wp2_with fail
  refine (specFind_v V p K ao cap' ts a b _ hn N1.out.ties HP.out HV.out).mono ?_
  rintro e w2 ⟨aoS, capS, rfl, hoS, hb2⟩
  have N2 := hideP (N1.out.next hb2)
  have HB2 := hideP (HB1.out.trans (hb2.mono HB1.out.size))
  have S2 := hideP hoS
  clear hb2 N1 HB1 hoS
  have c0 := N2.out.c0
  have c1 := N2.out.c1
  go_wp2_with fail
  refine (implFind_v V p K ao cap' ts a b _ hn N2.out.ties HP.out HV.out).mono ?_
  rintro e w3 ⟨aoW, capW, rfl, hoW, hb3, hcw⟩
  have N3 := hideP (N2.out.next hb3)
  have HB3 := hideP (HB2.out.trans (hb3.mono HB2.out.size))
  have S3 := hideP (S2.out.next hb3)
  have W3 := hideP hoW
  clear hb3 N2 HB2 S2 hoW c0 c1
  cases V
  · go_wp2_with fail
    refine (loInts_same _ _ _ _ p.length (pn p) _ (by omega) W3.out.row S3.out.row).mono ?_
    rintro e w4 ⟨rfl, hb4⟩
    have HB4 := hideP (HB3.out.trans (hb4.mono HB3.out.size))
    have S4 := hideP (S3.out.next hb4)
    have W4 := hideP (W3.out.next hb4)
    clear hb4
    go_wp2_with fail
    refine (loInts_same _ _ _ _ p.length (pn p) _ (by omega) W4.out.row S4.out.row).mono ?_
    rintro e w5 ⟨rfl, hb5⟩
    have HB5 := hideP (HB4.out.trans (hb5.mono HB4.out.size))
    clear hb5
    go_wp2
    go_ret
    exact ⟨rfl, HB5.out⟩
  · go_wp2_with fail
    refine (loInts_same _ _ _ _ p.length (pn p) _ (by omega) W3.out.row S3.out.row).mono ?_
    rintro e w4 ⟨rfl, hb4⟩
    have HB4 := hideP (HB3.out.trans (hb4.mono HB3.out.size))
    have N4 := hideP (N3.out.next hb4)
    have W4 := hideP (W3.out.next hb4)
    clear hb4 N3 HB3 W3 S3
    have c0 := N4.out.c0
    have c1 := N4.out.c1
    obtain ⟨Kn, x, y, NT, rfl, rfl, hx, hy, h8⟩ := found_net HV.out
    have hK := NT.K
    subst hK
    have HFAR : Hid (∀ k : Nat, hasB (Kn : Int) ts (y : Int) (k : Int) = true → foundB (Kn : Int) ts (x : Int) (k : Int) = true ∧ (findB (Kn : Int) ts (x : Int) (k : Int)).length ≤ p.length + 1 ∧ p.length ≤ (findB (Kn : Int) ts (x : Int) (k : Int)).length + 1 ∧ 0 < p.length) := fun k hk => by
      have := way_far HV.out hk
      rw [HP.out] at this
      exact this
    clear HP HV NT c0 c1
    go_wp2
    go_loopw [10] (fun i wr => ∃ k : Nat, k ≤ Kn ∧ i = .int .i64 k ∧ NetV wr w1.heap.size (Kn : Int) ao cap' ts ∧ Below w.heap.size w wr)
      (fun i _ => Kn - (intOf i).toNat)
    case atStart => exact ⟨0, Nat.zero_le _, rfl, N4.out, HB4.out⟩
    case round =>
      clear N4 HB4 W4
      obtain ⟨k, hk, rfl, hN, hBel⟩ := hrel
      have N4 := hideP hN
      have HB4 := hideP hBel
      have c0 := hN.c0
      have c1 := hN.c1
      clear hN hBel
      by_cases hlt : k < Kn
      · have hk1 : (k : Int) < (Kn : Int) := by omega
        cases hv : hasB (Kn : Int) ts (y : Int) (k : Int)
        · have HH := hideP hv
          clear hv
          go_wp2_with fail
          refine (netHas_is false _ ao cap' ts _ _ _ hn N4.out.ties HH.out).mono ?_
          rintro e w5 ⟨rfl, hb5⟩
          have N5 := hideP (N4.out.next hb5)
          have HB5 := hideP (HB4.out.trans (hb5.mono HB4.out.size))
          clear hb5 N4 HB4 c0 c1
          go_wp2
          go_roundw
          case rel => exact ⟨k + 1, by omega, by go_num, N5.out, HB5.out⟩
          case measure => simp [intOf]; omega
        · have HH := hideP hv
          obtain ⟨q1, q2, q3, q4⟩ := HFAR.out k hv
          obtain ⟨p1, hp1⟩ : ∃ p1, findB (Kn : Int) ts (x : Int) (k : Int) = p1 := ⟨_, rfl⟩
          have HP1 := hideP hp1
          have HV1 := hideP q1
          rw [hp1] at q2 q3
          have r1 : ¬ ((p.length : Int) + 1 < (p1.length : Int)) := by omega
          have r2 : ¬ ((p1.length : Int) < (p.length : Int) - 1) := by omega
          have r3 : decide ((p.length : Int) + 1 < (p1.length : Int)) = false := by simp; omega
          have r4 : decide ((p1.length : Int) < (p.length : Int) - 1) = false := by simp; omega
          have hp18 : p1.length ≤ 8 := by rw [← hp1]; exact findB_le _ ts _ _
          clear hv hp1 q1 q2 q3 q4
          go_wp2_with fail
          refine (netHas_is true _ ao cap' ts _ _ _ hn N4.out.ties HH.out).mono ?_
          rintro e w5 ⟨rfl, hb5⟩
          have N5 := hideP (N4.out.next hb5)
          have HB5 := hideP (HB4.out.trans (hb5.mono HB4.out.size))
          clear hb5 N4 HB4 c0 c1
          have c0 := N5.out.c0
          have c1 := N5.out.c1
          go_wp2_with fail
          refine (implFind_v true p1 _ ao cap' ts _ _ _ hn N5.out.ties HP1.out HV1.out).mono ?_
          rintro e w6 ⟨ao6, cap6, rfl, ho6, hb6, _⟩
          have N6 := hideP (N5.out.next hb6)
          have HB6 := hideP (HB5.out.trans (hb6.mono HB5.out.size))
          clear hb6 N5 HB5 ho6 c0 c1
          go_wp2
          go_roundw
          case rel => exact ⟨k + 1, by omega, by go_num, N6.out, HB6.out⟩
          case measure => simp [intOf]; omega
      · obtain rfl : k = Kn := by omega
        go_wp2
        go_ret
        exact ⟨rfl, HB4.out⟩

end Go.Proofs.Ythhlmnffacifeaa
