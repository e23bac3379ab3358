/- Walk of laws.FnFlowNone: it returns true. -/
import Derived.Test.YtoldljbbjhipnaaDoorPartLFlowThree
import Derived.Test.YtoldljbbjhipnaaDoorPartWFlowW
import Derived.Test.YtoldljbbjhipnaaDoorPartWBridge
import Derived.Test.YtoldljbbjhipnaaDoorPartWCount
namespace Go.Proofs.YtoldljbbjhipnaaDoor
open Go.RowKit
set_option linter.unusedVariables false

theorem implCnt_v (v : Int) (K : Int) (ao : Option Addr) (cap : Nat) (ts : List (Int × Int)) (w : World) (hn : ts.length ≤ 1099511627776) (ht : TiesIn w w.heap.size ao ts) (hT : Tab w) (h : countV K ts = v) :
    Calls Tryd.prog 20 #[.agg #[.int .i64 K, .slice ao ts.length cap]] w fun e w' => e = .returned (.int .i64 v) ∧ Below w.heap.size w w' := by
  rw [← h]; exact implCount_any K ao cap ts w hn ht hT
theorem implBrs_v (m : Nat) (K : Int) (ao : Option Addr) (cap : Nat) (ts : List (Int × Int)) (w : World) (hn : ts.length ≤ 1099511627776) (ht : TiesIn w w.heap.size ao ts) (hT : Tab w) (h : (brTs K ts).length = m) :
    Calls Tryd.prog 21 #[.agg #[.int .i64 K, .slice ao ts.length cap]] w fun e w' => ∃ ao' cap', e = .returned (.slice ao' m cap') ∧ Below w.heap.size w w' := by
  refine (implBridges_any K ao cap ts w hn ht hT).mono ?_
  rintro e w' ⟨ao', cap', rfl, _, hb⟩
  exact ⟨ao', cap', by rw [h], hb⟩
set_option maxHeartbeats 1600000 in
theorem flowNone_walk (bo0 : Option Addr) (n0 cap0 : Nat) (w : World) (hb : BytesIn w bo0 n0) (hnil : bo0 = none → n0 = 0 ∧ cap0 = 0) (hc : n0 ≤ cap0) (hm : cap0 ≤ maxLen) (hT : Tab w) :
    Calls Tryd.prog 6 #[.slice bo0 n0 cap0] w fun e w' => e = .returned (.bool true) ∧ Below w.heap.size w w' := by
  have hn0' : n0 ≤ 9223372036854775807 := by unfold maxLen at hm; omega
  by_cases hl : 1048576 < n0
  · have hl' : (1048576 : Int) < (n0 : Int) := by omega
    have hl2 : decide (1048576 < (n0 : Int)) = true := by simp; omega
    go_enter Tryd.func6, Tryd.ntmps6
    go_wp2
    go_ret
    exact ⟨rfl, Below.refl _ _⟩
  have hl' : decide ((1048576 : Int) < (n0 : Int)) = false := by simp; omega
  go_enter Tryd.func6, Tryd.ntmps6
  go_wp2_with fail
  refine (drawFlowWeak_any bo0 n0 cap0 _ hb hnil hc hm).mono ?_
  rintro e w1 ⟨K, ao, cap', ts, rfl, D1⟩
  have hn : ts.length ≤ 1099511627776 := by have := D1.short; omega
  have HB1 := hideP (D1.bel.trans ((below_one w1 (.cells #[.int .i64 K, .slice ao ts.length cap'] 25)).mono D1.bel.size))
  have N1 := hideP (NetV.new (K := K) (cap := cap') 25 (D1.own.ties (Nat.le_refl _)))
  have T1 := hideP (hT.below HB1.out hT.2)
  clear D1 hT
  obtain ⟨V, hV⟩ : ∃ V, weakI K ts = V := ⟨_, rfl⟩
  have HV := hideP hV
  have hV8 := weakI_le8 K ts
  rw [hV] at hV8
  clear hV
  go_wp2_with fail
  refine (implWeak_v V K ao cap' ts _ hn N1.out.ties HV.out).mono ?_
  rintro e w2 ⟨rfl, hb2⟩
  have N2 := hideP (N1.out.next hb2)
  have HB2 := hideP (HB1.out.trans (hb2.mono HB1.out.size))
  have T2 := hideP (T1.out.below hb2 T1.out.2)
  clear hb2 N1 HB1 T1
  have c0 := N2.out.c0
  have c1 := N2.out.c1
  have hvv : (V != V) = false := by simp
  have hve : (V == V) = true := by simp
  by_cases hneg : V < 0
  · go_wp2_with fail
    refine (specWeak_v V K ao cap' ts _ hn N2.out.ties HV.out).mono ?_
    rintro e w3 ⟨rfl, hb3⟩
    have N3 := hideP (N2.out.next hb3)
    have HB3 := hideP (HB2.out.trans (hb3.mono HB2.out.size))
    clear hb3 N2 HB2 c0 c1
    have c0 := N3.out.c0
    have c1 := N3.out.c1
    go_wp2_with fail
    refine (specWeak_v V K ao cap' ts _ hn N3.out.ties HV.out).mono ?_
    rintro e w4 ⟨rfl, hb4⟩
    have HB4 := hideP (HB3.out.trans (hb4.mono HB3.out.size))
    clear hb4
    go_wp2
    go_ret
    exact ⟨rfl, HB4.out⟩
  · obtain ⟨hok, h2⟩ := weakI_neg (K := K) (ts := ts) (by rw [HV.out]; exact hneg)
    obtain ⟨Kn, rfl⟩ : ∃ n : Nat, K = (n : Int) := ⟨K.toNat, by omega⟩
    have hK2 : 2 ≤ Kn := by omega
    have hVJ : V = leastJ ts (Kn - 2) := by rw [← HV.out]; unfold weakI; rw [hok, if_pos (by simp; omega)]; simp
    have hz := (weak_zero hok hK2).1
    have h1 := weak_one hok hK2
    have hp := cnt_pos (ts := ts) Kn (by omega)
    rw [← hVJ] at hz h1
    obtain ⟨c, hcn⟩ : ∃ c, cnt ts Kn = c := ⟨_, rfl⟩
    obtain ⟨m, hbn⟩ : ∃ m, (brTs (Kn : Int) ts).length = m := ⟨_, rfl⟩
    rw [hcn] at hz h1 hp
    rw [hbn] at h1
    have HCV : Hid (countV (Kn : Int) ts = (c : Int)) := hideP (by unfold countV; rw [if_pos hok]; simp [hcn])
    have HBN := hideP hbn
    clear hok h2 hVJ hcn hbn
    go_wp2_with fail
    refine (specWeak_v V _ ao cap' ts _ hn N2.out.ties HV.out).mono ?_
    rintro e w3 ⟨rfl, hb3⟩
    have N3 := hideP (N2.out.next hb3)
    have HB3 := hideP (HB2.out.trans (hb3.mono HB2.out.size))
    have T3 := hideP (T2.out.below hb3 T2.out.2)
    clear hb3 N2 HB2 T2 c0 c1
    have c0 := N3.out.c0
    have c1 := N3.out.c1
    have HZ := hideP hz
    have H1 := hideP h1
    clear hz h1
    go_wp2_with fail
    refine (implCnt_v (c : Int) _ ao cap' ts _ hn N3.out.ties T3.out HCV.out).mono ?_
    rintro e w4 ⟨rfl, hb4⟩
    have N4 := hideP (N3.out.next hb4)
    have HB4 := hideP (HB3.out.trans (hb4.mono HB3.out.size))
    have T4 := hideP (T3.out.below hb4 T3.out.2)
    clear hb4 N3 HB3 T3 c0 c1
    have c0 := N4.out.c0
    have c1 := N4.out.c1
    by_cases hv0 : V = 0
    · have hc1 : 1 < c := HZ.out.1 hv0
      have e1 : ((1 : Int) < (c : Int)) := by omega
      have e2 : ((c : Int) == 1) = false := by rw [beq_eq_false_iff_ne]; omega
      have e3 : (V == 0) = true := by rw [hv0]; rfl
      have e4 : (V == 1) = false := by rw [hv0]; rfl
      clear hv0
      go_wp2_with fail
      refine (implCnt_v (c : Int) _ ao cap' ts _ hn N4.out.ties T4.out HCV.out).mono ?_
      rintro e w5 ⟨rfl, hb5⟩
      have HB5 := hideP (HB4.out.trans (hb5.mono HB4.out.size))
      clear hb5
      go_wp2
      go_ret
      exact ⟨rfl, HB5.out⟩
    · have hc1 : c = 1 := by
        rcases Nat.lt_or_ge 1 c with q | q
        · exact absurd (HZ.out.2 q) hv0
        · omega
      subst hc1
      have e3 : (V == 0) = false := by rw [beq_eq_false_iff_ne]; exact hv0
      have hq : (V == 1) = decide (0 < (m : Int)) := by
        have := H1.out
        by_cases q : V = 1
        · have := (this.1 q).2
          rw [q, decide_eq_true (by omega)]; rfl
        · have h3 : ¬ 0 < m := fun r => q (this.2 ⟨rfl, r⟩)
          rw [decide_eq_false (by omega), beq_eq_false_iff_ne]; exact q
      obtain ⟨b, hbq⟩ : ∃ b, b = decide (0 < (m : Int)) := ⟨_, rfl⟩
      rw [← hbq] at hq
      have hbb : (b == b) = true := by simp
      go_wp2_with fail
      refine (implCnt_v 1 _ ao cap' ts _ hn N4.out.ties T4.out HCV.out).mono ?_
      rintro e w5 ⟨rfl, hb5⟩
      have N5 := hideP (N4.out.next hb5)
      have HB5 := hideP (HB4.out.trans (hb5.mono HB4.out.size))
      have T5 := hideP (T4.out.below hb5 T4.out.2)
      clear hb5 N4 HB4 T4 c0 c1
      have c0 := N5.out.c0
      have c1 := N5.out.c1
      go_wp2_with fail
      refine (implBrs_v m _ ao cap' ts _ hn N5.out.ties T5.out HBN.out).mono ?_
      rintro e w6 ⟨aoB, capB, rfl, hb6⟩
      have HB6 := hideP (HB5.out.trans (hb6.mono HB5.out.size))
      clear hb6
      cases b
      · have hm0 : m = 0 := by
          have := of_decide_eq_false hbq.symm
          omega
        subst hm0
        clear hbq
        go_wp2
        go_ret
        exact ⟨rfl, HB6.out⟩
      · have hmN : 0 < m := by
          have := of_decide_eq_true hbq.symm
          omega
        have hmI : (0 : Int) < (m : Int) := by omega
        clear hbq
        go_wp2
        go_ret
        exact ⟨rfl, HB6.out⟩

end Go.Proofs.YtoldljbbjhipnaaDoor
