/- Walk of laws.FnFlowThree: it returns true. -/
import Derived.Test.YtoldljbbjhipnaaPartWDraw
import Derived.Test.YtoldljbbjhipnaaPartWFlowCS
import Derived.Test.YtoldljbbjhipnaaWFound
namespace Go.Proofs.Ytoldljbbjhipnaa
open Go.RowKit
set_option linter.unusedVariables false

theorem countI_neg {K : Int} {ts : List (Int × Int)} {a b : Int} (h : ¬ countI K ts a b < 0) : twoB K ts a b = true := by
  unfold countI at h
  by_cases e : twoB K ts a b = true
  · exact e
  · rw [if_neg e] at h; omega
theorem countI_le8 (K : Int) (ts : List (Int × Int)) (a b : Int) : -1 ≤ countI K ts a b ∧ countI K ts a b ≤ 8 := by
  unfold countI
  by_cases e : twoB K ts a b = true
  · rw [if_pos e]
    obtain ⟨_, x, y, rfl, rfl, hx, hy, _, _, hxy⟩ := knot_nat e
    have h1 := flowV_nonneg ts (a := x) (b := y) hx hxy
    obtain ⟨F, hF⟩ := (flowN_is (tieNB_turn ts) (a := x) (b := y) hx hxy).2.1
    have h2 := hF.few
    have h3 : flowV ts ((x : Int)).toNat ((y : Int)).toNat = flowN (tieNB ts) x y := rfl
    have h4 : flowV ts x y = flowN (tieNB ts) x y := rfl
    rw [h3]; omega
  · rw [if_neg e]; omega
theorem implFlow_v (v : Int) (K : Int) (ao : Option Addr) (cap : Nat) (ts : List (Int × Int)) (a b : Int) (w : World) (hn : ts.length ≤ 1099511627776) (ht : TiesIn w w.heap.size ao ts) (h : countI K ts a b = v) :
    Calls Try.prog 6 #[.agg #[.int .i64 K, .slice ao ts.length cap], .int .i64 a, .int .i64 b] w fun e w' => e = .returned (.int .i64 v) ∧ Below w.heap.size w w' := by
  rw [← h]; exact implFlowCount_any K ao cap ts a b w hn ht
theorem specFlow_v (v : Int) (K : Int) (ao : Option Addr) (cap : Nat) (ts : List (Int × Int)) (a b : Int) (w : World) (hn : ts.length ≤ 1099511627776) (ht : TiesIn w w.heap.size ao ts) (h : countI K ts a b = v) :
    Calls Try.prog 7 #[.agg #[.int .i64 K, .slice ao ts.length cap], .int .i64 a, .int .i64 b] w fun e w' => e = .returned (.int .i64 v) ∧ Below w.heap.size w w' := by
  rw [← h]; exact specFlowCount_any K ao cap ts a b w hn ht
theorem two_three {K : Int} {ts : List (Int × Int)} {x y k : Nat} (h : twoB K ts (x : Int) (y : Int) = true) (hk : (k : Int) < K) (hkx : k ≠ x) (hky : k ≠ y) :
    countI K ts (x : Int) (k : Int) ≤ countI K ts (x : Int) (y : Int) ∨ countI K ts (k : Int) (y : Int) ≤ countI K ts (x : Int) (y : Int) := by
  have h' := h
  unfold twoB knotB at h
  simp only [Bool.and_eq_true, decide_eq_true_eq] at h
  obtain ⟨⟨⟨h1, h2⟩, h3⟩, h4⟩ := h
  have hK := (okB_iff.1 h1).2.1
  have t1 : twoB K ts (x : Int) (k : Int) = true := by
    unfold twoB knotB
    simp only [Bool.and_eq_true, decide_eq_true_eq]
    exact ⟨⟨⟨h1, h2⟩, by omega, hk⟩, by omega⟩
  have t2 : twoB K ts (k : Int) (y : Int) = true := by
    unfold twoB knotB
    simp only [Bool.and_eq_true, decide_eq_true_eq]
    exact ⟨⟨⟨h1, by omega, hk⟩, h3⟩, by omega⟩
  unfold countI
  rw [if_pos h', if_pos t1, if_pos t2]
  exact flow_three (tieNB_turn ts) (a := x) (b := y) (k := k) (by omega) (by omega) (by omega) (by omega) hkx hky
set_option maxHeartbeats 1600000 in
theorem flowThree_walk (bo0 : Option Addr) (n0 cap0 : Nat) (bo1 : Option Addr) (n1 cap1 : Nat) (w : World) (hb : BytesIn w bo0 n0) (hnil : bo0 = none → n0 = 0 ∧ cap0 = 0) (hc : n0 ≤ cap0) (hm : cap0 ≤ maxLen) (hb' : BytesIn w bo1 n1) (hnil' : bo1 = none → n1 = 0 ∧ cap1 = 0) (hc' : n1 ≤ cap1) (hm' : cap1 ≤ maxLen) :
    Calls Try.prog 3 #[.slice bo0 n0 cap0, .slice bo1 n1 cap1] w fun e w' => e = .returned (.bool true) ∧ Below w.heap.size w w' := by
  have hn0' : n0 ≤ 9223372036854775807 := by unfold maxLen at hm; omega
  have hn1' : n1 ≤ 9223372036854775807 := by unfold maxLen at hm'; omega
  by_cases hl : 1048576 < n0
  · have hl' : (1048576 : Int) < (n0 : Int) := by omega
    have hl2 : decide (1048576 < (n0 : Int)) = true := by simp; omega
    go_enter Try.func3, Try.ntmps3
    go_wp2
    go_ret
    exact ⟨rfl, Below.refl _ _⟩
  have hl' : decide ((1048576 : Int) < (n0 : Int)) = false := by simp; omega
  by_cases hk : 1048576 < n1
  · have hk' : (1048576 : Int) < (n1 : Int) := by omega
    have hk2 : decide (1048576 < (n1 : Int)) = true := by simp; omega
    go_enter Try.func3, Try.ntmps3
    go_wp2
    go_ret
    exact ⟨rfl, Below.refl _ _⟩
  have hk' : decide ((1048576 : Int) < (n1 : Int)) = false := by simp; omega
  go_enter Try.func3, Try.ntmps3
  go_wp2_with fail
  refine (drawFlowCount_any bo0 n0 cap0 _ hb hnil hc hm).mono ?_
  rintro e w1 ⟨K, ao, cap', ts, a, b, rfl, D1⟩
  have hn : ts.length ≤ 1099511627776 := by have := D1.short; omega
  have HB1 := hideP (D1.bel.trans ((below_one w1 (.cells #[.int .i64 K, .slice ao ts.length cap'] 25)).mono D1.bel.size))
  have N1 := hideP (NetV.new (K := K) (cap := cap') 25 (D1.own.ties (Nat.le_refl _)))
  clear D1
  obtain ⟨V, hV⟩ : ∃ V, countI K ts a b = V := ⟨_, rfl⟩
  have HV := hideP hV
  have hV8 := countI_le8 K ts a b
  rw [hV] at hV8
  clear hV
  go_wp2_with fail
  refine (implFlow_v V K ao cap' ts a b _ hn N1.out.ties HV.out).mono ?_
  rintro e w2 ⟨rfl, hb2⟩
  have N2 := hideP (N1.out.next hb2)
  have HB2 := hideP (HB1.out.trans (hb2.mono HB1.out.size))
  clear hb2 N1 HB1
  have c0 := N2.out.c0
  have c1 := N2.out.c1
  have hvv : (V != V) = false := by simp
  have hve : (V == V) = true := by simp
  by_cases hneg : V < 0
  · go_wp2_with fail
    refine (specFlow_v V K ao cap' ts a b _ hn N2.out.ties HV.out).mono ?_
    rintro e w3 ⟨rfl, hb3⟩
    have N3 := hideP (N2.out.next hb3)
    have HB3 := hideP (HB2.out.trans (hb3.mono HB2.out.size))
    clear hb3 N2 HB2 c0 c1
    have c0 := N3.out.c0
    have c1 := N3.out.c1
    go_wp2_with fail
    refine (specFlow_v V K ao cap' ts a b _ hn N3.out.ties HV.out).mono ?_
    rintro e w4 ⟨rfl, hb4⟩
    have HB4 := hideP (HB3.out.trans (hb4.mono HB3.out.size))
    clear hb4
    go_wp2
    go_ret
    exact ⟨rfl, HB4.out⟩
  · have h2 := countI_neg (K := K) (ts := ts) (a := a) (b := b) (by rw [HV.out]; exact hneg)
    obtain ⟨hok, x, y, rfl, rfl, hx, hy, hxk, hyk, hxy⟩ := knot_nat h2
    obtain ⟨Kn, rfl⟩ : ∃ n : Nat, K = (n : Int) := ⟨K.toNat, by have := (okB_iff.1 hok).1; omega⟩
    have H2 := hideP h2
    have hxK : x < Kn := by simpa using hxk
    have hKp : 0 < Kn := by omega
    have hK8 : Kn ≤ 8 := by have := (okB_iff.1 hok).2.1; omega
    clear h2 hok hxk hyk
    obtain ⟨k, hk⟩ : ∃ k, k = n1 % Kn := ⟨_, rfl⟩
    have hkK : k < Kn := by rw [hk]; exact Nat.mod_lt _ hKp
    have hmod : (n1 : Int).tmod (Kn : Int) = (k : Int) := by rw [hk]; exact (Int.ofNat_tmod n1 Kn).symm
    have hKne : ((Kn : Int) == 0) = false := by rw [beq_eq_false_iff_ne]; omega
    have hKne2 : (Kn : Int) ≠ 0 := by omega
    have hKm1 : ((Kn : Int) == -1) = false := by rw [beq_eq_false_iff_ne]; omega
    clear hk
    go_wp2_with fail
    refine (specFlow_v V _ ao cap' ts _ _ _ hn N2.out.ties HV.out).mono ?_
    rintro e w3 ⟨rfl, hb3⟩
    have N3 := hideP (N2.out.next hb3)
    have HB3 := hideP (HB2.out.trans (hb3.mono HB2.out.size))
    clear hb3 N2 HB2 c0 c1
    have c0 := N3.out.c0
    have c1 := N3.out.c1
    by_cases hkx : k = x
    · have e1 : ((k : Int) == (x : Int)) = true := by rw [hkx]; simp
      go_wp2
      go_ret
      exact ⟨rfl, HB3.out⟩
    have e1 : ((k : Int) == (x : Int)) = false := by rw [beq_eq_false_iff_ne]; omega
    by_cases hky : k = y
    · have e2 : ((k : Int) == (y : Int)) = true := by rw [hky]; simp
      go_wp2
      go_ret
      exact ⟨rfl, HB3.out⟩
    have e2 : ((k : Int) == (y : Int)) = false := by rw [beq_eq_false_iff_ne]; omega
    have H3 := hideP (two_three H2.out (k := k) (by omega) hkx hky)
    obtain ⟨V1, hV1⟩ : ∃ V1, countI (Kn : Int) ts (x : Int) (k : Int) = V1 := ⟨_, rfl⟩
    obtain ⟨V2, hV2⟩ : ∃ V2, countI (Kn : Int) ts (k : Int) (y : Int) = V2 := ⟨_, rfl⟩
    have HV1 := hideP hV1
    have HV2 := hideP hV2
    rw [hV1, hV2, HV.out] at H3
    clear hV1 hV2
    have N3d := hideP (N3.out.next (Below.refl _ _).drew)
    have HB3d := hideP (HB3.out.drew)
    go_wp2
    go_region_held3 (fun w' => w'.cell? ⟨w1.heap.size, 0, none⟩ = some (.int .i64 (Kn : Int)) ∧ w'.cell? ⟨w1.heap.size, 1, none⟩ = some (.slice ao ts.length cap')) (first | exact ⟨N6.out.c0, N6.out.c1⟩ | exact ⟨N5.out.c0, N5.out.c1⟩ | exact ⟨N3d.out.c0, N3d.out.c1⟩) (first | (go_at_call 6; have N5' := N5; refine (implFlow_v V2 _ ao cap' ts (k : Int) (y : Int) _ hn N5.out.ties HV2.out).mono ?_; rintro e w6 ⟨rfl, hb6⟩; have N6 := hideP (N5.out.next hb6); have HB6 := hideP (HB5.out.trans (hb6.mono HB5.out.size)); clear hb6 N5') | (go_at_call 6; refine (implFlow_v V1 _ ao cap' ts (x : Int) (k : Int) _ hn N3d.out.ties HV1.out).mono ?_; rintro e w5 ⟨rfl, hb5⟩; have N5 := hideP (N3d.out.next hb5); have HB5 := hideP (HB3d.out.trans (hb5.mono HB3d.out.size)); clear hb5))
    all_goals
      have HD : decide ((if V2 < V1 then V2 else V1) ≤ V) = true := by
        have h3 := H3.out
        rw [decide_eq_true_eq]
        split <;> omega
      rw [HD]
      go_wp2
      all_goals
        go_ret
        exact ⟨rfl, HB6.out⟩

end Go.Proofs.Ytoldljbbjhipnaa
