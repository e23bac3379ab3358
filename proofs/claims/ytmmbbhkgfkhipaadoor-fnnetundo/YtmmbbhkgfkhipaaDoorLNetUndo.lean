/- Walk of laws.FnNetUndo: it returns true. -/
import Derived.Test.YtmmbbhkgfkhipaaDoorLNetCut
namespace Go.Proofs.YtmmbbhkgfkhipaaDoor
open Go.RowKit
set_option linter.unusedVariables false

set_option maxHeartbeats 1600000 in
theorem netUndo_walk (bo : Option Addr) (n cap : Nat) (w : World) (hb : BytesIn w bo n) (hnil : bo = none → n = 0 ∧ cap = 0) (hc : n ≤ cap) (hm : cap ≤ maxLen) (hT : Tab w) :
    Calls Tryd.prog 5 #[.slice bo n cap] w fun e w' => e = .returned (.bool true) ∧ Below w.heap.size w w' := by
  by_cases hl : 1048576 < n
  · have hl' : (1048576 : Int) < (n : Int) := by omega
    have hn' : n ≤ 9223372036854775807 := by unfold maxLen at hm; omega
    go_enter Tryd.func5, Tryd.ntmps5
    go_wp2
    go_ret
    exact ⟨rfl, Below.refl _ _⟩
  have hl' : decide ((1048576 : Int) < (n : Int)) = false := by simp; omega
  go_enter Tryd.func5, Tryd.ntmps5
  go_wp2_with fail
  refine (drawNetHas_any bo n cap _ hb hnil hc hm).mono ?_
  rintro e w1 ⟨K, ao, cap', ts, a, b, rfl, D1⟩
  have hn : ts.length ≤ 1099511627776 := by have := D1.short; omega
  have HB1 := hideP D1.bel
  have T1 := hideP (hT.below D1.bel hT.2)
  have hoN := D1.own
  clear D1 hT
  have T1a := hideP (T1.out.below (below_one w1 (.cells #[.int .i64 K, .slice ao ts.length cap'] 25)) T1.out.2)
  have HB1a := hideP (HB1.out.trans ((below_one w1 (.cells #[.int .i64 K, .slice ao ts.length cap'] 25)).mono HB1.out.size))
  have N1a := hideP (NetV.new (K := K) (cap := cap') 25 (hoN.ties (Nat.le_refl _)))
  clear hoN
  go_wp2_with fail
  refine (netCut_all K ao cap' ts a b _ hn N1a.out.ties T1a.out).mono ?_
  rintro e w2 ⟨aoX, capX, rfl, hoX, hb2⟩
  have N2 := hideP (N1a.out.next hb2)
  have T2 := hideP (T1a.out.below hb2 T1a.out.2)
  have HB2 := hideP (HB1a.out.trans (hb2.mono HB1a.out.size))
  have hulus := cutTs_len K ts a b
  obtain ⟨KX, hK'⟩ : ∃ x, x = cutK K ts a b := ⟨_, rfl⟩
  obtain ⟨us, hus⟩ : ∃ x, x = cutTs K ts a b := ⟨_, rfl⟩
  obtain ⟨v, hv⟩ : ∃ x, x = cutB K ts a b := ⟨_, rfl⟩
  have HEus : Hid (KX = cutK K ts a b ∧ us = cutTs K ts a b ∧ v = cutB K ts a b) := ⟨hK', hus, hv⟩
  rw [← hus] at hoX hulus
  rw [← hK', ← hus, ← hv]
  clear hK' hus hv
  have hunus : us.length ≤ 1099511627776 := by omega
  have N2a := hideP (N2.out.next (below_one w2 (.cells #[.int .i64 KX, .slice aoX us.length capX] 25)))
  have T2a := hideP (T2.out.below (below_one w2 (.cells #[.int .i64 KX, .slice aoX us.length capX] 25)) T2.out.2)
  have HB2a := hideP (HB2.out.trans ((below_one w2 (.cells #[.int .i64 KX, .slice aoX us.length capX] 25)).mono HB2.out.size))
  have X2a := hideP (NetV.new (K := KX) (cap := capX) 25 (hoX.ties (Nat.le_refl _)))
  clear hoX hb2
  have lNc0 := N2.out.c0
  have lNc1 := N2.out.c1
  have lNlt := N2.out.lt
  go_wp2_with fail
  refine (netAdd_all K ao cap' ts a b _ hn N2a.out.ties T2a.out).mono ?_
  rintro e w3 ⟨aoY, capY, rfl, hoY, hb3⟩
  have N3 := hideP (N2a.out.next hb3)
  have X3 := hideP (X2a.out.next hb3)
  have T3 := hideP (T2a.out.below hb3 T2a.out.2)
  have HB3 := hideP (HB2a.out.trans (hb3.mono HB2a.out.size))
  have hulvs := addTs_len K ts a b
  obtain ⟨KY, hK'⟩ : ∃ x, x = addK K ts a b := ⟨_, rfl⟩
  obtain ⟨vs, hus⟩ : ∃ x, x = addTs K ts a b := ⟨_, rfl⟩
  obtain ⟨t, hv⟩ : ∃ x, x = addB K ts a b := ⟨_, rfl⟩
  have HEvs : Hid (KY = addK K ts a b ∧ vs = addTs K ts a b ∧ t = addB K ts a b) := ⟨hK', hus, hv⟩
  rw [← hus] at hoY hulvs
  rw [← hK', ← hus, ← hv]
  clear hK' hus hv
  have hunvs : vs.length ≤ 1099511627776 := by omega
  have N3a := hideP (N3.out.next (below_one w3 (.cells #[.int .i64 KY, .slice aoY vs.length capY] 25)))
  have X3a := hideP (X3.out.next (below_one w3 (.cells #[.int .i64 KY, .slice aoY vs.length capY] 25)))
  have T3a := hideP (T3.out.below (below_one w3 (.cells #[.int .i64 KY, .slice aoY vs.length capY] 25)) T3.out.2)
  have HB3a := hideP (HB3.out.trans ((below_one w3 (.cells #[.int .i64 KY, .slice aoY vs.length capY] 25)).mono HB3.out.size))
  have Y3a := hideP (NetV.new (K := KY) (cap := capY) 25 (hoY.ties (Nat.le_refl _)))
  clear hoY hb3
  clear lNc0 lNc1 lNlt
  have lNc0 := N3.out.c0
  have lNc1 := N3.out.c1
  have lNlt := N3.out.lt
  have lXc0 := X3.out.c0
  have lXc1 := X3.out.c1
  have lXlt := X3.out.lt
  go_wp2_with fail
  refine (specCut_all K ao cap' ts a b _ hn N3a.out.ties).mono ?_
  rw [← HEus.out.1, ← HEus.out.2.1, ← HEus.out.2.2]
  rintro e w4 ⟨aoW, capW, rfl, hoW, hb4⟩
  have N4 := hideP (N3a.out.next hb4)
  have X4 := hideP (X3a.out.next hb4)
  have Y4 := hideP (Y3a.out.next hb4)
  have T4 := hideP (T3a.out.below hb4 T3a.out.2)
  have HB4 := hideP (HB3a.out.trans (hb4.mono HB3a.out.size))
  have N4a := hideP (N4.out.next (below_one w4 (.cells #[.int .i64 KX, .slice aoW us.length capW] 25)))
  have X4a := hideP (X4.out.next (below_one w4 (.cells #[.int .i64 KX, .slice aoW us.length capW] 25)))
  have Y4a := hideP (Y4.out.next (below_one w4 (.cells #[.int .i64 KX, .slice aoW us.length capW] 25)))
  have T4a := hideP (T4.out.below (below_one w4 (.cells #[.int .i64 KX, .slice aoW us.length capW] 25)) T4.out.2)
  have HB4a := hideP (HB4.out.trans ((below_one w4 (.cells #[.int .i64 KX, .slice aoW us.length capW] 25)).mono HB4.out.size))
  have W4a := hideP (NetV.new (K := KX) (cap := capW) 25 (hoW.ties (Nat.le_refl _)))
  clear hoW hb4
  clear lNc0 lNc1 lNlt lXc0 lXc1 lXlt
  have lNc0 := N4.out.c0
  have lNc1 := N4.out.c1
  have lNlt := N4.out.lt
  have lXc0 := X4.out.c0
  have lXc1 := X4.out.c1
  have lXlt := X4.out.lt
  have lYc0 := Y4.out.c0
  have lYc1 := Y4.out.c1
  have lYlt := Y4.out.lt
  have hvv : (v != v) = false := by simp
  go_wp2_with fail
  refine (loNet_same KX _ _ _ _ us _ hunus X4a.out.ties W4a.out.ties).mono ?_
  rintro e w5 ⟨rfl, hb5⟩
  have N5 := hideP (N4a.out.next hb5)
  have X5 := hideP (X4a.out.next hb5)
  have Y5 := hideP (Y4a.out.next hb5)
  have T5 := hideP (T4a.out.below hb5 T4a.out.2)
  have HB5 := hideP (HB4a.out.trans (hb5.mono HB4a.out.size))
  clear hb5
  clear lNc0 lNc1 lNlt lXc0 lXc1 lXlt lYc0 lYc1 lYlt
  have lNc0 := N5.out.c0
  have lNc1 := N5.out.c1
  have lNlt := N5.out.lt
  have lXc0 := X5.out.c0
  have lXc1 := X5.out.c1
  have lXlt := X5.out.lt
  have lYc0 := Y5.out.c0
  have lYc1 := Y5.out.c1
  have lYlt := Y5.out.lt
  cases v
  · cases t
    · go_wp2
      go_ret
      exact ⟨rfl, HB5.out⟩
    · have HKY : KY = K := HEvs.out.1.trans (addK_yes HEvs.out.2.2.symm)
      subst HKY
      have U := add_cut HEvs.out.2.2.symm
      rw [← HEvs.out.2.1] at U
      have HU := hideP U
      have HUK : Hid (cutK KY vs b a = KY) := cutK_yes U.1
      clear U
      go_wp2_with fail
      refine (netCut_all KY aoY capY vs b a _ hunvs Y5.out.ties T5.out).mono ?_
      rw [HUK.out, HU.out.1, HU.out.2]
      rintro e w6 ⟨aoZ, capZ, rfl, hoZ, hb6⟩
      have N6 := hideP (N5.out.next hb6)
      have HB6 := hideP (HB5.out.trans (hb6.mono HB5.out.size))
      have bo6 := below_one w6 (.cells #[.int .i64 KY, .slice aoZ ts.length capZ] 25)
      have N6a := hideP (N6.out.next bo6)
      have Z6a := hideP (NetV.new (K := KY) (cap := capZ) 25 (hoZ.ties (Nat.le_refl _)))
      have HB6a := hideP (HB6.out.trans (bo6.mono HB6.out.size))
      clear hoZ hb6 bo6 lNc0 lNc1 lNlt lXc0 lXc1 lXlt lYc0 lYc1 lYlt
      have n0 := N6.out.c0
      have n1 := N6.out.c1
      have nl := N6.out.lt
      go_wp2_with fail
      refine (loNet_same KY _ _ _ _ ts _ hn Z6a.out.ties N6a.out.ties).mono ?_
      rintro e w7 ⟨rfl, hb7⟩
      have HB7 := hideP (HB6a.out.trans (hb7.mono HB6a.out.size))
      clear hb7
      go_wp2
      go_ret
      exact ⟨rfl, HB7.out⟩
  · have HKX : KX = K := HEus.out.1.trans (cutK_yes HEus.out.2.2.symm)
    subst HKX
    have U := cut_add HEus.out.2.2.symm
    rw [← HEus.out.2.1] at U
    have HU := hideP U
    have HUK : Hid (addK KX us b a = KX) := addK_yes U.1
    have ht : t = false := HEvs.out.2.2.trans (cut_not_add HEus.out.2.2.symm)
    subst ht
    clear U
    go_wp2_with fail
    refine (netAdd_all KX aoX capX us b a _ hunus X5.out.ties T5.out).mono ?_
    rw [HUK.out, HU.out.1, HU.out.2]
    rintro e w6 ⟨aoZ, capZ, rfl, hoZ, hb6⟩
    have N6 := hideP (N5.out.next hb6)
    have HB6 := hideP (HB5.out.trans (hb6.mono HB5.out.size))
    have bo6 := below_one w6 (.cells #[.int .i64 KX, .slice aoZ ts.length capZ] 25)
    have N6a := hideP (N6.out.next bo6)
    have Z6a := hideP (NetV.new (K := KX) (cap := capZ) 25 (hoZ.ties (Nat.le_refl _)))
    have HB6a := hideP (HB6.out.trans (bo6.mono HB6.out.size))
    clear hoZ hb6 bo6 lNc0 lNc1 lNlt lXc0 lXc1 lXlt lYc0 lYc1 lYlt
    have n0 := N6.out.c0
    have n1 := N6.out.c1
    have nl := N6.out.lt
    go_wp2_with fail
    refine (loNet_same KX _ _ _ _ ts _ hn Z6a.out.ties N6a.out.ties).mono ?_
    rintro e w7 ⟨rfl, hb7⟩
    have HB7 := hideP (HB6a.out.trans (hb7.mono HB6a.out.size))
    clear hb7
    go_wp2
    go_ret
    exact ⟨rfl, HB7.out⟩

end Go.Proofs.YtmmbbhkgfkhipaaDoor
