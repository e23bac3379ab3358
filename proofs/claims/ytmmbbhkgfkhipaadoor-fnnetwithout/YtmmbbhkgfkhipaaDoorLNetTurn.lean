/- Walk of laws.FnNetTurn: it returns true. -/
import Derived.Test.YtmmbbhkgfkhipaaDoorLNetUndo
namespace Go.Proofs.YtmmbbhkgfkhipaaDoor
open Go.RowKit
set_option linter.unusedVariables false

theorem BytesIn.below {w w' : World} {bo : Option Addr} {n : Nat} (h : BytesIn w bo n) (hb : Below w.heap.size w w') : BytesIn w' bo n := by
  intro i hi
  obtain ⟨b, off, v, e, h1, h2, h3⟩ := h i hi
  exact ⟨b, off, v, e, Nat.lt_of_lt_of_le h1 hb.size, (hb.cell (p := ⟨b, off + i, none⟩) h1).trans h2, h3⟩

set_option maxHeartbeats 1600000 in
theorem netTurn_walk (bo : Option Addr) (n cap : Nat) (bp : Option Addr) (m capm : Nat) (w : World) (hb : BytesIn w bo n) (hnil : bo = none → n = 0 ∧ cap = 0) (hc : n ≤ cap) (hm : cap ≤ maxLen) (hbp : BytesIn w bp m) (hnilp : bp = none → m = 0 ∧ capm = 0) (hcp : m ≤ capm) (hmp : capm ≤ maxLen) (hT : Tab w) :
    Calls Tryd.prog 6 #[.slice bo n cap, .slice bp m capm] w fun e w' => e = .returned (.bool true) ∧ Below w.heap.size w w' := by
  have hn' : n ≤ 9223372036854775807 := by unfold maxLen at hm; omega
  have hm' : m ≤ 9223372036854775807 := by unfold maxLen at hmp; omega
  by_cases hl : 1048576 < n
  · have hl' : (1048576 : Int) < (n : Int) := by omega
    go_enter Tryd.func6, Tryd.ntmps6
    go_wp2
    go_ret
    exact ⟨rfl, Below.refl _ _⟩
  have hl' : decide ((1048576 : Int) < (n : Int)) = false := by simp; omega
  by_cases hk : 1048576 < m
  · have hk' : (1048576 : Int) < (m : Int) := by omega
    go_enter Tryd.func6, Tryd.ntmps6
    go_wp2
    go_ret
    exact ⟨rfl, Below.refl _ _⟩
  have hk' : decide ((1048576 : Int) < (m : Int)) = false := by simp; omega
  go_enter Tryd.func6, Tryd.ntmps6
  go_wp2_with fail
  refine (drawNetAdd_any bo n cap _ hb hnil hc hm).mono ?_
  rintro e w0 ⟨K, ao, cap', ts, a, b, rfl, D0⟩
  have hn : ts.length ≤ 1099511627776 := by have := D0.short; omega
  have bo0 := below_one w0 (.cells #[.int .i64 K, .slice ao ts.length cap'] 25)
  have HB0 := hideP (D0.bel.trans (bo0.mono D0.bel.size))
  have N0 := hideP (NetV.new (K := K) (cap := cap') 25 (D0.own.ties (Nat.le_refl _)))
  have T0 := hideP (hT.below HB0.out hT.2)
  have BY := hideP (hbp.below HB0.out)
  clear D0 hT bo0
  go_wp2_with fail
  refine (drawNetAdd_any bp m capm _ BY.out hnilp hcp hmp).mono ?_
  rintro e w1 ⟨K1, ao1, cap1, ts1, c, d, rfl, D1⟩
  have N1 := hideP (N0.out.next D1.bel)
  have T1 := hideP (T0.out.below D1.bel T0.out.2)
  have HB1 := hideP (HB0.out.trans (D1.bel.mono HB0.out.size))
  have N1a := hideP (N1.out.next (below_one w1 (.cells #[.int .i64 K1, .slice ao1 ts1.length cap1] 25)))
  have T1a := hideP (T1.out.below (below_one w1 (.cells #[.int .i64 K1, .slice ao1 ts1.length cap1] 25)) T1.out.2)
  have HB1a := hideP (HB1.out.trans ((below_one w1 (.cells #[.int .i64 K1, .slice ao1 ts1.length cap1] 25)).mono HB1.out.size))
  have B1a := hideP (NetV.new (K := K1) (cap := cap1) 25 (D1.own.ties (Nat.le_refl _)))
  clear D1 N0 T0 HB0
  have lNc0 := N1.out.c0
  have lNc1 := N1.out.c1
  have lNlt := N1.out.lt
  go_wp2_with fail
  refine (specAdd_all K ao cap' ts a b _ hn N1a.out.ties).mono ?_
  rintro e w2 ⟨aoW, capW, rfl, hoW, hb2⟩
  have N2 := hideP (N1a.out.next hb2)
  have T2 := hideP (T1a.out.below hb2 T1a.out.2)
  have HB2 := hideP (HB1a.out.trans (hb2.mono HB1a.out.size))
  have hulus := addTs_len K ts a b
  obtain ⟨KX, hK'⟩ : ∃ x, x = addK K ts a b := ⟨_, rfl⟩
  obtain ⟨us, hus⟩ : ∃ x, x = addTs K ts a b := ⟨_, rfl⟩
  obtain ⟨v, hv⟩ : ∃ x, x = addB K ts a b := ⟨_, rfl⟩
  have HEus : Hid (KX = addK K ts a b ∧ us = addTs K ts a b ∧ v = addB K ts a b) := ⟨hK', hus, hv⟩
  rw [← hus] at hoW hulus
  rw [← hK', ← hus, ← hv]
  clear hK' hus hv
  have hunus : us.length ≤ 1099511627776 := by omega
  have N2a := hideP (N2.out.next (below_one w2 (.cells #[.int .i64 KX, .slice aoW us.length capW] 25)))
  have T2a := hideP (T2.out.below (below_one w2 (.cells #[.int .i64 KX, .slice aoW us.length capW] 25)) T2.out.2)
  have HB2a := hideP (HB2.out.trans ((below_one w2 (.cells #[.int .i64 KX, .slice aoW us.length capW] 25)).mono HB2.out.size))
  have W2a := hideP (NetV.new (K := KX) (cap := capW) 25 (hoW.ties (Nat.le_refl _)))
  clear hoW hb2
  clear lNc0 lNc1 lNlt
  have lNc0 := N2.out.c0
  have lNc1 := N2.out.c1
  have lNlt := N2.out.lt
  go_wp2_with fail
  refine (netAdd_all K ao cap' ts a b _ hn N2a.out.ties T2a.out).mono ?_
  rw [← HEus.out.1, ← HEus.out.2.1, ← HEus.out.2.2]
  rintro e w3 ⟨aoX, capX, rfl, hoX, hb3⟩
  have N3 := hideP (N2a.out.next hb3)
  have W3 := hideP (W2a.out.next hb3)
  have T3 := hideP (T2a.out.below hb3 T2a.out.2)
  have HB3 := hideP (HB2a.out.trans (hb3.mono HB2a.out.size))
  have N3a := hideP (N3.out.next (below_one w3 (.cells #[.int .i64 KX, .slice aoX us.length capX] 25)))
  have W3a := hideP (W3.out.next (below_one w3 (.cells #[.int .i64 KX, .slice aoX us.length capX] 25)))
  have T3a := hideP (T3.out.below (below_one w3 (.cells #[.int .i64 KX, .slice aoX us.length capX] 25)) T3.out.2)
  have HB3a := hideP (HB3.out.trans ((below_one w3 (.cells #[.int .i64 KX, .slice aoX us.length capX] 25)).mono HB3.out.size))
  have X3a := hideP (NetV.new (K := KX) (cap := capX) 25 (hoX.ties (Nat.le_refl _)))
  clear hoX hb3
  clear lNc0 lNc1 lNlt
  have lNc0 := N3.out.c0
  have lNc1 := N3.out.c1
  have lNlt := N3.out.lt
  have lWc0 := W3.out.c0
  have lWc1 := W3.out.c1
  have lWlt := W3.out.lt
  have hvv : (v != v) = false := by simp
  have hvv2 : (v == v) = true := by simp
  go_wp2_with fail
  refine (loNet_same KX _ _ _ _ us _ hunus X3a.out.ties W3a.out.ties).mono ?_
  rintro e w4 ⟨rfl, hb4⟩
  have N4 := hideP (N3a.out.next hb4)
  have W4 := hideP (W3a.out.next hb4)
  have X4 := hideP (X3a.out.next hb4)
  have T4 := hideP (T3a.out.below hb4 T3a.out.2)
  have HB4 := hideP (HB3a.out.trans (hb4.mono HB3a.out.size))
  clear hb4
  clear lNc0 lNc1 lNlt lWc0 lWc1 lWlt
  have lNc0 := N4.out.c0
  have lNc1 := N4.out.c1
  have lNlt := N4.out.lt
  have lWc0 := W4.out.c0
  have lWc1 := W4.out.c1
  have lWlt := W4.out.lt
  have lXc0 := X4.out.c0
  have lXc1 := X4.out.c1
  have lXlt := X4.out.lt
  cases v
  · go_wp2_with fail
    refine (loNet_same KX _ _ _ _ us _ hunus X4.out.ties W4.out.ties).mono ?_
    rintro e w5 ⟨rfl, hb5⟩
    have HB5 := hideP (HB4.out.trans (hb5.mono HB4.out.size))
    clear hb5
    go_wp2
    go_ret
    exact ⟨rfl, HB5.out⟩
  have HKX : KX = K := HEus.out.1.trans (addK_yes HEus.out.2.2.symm)
  subst HKX
  go_wp2_with fail
  refine (netAdd_all KX aoX capX us c d _ hunus X4.out.ties T4.out).mono ?_
  rintro e w5 ⟨aoY, capY, rfl, hoY, hb5⟩
  have N5 := hideP (N4.out.next hb5)
  have X5 := hideP (X4.out.next hb5)
  have T5 := hideP (T4.out.below hb5 T4.out.2)
  have HB5 := hideP (HB4.out.trans (hb5.mono HB4.out.size))
  have hulys := addTs_len KX us c d
  obtain ⟨KY, hK'⟩ : ∃ x, x = addK KX us c d := ⟨_, rfl⟩
  obtain ⟨ys, hus⟩ : ∃ x, x = addTs KX us c d := ⟨_, rfl⟩
  obtain ⟨two, hv⟩ : ∃ x, x = addB KX us c d := ⟨_, rfl⟩
  have HEys : Hid (KY = addK KX us c d ∧ ys = addTs KX us c d ∧ two = addB KX us c d) := ⟨hK', hus, hv⟩
  rw [← hus] at hoY hulys
  rw [← hK', ← hus, ← hv]
  clear hK' hus hv
  have hunys : ys.length ≤ 1099511627776 := by omega
  have N5a := hideP (N5.out.next (below_one w5 (.cells #[.int .i64 KY, .slice aoY ys.length capY] 25)))
  have X5a := hideP (X5.out.next (below_one w5 (.cells #[.int .i64 KY, .slice aoY ys.length capY] 25)))
  have T5a := hideP (T5.out.below (below_one w5 (.cells #[.int .i64 KY, .slice aoY ys.length capY] 25)) T5.out.2)
  have HB5a := hideP (HB5.out.trans ((below_one w5 (.cells #[.int .i64 KY, .slice aoY ys.length capY] 25)).mono HB5.out.size))
  have Y5a := hideP (NetV.new (K := KY) (cap := capY) 25 (hoY.ties (Nat.le_refl _)))
  clear hoY hb5 hvv hvv2
  clear lNc0 lNc1 lNlt lWc0 lWc1 lWlt lXc0 lXc1 lXlt
  have lNc0 := N5.out.c0
  have lNc1 := N5.out.c1
  have lNlt := N5.out.lt
  have lXc0 := X5.out.c0
  have lXc1 := X5.out.c1
  have lXlt := X5.out.lt
  cases two
  · go_wp2
    go_ret
    exact ⟨rfl, HB5a.out⟩
  have HKY : KY = KX := HEys.out.1.trans (addK_yes HEys.out.2.2.symm)
  have h2 := HEys.out.2.2.symm
  rw [HEus.out.2.1] at h2
  have U := add_turn HEus.out.2.2.symm h2
  rw [← HEus.out.2.1, ← HEys.out.2.1] at U
  have HU := hideP U
  have HU1 : Hid (addK KX ts c d = KX) := addK_yes U.1
  have HU2 : Hid (addK KX (addTs KX ts c d) a b = KX) := addK_yes U.2.1
  clear U h2
  subst HKY
  go_wp2_with fail
  refine (netAdd_all KY ao cap' ts c d _ hn N5a.out.ties T5a.out).mono ?_
  rw [HU1.out, HU.out.1]
  rintro e w6 ⟨aoZ, capZ, rfl, hoZ, hb6⟩
  have hulz := addTs_len KY ts c d
  obtain ⟨zs, hzs⟩ : ∃ x, x = addTs KY ts c d := ⟨_, rfl⟩
  have HZ := hideP hzs
  have HZ1 : Hid (addK KY zs a b = KY) := by rw [hzs]; exact HU2.out
  have HZ2 : Hid (addB KY zs a b = true) := by rw [hzs]; exact HU.out.2.1
  have HZ3 : Hid (addTs KY zs a b = ys) := by rw [hzs]; exact HU.out.2.2
  rw [← hzs] at hoZ hulz ⊢
  clear hzs
  have hunz : zs.length ≤ 1099511627776 := by omega
  have N6 := hideP (N5a.out.next hb6)
  have X6 := hideP (X5a.out.next hb6)
  have Y6 := hideP (Y5a.out.next hb6)
  have T6 := hideP (T5a.out.below hb6 T5a.out.2)
  have HB6 := hideP (HB5a.out.trans (hb6.mono HB5a.out.size))
  have N6a := hideP (N6.out.next (below_one w6 (.cells #[.int .i64 KY, .slice aoZ zs.length capZ] 25)))
  have X6a := hideP (X6.out.next (below_one w6 (.cells #[.int .i64 KY, .slice aoZ zs.length capZ] 25)))
  have Y6a := hideP (Y6.out.next (below_one w6 (.cells #[.int .i64 KY, .slice aoZ zs.length capZ] 25)))
  have T6a := hideP (T6.out.below (below_one w6 (.cells #[.int .i64 KY, .slice aoZ zs.length capZ] 25)) T6.out.2)
  have HB6a := hideP (HB6.out.trans ((below_one w6 (.cells #[.int .i64 KY, .slice aoZ zs.length capZ] 25)).mono HB6.out.size))
  have Z6a := hideP (NetV.new (K := KY) (cap := capZ) 25 (hoZ.ties (Nat.le_refl _)))
  clear hoZ hb6
  clear lNc0 lNc1 lNlt lXc0 lXc1 lXlt
  have lNc0 := N6.out.c0
  have lNc1 := N6.out.c1
  have lNlt := N6.out.lt
  have lXc0 := X6.out.c0
  have lXc1 := X6.out.c1
  have lXlt := X6.out.lt
  have lYc0 := Y6.out.c0
  have lYc1 := Y6.out.c1
  have lYlt := Y6.out.lt
  go_wp2_with fail
  refine (netAdd_all KY aoZ capZ zs a b _ hunz Z6a.out.ties T6a.out).mono ?_
  rw [HZ1.out, HZ2.out, HZ3.out]
  rintro e w7 ⟨aoV, capV, rfl, hoV, hb7⟩
  have Y7 := hideP (Y6a.out.next hb7)
  have T7 := hideP (T6a.out.below hb7 T6a.out.2)
  have HB7 := hideP (HB6a.out.trans (hb7.mono HB6a.out.size))
  have Y7a := hideP (Y7.out.next (below_one w7 (.cells #[.int .i64 KY, .slice aoV ys.length capV] 25)))
  have T7a := hideP (T7.out.below (below_one w7 (.cells #[.int .i64 KY, .slice aoV ys.length capV] 25)) T7.out.2)
  have HB7a := hideP (HB7.out.trans ((below_one w7 (.cells #[.int .i64 KY, .slice aoV ys.length capV] 25)).mono HB7.out.size))
  have V7a := hideP (NetV.new (K := KY) (cap := capV) 25 (hoV.ties (Nat.le_refl _)))
  clear hoV hb7
  clear lNc0 lNc1 lNlt lXc0 lXc1 lXlt lYc0 lYc1 lYlt
  have lYc0 := Y7.out.c0
  have lYc1 := Y7.out.c1
  have lYlt := Y7.out.lt
  go_wp2_with fail
  refine (loNet_same KY _ _ _ _ ys _ hunys V7a.out.ties Y7a.out.ties).mono ?_
  rintro e w8 ⟨rfl, hb8⟩
  have HB8 := hideP (HB7a.out.trans (hb8.mono HB7a.out.size))
  clear hb8
  go_wp2
  go_ret
  exact ⟨rfl, HB8.out⟩

end Go.Proofs.YtmmbbhkgfkhipaaDoor
