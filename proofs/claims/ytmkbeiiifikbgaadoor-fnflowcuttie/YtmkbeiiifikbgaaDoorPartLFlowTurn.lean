/- Texts put together: LFlowTurn, LFlowCutTie. -/
import Derived.Test.YtmkbeiiifikbgaaDoorPartWDraw
import Derived.Test.YtmkbeiiifikbgaaDoorPartWFlowCS
import Derived.Test.YtmkbeiiifikbgaaDoorPartMathTf
import Derived.Test.YtmkbeiiifikbgaaDoorPartWFirst
import Derived.Test.YtmkbeiiifikbgaaDoorPartMathFX
import Derived.Test.YtmkbeiiifikbgaaDoorPartWSpecCut
/- Walk of laws.FnFlowTurn: it returns true. -/
namespace Go.Proofs.YtmkbeiiifikbgaaDoor
open Go.RowKit
set_option linter.unusedVariables false

theorem cutG_turn {a b : Nat} (ha : a < 8) (hb : b < 8) (hab : a ≠ b) : ∀ (r left : List (Int × Int)), cutG b a r left = cutG a b r left := by
  intro r
  induction r with
  | nil => intro left; rfl
  | cons s r ih =>
    intro left
    unfold cutG
    rw [flowV_turn _ ha hb hab, flowV_turn _ ha hb hab, ih, ih]
theorem twoB_turn (K : Int) (ts : List (Int × Int)) (a b : Int) : twoB K ts b a = twoB K ts a b := by
  unfold twoB
  rw [Bool.eq_iff_iff]
  simp only [Bool.and_eq_true, decide_eq_true_eq]
  exact ⟨fun h => ⟨⟨⟨h.1.1.1, h.1.2⟩, h.1.1.2⟩, fun e => h.2 e.symm⟩, fun h => ⟨⟨⟨h.1.1.1, h.1.2⟩, h.1.1.2⟩, fun e => h.2 e.symm⟩⟩
theorem cutI_turn (K : Int) (ts : List (Int × Int)) (a b : Int) : cutI K ts b a = cutI K ts a b := by
  unfold cutI
  rw [twoB_turn]
  by_cases e : twoB K ts a b = true
  · rw [if_pos e, if_pos e]
    obtain ⟨_, x, y, rfl, rfl, hx, hy, _, _, hxy⟩ := knot_nat e
    exact cutG_turn hx hy hxy ts ts
  · rw [if_neg e, if_neg e]
theorem countI_turn (K : Int) (ts : List (Int × Int)) (a b : Int) : countI K ts b a = countI K ts a b := by
  unfold countI
  rw [twoB_turn]
  by_cases e : twoB K ts a b = true
  · rw [if_pos e, if_pos e]
    obtain ⟨_, x, y, rfl, rfl, hx, hy, _, _, hxy⟩ := knot_nat e
    exact flowV_turn ts hx hy hxy
  · rw [if_neg e, if_neg e]
theorem implCut_v (p : Bool) (us : List (Int × Int)) (K : Int) (ao : Option Addr) (cap : Nat) (ts : List (Int × Int)) (a b : Int) (w : World) (hn : ts.length ≤ 1099511627776) (ht : TiesIn w w.heap.size ao ts) (hT : Tab w) (hp : twoB K ts a b = p) (hu : cutI K ts a b = us) :
    Calls Tryd.prog 26 #[.agg #[.int .i64 K, .slice ao ts.length cap], .int .i64 a, .int .i64 b] w fun e w' => ∃ ao' cap', e = .returned (.tuple #[.slice ao' us.length cap', .bool p]) ∧ TiesIn w' w'.heap.size ao' us ∧ Below w.heap.size w w' := by
  rw [← hp, ← hu]
  refine (implFlowCut_any K ao cap ts a b w hn ht hT).mono ?_
  rintro e w' ⟨ao', cap', rfl, ho, hb⟩
  exact ⟨ao', cap', rfl, ho.ties (Nat.le_refl _), hb⟩
set_option maxHeartbeats 1600000 in
theorem flowTurn_walk (bo0 : Option Addr) (n0 cap0 : Nat) (w : World) (hb : BytesIn w bo0 n0) (hnil : bo0 = none → n0 = 0 ∧ cap0 = 0) (hc : n0 ≤ cap0) (hm : cap0 ≤ maxLen) (hT : Tab w) :
    Calls Tryd.prog 8 #[.slice bo0 n0 cap0] w fun e w' => e = .returned (.bool true) ∧ Below w.heap.size w w' := by
  have hn0' : n0 ≤ 9223372036854775807 := by unfold maxLen at hm; omega
  by_cases hl : 1048576 < n0
  · have hl' : (1048576 : Int) < (n0 : Int) := by omega
    have hl2 : decide (1048576 < (n0 : Int)) = true := by simp; omega
    go_enter Tryd.func8, Tryd.ntmps8
    go_wp2
    go_ret
    exact ⟨rfl, Below.refl _ _⟩
  have hl' : decide ((1048576 : Int) < (n0 : Int)) = false := by simp; omega
  go_enter Tryd.func8, Tryd.ntmps8
  go_wp2_with fail
  refine (drawFlowCount_any bo0 n0 cap0 _ hb hnil hc hm).mono ?_
  rintro e w1 ⟨K, ao, cap', ts, a, b, rfl, D1⟩
  have hn : ts.length ≤ 1099511627776 := by have := D1.short; omega
  have HB1 := hideP (D1.bel.trans ((below_one w1 (.cells #[.int .i64 K, .slice ao ts.length cap'] 25)).mono D1.bel.size))
  have N1 := hideP (NetV.new (K := K) (cap := cap') 25 (D1.own.ties (Nat.le_refl _)))
  have T1 := hideP (hT.below HB1.out hT.2)
  clear D1 hT
  obtain ⟨V, hV⟩ : ∃ V, countI K ts a b = V := ⟨_, rfl⟩
  have HV := hideP hV
  have HW := hideP ((countI_turn K ts a b).trans hV)
  obtain ⟨p, hp⟩ : ∃ p, twoB K ts a b = p := ⟨_, rfl⟩
  obtain ⟨us, hu⟩ : ∃ us, cutI K ts a b = us := ⟨_, rfl⟩
  have HP := hideP hp
  have HQ := hideP ((twoB_turn K ts a b).trans hp)
  have HU := hideP hu
  have HX := hideP ((cutI_turn K ts a b).trans hu)
  have HS : Hid (us.length ≤ 1099511627776) := hideP (by
    rw [← hu]; unfold cutI; split
    · exact Nat.le_trans (cutG_list _ _ _ _).length_le hn
    · exact Nat.zero_le _)
  clear hV hp hu
  go_wp2_with fail
  refine (implFlow_v V K ao cap' ts a b _ hn N1.out.ties HV.out).mono ?_
  rintro e w2 ⟨rfl, hb2⟩
  have N2 := hideP (N1.out.next hb2)
  have HB2 := hideP (HB1.out.trans (hb2.mono HB1.out.size))
  have T2 := hideP (T1.out.below hb2 T1.out.2)
  clear hb2 N1 HB1 T1
  have c0 := N2.out.c0
  have c1 := N2.out.c1
  go_wp2_with fail
  refine (implCut_v p us K ao cap' ts a b _ hn N2.out.ties T2.out HP.out HU.out).mono ?_
  rintro e w3 ⟨xo, xcap, rfl, x3, hb3⟩
  have N3 := hideP (N2.out.next hb3)
  have HB3 := hideP (HB2.out.trans (hb3.mono HB2.out.size))
  have T3 := hideP (T2.out.below hb3 T2.out.2)
  have X3 := hideP x3
  clear hb3 N2 HB2 T2 c0 c1 x3
  have c0 := N3.out.c0
  have c1 := N3.out.c1
  go_wp2_with fail
  refine (implCut_v p us K ao cap' ts b a _ hn N3.out.ties T3.out HQ.out HX.out).mono ?_
  rintro e w4 ⟨yo, ycap, rfl, y4, hb4⟩
  have N4 := hideP (N3.out.next hb4)
  have HB4 := hideP (HB3.out.trans (hb4.mono HB3.out.size))
  have X4 := hideP ((X3.out.below hb4 (Nat.le_refl _)).wide hb4.size)
  have Y4 := hideP y4
  clear hb4 N3 HB3 T3 c0 c1 y4 X3
  have c0 := N4.out.c0
  have c1 := N4.out.c1
  have hve : (V == V) = true := by simp
  have hpe : (p == p) = true := by simp
  have XY : Hid (∀ W, Below w4.heap.size w4 W → TiesIn W W.heap.size xo us ∧ TiesIn W W.heap.size yo us) := hideP (fun W hb => ⟨(X4.out.below hb (Nat.le_refl _)).wide hb.size, (Y4.out.below hb (Nat.le_refl _)).wide hb.size⟩)
  clear X4 Y4
  go_wp2_with (first | (go_at_call 36; refine (specFlow_v V _ ao cap' ts a b _ hn N4.out.ties HV.out).mono ?_; rintro e w5 ⟨rfl, hb5⟩; have N5 := hideP (N4.out.next hb5); have HB5 := hideP (HB4.out.trans (hb5.mono HB4.out.size)); have b5 := hideP hb5; have d0 := N5.out.c0; have d1 := N5.out.c1; clear hb5) | (go_at_call 17; refine (implFlow_v V _ ao cap' ts b a _ hn N5.out.ties HW.out).mono ?_; rintro e w6 ⟨rfl, hb6⟩; have N6 := hideP (N5.out.next hb6); have HB6 := hideP (HB5.out.trans (hb6.mono HB5.out.size)); have b6 := hideP (b5.out.trans (hb6.mono b5.out.size)); have f0 := N6.out.c0; have f1 := N6.out.c1; clear hb6) | (go_at_call 29; refine (loTies_same xo yo xcap ycap us _ HS.out (XY.out _ b6.out).1 (XY.out _ b6.out).2).mono ?_; rintro e w7 ⟨rfl, hb7⟩; have HB7 := hideP (HB6.out.trans (hb7.mono HB6.out.size)); clear hb7))
  go_ret
  exact ⟨rfl, HB7.out⟩

end Go.Proofs.YtmkbeiiifikbgaaDoor

/- Walk of laws.FnFlowCutTie: it returns true. -/
namespace Go.Proofs.YtmkbeiiifikbgaaDoor
open Go.RowKit
set_option linter.unusedVariables false

/-- the fewest ties, at one of them -/
theorem cutI_at {K : Int} {ts : List (Int × Int)} {a b : Int} {i : Nat} (h : i < (cutI K ts a b).length) : twoB K ts a b = true ∧ okB K ts = true ∧ cutB K ts (tA (cutI K ts a b) i) (tB (cutI K ts a b) i) = true ∧ countI K (cutTs K ts (tA (cutI K ts a b) i) (tB (cutI K ts a b) i)) a b = ((cutI K ts a b).length : Int) - 1 ∧ countI K ts a b = ((cutI K ts a b).length : Int) := by
  have hTW : twoB K ts a b = true := by
    cases e : twoB K ts a b with
    | true => rfl
    | false => unfold cutI at h; rw [e] at h; simp at h
  obtain ⟨hok, x, y, rfl, rfl, hx, hy, _, _, hxy⟩ := knot_nat hTW
  have hc : cutI K ts (x : Int) (y : Int) = cutG x y ts ts := by unfold cutI; rw [if_pos hTW]; rfl
  rw [hc] at h ⊢
  have hm : (cutG x y ts ts)[i] ∈ cutG x y ts ts := List.getElem_mem h
  have hmt := cutG_sub x y ts ts _ hm
  obtain ⟨p, q, e, _, _, eo, hh⟩ := tie_knots hok hmt
  have e1 : tA (cutG x y ts ts) i = (p : Int) := by rw [tA_get _ i h, e]
  have e2 : tB (cutG x y ts ts) i = (q : Int) := by rw [tB_get _ i h, e]
  have hcb : cutB K ts (p : Int) (q : Int) = true := hh
  refine ⟨hTW, hok, by rw [e1, e2]; exact hcb, ?_, by rw [two_flow hTW, cutG_len hok hx hy hxy]⟩
  rw [e1, e2, cut_minus hh, eo, two_flow (two_other hTW (minus_ok hok _)), flow_cut_tie hok hx hy hxy hm, cutG_len hok hx hy hxy]
set_option maxHeartbeats 1600000 in
theorem flowCutTie_walk (bo : Option Addr) (n cap : Nat) (co : Option Addr) (n2 cap2 : Nat) (w : World) (hb : BytesIn w bo n) (hnil : bo = none → n = 0 ∧ cap = 0) (hc : n ≤ cap) (hm : cap ≤ maxLen) (hbb : BytesIn w co n2) (hnil2 : co = none → n2 = 0 ∧ cap2 = 0) (hc2 : n2 ≤ cap2) (hm2 : cap2 ≤ maxLen) (hT : Tab w) :
    Calls Tryd.prog 11 #[.slice bo n cap, .slice co n2 cap2] w fun e w' => e = .returned (.bool true) ∧ Below w.heap.size w w' := by
  have hn2' : n2 ≤ 9223372036854775807 := by unfold maxLen at hm2; omega
  have hn1' : n ≤ 9223372036854775807 := by unfold maxLen at hm; omega
  clear hbb hnil2 hc2 hm2
  by_cases hl : 1048576 < n
  · have hl' : (1048576 : Int) < (n : Int) := by omega
    go_enter Tryd.func11, Tryd.ntmps11
    go_wp2
    go_ret
    exact ⟨rfl, Below.refl _ _⟩
  have hl' : decide ((1048576 : Int) < (n : Int)) = false := by simp; omega
  by_cases hl2 : 1048576 < n2
  · have hl2' : (1048576 : Int) < (n2 : Int) := by omega
    go_enter Tryd.func11, Tryd.ntmps11
    go_wp2
    go_ret
    exact ⟨rfl, Below.refl _ _⟩
  have hl2' : decide ((1048576 : Int) < (n2 : Int)) = false := by simp; omega
  go_enter Tryd.func11, Tryd.ntmps11
  go_wp2_with fail
  refine (drawFlowCut_any bo n cap _ hb hnil hc hm).mono ?_
  rintro e w1 ⟨K, ao, cap', ts, a, b, rfl, D1⟩
  have hn : ts.length ≤ 1099511627776 := by have := D1.short; omega
  have bx := below_one w1 (.cells #[.int .i64 K, .slice ao ts.length cap'] 25)
  have HB1 := hideP (D1.bel.trans (bx.mono D1.bel.size))
  have N1 := hideP (NetV.new (K := K) (cap := cap') 25 (D1.own.ties (Nat.le_refl _)))
  have O1 := hideP (D1.own.next bx)
  have T1 := hideP (hT.below HB1.out hT.2)
  have z1 : w1.heap.size ≤ (w1.alloc (.cells #[.int .i64 K, .slice ao ts.length cap'] 25)).heap.size := bx.size
  have hul : (cutI K ts a b).length ≤ ts.length := by
    unfold cutI
    split
    · exact (cutG_list _ _ ts ts).length_le
    · exact Nat.zero_le _
  obtain ⟨V, hV⟩ : ∃ V, V = twoB K ts a b := ⟨_, rfl⟩
  have HVV := hideP hV
  obtain ⟨us, hus⟩ : ∃ us, us = cutI K ts a b := ⟨_, rfl⟩
  have HUS := hideP hus
  rw [← hus] at hul
  have hul' : us.length ≤ 1099511627776 := by omega
  have hvv : (V != V) = false := by simp
  have hve : (V == V) = true := by simp
  clear D1 hT bx hus hV
  go_wp2_with fail
  refine (specFlowCut_any _ _ K ao cap' ts a b _ hn O1.out z1).mono ?_
  rw [← HUS.out, ← HVV.out]
  rintro e w2 ⟨aoW, capW, rfl, hoW, hb2⟩
  have N2 := hideP (N1.out.next hb2)
  have W2 := hideP (hoW.ties (Nat.le_refl _))
  have HB2 := hideP (HB1.out.trans (hb2.mono HB1.out.size))
  have T2 := hideP (T1.out.below hb2 T1.out.2)
  clear hb2 hoW N1 O1 HB1 T1 z1
  have c0 := N2.out.c0
  have c1 := N2.out.c1
  go_wp2_with fail
  refine (implFlowCut_any K ao cap' ts a b _ hn N2.out.ties T2.out).mono ?_
  rw [← HUS.out, ← HVV.out]
  rintro e w3 ⟨aoL, capL, rfl, hoL, hb3⟩
  have N3 := hideP (N2.out.next hb3)
  have W3 := hideP ((W2.out.below hb3 (Nat.le_refl _)).wide hb3.size)
  have L3 := hideP (hoL.ties (Nat.le_refl _))
  have HB3 := hideP (HB2.out.trans (hb3.mono HB2.out.size))
  have T3 := hideP (T2.out.below hb3 T2.out.2)
  clear hb3 hoL N2 W2 HB2 T2 c0 c1
  go_wp2_with fail
  refine (loTies_same aoL aoW capL capW us _ hul' L3.out W3.out).mono ?_
  rintro e w4 ⟨rfl, hb4⟩
  have N4 := hideP (N3.out.next hb4)
  have W4 := hideP ((W3.out.below hb4 (Nat.le_refl _)).wide hb4.size)
  have L4 := hideP ((L3.out.below hb4 (Nat.le_refl _)).wide hb4.size)
  have HB4 := hideP (HB3.out.trans (hb4.mono HB3.out.size))
  have T4 := hideP (T3.out.below hb4 T3.out.2)
  clear hb4 N3 W3 L3 HB3 T3
  have n0 := N4.out.c0
  have n1 := N4.out.c1
  by_cases hz : us.length = 0
  · have hnil0 : us = [] := List.length_eq_zero_iff.1 hz
    subst hnil0
    clear hz
    go_wp2_with fail
    refine (loTies_same aoL aoW capL capW [] _ hul' L4.out W4.out).mono ?_
    rintro e w7 ⟨rfl, hb7⟩
    have HB7 := hideP (HB4.out.trans (hb7.mono HB4.out.size))
    clear hb7
    go_wp2
    go_ret
    exact ⟨rfl, HB7.out⟩
  obtain ⟨i, hi⟩ : ∃ i : Nat, i = n2 % us.length := ⟨_, rfl⟩
  have hil : i < us.length := by rw [hi]; exact Nat.mod_lt _ (by omega)
  have hmod : (n2 : Int) % (us.length : Int) = (i : Int) := by rw [hi]; exact (Int.natCast_emod n2 us.length).symm
  have hmt : Int.tmod (n2 : Int) (us.length : Int) = (i : Int) := by rw [Int.tmod_eq_emod_of_nonneg (show (0 : Int) ≤ (n2 : Int) by omega)]; exact hmod
  have hzi : ((us.length : Int) == 0) = false := by rw [beq_eq_false_iff_ne]; omega
  have hz0 : ¬ ((us.length : Int) = 0) := by omega
  obtain ⟨hTW, hok, hcut, hcnt, _⟩ := cutI_at (K := K) (ts := ts) (a := a) (b := b) (i := i) (by rw [← HUS.out]; exact hil)
  rw [← HUS.out] at hcut hcnt
  obtain ⟨gL, offL, rfl, hgL, l0, l1⟩ := L4.out i hil
  obtain ⟨p, hp⟩ : ∃ x, x = tA us i := ⟨_, rfl⟩
  obtain ⟨q, hq⟩ : ∃ x, x = tB us i := ⟨_, rfl⟩
  rw [← hp, ← hq] at hcut hcnt
  rw [← hp] at l0
  rw [← hq] at l1
  have HCUT := hideP (show cutB K ts p q = true ∧ cutK K ts p q = K from ⟨hcut, cutK_yes hcut⟩)
  have hcl := cutTs_len K ts p q
  obtain ⟨xs, hxs⟩ : ∃ xs, xs = cutTs K ts p q := ⟨_, rfl⟩
  have HXS := hideP hxs
  rw [← hxs] at hcl hcnt
  have HCNT := hideP hcnt
  have hxn : xs.length ≤ 1099511627776 := by omega
  have hi0 : (0 : Int) ≤ (i : Int) := by omega
  have hil' : (i : Int) < (us.length : Int) := by omega
  have hwr : IntKind.i64.wrap ((us.length : Int) - 1) = (us.length : Int) - 1 := by rw [IntKind.wrap_i64]; omega
  clear hTW hok hcut hcnt hp hq hxs hi hmod
  have bo5 := below_one w4 (.cells #[.int .i64 p, .int .i64 q] 35)
  have N5 := hideP (N4.out.next bo5)
  have T5 := hideP (T4.out.below bo5 T4.out.2)
  have HB5 := hideP (HB4.out.trans (bo5.mono HB4.out.size))
  have m0 := N5.out.c0
  have m1 := N5.out.c1
  clear bo5 N4 T4 HB4 W4 L4
  go_wp2_with fail
  refine (netCut_all K ao cap' ts p q _ hn N5.out.ties T5.out).mono ?_
  rw [HCUT.out.1, HCUT.out.2, ← HXS.out]
  rintro e w6 ⟨aoX, capX, rfl, ho6, hb6⟩
  have bo6 := below_one w6 (.cells #[.int .i64 K, .slice aoX xs.length capX] 25)
  have X6 := hideP (NetV.new (K := K) (cap := capX) 25 (ho6.ties (Nat.le_refl _)))
  have HB6 := hideP ((HB5.out.trans (hb6.mono HB5.out.size)).trans (bo6.mono (HB5.out.trans (hb6.mono HB5.out.size)).size))
  clear hb6 bo6 ho6 N5 T5 HB5 m0 m1 n0 n1 l0 l1
  have x0 := X6.out.c0
  have x1 := X6.out.c1
  have hee : (((us.length : Int) - 1) == ((us.length : Int) - 1)) = true := by simp
  go_wp2_with fail
  refine (implFlow_v ((us.length : Int) - 1) K aoX capX xs a b _ hxn X6.out.ties HCNT.out).mono ?_
  rintro e w7 ⟨rfl, hb7⟩
  have HB7 := hideP (HB6.out.trans (hb7.mono HB6.out.size))
  clear hb7
  go_wp2
  go_ret
  exact ⟨rfl, HB7.out⟩

end Go.Proofs.YtmkbeiiifikbgaaDoor
