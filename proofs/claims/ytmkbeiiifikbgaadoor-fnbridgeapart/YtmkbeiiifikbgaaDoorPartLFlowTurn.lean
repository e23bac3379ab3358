/- Texts put together: LFlowTurn, LFlowBridge, LBridgeApart. -/
import Derived.Test.YtmkbeiiifikbgaaDoorPartWDraw
import Derived.Test.YtmkbeiiifikbgaaDoorPartWFlowCS
import Derived.Test.YtmkbeiiifikbgaaDoorWLo
import Derived.Test.YtmkbeiiifikbgaaDoorPartWFirst
import Derived.Test.YtmkbeiiifikbgaaDoorMathFX
import Derived.Test.YtmkbeiiifikbgaaDoorWReach3
import Derived.Test.YtmkbeiiifikbgaaDoorPartWApart
import Derived.Deep.RegionHeld3
import Derived.Test.YtmkbeiiifikbgaaDoorPartWDrawAp
import Derived.Test.YtmkbeiiifikbgaaDoorPartWSpecCut
import Derived.Test.YtmkbeiiifikbgaaDoorPartWBridge
import Derived.RangeFuncRecord
/- Walk of laws.FnFlowTurn: it returns true. -/
namespace Go.Proofs.YtmkbeiiifikbgaaDoor
open Go.RowKit
set_option linter.unusedVariables false

theorem cutG_turn {a b : Nat} (ha : a < 8) (hb : b < 8) (hab : a ≠ b) : ∀ (r left : List (Int × Int)), cutG b a r left = cutG a b r left := by
  intro r
  induction r with
  | nil => intro left; rfl
  | cons s r ih =>
    intro left
    unfold cutG
    rw [flowV_turn _ ha hb hab, flowV_turn _ ha hb hab, ih, ih]
theorem twoB_turn (K : Int) (ts : List (Int × Int)) (a b : Int) : twoB K ts b a = twoB K ts a b := by
  unfold twoB
  rw [Bool.eq_iff_iff]
  simp only [Bool.and_eq_true, decide_eq_true_eq]
  exact ⟨fun h => ⟨⟨⟨h.1.1.1, h.1.2⟩, h.1.1.2⟩, fun e => h.2 e.symm⟩, fun h => ⟨⟨⟨h.1.1.1, h.1.2⟩, h.1.1.2⟩, fun e => h.2 e.symm⟩⟩
theorem cutI_turn (K : Int) (ts : List (Int × Int)) (a b : Int) : cutI K ts b a = cutI K ts a b := by
  unfold cutI
  rw [twoB_turn]
  by_cases e : twoB K ts a b = true
  · rw [if_pos e, if_pos e]
    obtain ⟨_, x, y, rfl, rfl, hx, hy, _, _, hxy⟩ := knot_nat e
    exact cutG_turn hx hy hxy ts ts
  · rw [if_neg e, if_neg e]
theorem countI_turn (K : Int) (ts : List (Int × Int)) (a b : Int) : countI K ts b a = countI K ts a b := by
  unfold countI
  rw [twoB_turn]
  by_cases e : twoB K ts a b = true
  · rw [if_pos e, if_pos e]
    obtain ⟨_, x, y, rfl, rfl, hx, hy, _, _, hxy⟩ := knot_nat e
    exact flowV_turn ts hx hy hxy
  · rw [if_neg e, if_neg e]
theorem implCut_v (p : Bool) (us : List (Int × Int)) (K : Int) (ao : Option Addr) (cap : Nat) (ts : List (Int × Int)) (a b : Int) (w : World) (hn : ts.length ≤ 1099511627776) (ht : TiesIn w w.heap.size ao ts) (hT : Tab w) (hp : twoB K ts a b = p) (hu : cutI K ts a b = us) :
    Calls Tryd.prog 26 #[.agg #[.int .i64 K, .slice ao ts.length cap], .int .i64 a, .int .i64 b] w fun e w' => ∃ ao' cap', e = .returned (.tuple #[.slice ao' us.length cap', .bool p]) ∧ TiesIn w' w'.heap.size ao' us ∧ Below w.heap.size w w' := by
  rw [← hp, ← hu]
  refine (implFlowCut_any K ao cap ts a b w hn ht hT).mono ?_
  rintro e w' ⟨ao', cap', rfl, ho, hb⟩
  exact ⟨ao', cap', rfl, ho.ties (Nat.le_refl _), hb⟩
set_option maxHeartbeats 1600000 in
theorem flowTurn_walk (bo0 : Option Addr) (n0 cap0 : Nat) (w : World) (hb : BytesIn w bo0 n0) (hnil : bo0 = none → n0 = 0 ∧ cap0 = 0) (hc : n0 ≤ cap0) (hm : cap0 ≤ maxLen) (hT : Tab w) :
    Calls Tryd.prog 8 #[.slice bo0 n0 cap0] w fun e w' => e = .returned (.bool true) ∧ Below w.heap.size w w' := by
  have hn0' : n0 ≤ 9223372036854775807 := by unfold maxLen at hm; omega
  by_cases hl : 1048576 < n0
  · have hl' : (1048576 : Int) < (n0 : Int) := by omega
    have hl2 : decide (1048576 < (n0 : Int)) = true := by simp; omega
    go_enter Tryd.func8, Tryd.ntmps8
    go_wp2
    go_ret
    exact ⟨rfl, Below.refl _ _⟩
  have hl' : decide ((1048576 : Int) < (n0 : Int)) = false := by simp; omega
  go_enter Tryd.func8, Tryd.ntmps8
  go_wp2_with fail
  refine (drawFlowCount_any bo0 n0 cap0 _ hb hnil hc hm).mono ?_
  rintro e w1 ⟨K, ao, cap', ts, a, b, rfl, D1⟩
  have hn : ts.length ≤ 1099511627776 := by have := D1.short; omega
  have HB1 := hideP (D1.bel.trans ((below_one w1 (.cells #[.int .i64 K, .slice ao ts.length cap'] 25)).mono D1.bel.size))
  have N1 := hideP (NetV.new (K := K) (cap := cap') 25 (D1.own.ties (Nat.le_refl _)))
  have T1 := hideP (hT.below HB1.out hT.2)
  clear D1 hT
  obtain ⟨V, hV⟩ : ∃ V, countI K ts a b = V := ⟨_, rfl⟩
  have HV := hideP hV
  have HW := hideP ((countI_turn K ts a b).trans hV)
  obtain ⟨p, hp⟩ : ∃ p, twoB K ts a b = p := ⟨_, rfl⟩
  obtain ⟨us, hu⟩ : ∃ us, cutI K ts a b = us := ⟨_, rfl⟩
  have HP := hideP hp
  have HQ := hideP ((twoB_turn K ts a b).trans hp)
  have HU := hideP hu
  have HX := hideP ((cutI_turn K ts a b).trans hu)
  have HS : Hid (us.length ≤ 1099511627776) := hideP (by
    rw [← hu]; unfold cutI; split
    · exact Nat.le_trans (cutG_list _ _ _ _).length_le hn
    · exact Nat.zero_le _)
  clear hV hp hu
  go_wp2_with fail
  refine (implFlow_v V K ao cap' ts a b _ hn N1.out.ties HV.out).mono ?_
  rintro e w2 ⟨rfl, hb2⟩
  have N2 := hideP (N1.out.next hb2)
  have HB2 := hideP (HB1.out.trans (hb2.mono HB1.out.size))
  have T2 := hideP (T1.out.below hb2 T1.out.2)
  clear hb2 N1 HB1 T1
  have c0 := N2.out.c0
  have c1 := N2.out.c1
  go_wp2_with fail
  refine (implCut_v p us K ao cap' ts a b _ hn N2.out.ties T2.out HP.out HU.out).mono ?_
  rintro e w3 ⟨xo, xcap, rfl, x3, hb3⟩
  have N3 := hideP (N2.out.next hb3)
  have HB3 := hideP (HB2.out.trans (hb3.mono HB2.out.size))
  have T3 := hideP (T2.out.below hb3 T2.out.2)
  have X3 := hideP x3
  clear hb3 N2 HB2 T2 c0 c1 x3
  have c0 := N3.out.c0
  have c1 := N3.out.c1
  go_wp2_with fail
  refine (implCut_v p us K ao cap' ts b a _ hn N3.out.ties T3.out HQ.out HX.out).mono ?_
  rintro e w4 ⟨yo, ycap, rfl, y4, hb4⟩
  have N4 := hideP (N3.out.next hb4)
  have HB4 := hideP (HB3.out.trans (hb4.mono HB3.out.size))
  have X4 := hideP ((X3.out.below hb4 (Nat.le_refl _)).wide hb4.size)
  have Y4 := hideP y4
  clear hb4 N3 HB3 T3 c0 c1 y4 X3
  have c0 := N4.out.c0
  have c1 := N4.out.c1
  have hve : (V == V) = true := by simp
  have hpe : (p == p) = true := by simp
  have XY : Hid (∀ W, Below w4.heap.size w4 W → TiesIn W W.heap.size xo us ∧ TiesIn W W.heap.size yo us) := hideP (fun W hb => ⟨(X4.out.below hb (Nat.le_refl _)).wide hb.size, (Y4.out.below hb (Nat.le_refl _)).wide hb.size⟩)
  clear X4 Y4
  go_wp2_with (first | (go_at_call 36; refine (specFlow_v V _ ao cap' ts a b _ hn N4.out.ties HV.out).mono ?_; rintro e w5 ⟨rfl, hb5⟩; have N5 := hideP (N4.out.next hb5); have HB5 := hideP (HB4.out.trans (hb5.mono HB4.out.size)); have b5 := hideP hb5; have d0 := N5.out.c0; have d1 := N5.out.c1; clear hb5) | (go_at_call 17; refine (implFlow_v V _ ao cap' ts b a _ hn N5.out.ties HW.out).mono ?_; rintro e w6 ⟨rfl, hb6⟩; have N6 := hideP (N5.out.next hb6); have HB6 := hideP (HB5.out.trans (hb6.mono HB5.out.size)); have b6 := hideP (b5.out.trans (hb6.mono b5.out.size)); have f0 := N6.out.c0; have f1 := N6.out.c1; clear hb6) | (go_at_call 29; refine (loTies_same xo yo xcap ycap us _ HS.out (XY.out _ b6.out).1 (XY.out _ b6.out).2).mono ?_; rintro e w7 ⟨rfl, hb7⟩; have HB7 := hideP (HB6.out.trans (hb7.mono HB6.out.size)); clear hb7))
  go_ret
  exact ⟨rfl, HB7.out⟩

end Go.Proofs.YtmkbeiiifikbgaaDoor

/- Walk of laws.FnFlowBridge: it returns true. -/
namespace Go.Proofs.YtmkbeiiifikbgaaDoor
open Go.RowKit
set_option linter.unusedVariables false
set_option linter.unusedSimpArgs false

/-- more may be known of the worlds of a region from here on -/
theorem wpAnyH_more {P : Program} {md : Region.Mode} {ops : Array Oper} {Q : Exit → Act → World → Prop} {S S' : World → Prop} (h : ∀ w, S' w → S w) : ∀ (fuel : Nat) (listed : Array Bool) (a : Act) (w : World), wpAnyH P md ops Q S' fuel listed a w → wpAnyH P md ops Q S fuel listed a w
  | 0, _, _, _, hw => hw
  | fuel + 1, _, _, _, hw => ⟨hw.1, fun i hi => wpOp_mono (fun a' w' h' => ⟨h w' h'.1, wpAnyH_more h fuel _ a' w' h'.2⟩) (hw.2 i hi)⟩
/-- impl.WayReach told at one knot -/
theorem implReach_at (K : Int) (ao : Option Addr) (cap : Nat) (ts : List (Int × Int)) (x y : Nat) (r : Bool) (w : World) (hn : ts.length ≤ 1099511627776) (ht : TiesIn w w.heap.size ao ts) (hT : Tab w) (hok : okB K ts = true) (hx : knotB (x : Int) K = true) (hy : knotB (y : Int) K = true) (hr : reachB ts x y = r) :
    Calls Tryd.prog 23 #[.agg #[.int .i64 K, .slice ao ts.length cap], .int .i64 (x : Int)] w fun e w' => ∃ g m cap', e = .returned (.slice (some ⟨g, 0, none⟩) m cap') ∧ y < m ∧ w'.cell? ⟨g, y, none⟩ = some (.bool r) ∧ Below w.heap.size w w' := by
  have hK : y < K.toNat := by
    simp only [knotB, Bool.and_eq_true, decide_eq_true_eq] at hy; omega
  refine (implReach_any K ao cap ts (x : Int) w hn ht hT).mono ?_
  rintro e w' ⟨ao', cap', rfl, ho, hb⟩
  have hN : reachN K ts (x : Int) = K.toNat := by simp [reachN, hok, hx]
  rw [hN] at ho ⊢
  rcases ho with ⟨h0, _⟩ | ⟨g, rfl, _, _, ho⟩
  · omega
  · exact ⟨g, _, cap', rfl, hK, by have := ho.1 y hK; rw [this, ← hr]; rfl, hb⟩
set_option maxHeartbeats 1600000 in
theorem flowBridge_walk (bo0 : Option Addr) (n0 cap0 : Nat) (w : World) (hb : BytesIn w bo0 n0) (hnil : bo0 = none → n0 = 0 ∧ cap0 = 0) (hc : n0 ≤ cap0) (hm : cap0 ≤ maxLen) (hT : Tab w) :
    Calls Tryd.prog 9 #[.slice bo0 n0 cap0] w fun e w' => e = .returned (.bool true) ∧ Below w.heap.size w w' := by
  have hn0' : n0 ≤ 9223372036854775807 := by unfold maxLen at hm; omega
  by_cases hl : 1048576 < n0
  · have hl' : (1048576 : Int) < (n0 : Int) := by omega
    have hl2 : decide (1048576 < (n0 : Int)) = true := by simp; omega
    go_enter Tryd.func9, Tryd.ntmps9
    go_wp2
    go_ret
    exact ⟨rfl, Below.refl _ _⟩
  have hl' : decide ((1048576 : Int) < (n0 : Int)) = false := by simp; omega
  go_enter Tryd.func9, Tryd.ntmps9
  go_wp2_with fail
  refine (drawFlowCount_any bo0 n0 cap0 _ hb hnil hc hm).mono ?_
  rintro e w1 ⟨K, ao, cap', ts, a, b, rfl, D1⟩
  have hn : ts.length ≤ 1099511627776 := by have := D1.short; omega
  have HB1 := hideP (D1.bel.trans ((below_one w1 (.cells #[.int .i64 K, .slice ao ts.length cap'] 25)).mono D1.bel.size))
  have N1 := hideP (NetV.new (K := K) (cap := cap') 25 (D1.own.ties (Nat.le_refl _)))
  have T1 := hideP (hT.below HB1.out hT.2)
  clear D1 hT
  obtain ⟨V, hV⟩ : ∃ V, countI K ts a b = V := ⟨_, rfl⟩
  have HV := hideP hV
  have hV8 := countI_le8 K ts a b
  rw [hV] at hV8
  clear hV
  go_wp2_with fail
  refine (implFlow_v V K ao cap' ts a b _ hn N1.out.ties HV.out).mono ?_
  rintro e w2 ⟨rfl, hb2⟩
  have N2 := hideP (N1.out.next hb2)
  have HB2 := hideP (HB1.out.trans (hb2.mono HB1.out.size))
  have T2 := hideP (T1.out.below hb2 T1.out.2)
  clear hb2 N1 HB1 T1
  have c0 := N2.out.c0
  have c1 := N2.out.c1
  have hvv : (V != V) = false := by simp
  have hve : (V == V) = true := by simp
  by_cases hneg : V < 0
  · go_wp2_with fail
    refine (specFlow_v V K ao cap' ts a b _ hn N2.out.ties HV.out).mono ?_
    rintro e w3 ⟨rfl, hb3⟩
    have N3 := hideP (N2.out.next hb3)
    have HB3 := hideP (HB2.out.trans (hb3.mono HB2.out.size))
    clear hb3 N2 HB2 c0 c1
    have c0 := N3.out.c0
    have c1 := N3.out.c1
    go_wp2_with fail
    refine (specFlow_v V K ao cap' ts a b _ hn N3.out.ties HV.out).mono ?_
    rintro e w4 ⟨rfl, hb4⟩
    have HB4 := hideP (HB3.out.trans (hb4.mono HB3.out.size))
    clear hb4
    go_wp2
    go_ret
    exact ⟨rfl, HB4.out⟩
  have hTW : twoB K ts a b = true := countI_neg (by rw [HV.out]; exact hneg)
  obtain ⟨hok, x, y, rfl, rfl, hx, hy, hxk, hyk, hxy⟩ := knot_nat hTW
  obtain ⟨hkx, hky⟩ := two_knots hTW
  have h1 := count_apart K ts (x : Int) (y : Int)
  have h0 := count_zero hTW
  rw [HV.out] at h1 h0
  have HC := hideP (fun t => cut_apart (t := t) hTW)
  have HTW := hideP hTW
  have HOK := hideP hok
  have HKX := hideP hkx
  have HKY := hideP hky
  obtain ⟨us, hus⟩ : ∃ us, cutI K ts (x : Int) (y : Int) = us := ⟨_, rfl⟩
  have HUS := hideP hus
  rw [hus] at HC
  obtain ⟨r, hr⟩ : ∃ r, reachB ts x y = r := ⟨_, rfl⟩
  have HR := hideP hr
  rw [hr] at h0
  have e0 : (V == 0) = !r := by
    cases r with
    | true => rw [Bool.not_true, beq_eq_false_iff_ne]; exact fun e => by have := h0.1 e; cases this
    | false => rw [Bool.not_false, beq_iff_eq]; exact h0.2 rfl
  have y0 : (0 : Int) ≤ (y : Int) := by omega
  clear hTW hok hkx hky hus hr h0 hxk hyk
  go_wp2_with fail
  refine (specFlow_v V K ao cap' ts _ _ _ hn N2.out.ties HV.out).mono ?_
  rintro e w3 ⟨rfl, hb3⟩
  have N3 := hideP (N2.out.next hb3)
  have HB3 := hideP (HB2.out.trans (hb3.mono HB2.out.size))
  have T3 := hideP (T2.out.below hb3 T2.out.2)
  clear hb3 N2 HB2 T2 c0 c1
  have c0 := N3.out.c0
  have c1 := N3.out.c1
  cases hap : apT K ts (x : Int) (y : Int) with
  | none =>
    have hAV := hideP (apV_none hap)
    rw [hap] at h1
    have e1 : (V == 1) = false := by rw [beq_eq_false_iff_ne]; exact fun e => by have := h1.1 e; cases this
    clear hap h1
    go_wp2_with fail
    refine (implApart_any K ao cap' ts _ _ _ hn N3.out.ties T3.out).mono ?_
    rw [hAV.out]
    rintro e w4 ⟨rfl, hb4⟩
    have bo4 := below_one w4 (.cells #[.int .i64 0, .int .i64 0] 35)
    have N4 := hideP ((N3.out.next hb4).next bo4)
    have HB4 := hideP ((HB3.out.trans (hb4.mono HB3.out.size)).trans (bo4.mono (HB3.out.trans (hb4.mono HB3.out.size)).size))
    have T4 := hideP ((T3.out.below hb4 T3.out.2).below bo4 (T3.out.below hb4 T3.out.2).2)
    clear hb4 bo4 N3 HB3 T3 c0 c1
    have c0 := N4.out.c0
    have c1 := N4.out.c1
    go_wp2_with fail
    refine (implCut_v true us K ao cap' ts _ _ _ hn N4.out.ties T4.out HTW.out HUS.out).mono ?_
    rintro e w5 ⟨xo, xcap, rfl, x5, hb5⟩
    have N5 := hideP (N4.out.next hb5)
    have HB5 := hideP (HB4.out.trans (hb5.mono HB4.out.size))
    have T5 := hideP (T4.out.below hb5 T4.out.2)
    clear hb5 N4 HB4 T4 c0 c1 x5
    have c0 := N5.out.c0
    have c1 := N5.out.c1
    have b0 : Hid (Below w5.heap.size w5 w5.drew) := hideP (Below.refl _ _).drew
    have HELD : Hid (∀ W, Below w5.heap.size w5 W → W.cell? ⟨w1.heap.size, 0, none⟩ = some (.int .i64 K) ∧ W.cell? ⟨w1.heap.size, 1, none⟩ = some (.slice ao ts.length cap')) := hideP (fun W hb => ⟨(N5.out.next hb).c0, (N5.out.next hb).c1⟩)
    clear c0 c1
    go_wp2
    refine wp_region_held_drew (S := fun w' => w'.cell? ⟨w1.heap.size, 0, none⟩ = some (.int .i64 K) ∧ w'.cell? ⟨w1.heap.size, 1, none⟩ = some (.slice ao ts.length cap')) (by kernel_rfl) (HELD.out _ b0.out) (fun hHeld => ?_)
    refine wpAnyH_take (i := 0) (oi := { dst := some 54, op := _, type := _, pos := _, after := _, guard := _ }) (v := ?vpa0) rfl (by kernel_rfl) (by kernel_rfl) (by kernel_rfl) (fun _ _ _ h => h) (Or.inl ⟨by rfl, ?hpa0⟩) (by assumption) ?_
    case hpa0 => (intro w hSw; (try dsimp only at hSw); go_simp; (try with_reducible rfl))
    simp only [Act.put, List.setIfInBounds_toArray, List.set_cons_zero, List.set_cons_succ]
    refine wpAnyH_take (i := 1) (oi := { dst := some 55, op := _, type := _, pos := _, after := _, guard := _ }) (v := ?vpa1) rfl (by kernel_rfl) (by kernel_rfl) (by kernel_rfl) (fun _ _ _ h => h) (Or.inl ⟨by rfl, ?hpa1⟩) (by assumption) ?_
    case hpa1 => (intro w hSw; (try dsimp only at hSw); go_simp; (try with_reducible rfl))
    simp only [Act.put, List.setIfInBounds_toArray, List.set_cons_zero, List.set_cons_succ]
    refine wpAnyH_take (i := 2) (oi := { dst := some 56, op := _, type := _, pos := _, after := _, guard := _ }) (v := ?vpa2) rfl (by kernel_rfl) (by kernel_rfl) (by kernel_rfl) (fun _ _ _ h => h) (Or.inl ⟨by rfl, ?hpa2⟩) (by assumption) ?_
    case hpa2 => (intro w hSw; (try dsimp only at hSw); go_simp; (try with_reducible rfl))
    simp only [Act.put, List.setIfInBounds_toArray, List.set_cons_zero, List.set_cons_succ]
    refine wpAnyH_take (i := 3) (oi := { dst := some 57, op := _, type := _, pos := _, after := _, guard := _ }) (v := ?vpa3) rfl (by kernel_rfl) (by kernel_rfl) (by kernel_rfl) (fun _ _ _ h => h) (Or.inl ⟨by rfl, ?hpa3⟩) (by assumption) ?_
    case hpa3 => (intro w hSw; (try dsimp only at hSw); go_simp; (try with_reducible rfl))
    simp only [Act.put, List.setIfInBounds_toArray, List.set_cons_zero, List.set_cons_succ]
    refine wpAnyH_take (i := 4) (oi := { dst := some 58, op := _, type := _, pos := _, after := _, guard := _ }) (v := ?vpa4) rfl (by kernel_rfl) (by kernel_rfl) (by kernel_rfl) (fun _ _ _ h => h) (Or.inl ⟨by rfl, ?hpa4⟩) (by assumption) ?_
    case hpa4 => (intro w hSw; (try dsimp only at hSw); go_simp; (try with_reducible rfl))
    simp only [Act.put, List.setIfInBounds_toArray, List.set_cons_zero, List.set_cons_succ]
    refine wpAnyH_take (i := 5) (oi := { dst := some 59, op := _, type := _, pos := _, after := _, guard := _ }) (v := ?vpa5) rfl (by kernel_rfl) (by kernel_rfl) (by kernel_rfl) (fun _ _ _ h => h) (Or.inl ⟨by rfl, ?hpa5⟩) (by assumption) ?_
    case hpa5 => (intro w hSw; (try dsimp only at hSw); go_simp; (try with_reducible rfl))
    simp only [Act.put, List.setIfInBounds_toArray, List.set_cons_zero, List.set_cons_succ]
    refine wpAnyH_take (i := 6) (oi := { dst := some 60, op := _, type := _, pos := _, after := _, guard := _ }) (v := ?vpa6) rfl (by kernel_rfl) (by kernel_rfl) (by kernel_rfl) (fun _ _ _ h => h) (Or.inl ⟨by rfl, ?hpa6⟩) (by assumption) ?_
    case hpa6 => (intro w hSw; (try dsimp only at hSw); go_simp; (try with_reducible rfl))
    simp only [Act.put, List.setIfInBounds_toArray, List.set_cons_zero, List.set_cons_succ]
    refine wpAnyH_take (i := 7) (oi := { dst := some 61, op := _, type := _, pos := _, after := _, guard := _ }) (v := ?vpa7) rfl (by kernel_rfl) (by kernel_rfl) (by kernel_rfl) (fun _ _ _ h => h) (Or.inl ⟨by rfl, ?hpa7⟩) (by assumption) ?_
    case hpa7 => (intro w hSw; (try dsimp only at hSw); go_simp; (try with_reducible rfl))
    simp only [Act.put, List.setIfInBounds_toArray, List.set_cons_zero, List.set_cons_succ]
    refine wpAnyH_take (i := 8) (oi := { dst := some 62, op := _, type := _, pos := _, after := _, guard := _ }) (v := ?vpa8) rfl (by kernel_rfl) (by kernel_rfl) (by kernel_rfl) (fun _ _ _ h => h) (Or.inl ⟨by rfl, ?hpa8⟩) (by assumption) ?_
    case hpa8 => (intro w hSw; (try dsimp only at hSw); go_simp; (try with_reducible rfl))
    simp only [Act.put, List.setIfInBounds_toArray, List.set_cons_zero, List.set_cons_succ]
    refine wpAnyH_take (i := 10) (oi := { dst := some 64, op := _, type := _, pos := _, after := _, guard := _ }) (v := ?vpa10) rfl (by kernel_rfl) (by kernel_rfl) (by kernel_rfl) (fun _ _ _ h => h) (Or.inl ⟨by rfl, ?hpa10⟩) (by assumption) ?_
    case hpa10 => (intro w hSw; (try dsimp only at hSw); go_simp; (try with_reducible rfl))
    simp only [Act.put, List.setIfInBounds_toArray, List.set_cons_zero, List.set_cons_succ]
    refine wpAnyH_ready (rs := [9]) (by kernel_rfl) (by simp) ?_
    refine AllReadyH.cons rfl (fun Kc hK => ?_) AllReadyH.nil
    go_simp
    go_at_call 23
    refine (implReach_at K ao cap' ts x y r _ hn (N5.out.next b0.out).ties (T5.out.below b0.out T5.out.2) HOK.out HKX.out HKY.out HR.out).mono ?_
    rintro e w6 ⟨g6, m6, cap6, rfl, hm6, r6, hb6⟩
    have b6 : Hid (Below w5.heap.size w5 w6) := hideP (b0.out.trans hb6)
    have hy6 : (y : Int) < (m6 : Int) := by omega
    clear hb6
    refine hK.out _ _ (HELD.out _ b6.out) (fun hHeld => ?_)
    clear hK Kc
    refine wpAnyH_more (S' := fun w' => w'.cell? ⟨w1.heap.size, 0, none⟩ = some (.int .i64 K) ∧ w'.cell? ⟨w1.heap.size, 1, none⟩ = some (.slice ao ts.length cap') ∧ w'.cell? ⟨g6, y, none⟩ = some (.bool r)) (fun _ h => ⟨h.1, h.2.1⟩) _ _ _ _ ?_
    clear hHeld
    have hHeld := (show (fun w' : World => w'.cell? ⟨w1.heap.size, 0, none⟩ = some (.int .i64 K) ∧ w'.cell? ⟨w1.heap.size, 1, none⟩ = some (.slice ao ts.length cap') ∧ w'.cell? ⟨g6, y, none⟩ = some (.bool r)) w6 from ⟨(HELD.out _ b6.out).1, (HELD.out _ b6.out).2, r6⟩)
    try simp only [Act.put, List.setIfInBounds_toArray, List.set_cons_zero, List.set_cons_succ]
    refine wpAnyH_take (i := 11) (oi := { dst := some 65, op := _, type := _, pos := _, after := _, guard := _ }) (v := ?vpa11) rfl (by kernel_rfl) (by kernel_rfl) (by kernel_rfl) (fun _ _ _ h => h) (Or.inl ⟨by rfl, ?hpa11⟩) (by assumption) ?_
    case hpa11 => (intro w hSw; (try dsimp only at hSw); go_simp; (try with_reducible rfl))
    simp only [Act.put, List.setIfInBounds_toArray, List.set_cons_zero, List.set_cons_succ]
    refine wpAnyH_take (i := 12) (oi := { dst := some 66, op := _, type := _, pos := _, after := _, guard := _ }) (v := ?vpa12) rfl (by kernel_rfl) (by kernel_rfl) (by kernel_rfl) (fun _ _ _ h => h) (Or.inl ⟨by rfl, ?hpa12⟩) (by assumption) ?_
    case hpa12 => (intro w hSw; (try dsimp only at hSw); go_simp; (try with_reducible rfl))
    simp only [Act.put, List.setIfInBounds_toArray, List.set_cons_zero, List.set_cons_succ]
    refine wpAnyH_take (i := 13) (oi := { dst := some 67, op := _, type := _, pos := _, after := _, guard := _ }) (v := ?vpa13) rfl (by kernel_rfl) (by kernel_rfl) (by kernel_rfl) (fun _ _ _ h => h) (Or.inl ⟨by rfl, ?hpa13⟩) (by assumption) ?_
    case hpa13 => (intro w hSw; (try dsimp only at hSw); go_simp; (try with_reducible rfl))
    simp only [Act.put, List.setIfInBounds_toArray, List.set_cons_zero, List.set_cons_succ]
    refine wpAnyH_take (i := 14) (oi := { dst := some 68, op := _, type := _, pos := _, after := _, guard := _ }) (v := ?vpa14) rfl (by kernel_rfl) (by kernel_rfl) (by kernel_rfl) (fun _ _ _ h => h) (Or.inl ⟨by rfl, ?hpa14⟩) (by assumption) ?_
    case hpa14 => (intro w hSw; (try dsimp only at hSw); go_simp; (try with_reducible rfl))
    simp only [Act.put, List.setIfInBounds_toArray, List.set_cons_zero, List.set_cons_succ]
    refine wpAnyH_take (i := 15) (oi := { dst := some 69, op := _, type := _, pos := _, after := _, guard := _ }) (v := ?vpa15) rfl (by kernel_rfl) (by kernel_rfl) (by kernel_rfl) (fun _ _ _ h => h) (Or.inl ⟨by rfl, ?hpa15⟩) (by assumption) ?_
    case hpa15 => (intro w hSw; (try dsimp only at hSw); go_simp; (try with_reducible rfl))
    simp only [Act.put, List.setIfInBounds_toArray, List.set_cons_zero, List.set_cons_succ]
    refine wpAnyH_take (i := 16) (oi := { dst := some 70, op := _, type := _, pos := _, after := _, guard := _ }) (v := ?vpa16) rfl (by kernel_rfl) (by kernel_rfl) (by kernel_rfl) (fun _ _ _ h => h) (Or.inl ⟨by rfl, ?hpa16⟩) (by assumption) ?_
    case hpa16 => (intro w hSw; (try dsimp only at hSw); go_simp; (try with_reducible rfl))
    simp only [Act.put, List.setIfInBounds_toArray, List.set_cons_zero, List.set_cons_succ]
    refine wpAnyH_take (i := 17) (oi := { dst := some 71, op := _, type := _, pos := _, after := _, guard := _ }) (v := ?vpa17) rfl (by kernel_rfl) (by kernel_rfl) (by kernel_rfl) (fun _ _ _ h => h) (Or.inl ⟨by rfl, ?hpa17⟩) (by assumption) ?_
    case hpa17 => (intro w hSw; (try dsimp only at hSw); go_simp; (try with_reducible rfl))
    simp only [Act.put, List.setIfInBounds_toArray, List.set_cons_zero, List.set_cons_succ]
    refine wpAnyH_take (i := 18) (oi := { dst := some 72, op := _, type := _, pos := _, after := _, guard := _ }) (v := ?vpa18) rfl (by kernel_rfl) (by kernel_rfl) (by kernel_rfl) (fun _ _ _ h => h) (Or.inl ⟨by rfl, ?hpa18⟩) (by assumption) ?_
    case hpa18 => (intro w hSw; (try dsimp only at hSw); go_simp; (try with_reducible rfl))
    simp only [Act.put, List.setIfInBounds_toArray, List.set_cons_zero, List.set_cons_succ]
    refine wpAnyH_take (i := 19) (oi := { dst := some 73, op := _, type := _, pos := _, after := _, guard := _ }) (v := ?vpa19) rfl (by kernel_rfl) (by kernel_rfl) (by kernel_rfl) (fun _ _ _ h => h) (Or.inl ⟨by rfl, ?hpa19⟩) (by assumption) ?_
    case hpa19 => (intro w hSw; (try dsimp only at hSw); go_simp; (try with_reducible rfl))
    simp only [Act.put, List.setIfInBounds_toArray, List.set_cons_zero, List.set_cons_succ]
    refine wpAnyH_take (i := 20) (oi := { dst := some 74, op := _, type := _, pos := _, after := _, guard := _ }) (v := undef) rfl (by kernel_rfl) (by kernel_rfl) (by kernel_rfl) (fun _ _ _ h => h) (Or.inr ⟨by rfl, rfl⟩) (by assumption) ?_
    simp only [Act.put, List.setIfInBounds_toArray, List.set_cons_zero, List.set_cons_succ]
    refine wpAnyH_take (i := 21) (oi := { dst := some 75, op := _, type := _, pos := _, after := _, guard := _ }) (v := undef) rfl (by kernel_rfl) (by kernel_rfl) (by kernel_rfl) (fun _ _ _ h => h) (Or.inr ⟨by rfl, rfl⟩) (by assumption) ?_
    simp only [Act.put, List.setIfInBounds_toArray, List.set_cons_zero, List.set_cons_succ]
    refine wpAnyH_take (i := 22) (oi := { dst := some 76, op := _, type := _, pos := _, after := _, guard := _ }) (v := undef) rfl (by kernel_rfl) (by kernel_rfl) (by kernel_rfl) (fun _ _ _ h => h) (Or.inr ⟨by rfl, rfl⟩) (by assumption) ?_
    simp only [Act.put, List.setIfInBounds_toArray, List.set_cons_zero, List.set_cons_succ]
    refine wpAnyH_take (i := 23) (oi := { dst := some 77, op := _, type := _, pos := _, after := _, guard := _ }) (v := undef) rfl (by kernel_rfl) (by kernel_rfl) (by kernel_rfl) (fun _ _ _ h => h) (Or.inr ⟨by rfl, rfl⟩) (by assumption) ?_
    simp only [Act.put, List.setIfInBounds_toArray, List.set_cons_zero, List.set_cons_succ]
    refine wpAnyH_take (i := 24) (oi := { dst := some 78, op := _, type := _, pos := _, after := _, guard := _ }) (v := undef) rfl (by kernel_rfl) (by kernel_rfl) (by kernel_rfl) (fun _ _ _ h => h) (Or.inr ⟨by rfl, rfl⟩) (by assumption) ?_
    simp only [Act.put, List.setIfInBounds_toArray, List.set_cons_zero, List.set_cons_succ]
    refine wpAnyH_take (i := 25) (oi := { dst := some 79, op := _, type := _, pos := _, after := _, guard := _ }) (v := undef) rfl (by kernel_rfl) (by kernel_rfl) (by kernel_rfl) (fun _ _ _ h => h) (Or.inr ⟨by rfl, rfl⟩) (by assumption) ?_
    simp only [Act.put, List.setIfInBounds_toArray, List.set_cons_zero, List.set_cons_succ]
    refine wpAnyH_take (i := 26) (oi := { dst := some 80, op := _, type := _, pos := _, after := _, guard := _ }) (v := undef) rfl (by kernel_rfl) (by kernel_rfl) (by kernel_rfl) (fun _ _ _ h => h) (Or.inr ⟨by rfl, rfl⟩) (by assumption) ?_
    simp only [Act.put, List.setIfInBounds_toArray, List.set_cons_zero, List.set_cons_succ]
    refine wpAnyH_take (i := 27) (oi := { dst := some 81, op := _, type := _, pos := _, after := _, guard := _ }) (v := undef) rfl (by kernel_rfl) (by kernel_rfl) (by kernel_rfl) (fun _ _ _ h => h) (Or.inr ⟨by rfl, rfl⟩) (by assumption) ?_
    simp only [Act.put, List.setIfInBounds_toArray, List.set_cons_zero, List.set_cons_succ]
    refine wpAnyH_take (i := 28) (oi := { dst := some 82, op := _, type := _, pos := _, after := _, guard := _ }) (v := undef) rfl (by kernel_rfl) (by kernel_rfl) (by kernel_rfl) (fun _ _ _ h => h) (Or.inr ⟨by rfl, rfl⟩) (by assumption) ?_
    simp only [Act.put, List.setIfInBounds_toArray, List.set_cons_zero, List.set_cons_succ]
    refine wpAnyH_take (i := 29) (oi := { dst := some 83, op := _, type := _, pos := _, after := _, guard := _ }) (v := undef) rfl (by kernel_rfl) (by kernel_rfl) (by kernel_rfl) (fun _ _ _ h => h) (Or.inr ⟨by rfl, rfl⟩) (by assumption) ?_
    simp only [Act.put, List.setIfInBounds_toArray, List.set_cons_zero, List.set_cons_succ]
    refine wpAnyH_take (i := 30) (oi := { dst := some 84, op := _, type := _, pos := _, after := _, guard := _ }) (v := ?vpa30) rfl (by kernel_rfl) (by kernel_rfl) (by kernel_rfl) (fun _ _ _ h => h) (Or.inl ⟨by rfl, ?hpa30⟩) (by assumption) ?_
    case hpa30 => (intro w hSw; (try dsimp only at hSw); go_simp; (try with_reducible rfl))
    simp only [Act.put, List.setIfInBounds_toArray, List.set_cons_zero, List.set_cons_succ]
    refine wpAnyH_take (i := 31) (oi := { dst := some 85, op := _, type := _, pos := _, after := _, guard := _ }) (v := ?vpa31) rfl (by kernel_rfl) (by kernel_rfl) (by kernel_rfl) (fun _ _ _ h => h) (Or.inl ⟨by rfl, ?hpa31⟩) (by assumption) ?_
    case hpa31 => (intro w hSw; (try dsimp only at hSw); go_simp; (try with_reducible rfl))
    simp only [Act.put, List.setIfInBounds_toArray, List.set_cons_zero, List.set_cons_succ]
    refine wpAnyH_take (i := 32) (oi := { dst := some 2, op := _, type := _, pos := _, after := _, guard := _ }) (v := ?vpa32) rfl (by kernel_rfl) (by kernel_rfl) (by kernel_rfl) (fun _ _ _ h => h) (Or.inl ⟨by rfl, ?hpa32⟩) (by assumption) ?_
    case hpa32 => (intro w hSw; (try dsimp only at hSw); go_simp; (try with_reducible rfl))
    simp only [Act.put, List.setIfInBounds_toArray, List.set_cons_zero, List.set_cons_succ]
    refine wpAnyH_done (by kernel_rfl) ?_ _
    have HB6 := hideP (HB5.out.trans (b6.out.mono HB5.out.size))
    go_wp2
    go_ret
    exact ⟨rfl, HB6.out⟩
  | some t =>
    obtain ⟨p, q⟩ := t
    have hAV := hideP (apV_some hap)
    have hU := HC.out _ hap
    rw [hap] at h1
    have e1 : (V == 1) = true := by rw [beq_iff_eq]; exact h1.2 rfl
    have e2 : (p == p) = true := by simp
    have e3 : (q == q) = true := by simp
    subst hU
    clear hap h1
    go_wp2_with fail
    refine (implApart_any K ao cap' ts _ _ _ hn N3.out.ties T3.out).mono ?_
    rw [hAV.out]
    rintro e w4 ⟨rfl, hb4⟩
    have bo4 := below_one w4 (.cells #[.int .i64 p, .int .i64 q] 35)
    have N4 := hideP ((N3.out.next hb4).next bo4)
    have HB4 := hideP ((HB3.out.trans (hb4.mono HB3.out.size)).trans (bo4.mono (HB3.out.trans (hb4.mono HB3.out.size)).size))
    have T4 := hideP ((T3.out.below hb4 T3.out.2).below bo4 (T3.out.below hb4 T3.out.2).2)
    have t0 : (w4.alloc (.cells #[.int .i64 p, .int .i64 q] 35)).cell? ⟨w4.heap.size, 0, none⟩ = some (.int .i64 p) := by simp
    have t1 : (w4.alloc (.cells #[.int .i64 p, .int .i64 q] 35)).cell? ⟨w4.heap.size, 1, none⟩ = some (.int .i64 q) := by simp
    have tl : w4.heap.size < (w4.alloc (.cells #[.int .i64 p, .int .i64 q] 35)).heap.size := by simp
    clear hb4 bo4 N3 HB3 T3 c0 c1
    have c0 := N4.out.c0
    have c1 := N4.out.c1
    go_wp2_with fail
    refine (implCut_v true [(p, q)] K ao cap' ts _ _ _ hn N4.out.ties T4.out HTW.out HUS.out).mono ?_
    rintro e w5 ⟨xo, xcap, rfl, x5, hb5⟩
    have N5 := hideP (N4.out.next hb5)
    have HB5 := hideP (HB4.out.trans (hb5.mono HB4.out.size))
    have T5 := hideP (T4.out.below hb5 T4.out.2)
    have t0' := (hb5.cell (p := ⟨w4.heap.size, 0, none⟩) tl).trans t0
    have t1' := (hb5.cell (p := ⟨w4.heap.size, 1, none⟩) tl).trans t1
    have tl' := Nat.lt_of_lt_of_le tl hb5.size
    obtain ⟨gx, ox, rfl, hgx, l0, l1⟩ := x5 0 (by simp)
    have l0 : w5.cell? ⟨gx, ox, none⟩ = some (.int .i64 p) := by simpa [tA] using l0
    have l1 : w5.cell? ⟨gx, ox + 1, none⟩ = some (.int .i64 q) := by simpa [tB] using l1
    clear hb5 N4 HB4 T4 c0 c1 x5 t0 t1 tl
    have c0 := N5.out.c0
    have c1 := N5.out.c1
    have b0 : Hid (Below w5.heap.size w5 w5.drew) := hideP (Below.refl _ _).drew
    have HELD : Hid (∀ W, Below w5.heap.size w5 W → W.cell? ⟨w1.heap.size, 0, none⟩ = some (.int .i64 K) ∧ W.cell? ⟨w1.heap.size, 1, none⟩ = some (.slice ao ts.length cap') ∧ W.cell? ⟨w4.heap.size, 0, none⟩ = some (.int .i64 p) ∧ W.cell? ⟨w4.heap.size, 1, none⟩ = some (.int .i64 q) ∧ W.cell? ⟨gx, ox, none⟩ = some (.int .i64 p) ∧ W.cell? ⟨gx, ox + 1, none⟩ = some (.int .i64 q)) := hideP (fun W hb => ⟨(N5.out.next hb).c0, (N5.out.next hb).c1, (hb.cell (p := ⟨w4.heap.size, 0, none⟩) tl').trans t0', (hb.cell (p := ⟨w4.heap.size, 1, none⟩) tl').trans t1', (hb.cell (p := ⟨gx, ox, none⟩) hgx).trans l0, (hb.cell (p := ⟨gx, ox + 1, none⟩) hgx).trans l1⟩)
    clear t0' t1' l0 l1 c0 c1
    go_wp2
    refine wp_region_held_drew (S := fun w' => w'.cell? ⟨w1.heap.size, 0, none⟩ = some (.int .i64 K) ∧ w'.cell? ⟨w1.heap.size, 1, none⟩ = some (.slice ao ts.length cap') ∧ w'.cell? ⟨w4.heap.size, 0, none⟩ = some (.int .i64 p) ∧ w'.cell? ⟨w4.heap.size, 1, none⟩ = some (.int .i64 q) ∧ w'.cell? ⟨gx, ox, none⟩ = some (.int .i64 p) ∧ w'.cell? ⟨gx, ox + 1, none⟩ = some (.int .i64 q)) (by kernel_rfl) (HELD.out _ b0.out) (fun hHeld => ?_)
    refine wpAnyH_take (i := 0) (oi := { dst := some 54, op := _, type := _, pos := _, after := _, guard := _ }) (v := ?vpb0) rfl (by kernel_rfl) (by kernel_rfl) (by kernel_rfl) (fun _ _ _ h => h) (Or.inl ⟨by rfl, ?hpb0⟩) (by assumption) ?_
    case hpb0 => (intro w hSw; (try dsimp only at hSw); go_simp; (try with_reducible rfl))
    simp only [Act.put, List.setIfInBounds_toArray, List.set_cons_zero, List.set_cons_succ]
    refine wpAnyH_take (i := 1) (oi := { dst := some 55, op := _, type := _, pos := _, after := _, guard := _ }) (v := ?vpb1) rfl (by kernel_rfl) (by kernel_rfl) (by kernel_rfl) (fun _ _ _ h => h) (Or.inl ⟨by rfl, ?hpb1⟩) (by assumption) ?_
    case hpb1 => (intro w hSw; (try dsimp only at hSw); go_simp; (try with_reducible rfl))
    simp only [Act.put, List.setIfInBounds_toArray, List.set_cons_zero, List.set_cons_succ]
    refine wpAnyH_take (i := 2) (oi := { dst := some 56, op := _, type := _, pos := _, after := _, guard := _ }) (v := ?vpb2) rfl (by kernel_rfl) (by kernel_rfl) (by kernel_rfl) (fun _ _ _ h => h) (Or.inl ⟨by rfl, ?hpb2⟩) (by assumption) ?_
    case hpb2 => (intro w hSw; (try dsimp only at hSw); go_simp; (try with_reducible rfl))
    simp only [Act.put, List.setIfInBounds_toArray, List.set_cons_zero, List.set_cons_succ]
    refine wpAnyH_take (i := 3) (oi := { dst := some 57, op := _, type := _, pos := _, after := _, guard := _ }) (v := ?vpb3) rfl (by kernel_rfl) (by kernel_rfl) (by kernel_rfl) (fun _ _ _ h => h) (Or.inl ⟨by rfl, ?hpb3⟩) (by assumption) ?_
    case hpb3 => (intro w hSw; (try dsimp only at hSw); go_simp; (try with_reducible rfl))
    simp only [Act.put, List.setIfInBounds_toArray, List.set_cons_zero, List.set_cons_succ]
    refine wpAnyH_take (i := 4) (oi := { dst := some 58, op := _, type := _, pos := _, after := _, guard := _ }) (v := ?vpb4) rfl (by kernel_rfl) (by kernel_rfl) (by kernel_rfl) (fun _ _ _ h => h) (Or.inl ⟨by rfl, ?hpb4⟩) (by assumption) ?_
    case hpb4 => (intro w hSw; (try dsimp only at hSw); go_simp; (try with_reducible rfl))
    simp only [Act.put, List.setIfInBounds_toArray, List.set_cons_zero, List.set_cons_succ]
    refine wpAnyH_take (i := 5) (oi := { dst := some 59, op := _, type := _, pos := _, after := _, guard := _ }) (v := ?vpb5) rfl (by kernel_rfl) (by kernel_rfl) (by kernel_rfl) (fun _ _ _ h => h) (Or.inl ⟨by rfl, ?hpb5⟩) (by assumption) ?_
    case hpb5 => (intro w hSw; (try dsimp only at hSw); go_simp; (try with_reducible rfl))
    simp only [Act.put, List.setIfInBounds_toArray, List.set_cons_zero, List.set_cons_succ]
    refine wpAnyH_take (i := 6) (oi := { dst := some 60, op := _, type := _, pos := _, after := _, guard := _ }) (v := ?vpb6) rfl (by kernel_rfl) (by kernel_rfl) (by kernel_rfl) (fun _ _ _ h => h) (Or.inl ⟨by rfl, ?hpb6⟩) (by assumption) ?_
    case hpb6 => (intro w hSw; (try dsimp only at hSw); go_simp; (try with_reducible rfl))
    simp only [Act.put, List.setIfInBounds_toArray, List.set_cons_zero, List.set_cons_succ]
    refine wpAnyH_take (i := 7) (oi := { dst := some 61, op := _, type := _, pos := _, after := _, guard := _ }) (v := ?vpb7) rfl (by kernel_rfl) (by kernel_rfl) (by kernel_rfl) (fun _ _ _ h => h) (Or.inl ⟨by rfl, ?hpb7⟩) (by assumption) ?_
    case hpb7 => (intro w hSw; (try dsimp only at hSw); go_simp; (try with_reducible rfl))
    simp only [Act.put, List.setIfInBounds_toArray, List.set_cons_zero, List.set_cons_succ]
    refine wpAnyH_take (i := 8) (oi := { dst := some 62, op := _, type := _, pos := _, after := _, guard := _ }) (v := ?vpb8) rfl (by kernel_rfl) (by kernel_rfl) (by kernel_rfl) (fun _ _ _ h => h) (Or.inl ⟨by rfl, ?hpb8⟩) (by assumption) ?_
    case hpb8 => (intro w hSw; (try dsimp only at hSw); go_simp; (try with_reducible rfl))
    simp only [Act.put, List.setIfInBounds_toArray, List.set_cons_zero, List.set_cons_succ]
    refine wpAnyH_take (i := 10) (oi := { dst := some 64, op := _, type := _, pos := _, after := _, guard := _ }) (v := ?vpb10) rfl (by kernel_rfl) (by kernel_rfl) (by kernel_rfl) (fun _ _ _ h => h) (Or.inl ⟨by rfl, ?hpb10⟩) (by assumption) ?_
    case hpb10 => (intro w hSw; (try dsimp only at hSw); go_simp; (try with_reducible rfl))
    simp only [Act.put, List.setIfInBounds_toArray, List.set_cons_zero, List.set_cons_succ]
    refine wpAnyH_ready (rs := [9]) (by kernel_rfl) (by simp) ?_
    refine AllReadyH.cons rfl (fun Kc hK => ?_) AllReadyH.nil
    go_simp
    go_at_call 23
    refine (implReach_at K ao cap' ts x y r _ hn (N5.out.next b0.out).ties (T5.out.below b0.out T5.out.2) HOK.out HKX.out HKY.out HR.out).mono ?_
    rintro e w6 ⟨g6, m6, cap6, rfl, hm6, r6, hb6⟩
    have b6 : Hid (Below w5.heap.size w5 w6) := hideP (b0.out.trans hb6)
    have hy6 : (y : Int) < (m6 : Int) := by omega
    clear hb6
    refine hK.out _ _ (HELD.out _ b6.out) (fun hHeld => ?_)
    clear hK Kc
    refine wpAnyH_more (S' := fun w' => w'.cell? ⟨w1.heap.size, 0, none⟩ = some (.int .i64 K) ∧ w'.cell? ⟨w1.heap.size, 1, none⟩ = some (.slice ao ts.length cap') ∧ w'.cell? ⟨w4.heap.size, 0, none⟩ = some (.int .i64 p) ∧ w'.cell? ⟨w4.heap.size, 1, none⟩ = some (.int .i64 q) ∧ w'.cell? ⟨gx, ox, none⟩ = some (.int .i64 p) ∧ w'.cell? ⟨gx, ox + 1, none⟩ = some (.int .i64 q) ∧ w'.cell? ⟨g6, y, none⟩ = some (.bool r)) (fun _ h => ⟨h.1, h.2.1, h.2.2.1, h.2.2.2.1, h.2.2.2.2.1, h.2.2.2.2.2.1⟩) _ _ _ _ ?_
    clear hHeld
    have hHeld := (show (fun w' : World => w'.cell? ⟨w1.heap.size, 0, none⟩ = some (.int .i64 K) ∧ w'.cell? ⟨w1.heap.size, 1, none⟩ = some (.slice ao ts.length cap') ∧ w'.cell? ⟨w4.heap.size, 0, none⟩ = some (.int .i64 p) ∧ w'.cell? ⟨w4.heap.size, 1, none⟩ = some (.int .i64 q) ∧ w'.cell? ⟨gx, ox, none⟩ = some (.int .i64 p) ∧ w'.cell? ⟨gx, ox + 1, none⟩ = some (.int .i64 q) ∧ w'.cell? ⟨g6, y, none⟩ = some (.bool r)) w6 from ⟨(HELD.out _ b6.out).1, (HELD.out _ b6.out).2.1, (HELD.out _ b6.out).2.2.1, (HELD.out _ b6.out).2.2.2.1, (HELD.out _ b6.out).2.2.2.2.1, (HELD.out _ b6.out).2.2.2.2.2, r6⟩)
    try simp only [Act.put, List.setIfInBounds_toArray, List.set_cons_zero, List.set_cons_succ]
    refine wpAnyH_take (i := 11) (oi := { dst := some 65, op := _, type := _, pos := _, after := _, guard := _ }) (v := ?vpb11) rfl (by kernel_rfl) (by kernel_rfl) (by kernel_rfl) (fun _ _ _ h => h) (Or.inl ⟨by rfl, ?hpb11⟩) (by assumption) ?_
    case hpb11 => (intro w hSw; (try dsimp only at hSw); go_simp; (try with_reducible rfl))
    simp only [Act.put, List.setIfInBounds_toArray, List.set_cons_zero, List.set_cons_succ]
    refine wpAnyH_take (i := 12) (oi := { dst := some 66, op := _, type := _, pos := _, after := _, guard := _ }) (v := ?vpb12) rfl (by kernel_rfl) (by kernel_rfl) (by kernel_rfl) (fun _ _ _ h => h) (Or.inl ⟨by rfl, ?hpb12⟩) (by assumption) ?_
    case hpb12 => (intro w hSw; (try dsimp only at hSw); go_simp; (try with_reducible rfl))
    simp only [Act.put, List.setIfInBounds_toArray, List.set_cons_zero, List.set_cons_succ]
    refine wpAnyH_take (i := 13) (oi := { dst := some 67, op := _, type := _, pos := _, after := _, guard := _ }) (v := ?vpb13) rfl (by kernel_rfl) (by kernel_rfl) (by kernel_rfl) (fun _ _ _ h => h) (Or.inl ⟨by rfl, ?hpb13⟩) (by assumption) ?_
    case hpb13 => (intro w hSw; (try dsimp only at hSw); go_simp; (try with_reducible rfl))
    simp only [Act.put, List.setIfInBounds_toArray, List.set_cons_zero, List.set_cons_succ]
    refine wpAnyH_take (i := 14) (oi := { dst := some 68, op := _, type := _, pos := _, after := _, guard := _ }) (v := ?vpb14) rfl (by kernel_rfl) (by kernel_rfl) (by kernel_rfl) (fun _ _ _ h => h) (Or.inl ⟨by rfl, ?hpb14⟩) (by assumption) ?_
    case hpb14 => (intro w hSw; (try dsimp only at hSw); go_simp; (try with_reducible rfl))
    simp only [Act.put, List.setIfInBounds_toArray, List.set_cons_zero, List.set_cons_succ]
    refine wpAnyH_take (i := 15) (oi := { dst := some 69, op := _, type := _, pos := _, after := _, guard := _ }) (v := ?vpb15) rfl (by kernel_rfl) (by kernel_rfl) (by kernel_rfl) (fun _ _ _ h => h) (Or.inl ⟨by rfl, ?hpb15⟩) (by assumption) ?_
    case hpb15 => (intro w hSw; (try dsimp only at hSw); go_simp; (try with_reducible rfl))
    simp only [Act.put, List.setIfInBounds_toArray, List.set_cons_zero, List.set_cons_succ]
    refine wpAnyH_take (i := 16) (oi := { dst := some 70, op := _, type := _, pos := _, after := _, guard := _ }) (v := ?vpb16) rfl (by kernel_rfl) (by kernel_rfl) (by kernel_rfl) (fun _ _ _ h => h) (Or.inl ⟨by rfl, ?hpb16⟩) (by assumption) ?_
    case hpb16 => (intro w hSw; (try dsimp only at hSw); go_simp; (try with_reducible rfl))
    simp only [Act.put, List.setIfInBounds_toArray, List.set_cons_zero, List.set_cons_succ]
    refine wpAnyH_take (i := 17) (oi := { dst := some 71, op := _, type := _, pos := _, after := _, guard := _ }) (v := ?vpb17) rfl (by kernel_rfl) (by kernel_rfl) (by kernel_rfl) (fun _ _ _ h => h) (Or.inl ⟨by rfl, ?hpb17⟩) (by assumption) ?_
    case hpb17 => (intro w hSw; (try dsimp only at hSw); go_simp; (try with_reducible rfl))
    simp only [Act.put, List.setIfInBounds_toArray, List.set_cons_zero, List.set_cons_succ]
    refine wpAnyH_take (i := 18) (oi := { dst := some 72, op := _, type := _, pos := _, after := _, guard := _ }) (v := ?vpb18) rfl (by kernel_rfl) (by kernel_rfl) (by kernel_rfl) (fun _ _ _ h => h) (Or.inl ⟨by rfl, ?hpb18⟩) (by assumption) ?_
    case hpb18 => (intro w hSw; (try dsimp only at hSw); go_simp; (try with_reducible rfl))
    simp only [Act.put, List.setIfInBounds_toArray, List.set_cons_zero, List.set_cons_succ]
    refine wpAnyH_take (i := 19) (oi := { dst := some 73, op := _, type := _, pos := _, after := _, guard := _ }) (v := ?vpb19) rfl (by kernel_rfl) (by kernel_rfl) (by kernel_rfl) (fun _ _ _ h => h) (Or.inl ⟨by rfl, ?hpb19⟩) (by assumption) ?_
    case hpb19 => (intro w hSw; (try dsimp only at hSw); go_simp; (try with_reducible rfl))
    simp only [Act.put, List.setIfInBounds_toArray, List.set_cons_zero, List.set_cons_succ]
    refine wpAnyH_take (i := 20) (oi := { dst := some 74, op := _, type := _, pos := _, after := _, guard := _ }) (v := ?vpb20) rfl (by kernel_rfl) (by kernel_rfl) (by kernel_rfl) (fun _ _ _ h => h) (Or.inl ⟨by rfl, ?hpb20⟩) (by assumption) ?_
    case hpb20 => (intro w hSw; (try dsimp only at hSw); go_simp; (try with_reducible rfl))
    simp only [Act.put, List.setIfInBounds_toArray, List.set_cons_zero, List.set_cons_succ]
    refine wpAnyH_take (i := 21) (oi := { dst := some 75, op := _, type := _, pos := _, after := _, guard := _ }) (v := ?vpb21) rfl (by kernel_rfl) (by kernel_rfl) (by kernel_rfl) (fun _ _ _ h => h) (Or.inl ⟨by rfl, ?hpb21⟩) (by assumption) ?_
    case hpb21 => (intro w hSw; (try dsimp only at hSw); go_simp; (try with_reducible rfl))
    simp only [Act.put, List.setIfInBounds_toArray, List.set_cons_zero, List.set_cons_succ]
    refine wpAnyH_take (i := 22) (oi := { dst := some 76, op := _, type := _, pos := _, after := _, guard := _ }) (v := ?vpb22) rfl (by kernel_rfl) (by kernel_rfl) (by kernel_rfl) (fun _ _ _ h => h) (Or.inl ⟨by rfl, ?hpb22⟩) (by assumption) ?_
    case hpb22 => (intro w hSw; (try dsimp only at hSw); go_simp; (try with_reducible rfl))
    simp only [Act.put, List.setIfInBounds_toArray, List.set_cons_zero, List.set_cons_succ]
    refine wpAnyH_take (i := 23) (oi := { dst := some 77, op := _, type := _, pos := _, after := _, guard := _ }) (v := ?vpb23) rfl (by kernel_rfl) (by kernel_rfl) (by kernel_rfl) (fun _ _ _ h => h) (Or.inl ⟨by rfl, ?hpb23⟩) (by assumption) ?_
    case hpb23 => (intro w hSw; (try dsimp only at hSw); go_simp; (try with_reducible rfl))
    simp only [Act.put, List.setIfInBounds_toArray, List.set_cons_zero, List.set_cons_succ]
    refine wpAnyH_take (i := 24) (oi := { dst := some 78, op := _, type := _, pos := _, after := _, guard := _ }) (v := ?vpb24) rfl (by kernel_rfl) (by kernel_rfl) (by kernel_rfl) (fun _ _ _ h => h) (Or.inl ⟨by rfl, ?hpb24⟩) (by assumption) ?_
    case hpb24 => (intro w hSw; (try dsimp only at hSw); go_simp; (try with_reducible rfl))
    simp only [Act.put, List.setIfInBounds_toArray, List.set_cons_zero, List.set_cons_succ]
    refine wpAnyH_take (i := 25) (oi := { dst := some 79, op := _, type := _, pos := _, after := _, guard := _ }) (v := ?vpb25) rfl (by kernel_rfl) (by kernel_rfl) (by kernel_rfl) (fun _ _ _ h => h) (Or.inl ⟨by rfl, ?hpb25⟩) (by assumption) ?_
    case hpb25 => (intro w hSw; (try dsimp only at hSw); go_simp; (try with_reducible rfl))
    simp only [Act.put, List.setIfInBounds_toArray, List.set_cons_zero, List.set_cons_succ]
    refine wpAnyH_take (i := 26) (oi := { dst := some 80, op := _, type := _, pos := _, after := _, guard := _ }) (v := ?vpb26) rfl (by kernel_rfl) (by kernel_rfl) (by kernel_rfl) (fun _ _ _ h => h) (Or.inl ⟨by rfl, ?hpb26⟩) (by assumption) ?_
    case hpb26 => (intro w hSw; (try dsimp only at hSw); go_simp; (try with_reducible rfl))
    simp only [Act.put, List.setIfInBounds_toArray, List.set_cons_zero, List.set_cons_succ]
    refine wpAnyH_take (i := 27) (oi := { dst := some 81, op := _, type := _, pos := _, after := _, guard := _ }) (v := ?vpb27) rfl (by kernel_rfl) (by kernel_rfl) (by kernel_rfl) (fun _ _ _ h => h) (Or.inl ⟨by rfl, ?hpb27⟩) (by assumption) ?_
    case hpb27 => (intro w hSw; (try dsimp only at hSw); go_simp; (try with_reducible rfl))
    simp only [Act.put, List.setIfInBounds_toArray, List.set_cons_zero, List.set_cons_succ]
    refine wpAnyH_take (i := 28) (oi := { dst := some 82, op := _, type := _, pos := _, after := _, guard := _ }) (v := ?vpb28) rfl (by kernel_rfl) (by kernel_rfl) (by kernel_rfl) (fun _ _ _ h => h) (Or.inl ⟨by rfl, ?hpb28⟩) (by assumption) ?_
    case hpb28 => (intro w hSw; (try dsimp only at hSw); go_simp; (try with_reducible rfl))
    simp only [Act.put, List.setIfInBounds_toArray, List.set_cons_zero, List.set_cons_succ]
    refine wpAnyH_take (i := 29) (oi := { dst := some 83, op := _, type := _, pos := _, after := _, guard := _ }) (v := ?vpb29) rfl (by kernel_rfl) (by kernel_rfl) (by kernel_rfl) (fun _ _ _ h => h) (Or.inl ⟨by rfl, ?hpb29⟩) (by assumption) ?_
    case hpb29 => (intro w hSw; (try dsimp only at hSw); go_simp; (try with_reducible rfl))
    simp only [Act.put, List.setIfInBounds_toArray, List.set_cons_zero, List.set_cons_succ]
    refine wpAnyH_take (i := 30) (oi := { dst := some 84, op := _, type := _, pos := _, after := _, guard := _ }) (v := ?vpb30) rfl (by kernel_rfl) (by kernel_rfl) (by kernel_rfl) (fun _ _ _ h => h) (Or.inl ⟨by rfl, ?hpb30⟩) (by assumption) ?_
    case hpb30 => (intro w hSw; (try dsimp only at hSw); go_simp; (try with_reducible rfl))
    simp only [Act.put, List.setIfInBounds_toArray, List.set_cons_zero, List.set_cons_succ]
    refine wpAnyH_take (i := 31) (oi := { dst := some 85, op := _, type := _, pos := _, after := _, guard := _ }) (v := ?vpb31) rfl (by kernel_rfl) (by kernel_rfl) (by kernel_rfl) (fun _ _ _ h => h) (Or.inl ⟨by rfl, ?hpb31⟩) (by assumption) ?_
    case hpb31 => (intro w hSw; (try dsimp only at hSw); go_simp; (try with_reducible rfl))
    simp only [Act.put, List.setIfInBounds_toArray, List.set_cons_zero, List.set_cons_succ]
    refine wpAnyH_take (i := 32) (oi := { dst := some 2, op := _, type := _, pos := _, after := _, guard := _ }) (v := ?vpb32) rfl (by kernel_rfl) (by kernel_rfl) (by kernel_rfl) (fun _ _ _ h => h) (Or.inl ⟨by rfl, ?hpb32⟩) (by assumption) ?_
    case hpb32 => (intro w hSw; (try dsimp only at hSw); go_simp; (try with_reducible rfl))
    simp only [Act.put, List.setIfInBounds_toArray, List.set_cons_zero, List.set_cons_succ]
    refine wpAnyH_done (by kernel_rfl) ?_ _
    have HB6 := hideP (HB5.out.trans (b6.out.mono HB5.out.size))
    go_wp2
    go_ret
    exact ⟨rfl, HB6.out⟩

end Go.Proofs.YtmkbeiiifikbgaaDoor

/- Walk of laws.FnBridgeApart: it returns true. -/
namespace Go.Proofs.YtmkbeiiifikbgaaDoor
open Go.RowKit
set_option linter.unusedVariables false

theorem implBridge_y (v : Bool) (K : Int) (ao : Option Addr) (cap : Nat) (ts : List (Int × Int)) (a b : Int) (w : World) (hn : ts.length ≤ 1099511627776) (ht : TiesIn w w.heap.size ao ts) (h : bridgeB K ts a b = v) :
    Calls Tryd.prog 22 #[.agg #[.int .i64 K, .slice ao ts.length cap], .int .i64 a, .int .i64 b] w fun e w' => e = .returned (.bool v) ∧ Below w.heap.size w w' := by
  rw [← h]; exact implBridge_any K ao cap ts a b w hn ht
set_option maxHeartbeats 3200000 in
theorem bridgeApart_walk (bo0 : Option Addr) (n0 cap0 : Nat) (w : World) (hb : BytesIn w bo0 n0) (hnil : bo0 = none → n0 = 0 ∧ cap0 = 0) (hc : n0 ≤ cap0) (hm : cap0 ≤ maxLen) (hT : Tab w) :
    Calls Tryd.prog 4 #[.slice bo0 n0 cap0] w fun e w' => e = .returned (.bool true) ∧ Below w.heap.size w w' := by
  have hn0' : n0 ≤ 9223372036854775807 := by unfold maxLen at hm; omega
  by_cases hl : 1048576 < n0
  · have hl' : (1048576 : Int) < (n0 : Int) := by omega
    have hl2 : decide (1048576 < (n0 : Int)) = true := by simp; omega
    go_enter Tryd.func4, Tryd.ntmps4
    go_wp2
    go_ret
    exact ⟨rfl, Below.refl _ _⟩
  have hl' : decide ((1048576 : Int) < (n0 : Int)) = false := by simp; omega
  go_enter Tryd.func4, Tryd.ntmps4
  go_wp2_with fail
  refine (drawBridgeApart_any bo0 n0 cap0 _ hb hnil hc hm).mono ?_
  rintro e w1 ⟨K, ao, cap', ts, a, b, rfl, D1⟩
  have hn : ts.length ≤ 1099511627776 := by have := D1.short; omega
  have HB1 := hideP (D1.bel.trans ((below_one w1 (.cells #[.int .i64 K, .slice ao ts.length cap'] 25)).mono D1.bel.size))
  have N1 := hideP (NetV.new (K := K) (cap := cap') 25 (D1.own.ties (Nat.le_refl _)))
  have T1 := hideP (hT.below HB1.out hT.2)
  clear D1 hT
  obtain ⟨V, hV⟩ : ∃ V, countI K ts a b = V := ⟨_, rfl⟩
  have HV := hideP hV
  have hca := count_apart K ts a b
  rw [hV] at hca
  obtain ⟨P1, P2, Q, hQ⟩ : ∃ P1 P2 Q, apV K ts a b = .tuple #[.agg #[.int .i64 P1, .int .i64 P2], .bool Q] := ⟨_, _, _, rfl⟩
  have HQ := hideP hQ
  have e1 : (P1 == P1) = true := by simp
  have e2 : (P2 == P2) = true := by simp
  have e3 : (Q != Q) = false := by simp
  clear hV hQ
  go_wp2_with fail
  refine (specApart_any K ao cap' ts a b _ hn N1.out.ties).mono ?_
  rw [HQ.out]
  rintro e w2 ⟨rfl, hb2⟩
  have bo2 := below_one w2 (.cells #[.int .i64 P1, .int .i64 P2] 35)
  have N2 := hideP ((N1.out.next hb2).next bo2)
  have HB2 := hideP ((HB1.out.trans (hb2.mono HB1.out.size)).trans (bo2.mono (HB1.out.trans (hb2.mono HB1.out.size)).size))
  have T2 := hideP ((T1.out.below hb2 T1.out.2).below bo2 (T1.out.below hb2 T1.out.2).2)
  have p0 : (w2.alloc (.cells #[.int .i64 P1, .int .i64 P2] 35)).cell? ⟨w2.heap.size, 0, none⟩ = some (.int .i64 P1) := by simp
  have p1 : (w2.alloc (.cells #[.int .i64 P1, .int .i64 P2] 35)).cell? ⟨w2.heap.size, 1, none⟩ = some (.int .i64 P2) := by simp
  have pl : w2.heap.size < (w2.alloc (.cells #[.int .i64 P1, .int .i64 P2] 35)).heap.size := by simp
  clear hb2 bo2 N1 HB1 T1
  have c0 := N2.out.c0
  have c1 := N2.out.c1
  go_wp2_with fail
  refine (implApart_any K ao cap' ts a b _ hn N2.out.ties T2.out).mono ?_
  rw [HQ.out]
  rintro e w3 ⟨rfl, hb3⟩
  have bo3 := below_one w3 (.cells #[.int .i64 P1, .int .i64 P2] 35)
  have N3 := hideP ((N2.out.next hb3).next bo3)
  have HB3 := hideP ((HB2.out.trans (hb3.mono HB2.out.size)).trans (bo3.mono (HB2.out.trans (hb3.mono HB2.out.size)).size))
  have T3 := hideP ((T2.out.below hb3 T2.out.2).below bo3 (T2.out.below hb3 T2.out.2).2)
  have q0 := (bo3.cell (p := ⟨w2.heap.size, 0, none⟩) (Nat.lt_of_lt_of_le pl hb3.size)).trans ((hb3.cell (p := ⟨w2.heap.size, 0, none⟩) pl).trans p0)
  have q1 := (bo3.cell (p := ⟨w2.heap.size, 1, none⟩) (Nat.lt_of_lt_of_le pl hb3.size)).trans ((hb3.cell (p := ⟨w2.heap.size, 1, none⟩) pl).trans p1)
  have u0 : (w3.alloc (.cells #[.int .i64 P1, .int .i64 P2] 35)).cell? ⟨w3.heap.size, 0, none⟩ = some (.int .i64 P1) := by simp
  have u1 : (w3.alloc (.cells #[.int .i64 P1, .int .i64 P2] 35)).cell? ⟨w3.heap.size, 1, none⟩ = some (.int .i64 P2) := by simp
  have ul : w3.heap.size < (w3.alloc (.cells #[.int .i64 P1, .int .i64 P2] 35)).heap.size := by simp
  clear hb3 bo3 N2 HB2 T2 c0 c1 p0 p1 pl
  have c0 := N3.out.c0
  have c1 := N3.out.c1
  have cl := N3.out.lt
  cases hap : apT K ts a b with
  | none =>
    have hq := HQ.out
    rw [apV_none hap] at hq
    cases hq
    rw [hap] at hca
    have hv1 : (V != 1) = true := by rw [bne_iff_ne]; exact fun e => by have := hca.1 e; cases this
    clear hca hap
    have z2 : ((0 : Int) != 0) = false := by decide
    have z3 : ((0 : Int) == 0) = true := by decide
    go_wp2_with fail
    refine (implFlow_v V K ao cap' ts a b _ hn N3.out.ties HV.out).mono ?_
    rintro e w5 ⟨rfl, hb5⟩
    have HB5 := hideP (HB3.out.trans (hb5.mono HB3.out.size))
    clear hb5
    go_wp2
    go_ret
    exact ⟨rfl, HB5.out⟩
  | some t =>
    obtain ⟨r, s⟩ := t
    have hq := HQ.out
    rw [apV_some hap] at hq
    cases hq
    obtain ⟨m1, m2, m3, m4, m5, m6, m7⟩ := apT_parts hap
    have hc : cutB K ts P1 P2 = true := m2
    have hKc := cutK_yes hc
    have hokc := (cutOut hc).ok
    have hcl := cutTs_len K ts P1 P2
    obtain ⟨x, hx⟩ : ∃ n : Nat, a = (n : Int) := ⟨a.toNat, by simp only [knotB, Bool.and_eq_true, decide_eq_true_eq] at m6; omega⟩
    obtain ⟨y, hy⟩ : ∃ n : Nat, b = (n : Int) := ⟨b.toNat, by simp only [knotB, Bool.and_eq_true, decide_eq_true_eq] at m7; omega⟩
    subst hx hy
    have m4' : reachB (cutTs K ts P1 P2) x y = false := m4
    obtain ⟨xs, hxs⟩ : ∃ xs, xs = cutTs K ts P1 P2 := ⟨_, rfl⟩
    have HXS := hideP hxs
    rw [← hxs] at m4' hokc hcl
    have HBR := hideP m3
    have HCUT := hideP (show cutB K ts P1 P2 = true ∧ cutK K ts P1 P2 = K from ⟨hc, hKc⟩)
    have HOKX := hideP hokc
    have HKX := hideP m6
    have HKY := hideP m7
    have HRX := hideP m4'
    have hxn : xs.length ≤ 1099511627776 := by omega
    have y0 : (0 : Int) ≤ (y : Int) := by omega
    clear hca m1 m2 m3 m4 m4' m5 m6 m7 hc hKc hokc hcl hxs hap
    go_wp2_with fail
    refine (netCut_all K ao cap' ts P1 P2 _ hn N3.out.ties T3.out).mono ?_
    rw [HCUT.out.1, HCUT.out.2, ← HXS.out]
    rintro e w6 ⟨aoX, capX, rfl, ho6, hb6⟩
    have bo6 := below_one w6 (.cells #[.int .i64 K, .slice aoX xs.length capX] 25)
    have X6 := hideP (NetV.new (K := K) (cap := capX) 25 (ho6.ties (Nat.le_refl _)))
    have N6 := hideP ((N3.out.next hb6).next bo6)
    have T6 := hideP ((T3.out.below hb6 T3.out.2).below bo6 (T3.out.below hb6 T3.out.2).2)
    have HB6 := hideP ((HB3.out.trans (hb6.mono HB3.out.size)).trans (bo6.mono (HB3.out.trans (hb6.mono HB3.out.size)).size))
    have v0 := (bo6.cell (p := ⟨w3.heap.size, 0, none⟩) (Nat.lt_of_lt_of_le ul hb6.size)).trans ((hb6.cell (p := ⟨w3.heap.size, 0, none⟩) ul).trans u0)
    have v1 := (bo6.cell (p := ⟨w3.heap.size, 1, none⟩) (Nat.lt_of_lt_of_le ul hb6.size)).trans ((hb6.cell (p := ⟨w3.heap.size, 1, none⟩) ul).trans u1)
    have vl := Nat.lt_of_lt_of_le (Nat.lt_of_lt_of_le ul hb6.size) bo6.size
    clear u0 u1 ul hb6 bo6 c0 c1 q0 q1 N3 T3 HB3 ho6
    have c0 := N6.out.c0
    have c1 := N6.out.c1
    have x0 := X6.out.c0
    have x1 := X6.out.c1
    go_wp2_with (first | (go_at_call 22; refine (implBridge_y true K ao cap' ts P1 P2 _ hn N6.out.ties HBR.out).mono ?_; rintro e w7 ⟨rfl, hb7⟩; have X7 := hideP (X6.out.next hb7); have T7 := hideP (T6.out.below hb7 T6.out.2); have HB7 := hideP (HB6.out.trans (hb7.mono HB6.out.size)); have x70 := X7.out.c0; have x71 := X7.out.c1; clear hb7) | (go_at_call 23; refine (implReach_at K aoX capX xs x y false _ hxn X7.out.ties T7.out HOKX.out HKX.out HKY.out HRX.out).mono ?_; rintro e w8 ⟨g8, m8, cap8, rfl, hm8, r8, hb8⟩; have HB8 := hideP (HB7.out.trans (hb8.mono HB7.out.size)); have hy8 : (y : Int) < (m8 : Int) := (by omega); clear hb8))
    go_ret
    exact ⟨rfl, HB8.out⟩

end Go.Proofs.YtmkbeiiifikbgaaDoor
