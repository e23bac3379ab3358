/- Texts put together: LFlowTurn, LFlowParts. -/
import Derived.Test.YtljnjpjnadlmhaaDoorPartWPairs
import Derived.Test.YtljnjpjnadlmhaaDoorPartWFlowCS
import Derived.Test.YtljnjpjnadlmhaaDoorPartMathT
import Derived.Test.YtljnjpjnadlmhaaDoorPartWFirst
import Derived.Test.YtljnjpjnadlmhaaDoorPartWTst
import Derived.Test.YtljnjpjnadlmhaaDoorPartWCutV
import Derived.Test.YtljnjpjnadlmhaaDoorPartMathFP
import Derived.Test.YtljnjpjnadlmhaaDoorPartWReach3
import Derived.Test.YtljnjpjnadlmhaaDoorPartMathFU
/- Walk of laws.FnFlowTurn: it returns true. -/
namespace Go.Proofs.YtljnjpjnadlmhaaDoor
open Go.RowKit
set_option linter.unusedVariables false

theorem cutG_turn {a b : Nat} (ha : a < 8) (hb : b < 8) (hab : a ≠ b) : ∀ (r left : List (Int × Int)), cutG b a r left = cutG a b r left := by
  intro r
  induction r with
  | nil => intro left; rfl
  | cons s r ih =>
    intro left
    unfold cutG
    rw [flowV_turn _ ha hb hab, flowV_turn _ ha hb hab, ih, ih]
theorem twoB_turn (K : Int) (ts : List (Int × Int)) (a b : Int) : twoB K ts b a = twoB K ts a b := by
  unfold twoB
  rw [Bool.eq_iff_iff]
  simp only [Bool.and_eq_true, decide_eq_true_eq]
  exact ⟨fun h => ⟨⟨⟨h.1.1.1, h.1.2⟩, h.1.1.2⟩, fun e => h.2 e.symm⟩, fun h => ⟨⟨⟨h.1.1.1, h.1.2⟩, h.1.1.2⟩, fun e => h.2 e.symm⟩⟩
theorem cutI_turn (K : Int) (ts : List (Int × Int)) (a b : Int) : cutI K ts b a = cutI K ts a b := by
  unfold cutI
  rw [twoB_turn]
  by_cases e : twoB K ts a b = true
  · rw [if_pos e, if_pos e]
    obtain ⟨_, x, y, rfl, rfl, hx, hy, _, _, hxy⟩ := knot_nat e
    exact cutG_turn hx hy hxy ts ts
  · rw [if_neg e, if_neg e]
theorem countI_turn (K : Int) (ts : List (Int × Int)) (a b : Int) : countI K ts b a = countI K ts a b := by
  unfold countI
  rw [twoB_turn]
  by_cases e : twoB K ts a b = true
  · rw [if_pos e, if_pos e]
    obtain ⟨_, x, y, rfl, rfl, hx, hy, _, _, hxy⟩ := knot_nat e
    exact flowV_turn ts hx hy hxy
  · rw [if_neg e, if_neg e]
theorem implCut_v (p : Bool) (us : List (Int × Int)) (K : Int) (ao : Option Addr) (cap : Nat) (ts : List (Int × Int)) (a b : Int) (w : World) (hn : ts.length ≤ 1099511627776) (ht : TiesIn w w.heap.size ao ts) (hT : Tab w) (hp : twoB K ts a b = p) (hu : cutI K ts a b = us) :
    Calls Tryd.prog 7 #[.agg #[.int .i64 K, .slice ao ts.length cap], .int .i64 a, .int .i64 b] w fun e w' => ∃ ao' cap', e = .returned (.tuple #[.slice ao' us.length cap', .bool p]) ∧ TiesIn w' w'.heap.size ao' us ∧ Below w.heap.size w w' := by
  rw [← hp, ← hu]
  refine (implFlowCut_any K ao cap ts a b w hn ht hT).mono ?_
  rintro e w' ⟨ao', cap', rfl, ho, hb⟩
  exact ⟨ao', cap', rfl, ho.ties (Nat.le_refl _), hb⟩
end Go.Proofs.YtljnjpjnadlmhaaDoor

/- Walk of laws.FnFlowParts: it returns true. -/
namespace Go.Proofs.YtljnjpjnadlmhaaDoor
open Go.RowKit
set_option linter.unusedVariables false

theorem implParts_w (v : Bool) (K : Int) (ao bo : Option Addr) (cap cap2 : Nat) (ts us : List (Int × Int)) (a b : Int) (w : World) (hn : ts.length ≤ 1099511627776) (ht : TiesIn w w.heap.size ao ts) (hn2 : us.length ≤ 1099511627776) (hu : TiesIn w w.heap.size bo us) (hT : Tab w) (h : partsB K ts a b us = v) :
    Calls Tryd.prog 12 #[.agg #[.int .i64 K, .slice ao ts.length cap], .int .i64 a, .int .i64 b, .slice bo us.length cap2] w fun e w' => e = .returned (.bool v) ∧ Below w.heap.size w w' := by
  rw [← h]; exact implFlowParts_any K ao bo cap cap2 ts us a b w hn ht hn2 hu hT
theorem specParts_w (v : Bool) (K : Int) (ao bo : Option Addr) (cap cap2 : Nat) (ts us : List (Int × Int)) (a b : Int) (w : World) (hn : ts.length ≤ 1099511627776) (ht : TiesIn w w.heap.size ao ts) (hn2 : us.length ≤ 1099511627776) (hu : TiesIn w w.heap.size bo us) (h : partsB K ts a b us = v) :
    Calls Tryd.prog 14 #[.agg #[.int .i64 K, .slice ao ts.length cap], .int .i64 a, .int .i64 b, .slice bo us.length cap2] w fun e w' => e = .returned (.bool v) ∧ Below w.heap.size w w' := by
  rw [← h]; exact specFlowParts_in K ao bo cap cap2 ts us a b w hn ht hn2 hu
theorem parts_told {K : Int} {ts us : List (Int × Int)} {a b : Int} (h : partsB K ts a b us = true) : twoB K ts a b = true ∧ (cutI K ts a b).length ≤ us.length ∧ ((cutI K ts a b).length = us.length → NoLess us (cutI K ts a b)) := by
  have htw : twoB K ts a b = true := by
    unfold partsB at h
    simp only [Bool.and_eq_true] at h
    exact h.1.1.1
  obtain ⟨hok, x, y, rfl, rfl, hx, hy, _, _, hxy⟩ := knot_nat htw
  have hc : cutI K ts (x : Int) (y : Int) = cutG x y ts ts := by unfold cutI; rw [if_pos htw]; rfl
  have hl := cutG_len hok (a := x) (b := y) hx hy hxy
  have hp := parts_le hx hy h
  rw [hc]
  exact ⟨htw, by omega, fun e => cut_first hx hy h e.symm⟩
set_option maxHeartbeats 1600000 in
theorem flowParts_walk (bo : Option Addr) (n cap : Nat) (w : World) (hb : BytesIn w bo n) (hnil : bo = none → n = 0 ∧ cap = 0) (hc : n ≤ cap) (hm : cap ≤ maxLen) (hT : Tab w) :
    Calls Tryd.prog 4 #[.slice bo n cap] w fun e w' => e = .returned (.bool true) ∧ Below w.heap.size w w' := by
  by_cases hl : 1048576 < n
  · have hl' : (1048576 : Int) < (n : Int) := by omega
    have hn' : n ≤ 9223372036854775807 := by unfold maxLen at hm; omega
    go_enter Tryd.func4, Tryd.ntmps4
    go_wp2
    go_ret
    exact ⟨rfl, Below.refl _ _⟩
  have hl' : decide ((1048576 : Int) < (n : Int)) = false := by simp; omega
  go_enter Tryd.func4, Tryd.ntmps4
  go_wp2_with fail
  refine (drawFlowParts_any bo n cap _ hb hnil hc hm).mono ?_
  rintro e w1 ⟨K, ao, cap', ts, a, b, co, capC, us, rfl, D1⟩
  have hn : ts.length ≤ 1099511627776 := by have := D1.short; omega
  have hn2 : us.length ≤ 1099511627776 := by have := D1.few; omega
  have HB1 := hideP D1.bel
  have T1 := hideP (hT.below D1.bel hT.2)
  have LN := D1.net
  have LU := D1.list
  clear D1 hT
  have T1a := hideP (T1.out.below (below_one w1 (.cells #[.int .i64 K, .slice ao ts.length cap'] 25)) T1.out.2)
  have HB1a := hideP (HB1.out.trans ((below_one w1 (.cells #[.int .i64 K, .slice ao ts.length cap'] 25)).mono HB1.out.size))
  have N1a := hideP (NetV.new (K := K) (cap := cap') 25 LN)
  have U1a : Hid (TiesIn (w1.alloc (.cells #[.int .i64 K, .slice ao ts.length cap'] 25)) (w1.alloc (.cells #[.int .i64 K, .slice ao ts.length cap'] 25)).heap.size co us) := (LU.below (below_one _ _) (Nat.le_refl _)).wide (by simp)
  clear LN LU HB1 T1
  have HTF := hideP (parts_told (K := K) (ts := ts) (us := us) (a := a) (b := b))
  obtain ⟨ok, hok⟩ : ∃ v, v = partsB K ts a b us := ⟨_, rfl⟩
  have HOK : Hid (partsB K ts a b us = ok) := hok.symm
  clear hok
  have hfl : (cutI K ts a b).length ≤ 1099511627776 := by have := cutI_short K ts a b; omega
  go_wp2_with fail
  refine (implParts_w ok K ao co cap' capC ts us a b _ hn N1a.out.ties hn2 U1a.out T1a.out HOK.out).mono ?_
  rintro e w2 ⟨rfl, hb2⟩
  have N2 := hideP (N1a.out.next hb2)
  have T2 := hideP (T1a.out.below hb2 T1a.out.2)
  have U2 := hideP ((U1a.out.below hb2 (Nat.le_refl _)).wide hb2.size)
  have HB2 := hideP (HB1a.out.trans (hb2.mono HB1a.out.size))
  clear hb2 N1a T1a U1a HB1a
  have n0 := N2.out.c0
  have n1 := N2.out.c1
  go_wp2_with fail
  refine (specParts_w ok K ao co cap' capC ts us a b _ hn N2.out.ties hn2 U2.out HOK.out).mono ?_
  rintro e w3 ⟨rfl, hb3⟩
  have N3 := hideP (N2.out.next hb3)
  have T3 := hideP (T2.out.below hb3 T2.out.2)
  have U3 := hideP ((U2.out.below hb3 (Nat.le_refl _)).wide hb3.size)
  have HB3 := hideP (HB2.out.trans (hb3.mono HB2.out.size))
  clear hb3 N2 T2 U2 HB2 n0 n1
  have n0 := N3.out.c0
  have n1 := N3.out.c1
  cases ok with
  | false =>
    go_wp2_with fail
    refine (specParts_w false K ao co cap' capC ts us a b _ hn N3.out.ties hn2 U3.out HOK.out).mono ?_
    rintro e w4 ⟨rfl, hb4⟩
    have HB4 := hideP (HB3.out.trans (hb4.mono HB3.out.size))
    clear hb4
    go_wp2
    go_ret
    exact ⟨rfl, HB4.out⟩
  | true =>
    obtain ⟨htw, hle, hno⟩ := HTF.out HOK.out
    have HTW := hideP htw
    have HNO := hideP hno
    obtain ⟨fs, hfs⟩ : ∃ fs, fs = cutI K ts a b := ⟨_, rfl⟩
    have HFS : Hid (cutI K ts a b = fs) := hfs.symm
    rw [← hfs] at hle HNO hfl
    clear htw hno hfs HTF HOK
    go_wp2_with fail
    refine (implCut_v true fs K ao cap' ts a b _ hn N3.out.ties T3.out HTW.out HFS.out).mono ?_
    rintro e w4 ⟨aoF, capF, rfl, hF, hb4⟩
    have HB4 := hideP (HB3.out.trans (hb4.mono HB3.out.size))
    have U4 := hideP ((U3.out.below hb4 (Nat.le_refl _)).wide hb4.size)
    have F4 := hideP hF
    clear hb4 hF N3 T3 U3 HB3 n0 n1
    by_cases heq : fs.length = us.length
    · have HN := hideP (HNO.out heq)
      have heq' : ((fs.length : Int) == (us.length : Int)) = true := by simp; omega
      have hle' : (fs.length : Int) ≤ (us.length : Int) := by omega
      have HLL : Hid (∀ W : World, TiesIn W W.heap.size co us → TiesIn W W.heap.size aoF fs → Calls Tryd.prog 15 #[.slice co us.length capC, .slice aoF us.length capF] W fun e w' => e = .returned (.bool false) ∧ Below W.heap.size W w') := hideP (fun W h1 h2 => by
        have := loLess_no co aoF capC capF us fs W hn2 hfl h1 h2 HN.out
        rw [heq] at this
        exact this)
      go_wp2_with fail
      refine (HLL.out _ U4.out F4.out).mono ?_
      rintro e w5 ⟨rfl, hb5⟩
      have HB5 := hideP (HB4.out.trans (hb5.mono HB4.out.size))
      clear hb5
      go_wp2
      go_ret
      exact ⟨rfl, HB5.out⟩
    · have heq' : ((fs.length : Int) == (us.length : Int)) = false := by simp; omega
      have hle' : (fs.length : Int) ≤ (us.length : Int) := by omega
      go_wp2
      go_ret
      exact ⟨rfl, HB4.out⟩

end Go.Proofs.YtljnjpjnadlmhaaDoor
