/- Walk of laws.FnFlowTop: it returns true. -/
import Derived.Test.YtljnjpjnadlmhaaDoorWDrawFo
import Derived.Test.YtljnjpjnadlmhaaDoorPartLFlowTurn
import Derived.Test.YtljnjpjnadlmhaaDoorMathGD
import Derived.Test.YtljnjpjnadlmhaaDoorPartWMost
namespace Go.Proofs.YtljnjpjnadlmhaaDoor
open Go.RowKit
set_option linter.unusedVariables false

theorem implFlowOk_v (v : Bool) (K : Int) (ao bo : Option Addr) (cap cap2 : Nat) (ts : List (Int × Int)) (xss : List (List Int)) (a b : Int) (w : World) (hn : ts.length ≤ 1099511627776) (ht : TiesIn w w.heap.size ao ts) (hl : xss.length ≤ 1099511627776) (hx : RowsI w w.heap.size bo xss) (h : flowB K ts a b xss = v) :
    Calls Tryd.prog 6 #[.agg #[.int .i64 K, .slice ao ts.length cap], .int .i64 a, .int .i64 b, .slice bo xss.length cap2] w fun e w' => e = .returned (.bool v) ∧ Below w.heap.size w w' := by
  rw [← h]; exact implFlowOk_any K ao bo cap cap2 ts xss a b w hn ht hl hx
theorem specCut_w (p : Bool) (us : List (Int × Int)) (K : Int) (ao : Option Addr) (cap : Nat) (ts : List (Int × Int)) (a b : Int) (w : World) (hn : ts.length ≤ 1099511627776) (ht : TiesIn w w.heap.size ao ts) (hp : twoB K ts a b = p) (hu : cutI K ts a b = us) :
    Calls Tryd.prog 8 #[.agg #[.int .i64 K, .slice ao ts.length cap], .int .i64 a, .int .i64 b] w fun e w' => ∃ ao' cap', e = .returned (.tuple #[.slice ao' us.length cap', .bool p]) ∧ TiesIn w' w'.heap.size ao' us ∧ Below w.heap.size w w' := by
  rw [← hp, ← hu]
  refine (specFlowCut_in K ao cap ts a b w hn ht).mono ?_
  rintro e w' ⟨ao', cap', rfl, ho, hb⟩
  exact ⟨ao', cap', rfl, (OwnN.of_row ho).ties (Nat.le_refl _), hb⟩
theorem implCount_w (v : Int) (K : Int) (ao : Option Addr) (cap : Nat) (ts : List (Int × Int)) (a b : Int) (w : World) (hn : ts.length ≤ 1099511627776) (ht : TiesIn w w.heap.size ao ts) (h : countI K ts a b = v) :
    Calls Tryd.prog 11 #[.agg #[.int .i64 K, .slice ao ts.length cap], .int .i64 a, .int .i64 b] w fun e w' => e = .returned (.int .i64 v) ∧ Below w.heap.size w w' := by
  rw [← h]; exact implFlowCount_any K ao cap ts a b w hn ht
theorem top_told {K : Int} {ts : List (Int × Int)} {a b : Int} {xss : List (List Int)} : (twoB K ts a b = false → flowB K ts a b xss = false ∧ countI K ts a b = -1) ∧ (twoB K ts a b = true → countI K ts a b = ((cutI K ts a b).length : Int) ∧ partsB K ts a b (cutI K ts a b) = true ∧ (flowB K ts a b xss = true → xss.length ≤ (cutI K ts a b).length)) := by
  constructor
  · intro h
    constructor
    · unfold flowB; rw [h]; rfl
    · unfold countI; rw [h]; rfl
  · intro h
    obtain ⟨hok, x, y, rfl, rfl, hx, hy, _, _, hxy⟩ := knot_nat h
    have hc : cutI K ts (x : Int) (y : Int) = cutG x y ts ts := by unfold cutI; rw [if_pos h]; rfl
    have hl := cutG_len hok (a := x) (b := y) hx hy hxy
    rw [hc]
    refine ⟨by rw [two_flow h]; exact hl.symm, cutG_parts h hx hy hxy, fun hf => ?_⟩
    have := ways_most hx hxy hf
    omega
set_option maxHeartbeats 1600000 in
theorem flowTop_walk (bo : Option Addr) (n cap : Nat) (w : World) (hb : BytesIn w bo n) (hnil : bo = none → n = 0 ∧ cap = 0) (hc : n ≤ cap) (hm : cap ≤ maxLen) (hT : Tab w) :
    Calls Tryd.prog 3 #[.slice bo n cap] w fun e w' => e = .returned (.bool true) ∧ Below w.heap.size w w' := by
  by_cases hl : 1048576 < n
  · have hl' : (1048576 : Int) < (n : Int) := by omega
    have hn' : n ≤ 9223372036854775807 := by unfold maxLen at hm; omega
    go_enter Tryd.func3, Tryd.ntmps3
    go_wp2
    go_ret
    exact ⟨rfl, Below.refl _ _⟩
  have hl' : decide ((1048576 : Int) < (n : Int)) = false := by simp; omega
  go_enter Tryd.func3, Tryd.ntmps3
  go_wp2_with fail
  refine (drawFlowOk_any bo n cap _ hb hnil hc hm).mono ?_
  rintro e w1 ⟨K, ao, cap', ts, a, b, co, capC, xss, rfl, _, D1⟩
  have hn : ts.length ≤ 1099511627776 := by have := D1.short; omega
  have hn2 : xss.length ≤ 1099511627776 := by have := D1.few; omega
  have HB1 := hideP D1.bel
  have T1 := hideP (hT.below D1.bel hT.2)
  have LN := D1.net
  have LU := D1.rows
  clear D1 hT
  have T1a := hideP (T1.out.below (below_one w1 (.cells #[.int .i64 K, .slice ao ts.length cap'] 25)) T1.out.2)
  have HB1a := hideP (HB1.out.trans ((below_one w1 (.cells #[.int .i64 K, .slice ao ts.length cap'] 25)).mono HB1.out.size))
  have N1a := hideP (NetV.new (K := K) (cap := cap') 25 LN)
  have U1a : Hid (RowsI (w1.alloc (.cells #[.int .i64 K, .slice ao ts.length cap'] 25)) (w1.alloc (.cells #[.int .i64 K, .slice ao ts.length cap'] 25)).heap.size co xss) := (LU.below (below_one _ _) (Nat.le_refl _)).wide (by simp)
  clear LN LU HB1 T1
  have HTF := hideP (top_told (K := K) (ts := ts) (xss := xss) (a := a) (b := b))
  obtain ⟨ok, hok⟩ : ∃ v, v = flowB K ts a b xss := ⟨_, rfl⟩
  have HOK : Hid (flowB K ts a b xss = ok) := hok.symm
  clear hok
  obtain ⟨tw, htw⟩ : ∃ v, v = twoB K ts a b := ⟨_, rfl⟩
  have HTW : Hid (twoB K ts a b = tw) := htw.symm
  clear htw
  have hfl : (cutI K ts a b).length ≤ 1099511627776 := by have := cutI_short K ts a b; omega
  obtain ⟨fs, hfs⟩ : ∃ fs, fs = cutI K ts a b := ⟨_, rfl⟩
  have HFS : Hid (cutI K ts a b = fs) := hfs.symm
  rw [← hfs] at hfl HTF
  clear hfs
  go_wp2_with fail
  refine (implFlowOk_v ok K ao co cap' capC ts xss a b _ hn N1a.out.ties hn2 U1a.out HOK.out).mono ?_
  rintro e w2 ⟨rfl, hb2⟩
  have N2 := hideP (N1a.out.next hb2)
  have T2 := hideP (T1a.out.below hb2 T1a.out.2)
  have U2 := hideP ((U1a.out.below hb2 (Nat.le_refl _)).wide hb2.size)
  have HB2 := hideP (HB1a.out.trans (hb2.mono HB1a.out.size))
  clear hb2 N1a T1a U1a HB1a
  have n0 := N2.out.c0
  have n1 := N2.out.c1
  go_wp2_with fail
  refine (implCut_v tw fs K ao cap' ts a b _ hn N2.out.ties T2.out HTW.out HFS.out).mono ?_
  rintro e w3 ⟨aoF, capF, rfl, hF, hb3⟩
  have N3 := hideP (N2.out.next hb3)
  have T3 := hideP (T2.out.below hb3 T2.out.2)
  have U3 := hideP ((U2.out.below hb3 (Nat.le_refl _)).wide hb3.size)
  have HB3 := hideP (HB2.out.trans (hb3.mono HB2.out.size))
  have F3 := hideP hF
  clear hb3 hF N2 T2 U2 HB2 n0 n1
  have n0 := N3.out.c0
  have n1 := N3.out.c1
  go_wp2_with fail
  refine (specCut_w tw fs K ao cap' ts a b _ hn N3.out.ties HTW.out HFS.out).mono ?_
  rintro e w4 ⟨aoS, capS, rfl, hF, hb4⟩
  have N4 := hideP (N3.out.next hb4)
  have T4 := hideP (T3.out.below hb4 T3.out.2)
  have U4 := hideP ((U3.out.below hb4 (Nat.le_refl _)).wide hb4.size)
  have F4 := hideP ((F3.out.below hb4 (Nat.le_refl _)).wide hb4.size)
  have HB4 := hideP (HB3.out.trans (hb4.mono HB3.out.size))
  have E4 := hideP hF
  clear hb4 hF N3 T3 U3 HB3 F3 n0 n1
  have n0 := N4.out.c0
  have n1 := N4.out.c1
  have hokk : (ok != ok) = false := by simp
  have htww : (tw != tw) = false := by simp
  go_wp2_with fail
  refine (specFlowOk_v ok K ao co cap' capC xss.length ts xss a b _ hn N4.out.ties hn2 U4.out rfl HOK.out).mono ?_
  rintro e w5 ⟨rfl, hb5⟩
  have N5 := hideP (N4.out.next hb5)
  have T5 := hideP (T4.out.below hb5 T4.out.2)
  have F5 := hideP ((F4.out.below hb5 (Nat.le_refl _)).wide hb5.size)
  have E5 := hideP ((E4.out.below hb5 (Nat.le_refl _)).wide hb5.size)
  have HB5 := hideP (HB4.out.trans (hb5.mono HB4.out.size))
  clear hb5 N4 T4 U4 F4 E4 HB4 n0 n1
  go_wp2_with fail
  refine (loTies_same aoF aoS capF capS fs _ hfl F5.out E5.out).mono ?_
  rintro e w6 ⟨rfl, hb6⟩
  have N6 := hideP (N5.out.next hb6)
  have T6 := hideP (T5.out.below hb6 T5.out.2)
  have F6 := hideP ((F5.out.below hb6 (Nat.le_refl _)).wide hb6.size)
  have HB6 := hideP (HB5.out.trans (hb6.mono HB5.out.size))
  clear hb6 N5 T5 F5 E5 HB5
  have n0 := N6.out.c0
  have n1 := N6.out.c1
  cases tw with
  | false =>
    obtain ⟨h1, h2⟩ := HTF.out.1 HTW.out
    obtain rfl : ok = false := by rw [← HOK.out, h1]
    have HCN := hideP h2
    clear h1 h2 HTF
    go_wp2_with fail
    refine (implCount_w (-1) K ao cap' ts a b _ hn N6.out.ties HCN.out).mono ?_
    rintro e w7 ⟨rfl, hb7⟩
    have HB7 := hideP (HB6.out.trans (hb7.mono HB6.out.size))
    clear hb7
    go_wp2
    go_ret
    exact ⟨rfl, HB7.out⟩
  | true =>
    obtain ⟨h1, h2, h3⟩ := HTF.out.2 HTW.out
    have HCN := hideP h1
    have HPT := hideP h2
    have HLE := hideP h3
    clear h1 h2 h3 HTF
    have hfe : ((fs.length : Int) == (fs.length : Int)) = true := by simp
    go_wp2_with fail
    refine (implCount_w (fs.length : Int) K ao cap' ts a b _ hn N6.out.ties HCN.out).mono ?_
    rintro e w7 ⟨rfl, hb7⟩
    have N7 := hideP (N6.out.next hb7)
    have T7 := hideP (T6.out.below hb7 T6.out.2)
    have F7 := hideP ((F6.out.below hb7 (Nat.le_refl _)).wide hb7.size)
    have HB7 := hideP (HB6.out.trans (hb7.mono HB6.out.size))
    clear hb7 N6 T6 F6 HB6 n0 n1
    have n0 := N7.out.c0
    have n1 := N7.out.c1
    go_wp2_with fail
    refine (implParts_w true K ao aoF cap' capF ts fs a b _ hn N7.out.ties hfl F7.out T7.out HPT.out).mono ?_
    rintro e w8 ⟨rfl, hb8⟩
    have HB8 := hideP (HB7.out.trans (hb8.mono HB7.out.size))
    clear hb8
    cases ok with
    | false =>
      go_wp2
      go_ret
      exact ⟨rfl, HB8.out⟩
    | true =>
      have hle := HLE.out HOK.out
      have hle' : (xss.length : Int) ≤ (fs.length : Int) := by omega
      go_wp2
      go_ret
      exact ⟨rfl, HB8.out⟩

end Go.Proofs.YtljnjpjnadlmhaaDoor
