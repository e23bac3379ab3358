/- Walk of laws.FnBridgeIs: it returns true. -/
import Derived.Test.YtncjdbhicpgfkaaDoorPartWPairs
import Derived.Test.YtncjdbhicpgfkaaDoorWBeside
import Derived.Test.YtncjdbhicpgfkaaDoorWBridgeI
import Derived.Test.YtncjdbhicpgfkaaDoorWBridgeS
namespace Go.Proofs.YtncjdbhicpgfkaaDoor
open Go.RowKit
set_option linter.unusedVariables false

theorem implBridge_v (v : Bool) (K : Int) (ao : Option Addr) (cap : Nat) (ts : List (Int × Int)) (a b : Int) (w : World) (hn : ts.length ≤ 1099511627776) (ht : TiesIn w w.heap.size ao ts) (h : bridgeB K ts a b = v) :
    Calls Tryd.prog 21 #[.agg #[.int .i64 K, .slice ao ts.length cap], .int .i64 a, .int .i64 b] w fun e w' => e = .returned (.bool v) ∧ Below w.heap.size w w' := by
  rw [← h]; exact implBridge_any K ao cap ts a b w hn ht
theorem specBridge_v (v : Bool) (K : Int) (ao : Option Addr) (cap : Nat) (ts : List (Int × Int)) (a b : Int) (w : World) (hn : ts.length ≤ 1099511627776) (ht : TiesIn w w.heap.size ao ts) (h : bridgeB K ts a b = v) :
    Calls Tryd.prog 39 #[.agg #[.int .i64 K, .slice ao ts.length cap], .int .i64 a, .int .i64 b] w fun e w' => e = .returned (.bool v) ∧ Below w.heap.size w w' := by
  rw [← h]; exact specBridge_any K ao cap ts a b w hn ht
theorem specHas_w (v : Bool) (K : Int) (ao : Option Addr) (cap : Nat) (ts : List (Int × Int)) (a b : Int) (w : World) (hn : ts.length ≤ 1099511627776) (ht : TiesIn w w.heap.size ao ts) (h : hasB K ts a b = v) :
    Calls Tryd.prog 40 #[.agg #[.int .i64 K, .slice ao ts.length cap], .int .i64 a, .int .i64 b] w fun e w' => e = .returned (.bool v) ∧ Below w.heap.size w w' := by
  rw [← h]; exact specHas_any K ao cap ts a b w hn ht
set_option maxHeartbeats 1600000 in
theorem bridgeIs_walk (bo : Option Addr) (n cap : Nat) (w : World) (hb : BytesIn w bo n) (hnil : bo = none → n = 0 ∧ cap = 0) (hc : n ≤ cap) (hm : cap ≤ maxLen) (hT : Tab w) :
    Calls Tryd.prog 8 #[.slice bo n cap] w fun e w' => e = .returned (.bool true) ∧ Below w.heap.size w w' := by
  by_cases hl : 1048576 < n
  · have hl' : (1048576 : Int) < (n : Int) := by omega
    have hn' : n ≤ 9223372036854775807 := by unfold maxLen at hm; omega
    go_enter Tryd.func8, Tryd.ntmps8
    go_wp2
    go_ret
    exact ⟨rfl, Below.refl _ _⟩
  have hl' : decide ((1048576 : Int) < (n : Int)) = false := by simp; omega
  go_enter Tryd.func8, Tryd.ntmps8
  go_wp2_with fail
  refine (drawBridgeIs_any bo n cap _ hb hnil hc hm).mono ?_
  rintro e w1 ⟨K, ao, cap', ts, a, b, rfl, D1⟩
  have hn : ts.length ≤ 1099511627776 := by have := D1.short; omega
  have HB1 := hideP D1.bel
  have T1 := hideP (hT.below D1.bel hT.2)
  have hoN := D1.own
  clear D1 hT
  have T1a := hideP (T1.out.below (below_one w1 (.cells #[.int .i64 K, .slice ao ts.length cap'] 25)) T1.out.2)
  have HB1a := hideP (HB1.out.trans ((below_one w1 (.cells #[.int .i64 K, .slice ao ts.length cap'] 25)).mono HB1.out.size))
  have N1a := hideP (NetV.new (K := K) (cap := cap') 25 (hoN.ties (Nat.le_refl _)))
  clear hoN
  obtain ⟨v, hv⟩ : ∃ v, bridgeB K ts a b = v := ⟨_, rfl⟩
  obtain ⟨h, hh⟩ : ∃ h, hasB K ts a b = h := ⟨_, rfl⟩
  have HV := hideP hv
  have HH := hideP hh
  clear hv hh
  go_wp2_with fail
  refine (implBridge_v v K ao cap' ts a b _ hn N1a.out.ties HV.out).mono ?_
  rintro e w2 ⟨rfl, hb2⟩
  have N2 := hideP (N1a.out.next hb2)
  have T2 := hideP (T1a.out.below hb2 T1a.out.2)
  have HB2 := hideP (HB1a.out.trans (hb2.mono HB1a.out.size))
  clear hb2 N1a T1a HB1a T1 HB1
  have n0 := N2.out.c0
  have n1 := N2.out.c1
  have hvv : (v != v) = false := by simp
  have hvv2 : (v == v) = true := by simp
  go_wp2_with fail
  refine (specBridge_v v K ao cap' ts a b _ hn N2.out.ties HV.out).mono ?_
  rintro e w3 ⟨rfl, hb3⟩
  have N3 := hideP (N2.out.next hb3)
  have T3 := hideP (T2.out.below hb3 T2.out.2)
  have HB3 := hideP (HB2.out.trans (hb3.mono HB2.out.size))
  clear hb3 N2 T2 HB2 n0 n1
  have n0 := N3.out.c0
  have n1 := N3.out.c1
  go_wp2_with fail
  refine (specHas_w h K ao cap' ts a b _ hn N3.out.ties HH.out).mono ?_
  rintro e w4 ⟨rfl, hb4⟩
  have N4 := hideP (N3.out.next hb4)
  have T4 := hideP (T3.out.below hb4 T3.out.2)
  have HB4 := hideP (HB3.out.trans (hb4.mono HB3.out.size))
  clear hb4 N3 T3 HB3 n0 n1
  have n0 := N4.out.c0
  have n1 := N4.out.c1
  cases h
  · have hvf : v = false := by rw [← HV.out]; unfold bridgeB; rw [HH.out]; rfl
    subst hvf
    clear hvv hvv2
    go_wp2_with fail
    refine (specBridge_v false K ao cap' ts a b _ hn N4.out.ties HV.out).mono ?_
    rintro e w5 ⟨rfl, hb5⟩
    have HB5 := hideP (HB4.out.trans (hb5.mono HB4.out.size))
    clear hb5
    go_wp2
    go_ret
    exact ⟨rfl, HB5.out⟩
  have hk := hasB_knot HH.out
  obtain ⟨Kn, hKn⟩ : ∃ m : Nat, K = (m : Int) := ⟨K.toNat, by omega⟩
  subst hKn
  obtain ⟨an, han⟩ : ∃ m : Nat, a = (m : Int) := ⟨a.toNat, by omega⟩
  subst han
  obtain ⟨bn, hbn⟩ : ∃ m : Nat, b = (m : Int) := ⟨b.toNat, by omega⟩
  subst hbn
  have HNV : Hid ((!bridgeB (Kn : Int) ts (an : Int) (bn : Int)) = !v) := by rw [HV.out]; exact hideP rfl
  have HVT : Hid (bridgeB (Kn : Int) ts (bn : Int) (an : Int) = v) := by rw [bridge_turn, HV.out]; exact hideP rfl
  have hW := bridge_ways HH.out
  rw [HV.out] at hW
  obtain ⟨ps, hps⟩ : ∃ ps, waysB (Kn : Int) ts (an : Int) (bn : Int) = ps := ⟨_, rfl⟩
  have HPS := hideP hps
  rw [hps] at hW
  have hWi : (((ps.length : Nat) : Int) == 1) = v := by
    rw [← hW, Bool.eq_iff_iff, beq_iff_eq, decide_eq_true_eq]; omega
  have hnv : (v != !v) = true := by cases v <;> rfl
  clear hps hW
  go_wp2_with fail
  refine (loBeside_any (!v) Kn ao cap' ts an bn _ hn N4.out.ties T4.out HH.out HNV.out).mono ?_
  rintro e w5 ⟨rfl, hb5⟩
  have N5 := hideP (N4.out.next hb5)
  have HB5 := hideP (HB4.out.trans (hb5.mono HB4.out.size))
  clear hb5 N4 HB4 T4 n0 n1
  have n0 := N5.out.c0
  have n1 := N5.out.c1
  go_wp2_with fail
  refine (implAll_v ps (Kn : Int) ao cap' ts (an : Int) (bn : Int) _ hn N5.out.ties HPS.out).mono ?_
  rintro e w6 ⟨aoA, capA, rfl, hA, hb6⟩
  have N6 := hideP (N5.out.next hb6)
  have HB6 := hideP (HB5.out.trans (hb6.mono HB5.out.size))
  clear hb6 N5 HB5 n0 n1 hA
  have n0 := N6.out.c0
  have n1 := N6.out.c1
  go_wp2_with fail
  refine (implBridge_v v (Kn : Int) ao cap' ts (bn : Int) (an : Int) _ hn N6.out.ties HVT.out).mono ?_
  rintro e w7 ⟨rfl, hb7⟩
  have HB7 := hideP (HB6.out.trans (hb7.mono HB6.out.size))
  clear hb7
  go_wp2
  go_ret
  exact ⟨rfl, HB7.out⟩

end Go.Proofs.YtncjdbhicpgfkaaDoor
