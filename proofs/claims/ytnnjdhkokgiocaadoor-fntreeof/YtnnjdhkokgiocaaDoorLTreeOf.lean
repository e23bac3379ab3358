/- Walk of laws.FnTreeOf: it returns true. -/
import Derived.Test.YtnnjdhkokgiocaaDoorWDrawT
import Derived.Test.YtnnjdhkokgiocaaDoorWLo
import Derived.Test.YtnnjdhkokgiocaaDoorWTreeOkS
import Derived.Test.YtnnjdhkokgiocaaDoorWTreeS
namespace Go.Proofs.YtnnjdhkokgiocaaDoor
open Go.RowKit
set_option linter.unusedVariables false

theorem implCount_is (v : Int) (K : Int) (ao : Option Addr) (cap : Nat) (ts : List (Int × Int)) (w : World) (hn : ts.length ≤ 1099511627776) (ht : TiesIn w w.heap.size ao ts) (hT : Tab w) (h : countV K ts = v) :
    Calls Tryd.prog 13 #[.agg #[.int .i64 K, .slice ao ts.length cap]] w fun e w' => e = .returned (.int .i64 v) ∧ Below w.heap.size w w' := by
  rw [← h]; exact implCount_any K ao cap ts w hn ht hT
theorem implTreeOk_v (v : Bool) (K : Int) (ao bo : Option Addr) (cap cap2 : Nat) (ts us : List (Int × Int)) (w : World) (hn : ts.length ≤ 1099511627776) (ht : TiesIn w w.heap.size ao ts) (hn2 : us.length ≤ 1099511627776) (hu : TiesIn w w.heap.size bo us) (hT : Tab w) (h : treeOkB K ts us = v) :
    Calls Tryd.prog 12 #[.agg #[.int .i64 K, .slice ao ts.length cap], .slice bo us.length cap2] w fun e w' => e = .returned (.bool v) ∧ Below w.heap.size w w' := by
  rw [← h]; exact implTreeOk_any K ao bo cap cap2 ts us w hn ht hn2 hu hT
set_option maxHeartbeats 1600000 in
theorem treeOf_walk (bo : Option Addr) (n cap : Nat) (w : World) (hb : BytesIn w bo n) (hnil : bo = none → n = 0 ∧ cap = 0) (hc : n ≤ cap) (hm : cap ≤ maxLen) (hT : Tab w) :
    Calls Tryd.prog 3 #[.slice bo n cap] w fun e w' => e = .returned (.bool true) ∧ Below w.heap.size w w' := by
  by_cases hl : 1048576 < n
  · have hl' : (1048576 : Int) < (n : Int) := by omega
    have hn' : n ≤ 9223372036854775807 := by unfold maxLen at hm; omega
    go_enter Tryd.func3, Tryd.ntmps3
    go_wp2
    go_ret
    exact ⟨rfl, Below.refl _ _⟩
  have hl' : decide ((1048576 : Int) < (n : Int)) = false := by simp; omega
  go_enter Tryd.func3, Tryd.ntmps3
  go_wp2_with fail
  refine (drawTreeOf_any bo n cap _ hb hnil hc hm).mono ?_
  rintro e w1 ⟨K, ao, cap', ts, rfl, D1⟩
  have hn : ts.length ≤ 1099511627776 := by have := D1.short; omega
  have HB1 := hideP D1.bel
  have T1 := hideP (hT.below D1.bel hT.2)
  have hoN := D1.own
  clear D1 hT
  have T1a := hideP (T1.out.below (below_one w1 (.cells #[.int .i64 K, .slice ao ts.length cap'] 25)) T1.out.2)
  have HB1a := hideP (HB1.out.trans ((below_one w1 (.cells #[.int .i64 K, .slice ao ts.length cap'] 25)).mono HB1.out.size))
  have N1a := hideP (NetV.new (K := K) (cap := cap') 25 (hoN.ties (Nat.le_refl _)))
  clear hoN
  have hul := treeTs_len K ts
  have hul' : (treeTs K ts).length ≤ 1099511627776 := by omega
  obtain ⟨us, hus⟩ : ∃ us, us = treeTs K ts := ⟨_, rfl⟩
  have HUS := hideP hus
  rw [← hus] at hul hul'
  clear hus
  go_wp2_with fail
  refine (implTree_any K ao cap' ts _ hn N1a.out.ties T1a.out).mono ?_
  rw [← HUS.out]
  rintro e w2 ⟨aoL, capL, rfl, ho2, hb2⟩
  have N2 := hideP (N1a.out.next hb2)
  have T2 := hideP (T1a.out.below hb2 T1a.out.2)
  have HB2 := hideP (HB1a.out.trans (hb2.mono HB1a.out.size))
  have L2 := hideP (ho2.ties (Nat.le_refl _))
  clear hb2 ho2 N1a T1a HB1a
  have n0 := N2.out.c0
  have n1 := N2.out.c1
  go_wp2_with fail
  refine (specTree_any K ao cap' ts _ hn N2.out.ties).mono ?_
  rw [← HUS.out]
  rintro e w3 ⟨aoS, capS, rfl, ho3, hb3⟩
  have N3 := hideP (N2.out.next hb3)
  have L3 := hideP ((L2.out.below hb3 (Nat.le_refl _)).wide hb3.size)
  have S3 := hideP (ho3.ties (Nat.le_refl _))
  have HB3 := hideP (HB2.out.trans (hb3.mono HB2.out.size))
  have T3 := hideP (T2.out.below hb3 T2.out.2)
  clear hb3 ho3 N2 L2 HB2 T2 n0 n1
  go_wp2_with fail
  refine (loTies_same aoL aoS capL capS us _ hul' L3.out S3.out).mono ?_
  rintro e w4 ⟨rfl, hb4⟩
  have N4 := hideP (N3.out.next hb4)
  have L4 := hideP ((L3.out.below hb4 (Nat.le_refl _)).wide hb4.size)
  have HB4 := hideP (HB3.out.trans (hb4.mono HB3.out.size))
  have T4 := hideP (T3.out.below hb4 T3.out.2)
  clear hb4 N3 L3 S3 HB3 T3
  have n0 := N4.out.c0
  have n1 := N4.out.c1
  cases hok : okB K ts
  · have HOK := hideP hok
    clear hok
    go_wp2_with fail
    refine (specOk_is false K ao cap' ts _ hn N4.out.ties HOK.out).mono ?_
    rintro e w5 ⟨rfl, hb5⟩
    have N5 := hideP (N4.out.next hb5)
    have L5 := hideP ((L4.out.below hb5 (Nat.le_refl _)).wide hb5.size)
    have HB5 := hideP (HB4.out.trans (hb5.mono HB4.out.size))
    clear hb5 N4 L4 HB4 T4 n0 n1
    have n0 := N5.out.c0
    have n1 := N5.out.c1
    go_wp2_with fail
    refine (specTree_any K ao cap' ts _ hn N5.out.ties).mono ?_
    rw [← HUS.out]
    rintro e w6 ⟨aoS6, capS6, rfl, ho6, hb6⟩
    have L6 := hideP ((L5.out.below hb6 (Nat.le_refl _)).wide hb6.size)
    have S6 := hideP (ho6.ties (Nat.le_refl _))
    have HB6 := hideP (HB5.out.trans (hb6.mono HB5.out.size))
    clear hb6 ho6 N5 L5 HB5 n0 n1
    go_wp2_with fail
    refine (loTies_same aoL aoS6 capL capS6 us _ hul' L6.out S6.out).mono ?_
    rintro e w7 ⟨rfl, hb7⟩
    have HB7 := hideP (HB6.out.trans (hb7.mono HB6.out.size))
    clear hb7
    go_wp2
    go_ret
    exact ⟨rfl, HB7.out⟩
  have HOK := hideP hok
  have hnet := okB_iff.1 hok
  have HIS := hideP (tree_is hok)
  obtain ⟨Kn, hKn⟩ : ∃ x : Nat, K = (x : Int) := ⟨K.toNat, by have := hnet.1; omega⟩
  subst hKn
  have hK8 : Kn ≤ 8 := by have := hnet.2.1; omega
  have HTV : Hid (treeOkB (Kn : Int) ts us = true) := by show treeOkB (Kn : Int) ts us = true; rw [HUS.out]; exact HIS.out.1
  have hlen : us.length + cnt ts Kn = Kn := by rw [HUS.out]; exact HIS.out.2
  have HCV : Hid (countV (Kn : Int) ts = ((cnt ts Kn : Nat) : Int)) := by show countV (Kn : Int) ts = _; simp [countV, hok]
  obtain ⟨cN, hcN⟩ : ∃ c, c = cnt ts Kn := ⟨_, rfl⟩
  rw [← hcN] at hlen HCV
  clear hok hnet HIS hcN
  go_wp2_with fail
  refine (specOk_is true (Kn : Int) ao cap' ts _ hn N4.out.ties HOK.out).mono ?_
  rintro e w5 ⟨rfl, hb5⟩
  have N5 := hideP (N4.out.next hb5)
  have L5 := hideP ((L4.out.below hb5 (Nat.le_refl _)).wide hb5.size)
  have HB5 := hideP (HB4.out.trans (hb5.mono HB4.out.size))
  have T5 := hideP (T4.out.below hb5 T4.out.2)
  clear hb5 N4 L4 HB4 T4 n0 n1
  have hne : Nonempty (Cls (Below w5.heap.size w5)) := ⟨⟨w5, Below.refl _ _⟩⟩
  have q0 : ∀ u : Cls (Below w5.heap.size w5), u.w.cell? ⟨w1.heap.size, 0, none⟩ = some (.int .i64 (Kn : Int)) := fun u => (u.ok.cell (p := ⟨w1.heap.size, 0, none⟩) N5.out.lt).trans N5.out.c0
  have q1 : ∀ u : Cls (Below w5.heap.size w5), u.w.cell? ⟨w1.heap.size, 1, none⟩ = some (.slice ao ts.length cap') := fun u => (u.ok.cell (p := ⟨w1.heap.size, 1, none⟩) N5.out.lt).trans N5.out.c1
  have CT : Hid (∀ u : Cls (Below w5.heap.size w5), Calls Tryd.prog 12 #[.agg #[.int .i64 (Kn : Int), .slice ao ts.length cap'], .slice aoL us.length capL] u.w fun e w'' => e = .returned (.bool true) ∧ ∃ u2 : Cls (Below w5.heap.size w5), w'' = u2.w) := by
    intro u
    refine Calls.cls (D := Below w5.heap.size w5) ?_
    exact (implTreeOk_v true (Kn : Int) ao aoL cap' capL ts us _ hn ((N5.out.ties.below (C := w5.heap.size) u.ok (Nat.le_refl _)).wide u.ok.size) hul' ((L5.out.below (C := w5.heap.size) u.ok (Nat.le_refl _)).wide u.ok.size) (T5.out.below u.ok T5.out.2) HTV.out).mono fun e w2 ⟨he, hb2⟩ => ⟨he, u.ok.trans (hb2.mono u.ok.size)⟩
  have CC : Hid (∀ u : Cls (Below w5.heap.size w5), Calls Tryd.prog 13 #[.agg #[.int .i64 (Kn : Int), .slice ao ts.length cap']] u.w fun e w'' => e = .returned (.int .i64 (cN : Int)) ∧ ∃ u2 : Cls (Below w5.heap.size w5), w'' = u2.w) := by
    intro u
    refine Calls.cls (D := Below w5.heap.size w5) ?_
    exact (implCount_is (cN : Int) (Kn : Int) ao cap' ts _ hn ((N5.out.ties.below (C := w5.heap.size) u.ok (Nat.le_refl _)).wide u.ok.size) (T5.out.below u.ok T5.out.2) HCV.out).mono fun e w2 ⟨he, hb2⟩ => ⟨he, u.ok.trans (hb2.mono u.ok.size)⟩
  have h3 : (us.length : Int) = (Kn : Int) - (cN : Int) := by omega
  clear N5 L5 T5 HCV HTV
  go_wp2
  refine wp_region_cls (Below w5.heap.size w5) (by kernel_rfl) (by kernel_rfl) (Below.refl _ _).drew ?_
  repeat (go_big_quiet_step (first | (go_at_call 12; refine CT.out _) | (go_at_call 13; refine CC.out _)))
  refine wpQuiet_nil ?_
  intro wz hw'
  have hz : Below w5.heap.size w5 wz := by obtain ⟨u, e⟩ := hw'; rw [e]; exact u.ok
  clear hw'
  have HBZ := hideP (HB5.out.trans (hz.mono HB5.out.size))
  clear hz
  go_wp2
  go_ret
  exact ⟨rfl, HBZ.out⟩

end Go.Proofs.YtnnjdhkokgiocaaDoor
