/- Walk of laws.FnSideTree: it returns true. -/
import Derived.Test.YtiaeffpjcinilaaDoorWDrawT
import Derived.Test.YtiaeffpjcinilaaDoorWLo
import Derived.Test.YtiaeffpjcinilaaDoorPartWTree
import Derived.Test.YtiaeffpjcinilaaDoorWSideOf
import Derived.Test.YtiaeffpjcinilaaDoorPartMathX
import Derived.Deep.RegionHeld3
namespace Go.Proofs.YtiaeffpjcinilaaDoor
open Go.RowKit
set_option linter.unusedVariables false

theorem sameB_nat' (xs : List Int) (x y : Nat) : sameB xs ((x : Int), (y : Int)) = (xi xs x == xi xs y) := rfl
/-- two knots that a tie of a tree ties are of both sides -/
theorem Trn.sides {us : List (Int × Int)} (t : Trn 8 us 8) {x y : Nat} (h : tieNB us x y = true) : sdN us x ≠ sdN us y := by
  unfold sdN
  rcases t.tie h with ⟨_, e, _⟩ | ⟨_, e, _⟩ <;> rw [e] <;> omega
theorem sideV_tree {K : Int} {ts : List (Int × Int)} (h : okB K ts = true) : sideV K (treeTs K ts) = true := by
  have hu := treeTs_ok h
  have T := (tree_trn h).eight
  unfold sideV oddS
  rw [hu]
  have : oddT (treeTs K ts) (sd8 K (treeTs K ts)) = none := by
    unfold oddT
    rw [List.find?_eq_none]
    intro t ht
    obtain ⟨x, y, hxy, hy8, e, _, hh⟩ := tie_form hu ht
    rw [hasB_ok hu] at hh
    have hne := T.sides hh
    subst e
    rw [sameB_nat', xi_sd8 (by omega), xi_sd8 (by omega), tree_twice h]
    simp; omega
  rw [this]; rfl
set_option maxHeartbeats 1600000 in
theorem sideTree_walk (bo : Option Addr) (n cap : Nat) (w : World) (hb : BytesIn w bo n) (hnil : bo = none → n = 0 ∧ cap = 0) (hc : n ≤ cap) (hm : cap ≤ maxLen) (hT : Tab w) :
    Calls Tryd.prog 9 #[.slice bo n cap] w fun e w' => e = .returned (.bool true) ∧ Below w.heap.size w w' := by
  by_cases hl : 1048576 < n
  · have hl' : (1048576 : Int) < (n : Int) := by omega
    have hn' : n ≤ 9223372036854775807 := by unfold maxLen at hm; omega
    go_enter Tryd.func9, Tryd.ntmps9
    go_wp2
    go_ret
    exact ⟨rfl, Below.refl _ _⟩
  have hl' : decide ((1048576 : Int) < (n : Int)) = false := by simp; omega
  go_enter Tryd.func9, Tryd.ntmps9
  go_wp2_with fail
  refine (drawTreeOf_any bo n cap _ hb hnil hc hm).mono ?_
  rintro e w1 ⟨K, ao, cap', ts, rfl, D1⟩
  have hn : ts.length ≤ 1099511627776 := by have := D1.short; omega
  have HB1 := hideP D1.bel
  have T1 := hideP (hT.below D1.bel hT.2)
  have hoN := D1.own
  clear D1 hT
  have T1a := hideP (T1.out.below (below_one w1 (.cells #[.int .i64 K, .slice ao ts.length cap'] 25)) T1.out.2)
  have HB1a := hideP (HB1.out.trans ((below_one w1 (.cells #[.int .i64 K, .slice ao ts.length cap'] 25)).mono HB1.out.size))
  have N1a := hideP (NetV.new (K := K) (cap := cap') 25 (hoN.ties (Nat.le_refl _)))
  clear hoN
  have hul := treeTs_len K ts
  have hul' : (treeTs K ts).length ≤ 1099511627776 := by omega
  obtain ⟨us, hus⟩ : ∃ us, us = treeTs K ts := ⟨_, rfl⟩
  have HUS := hideP hus
  rw [← hus] at hul hul'
  clear hus
  go_wp2_with fail
  refine (implTree_any K ao cap' ts _ hn N1a.out.ties T1a.out).mono ?_
  rw [← HUS.out]
  rintro e w2 ⟨aoL, capL, rfl, ho2, hb2⟩
  have N2 := hideP (N1a.out.next hb2)
  have T2 := hideP (T1a.out.below hb2 T1a.out.2)
  have HB2 := hideP (HB1a.out.trans (hb2.mono HB1a.out.size))
  have L2 := hideP (ho2.ties (Nat.le_refl _))
  clear hb2 ho2 N1a T1a HB1a
  have n0 := N2.out.c0
  have n1 := N2.out.c1
  go_wp2_with fail
  refine (specTree_any K ao cap' ts _ hn N2.out.ties).mono ?_
  rw [← HUS.out]
  rintro e w3 ⟨aoS, capS, rfl, ho3, hb3⟩
  have N3 := hideP (N2.out.next hb3)
  have L3 := hideP ((L2.out.below hb3 (Nat.le_refl _)).wide hb3.size)
  have S3 := hideP (ho3.ties (Nat.le_refl _))
  have HB3 := hideP (HB2.out.trans (hb3.mono HB2.out.size))
  have T3 := hideP (T2.out.below hb3 T2.out.2)
  clear hb3 ho3 N2 L2 HB2 T2 n0 n1
  go_wp2_with fail
  refine (loTies_same aoL aoS capL capS us _ hul' L3.out S3.out).mono ?_
  rintro e w4 ⟨rfl, hb4⟩
  have N4 := hideP (N3.out.next hb4)
  have L4 := hideP ((L3.out.below hb4 (Nat.le_refl _)).wide hb4.size)
  have HB4 := hideP (HB3.out.trans (hb4.mono HB3.out.size))
  have T4 := hideP (T3.out.below hb4 T3.out.2)
  clear hb4 N3 L3 S3 HB3 T3
  have n0 := N4.out.c0
  have n1 := N4.out.c1
  cases hok : okB K ts
  · have HOK := hideP hok
    clear hok
    go_wp2_with fail
    refine (specOk_is false K ao cap' ts _ hn N4.out.ties HOK.out).mono ?_
    rintro e w5 ⟨rfl, hb5⟩
    have N5 := hideP (N4.out.next hb5)
    have L5 := hideP ((L4.out.below hb5 (Nat.le_refl _)).wide hb5.size)
    have HB5 := hideP (HB4.out.trans (hb5.mono HB4.out.size))
    clear hb5 N4 L4 HB4 T4 n0 n1
    have n0 := N5.out.c0
    have n1 := N5.out.c1
    go_wp2_with fail
    refine (specTree_any K ao cap' ts _ hn N5.out.ties).mono ?_
    rw [← HUS.out]
    rintro e w6 ⟨aoS6, capS6, rfl, ho6, hb6⟩
    have L6 := hideP ((L5.out.below hb6 (Nat.le_refl _)).wide hb6.size)
    have S6 := hideP (ho6.ties (Nat.le_refl _))
    have HB6 := hideP (HB5.out.trans (hb6.mono HB5.out.size))
    clear hb6 ho6 N5 L5 HB5 n0 n1
    go_wp2_with fail
    refine (loTies_same aoL aoS6 capL capS6 us _ hul' L6.out S6.out).mono ?_
    rintro e w7 ⟨rfl, hb7⟩
    have HB7 := hideP (HB6.out.trans (hb7.mono HB6.out.size))
    clear hb7
    go_wp2
    go_ret
    exact ⟨rfl, HB7.out⟩
  have HOK := hideP hok
  have HSV : Hid (sideV K us = true) := by rw [HUS.out]; exact hideP (sideV_tree hok)
  clear hok
  go_wp2_with fail
  refine (specOk_is true K ao cap' ts _ hn N4.out.ties HOK.out).mono ?_
  rintro e w5 ⟨rfl, hb5⟩
  have N5 := hideP (N4.out.next hb5)
  have L5 := hideP ((L4.out.below hb5 (Nat.le_refl _)).wide hb5.size)
  have HB5 := hideP (HB4.out.trans (hb5.mono HB4.out.size))
  have T5 := hideP (T4.out.below hb5 T4.out.2)
  clear hb5 N4 L4 HB4 T4 n0 n1
  have n0 := N5.out.c0
  have n1 := N5.out.c1
  go_wp2_with fail
  refine (implSideOf_any K aoL capL us _ hul' L5.out T5.out).mono ?_
  rw [HSV.out]
  rintro e w6 ⟨aoA, capA, rfl, ho6, hb6⟩
  have HB6 := hideP (HB5.out.trans (hb6.mono HB5.out.size))
  clear ho6 hb6 N5 L5 T5 HB5 n0 n1
  go_wp2
  go_ret
  exact ⟨rfl, HB6.out⟩

end Go.Proofs.YtiaeffpjcinilaaDoor
