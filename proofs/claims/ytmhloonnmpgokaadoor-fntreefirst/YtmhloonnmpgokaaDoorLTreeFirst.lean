/- Walk of laws.FnTreeFirst: it returns true. -/
import Derived.Test.YtmhloonnmpgokaaDoorWDrawTk
import Derived.Test.YtmhloonnmpgokaaDoorWLo
import Derived.Test.YtmhloonnmpgokaaDoorWLoLess
import Derived.Test.YtmhloonnmpgokaaDoorWTreeOkS
namespace Go.Proofs.YtmhloonnmpgokaaDoor
open Go.RowKit
set_option linter.unusedVariables false

theorem implTreeOk_w (v : Bool) (K : Int) (ao bo : Option Addr) (cap cap2 : Nat) (ts us : List (Int × Int)) (w : World) (hn : ts.length ≤ 1099511627776) (ht : TiesIn w w.heap.size ao ts) (hn2 : us.length ≤ 1099511627776) (hu : TiesIn w w.heap.size bo us) (hT : Tab w) (h : treeOkB K ts us = v) :
    Calls Tryd.prog 6 #[.agg #[.int .i64 K, .slice ao ts.length cap], .slice bo us.length cap2] w fun e w' => e = .returned (.bool v) ∧ Below w.heap.size w w' := by
  rw [← h]; exact implTreeOk_any K ao bo cap cap2 ts us w hn ht hn2 hu hT
theorem specTreeOk_w (v : Bool) (K : Int) (ao bo : Option Addr) (cap cap2 : Nat) (ts us : List (Int × Int)) (w : World) (hn : ts.length ≤ 1099511627776) (ht : TiesIn w w.heap.size ao ts) (hn2 : us.length ≤ 1099511627776) (hu : TiesIn w w.heap.size bo us) (h : treeOkB K ts us = v) :
    Calls Tryd.prog 7 #[.agg #[.int .i64 K, .slice ao ts.length cap], .slice bo us.length cap2] w fun e w' => e = .returned (.bool v) ∧ Below w.heap.size w w' := by
  rw [← h]; exact specTreeOk_any K ao bo cap cap2 ts us w hn ht hn2 hu
set_option maxHeartbeats 1600000 in
theorem treeFirst_walk (bo : Option Addr) (n cap : Nat) (w : World) (hb : BytesIn w bo n) (hnil : bo = none → n = 0 ∧ cap = 0) (hc : n ≤ cap) (hm : cap ≤ maxLen) (hT : Tab w) :
    Calls Tryd.prog 4 #[.slice bo n cap] w fun e w' => e = .returned (.bool true) ∧ Below w.heap.size w w' := by
  by_cases hl : 1048576 < n
  · have hl' : (1048576 : Int) < (n : Int) := by omega
    have hn' : n ≤ 9223372036854775807 := by unfold maxLen at hm; omega
    go_enter Tryd.func4, Tryd.ntmps4
    go_wp2
    go_ret
    exact ⟨rfl, Below.refl _ _⟩
  have hl' : decide ((1048576 : Int) < (n : Int)) = false := by simp; omega
  go_enter Tryd.func4, Tryd.ntmps4
  go_wp2_with fail
  refine (drawTreeOk_any bo n cap _ hb hnil hc hm).mono ?_
  rintro e w1 ⟨K, ao, cap', ts, co, capC, us, rfl, D1⟩
  have hn : ts.length ≤ 1099511627776 := by have := D1.short; omega
  have hn2 : us.length ≤ 1099511627776 := by have := D1.few; omega
  have HB1 := hideP D1.bel
  have T1 := hideP (hT.below D1.bel hT.2)
  have LN := D1.net
  have LU := D1.list
  clear D1 hT
  have T1a := hideP (T1.out.below (below_one w1 (.cells #[.int .i64 K, .slice ao ts.length cap'] 25)) T1.out.2)
  have HB1a := hideP (HB1.out.trans ((below_one w1 (.cells #[.int .i64 K, .slice ao ts.length cap'] 25)).mono HB1.out.size))
  have N1a := hideP (NetV.new (K := K) (cap := cap') 25 LN)
  have U1a : Hid (TiesIn (w1.alloc (.cells #[.int .i64 K, .slice ao ts.length cap'] 25)) (w1.alloc (.cells #[.int .i64 K, .slice ao ts.length cap'] 25)).heap.size co us) := (LU.below (below_one _ _) (Nat.le_refl _)).wide (by simp)
  clear LN LU HB1 T1
  have HTF := hideP (tree_first (K := K) (ts := ts) (us := us))
  obtain ⟨ok, hok⟩ : ∃ b, b = treeOkB K ts us := ⟨_, rfl⟩
  have HOK : Hid (treeOkB K ts us = ok) := hok.symm
  clear hok
  have hul' : (treeTs K ts).length ≤ 1099511627776 := by have := treeTs_len K ts; omega
  obtain ⟨tr, htr⟩ : ∃ tr, tr = treeTs K ts := ⟨_, rfl⟩
  have HTR := hideP htr
  rw [← htr] at hul' HTF
  clear htr
  go_wp2_with fail
  refine (implTreeOk_w ok K ao co cap' capC ts us _ hn N1a.out.ties hn2 U1a.out T1a.out HOK.out).mono ?_
  rintro e w2 ⟨rfl, hb2⟩
  have N2 := hideP (N1a.out.next hb2)
  have T2 := hideP (T1a.out.below hb2 T1a.out.2)
  have U2 := hideP ((U1a.out.below hb2 (Nat.le_refl _)).wide hb2.size)
  have HB2 := hideP (HB1a.out.trans (hb2.mono HB1a.out.size))
  clear hb2 N1a T1a U1a HB1a
  have n0 := N2.out.c0
  have n1 := N2.out.c1
  go_wp2_with fail
  refine (implTree_any K ao cap' ts _ hn N2.out.ties T2.out).mono ?_
  rw [← HTR.out]
  rintro e w3 ⟨aoT, capT, rfl, ho3, hb3⟩
  have N3 := hideP (N2.out.next hb3)
  have U3 := hideP ((U2.out.below hb3 (Nat.le_refl _)).wide hb3.size)
  have L3 := hideP (ho3.ties (Nat.le_refl _))
  have HB3 := hideP (HB2.out.trans (hb3.mono HB2.out.size))
  clear hb3 N2 T2 U2 HB2 n0 n1 ho3
  have n0 := N3.out.c0
  have n1 := N3.out.c1
  have hokk : (ok != ok) = false := by simp
  go_wp2_with fail
  refine (specTreeOk_w ok K ao co cap' capC ts us _ hn N3.out.ties hn2 U3.out HOK.out).mono ?_
  rintro e w4 ⟨rfl, hb4⟩
  have N4 := hideP (N3.out.next hb4)
  have L4 := hideP ((L3.out.below hb4 (Nat.le_refl _)).wide hb4.size)
  have U4 := hideP ((U3.out.below hb4 (Nat.le_refl _)).wide hb4.size)
  have HB4 := hideP (HB3.out.trans (hb4.mono HB3.out.size))
  clear hb4 n0 n1 N3 L3 U3 HB3
  have n0 := N4.out.c0
  have n1 := N4.out.c1
  go_wp2_with fail
  refine (specTree_any K ao cap' ts _ hn N4.out.ties).mono ?_
  rw [← HTR.out]
  rintro e w5 ⟨aoS, capS, rfl, ho5, hb5⟩
  have L5 := hideP ((L4.out.below hb5 (Nat.le_refl _)).wide hb5.size)
  have U5 := hideP ((U4.out.below hb5 (Nat.le_refl _)).wide hb5.size)
  have S5 := hideP (ho5.ties (Nat.le_refl _))
  have HB5 := hideP (HB4.out.trans (hb5.mono HB4.out.size))
  clear hb5 ho5 n0 n1 N4 L4 U4 HB4
  go_wp2_with fail
  refine (loTies_same aoT aoS capT capS tr _ hul' L5.out S5.out).mono ?_
  rintro e w6 ⟨rfl, hb6⟩
  have L6 := hideP ((L5.out.below hb6 (Nat.le_refl _)).wide hb6.size)
  have U6 := hideP ((U5.out.below hb6 (Nat.le_refl _)).wide hb6.size)
  have HB6 := hideP (HB5.out.trans (hb6.mono HB5.out.size))
  clear hb6 L5 U5 S5 HB5
  cases ok
  · go_wp2
    go_ret
    exact ⟨rfl, HB6.out⟩
  · have HNL := hideP (HTF.out HOK.out)
    go_wp2_with fail
    refine (loLess_no co aoT capC capT us tr _ hn2 hul' U6.out L6.out HNL.out).mono ?_
    rintro e w7 ⟨rfl, hb7⟩
    have HB7 := hideP (HB6.out.trans (hb7.mono HB6.out.size))
    clear hb7
    go_wp2
    go_ret
    exact ⟨rfl, HB7.out⟩

end Go.Proofs.YtmhloonnmpgokaaDoor
