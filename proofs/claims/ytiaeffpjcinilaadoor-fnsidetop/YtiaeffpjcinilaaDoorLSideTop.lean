/- Walk of laws.FnSideTop: it returns true. -/
import Derived.Test.YtiaeffpjcinilaaDoorWDrawSd
import Derived.Test.YtiaeffpjcinilaaDoorWLo
import Derived.Test.YtiaeffpjcinilaaDoorPartWTree
import Derived.Test.YtiaeffpjcinilaaDoorWSideOddS
import Derived.Test.YtiaeffpjcinilaaDoorPartMathX
import Derived.Deep.RegionHeld3
namespace Go.Proofs.YtiaeffpjcinilaaDoor
open Go.RowKit
set_option linter.unusedVariables false

set_option maxHeartbeats 1600000 in
theorem sideTop_walk (bo : Option Addr) (n cap : Nat) (w : World) (hb : BytesIn w bo n) (hnil : bo = none → n = 0 ∧ cap = 0) (hc : n ≤ cap) (hm : cap ≤ maxLen) (hT : Tab w) :
    Calls Tryd.prog 4 #[.slice bo n cap] w fun e w' => e = .returned (.bool true) ∧ Below w.heap.size w w' := by
  by_cases hl : 1048576 < n
  · have hl' : (1048576 : Int) < (n : Int) := by omega
    have hn' : n ≤ 9223372036854775807 := by unfold maxLen at hm; omega
    go_enter Tryd.func4, Tryd.ntmps4
    go_wp2
    go_ret
    exact ⟨rfl, Below.refl _ _⟩
  have hl' : decide ((1048576 : Int) < (n : Int)) = false := by simp; omega
  go_enter Tryd.func4, Tryd.ntmps4
  go_wp2_with fail
  refine (drawSideOf_any bo n cap _ hb hnil hc hm).mono ?_
  rintro e w1 ⟨K, ao, cap', ts, rfl, D1⟩
  have hn : ts.length ≤ 1099511627776 := by have := D1.short; omega
  have HB1 := hideP D1.bel
  have T1 := hideP (hT.below D1.bel hT.2)
  have hoN := D1.own
  clear D1 hT
  have T1a := hideP (T1.out.below (below_one w1 (.cells #[.int .i64 K, .slice ao ts.length cap'] 25)) T1.out.2)
  have HB1a := hideP (HB1.out.trans ((below_one w1 (.cells #[.int .i64 K, .slice ao ts.length cap'] 25)).mono HB1.out.size))
  have N1a := hideP (NetV.new (K := K) (cap := cap') 25 (hoN.ties (Nat.le_refl _)))
  clear hoN
  obtain ⟨V, hV⟩ : ∃ V, V = sideV K ts := ⟨_, rfl⟩
  obtain ⟨U, hU⟩ : ∃ U, U = oddV K ts := ⟨_, rfl⟩
  obtain ⟨v, hv⟩ : ∃ v, okB K ts = v := ⟨_, rfl⟩
  have HOK := hideP hv
  have HVU : Hid ((v = false ∧ V = false ∧ U = false) ∨ (v = true ∧ U = !V)) := hideP (by
    rw [hV, hU]
    unfold sideV oddV
    rw [hv]
    cases v
    · left; simp
    · right; simp)
  have HV := hideP hV
  have HU := hideP hU
  clear hV hU hv
  have n0 := N1a.out.c0
  have n1 := N1a.out.c1
  go_wp2_with fail
  refine (specSideOf_any K ao cap' ts _ hn N1a.out.ties).mono ?_
  rw [← HV.out]
  rintro e w2 ⟨gS, oS, cS, rfl, hRS, hb2⟩
  have N2 := hideP (N1a.out.next hb2)
  have T2 := hideP (T1a.out.below hb2 T1a.out.2)
  have HB2 := hideP (HB1a.out.trans (hb2.mono HB1a.out.size))
  clear hb2 hRS n0 n1 N1a T1a HB1a
  have n0 := N2.out.c0
  have n1 := N2.out.c1
  go_wp2_with fail
  refine (implSideOf_any K ao cap' ts _ hn N2.out.ties T2.out).mono ?_
  rw [← HV.out]
  rintro e w3 ⟨aoI, cI, rfl, hOI, hb3⟩
  have N3 := hideP (N2.out.next hb3)
  have T3 := hideP (T2.out.below hb3 T2.out.2)
  have HB3 := hideP (HB2.out.trans (hb3.mono HB2.out.size))
  clear hb3 hOI n0 n1 N2 T2 HB2
  have n0 := N3.out.c0
  have n1 := N3.out.c1
  go_wp2_with fail
  refine (implSideOdd_any K ao cap' ts _ hn N3.out.ties T3.out).mono ?_
  rw [← HU.out]
  rintro e w4 ⟨aoO, cO, rfl, hOO, hb4⟩
  have N4 := hideP (N3.out.next hb4)
  have HB4 := hideP (HB3.out.trans (hb4.mono HB3.out.size))
  clear hb4 hOO n0 n1 N3 T3 HB3 HV HU
  have n0 := N4.out.c0
  have n1 := N4.out.c1
  rcases HVU.out with ⟨e1, e2, e3⟩ | ⟨e1, e2⟩
  · subst e1
    subst e2
    subst e3
    go_wp2_with fail
    refine (specOk_is false K ao cap' ts _ hn N4.out.ties HOK.out).mono ?_
    rintro e w5 ⟨rfl, hb5⟩
    have N5 := hideP (N4.out.next hb5)
    have HB5 := hideP (HB4.out.trans (hb5.mono HB4.out.size))
    clear hb5 N4 HB4 n0 n1
    go_wp2
    go_ret
    exact ⟨rfl, HB5.out⟩
  · subst e1
    subst e2
    go_wp2_with fail
    refine (specOk_is true K ao cap' ts _ hn N4.out.ties HOK.out).mono ?_
    rintro e w5 ⟨rfl, hb5⟩
    have N5 := hideP (N4.out.next hb5)
    have HB5 := hideP (HB4.out.trans (hb5.mono HB4.out.size))
    clear hb5 N4 HB4 n0 n1
    have n0 := N5.out.c0
    have n1 := N5.out.c1
    cases V with
    | true =>
      go_wp2_with fail
      refine (specOk_is true K ao cap' ts _ hn N5.out.ties HOK.out).mono ?_
      rintro e w6 ⟨rfl, hb6⟩
      have HB6 := hideP (HB5.out.trans (hb6.mono HB5.out.size))
      clear hb6 N5 HB5 n0 n1
      go_wp2
      go_ret
      exact ⟨rfl, HB6.out⟩
    | false =>
      go_wp2_with fail
      refine (specOk_is true K ao cap' ts _ hn N5.out.ties HOK.out).mono ?_
      rintro e w6 ⟨rfl, hb6⟩
      have HB6 := hideP (HB5.out.trans (hb6.mono HB5.out.size))
      clear hb6 N5 HB5 n0 n1
      go_wp2
      go_ret
      exact ⟨rfl, HB6.out⟩

end Go.Proofs.YtiaeffpjcinilaaDoor
