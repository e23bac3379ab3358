/- Walk of laws.FnWayCount: it returns true. -/
import Derived.Test.YtcmnjohhffalgaaDoorWReach3
import Derived.Test.YtcmnjohhffalgaaDoorWLo2
import Derived.Test.YtcmnjohhffalgaaDoorWDraw3
import Derived.Test.YtcmnjohhffalgaaDoorWLo
import Derived.Deep.RegionHeld3
import Derived.Deep.RegionWith
import Derived.Test.YtcmnjohhffalgaaDoorWQuiet
namespace Go.Proofs.YtcmnjohhffalgaaDoor
open Go.RowKit
set_option linter.unusedVariables false

set_option maxHeartbeats 1600000 in
theorem wayCount_walk (bo : Option Addr) (n cap : Nat) (w : World) (hb : BytesIn w bo n) (hnil : bo = none → n = 0 ∧ cap = 0) (hc : n ≤ cap) (hm : cap ≤ maxLen) (hT : Tab w) :
    Calls Tryd.prog 6 #[.slice bo n cap] w fun e w' => e = .returned (.bool true) ∧ Below w.heap.size w w' := by
  by_cases hl : 1048576 < n
  · have hl' : (1048576 : Int) < (n : Int) := by omega
    have hn' : n ≤ 9223372036854775807 := by unfold maxLen at hm; omega
    go_enter Tryd.func6, Tryd.ntmps6
    go_wp2
    go_ret
    exact ⟨rfl, Below.refl _ _⟩
  have hl' : decide ((1048576 : Int) < (n : Int)) = false := by simp; omega
  go_enter Tryd.func6, Tryd.ntmps6
  go_wp2_with fail
  refine (drawWayCount_any bo n cap _ hb hnil hc hm).mono ?_
  rintro e w1 ⟨K, ao, cap', ts, rfl, D1⟩
  have hn : ts.length ≤ 1099511627776 := by have := D1.short; omega
  have HB1 := hideP D1.bel
  have T1 := hideP (hT.below D1.bel hT.2)
  have hoN := D1.own
  clear D1 hT
  have T1a := hideP (T1.out.below (below_one w1 (.cells #[.int .i64 K, .slice ao ts.length cap'] 25)) T1.out.2)
  have HB1a := hideP (HB1.out.trans ((below_one w1 (.cells #[.int .i64 K, .slice ao ts.length cap'] 25)).mono HB1.out.size))
  have N1a := hideP (NetV.new (K := K) (cap := cap') 25 (hoN.ties (Nat.le_refl _)))
  clear hoN
  cases hok : okB K ts
  · have HV : Hid (countV K ts = -1) := by show countV K ts = -1; simp [countV, hok]
    clear hok
    go_wp2_with fail
    refine (implCount_ok (-1) K ao cap' ts _ hn N1a.out.ties T1a.out HV.out).mono ?_
    rintro e w2 ⟨rfl, hb2⟩
    have N2 := hideP (N1a.out.next hb2)
    have T2 := hideP (T1a.out.below hb2 T1a.out.2)
    have HB2 := hideP (HB1a.out.trans (hb2.mono HB1a.out.size))
    clear hb2
    have n0 := N2.out.c0
    have n1 := N2.out.c1
    go_wp2_with fail
    refine (specCount_ok (-1) K ao cap' ts _ hn N2.out.ties HV.out).mono ?_
    rintro e w3 ⟨rfl, hb3⟩
    have N3 := hideP (N2.out.next hb3)
    have T3 := hideP (T2.out.below hb3 T2.out.2)
    have HB3 := hideP (HB2.out.trans (hb3.mono HB2.out.size))
    clear hb3 n0 n1 N2 T2 HB2
    have n0 := N3.out.c0
    have n1 := N3.out.c1
    go_wp2_with fail
    refine (specCount_ok (-1) K ao cap' ts _ hn N3.out.ties HV.out).mono ?_
    rintro e w4 ⟨rfl, hb4⟩
    have HB4 := hideP (HB3.out.trans (hb4.mono HB3.out.size))
    clear hb4
    go_wp2
    go_ret
    exact ⟨rfl, HB4.out⟩
  have hnet := okB_iff.1 hok
  have HLOW := hideP (cnt_low hnet)
  have HLE := hideP (cnt_le ts K.toNat)
  obtain ⟨Kn, hKn⟩ : ∃ x : Nat, K = (x : Int) := ⟨K.toNat, by have := hnet.1; omega⟩
  subst hKn
  simp only [Int.toNat_natCast] at HLOW HLE
  have hK8 : Kn ≤ 8 := by have := hnet.2.1; omega
  have HPN : Hid (partN (Kn : Int) ts = Kn) := by show partN (Kn : Int) ts = Kn; simp [partN, hok]
  obtain ⟨cN, hcN⟩ : ∃ c, c = cnt ts Kn := ⟨_, rfl⟩
  have HCN := hideP hcN
  have HV : Hid (countV (Kn : Int) ts = (cN : Int)) := by show countV (Kn : Int) ts = (cN : Int); rw [countV_ok hok, hcN]; simp
  rw [← hcN] at HLOW HLE
  have hc0 : ¬ ((cN : Int) < 0) := by omega
  have hcc : ((cN : Int) != (cN : Int)) = false := by simp
  clear hok hnet hcN
  go_wp2_with fail
  refine (implCount_ok (cN : Int) (Kn : Int) ao cap' ts _ hn N1a.out.ties T1a.out HV.out).mono ?_
  rintro e w2 ⟨rfl, hb2⟩
  have N2 := hideP (N1a.out.next hb2)
  have T2 := hideP (T1a.out.below hb2 T1a.out.2)
  have HB2 := hideP (HB1a.out.trans (hb2.mono HB1a.out.size))
  clear hb2
  have n0 := N2.out.c0
  have n1 := N2.out.c1
  go_wp2_with fail
  refine (specCount_ok (cN : Int) (Kn : Int) ao cap' ts _ hn N2.out.ties HV.out).mono ?_
  rintro e w3 ⟨rfl, hb3⟩
  have N3 := hideP (N2.out.next hb3)
  have T3 := hideP (T2.out.below hb3 T2.out.2)
  have HB3 := hideP (HB2.out.trans (hb3.mono HB2.out.size))
  clear hb3 n0 n1 N2 T2 HB2
  have n0 := N3.out.c0
  have n1 := N3.out.c1
  go_wp2_with fail
  refine (implParts_any (Kn : Int) ao cap' ts _ hn N3.out.ties T3.out).mono ?_
  rw [HPN.out]
  rintro e w4 ⟨aoP, capP, rfl, hoP, hb4⟩
  have N4 := hideP (N3.out.next hb4)
  have HB4 := hideP (HB3.out.trans (hb4.mono HB3.out.size))
  have P4 := hideP hoP
  clear hb4 hoP n0 n1 N3 T3 HB3 hcc
  go_wp2
  go_loopw [5, 7] (fun c i wr => ∃ k : Nat, k ≤ Kn ∧ i = .int .i64 k ∧ c = .int .i64 ((cnt ts k : Nat) : Int) ∧ wr = w4)
    (fun _ i _ => Kn - (intOf i).toNat)
  case atStart => exact ⟨0, Nat.zero_le _, rfl, rfl, rfl⟩
  case round =>
    obtain ⟨k, hk, rfl, rfl, rfl⟩ := hrel
    by_cases hlt : k < Kn
    · obtain ⟨g, rfl, cg⟩ := P4.out.at hlt
      have hcl := cnt_le ts k
      have cg' : wr.cell? ⟨g, k, none⟩ = some (.int .i64 ((topN ts k : Nat) : Int)) := cg
      have hk0 : (0 : Int) ≤ (k : Int) := by omega
      have hk1 : (k : Int) < (Kn : Int) := by omega
      clear cg
      by_cases htk : topN ts k = k
      · have HC := hideP (cnt_yes htk)
        rw [htk] at cg'
        clear htk
        go_wp2
        go_roundw
        case rel => exact ⟨k + 1, by omega, by go_num, by rw [HC.out]; go_num, trivial⟩
        case measure => simp [intOf]; omega
      · have HC := hideP (cnt_no htk)
        obtain ⟨t, ht⟩ : ∃ t, t = topN ts k := ⟨_, rfl⟩
        rw [← ht] at cg' htk
        have hne : ((t : Int) == (k : Int)) = false := by simp; omega
        clear ht htk
        go_wp2
        go_roundw
        case rel => exact ⟨k + 1, by omega, by go_num, by rw [HC.out], trivial⟩
        case measure => simp [intOf]; omega
    · obtain rfl : k = Kn := by omega
      rw [← HCN.out]
      have n0 := N4.out.c0
      have n1 := N4.out.c1
      have h1 : (k : Int) - (ts.length : Int) ≤ (cN : Int) := by have := HLOW.out; omega
      have h2 : (cN : Int) ≤ (k : Int) := by have := HLE.out; omega
      have hcc : ((cN : Int) == (cN : Int)) = true := by simp
      go_wp2
      go_ret
      exact ⟨rfl, HB4.out⟩

end Go.Proofs.YtcmnjohhffalgaaDoor
