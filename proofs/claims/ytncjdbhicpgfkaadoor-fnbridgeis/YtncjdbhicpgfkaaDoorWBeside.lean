/- Walk of laws.loBeside. -/
import Derived.Test.YtncjdbhicpgfkaaDoorWReach3
import Derived.Test.YtncjdbhicpgfkaaDoorWAlls
import Derived.Test.YtncjdbhicpgfkaaDoorWLo
import Derived.Test.YtncjdbhicpgfkaaDoorPartWAllI
import Derived.Test.YtncjdbhicpgfkaaDoorMathV
import Derived.Deep.RegionHeld3
namespace Go.Proofs.YtncjdbhicpgfkaaDoor
open Go.RowKit
set_option linter.unusedVariables false

set_option maxHeartbeats 800000 in
theorem loBeside_any (v : Bool) (Kn : Nat) (ao : Option Addr) (cap : Nat) (ts : List (Int × Int)) (a b : Nat) (w : World) (hn : ts.length ≤ 1099511627776) (ht : TiesIn w w.heap.size ao ts) (hT : Tab w) (hh : hasB (Kn : Int) ts (a : Int) (b : Int) = true) (hv : (!bridgeB (Kn : Int) ts (a : Int) (b : Int)) = v) :
    Calls Tryd.prog 41 #[.agg #[.int .i64 (Kn : Int), .slice ao ts.length cap], .int .i64 (a : Int), .int .i64 (b : Int)] w fun e w' => e = .returned (.bool v) ∧ Below w.heap.size w w' := by
  have hk := hasB_knot hh
  have hcut : cutB (Kn : Int) ts (a : Int) (b : Int) = true := hh
  have HC := hideP (cutOut hcut)
  have hr := bridge_beside hh
  rw [hv] at hr
  have HR := hideP hr
  have hul := cutTs_len (Kn : Int) ts (a : Int) (b : Int)
  have hN1 := NetV.new (K := (Kn : Int)) (cap := cap) 25 ht
  have N1 := hideP hN1
  have hT1 := hT.below (below_one w (.cells #[.int .i64 (Kn : Int), .slice ao ts.length cap] 25)) hT.2
  have T1 := hideP hT1
  have HCK := hideP (cutK_yes hcut)
  clear hh hv hr hN1 hT1 hT ht
  go_enter Tryd.func41, Tryd.ntmps41
  go_wp2_with fail
  refine (netCut_all (Kn : Int) ao cap ts (a : Int) (b : Int) _ hn N1.out.ties T1.out).mono ?_
  rintro e w2 ⟨aoX, capX, rfl, hoX, hb2⟩
  rw [HCK.out, hcut]
  obtain ⟨us, hus⟩ : ∃ x, x = cutTs (Kn : Int) ts (a : Int) (b : Int) := ⟨_, rfl⟩
  rw [← hus] at hoX hul HR HC ⊢
  have T2 := hideP (T1.out.below hb2 T1.out.2)
  have HB2 : Hid (Below w.heap.size w w2) := (below_one _ _).trans (hb2.mono (by simp))
  have X2a := hideP (NetV.new (K := (Kn : Int)) (cap := capX) 25 (hoX.ties (Nat.le_refl _)))
  have T2a := hideP (T2.out.below (below_one w2 (.cells #[.int .i64 (Kn : Int), .slice aoX us.length capX] 25)) T2.out.2)
  have HB2a := hideP (HB2.out.trans ((below_one w2 (.cells #[.int .i64 (Kn : Int), .slice aoX us.length capX] 25)).mono HB2.out.size))
  clear hoX hb2 hus N1 T1 HCK hcut
  have hunus : us.length ≤ 1099511627776 := by omega
  have haK : a < Kn := by omega
  have hbK : b < Kn := by omega
  have hbK' : (b : Int) < (Kn : Int) := by omega
  go_wp2_with fail
  refine (implReach_ok Kn aoX capX us a _ hunus X2a.out.ties T2a.out HC.out.ok haK).mono ?_
  rintro e w5 ⟨g5, cap5, rfl, hO5, hb5⟩
  have HB5 := hideP (HB2a.out.trans (hb5.mono HB2a.out.size))
  have c5 : w5.cell? ⟨g5, b, none⟩ = some (.bool v) := by rw [hO5.1 b hbK, bcell, HR.out]
  have hg5 := hO5.2.2
  clear hb5 HB2a X2a T2a HB2 T2 HC hO5
  go_wp2
  go_ret
  exact ⟨rfl, HB5.out⟩

end Go.Proofs.YtncjdbhicpgfkaaDoor
