/- Rings of both sides, read, with the room that they have. -/
import Derived.Test.YtloicmngoaccoaaDoorWAllU
import Derived.Test.YtloicmngoaccoaaDoorWRingsS
namespace Go.Proofs.YtloicmngoaccoaaDoor
open Go.RowKit
set_option linter.unusedVariables false

theorem implRings_u (ps : List (List Nat)) (K : Int) (ao : Option Addr) (cap : Nat) (ts : List (Int × Int)) (w : World) (hn : ts.length ≤ 1099511627776) (ht : TiesIn w w.heap.size ao ts) (hT : Tab w) (hp : ringsB K ts = ps) :
    Calls Tryd.prog 18 #[.agg #[.int .i64 K, .slice ao ts.length cap]] w fun e w' => ∃ ao' cap', e = .returned (.slice ao' ps.length cap') ∧ AllU w' ao' ps ∧ Below w.heap.size w w' := by
  subst hp
  refine (implRings_any K ao cap ts w hn ht hT).mono ?_
  rintro e w' ⟨ao', cap', rfl, h, hb⟩
  exact ⟨ao', cap', rfl, h.room (fun q hq => ringsB_mem hq), hb⟩
theorem specRings_v (ps : List (List Nat)) (K : Int) (ao : Option Addr) (cap : Nat) (ts : List (Int × Int)) (w : World) (hn : ts.length ≤ 1099511627776) (ht : TiesIn w w.heap.size ao ts) (hp : ringsB K ts = ps) :
    Calls Tryd.prog 20 #[.agg #[.int .i64 K, .slice ao ts.length cap]] w fun e w' => ∃ ao' cap', e = .returned (.slice ao' ps.length cap') ∧ AllV w' ao' ps ∧ Below w.heap.size w w' := by
  subst hp
  refine (specRings_any K ao cap ts w hn ht).mono ?_
  rintro e w' ⟨ao', cap', rfl, h, hb⟩
  exact ⟨ao', cap', rfl, (h.room (fun q hq => ringsB_mem hq)).seen, hb⟩

end Go.Proofs.YtloicmngoaccoaaDoor
