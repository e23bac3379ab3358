/- Walk of spec.TreeOf. -/
import Derived.Test.YtjcjabplfbgpnaaDoorMathT
import Derived.Test.YtjcjabplfbgpnaaDoorPartWReach2
import Derived.Laws.OwnMore
namespace Go.Proofs.YtjcjabplfbgpnaaDoor
open Go.RowKit
set_option linter.unusedVariables false

theorem clist_app (L : List (Int × Int)) (x : Int × Int) : clist (L ++ [x]) (L.length + 1) = clist L L.length ++ [.int .i64 x.1, .int .i64 x.2] := by
  rw [clist_succ, (tA_app L x).1, (tA_app L x).2]
  congr 1
  unfold clist
  apply List.map_congr_left
  intro j hj
  have hj' : j < L.length * 2 := by simpa using hj
  have := tA_pre L x (i := j / 2) (by omega)
  unfold tcell
  rw [this.1, this.2]
theorem own_next {w w' : World} {base : Nat} {e : TypeId} {size : Nat} {v : Value} {n : Nat} {xs : List Value} (h : w.ownsRow base e size v n xs) (hb : Below w.heap.size w w') : w'.ownsRow base e size v n xs := by
  refine h.kept (row := none) ⟨hb.os, hb.tape, hb.output, hb.size, fun k hk _ => hb.block k hk⟩ ?_
  cases v.ownBlock <;> simp
theorem own_ties {w : World} {base cap : Nat} {ao : Option Addr} {us : List (Int × Int)} (h : w.ownsRow base 46 2 (.slice ao us.length cap) us.length (clist us us.length)) : TiesIn w w.heap.size ao us := (OwnN.of_row h).ties (Nat.le_refl _)

end Go.Proofs.YtjcjabplfbgpnaaDoor
