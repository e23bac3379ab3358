/- Texts put together: WTree, WTreeS. -/
import Derived.Test.YtljnjpjnadlmhaaDoorPartMathT
import Derived.Test.YtljnjpjnadlmhaaDoorPartWForest
import Derived.Test.YtljnjpjnadlmhaaDoorPartWTies
import Derived.Test.YtljnjpjnadlmhaaDoorPartWReach2
import Derived.Laws.OwnMore
/- Walks of impl.treeOf and impl.TreeOf. -/
namespace Go.Proofs.YtljnjpjnadlmhaaDoor
open Go.RowKit
set_option linter.unusedVariables false

/-- a forest of the call's own in block A; all that was there is as it was -/
structure Gst (w wr : World) (A : Nat) (c : Nat → Value) : Prop where
  F : OwnI wr A 8 c
  B : Below w.heap.size w wr
  h : w.heap.size ≤ A
theorem Gst.next {w wr w' : World} {A : Nat} {c : Nat → Value} (h : Gst w wr A c) (hb : Below wr.heap.size wr w') : Gst w w' A c :=
  ⟨h.F.below hb h.F.2.2, h.B.trans (hb.mono h.B.size), h.h⟩
theorem Gst.turn {w wr w' : World} {A : Nat} {c c' : Nat → Value} (h : Gst w wr A c) (ht : Turned A (A + 1) wr w') (hF : OwnI w' A 8 c') : Gst w w' A c' :=
  ⟨hF, h.B.trans (ht.under h.h h.B.size), h.h⟩
end Go.Proofs.YtljnjpjnadlmhaaDoor

/- Walk of spec.TreeOf. -/
namespace Go.Proofs.YtljnjpjnadlmhaaDoor
open Go.RowKit
set_option linter.unusedVariables false

theorem clist_app (L : List (Int × Int)) (x : Int × Int) : clist (L ++ [x]) (L.length + 1) = clist L L.length ++ [.int .i64 x.1, .int .i64 x.2] := by
  rw [clist_succ, (tA_app L x).1, (tA_app L x).2]
  congr 1
  unfold clist
  apply List.map_congr_left
  intro j hj
  have hj' : j < L.length * 2 := by simpa using hj
  have := tA_pre L x (i := j / 2) (by omega)
  unfold tcell
  rw [this.1, this.2]
theorem own_next {w w' : World} {base : Nat} {e : TypeId} {size : Nat} {v : Value} {n : Nat} {xs : List Value} (h : w.ownsRow base e size v n xs) (hb : Below w.heap.size w w') : w'.ownsRow base e size v n xs := by
  refine h.kept (row := none) ⟨hb.os, hb.tape, hb.output, hb.size, fun k hk _ => hb.block k hk⟩ ?_
  cases v.ownBlock <;> simp
theorem own_ties {w : World} {base cap : Nat} {ao : Option Addr} {us : List (Int × Int)} (h : w.ownsRow base 63 2 (.slice ao us.length cap) us.length (clist us us.length)) : TiesIn w w.heap.size ao us := (OwnN.of_row h).ties (Nat.le_refl _)

end Go.Proofs.YtljnjpjnadlmhaaDoor
