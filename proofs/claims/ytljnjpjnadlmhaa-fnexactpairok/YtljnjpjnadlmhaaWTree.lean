/- Walks of impl.treeOf and impl.TreeOf. -/
import Derived.Test.YtljnjpjnadlmhaaMathT
import Derived.Test.YtljnjpjnadlmhaaWForest2
import Derived.Test.YtljnjpjnadlmhaaWTies
import Derived.Test.YtljnjpjnadlmhaaWReach2
namespace Go.Proofs.Ytljnjpjnadlmhaa
open Go.RowKit
set_option linter.unusedVariables false

/-- a forest of the call's own in block A; all that was there is as it was -/
structure Gst (w wr : World) (A : Nat) (c : Nat → Value) : Prop where
  F : OwnI wr A 8 c
  B : Below w.heap.size w wr
  h : w.heap.size ≤ A
theorem Gst.next {w wr w' : World} {A : Nat} {c : Nat → Value} (h : Gst w wr A c) (hb : Below wr.heap.size wr w') : Gst w w' A c :=
  ⟨h.F.below hb h.F.2.2, h.B.trans (hb.mono h.B.size), h.h⟩
theorem Gst.turn {w wr w' : World} {A : Nat} {c c' : Nat → Value} (h : Gst w wr A c) (ht : Turned A (A + 1) wr w') (hF : OwnI w' A 8 c') : Gst w w' A c' :=
  ⟨hF, h.B.trans (ht.under h.h h.B.size), h.h⟩
end Go.Proofs.Ytljnjpjnadlmhaa
