/- Rows of the call's own behind a call that turns a few blocks. -/
import Derived.Test.YtccjiampgpgaoaaWInts
import Derived.Test.YtccjiampgpgaoaaWOwn
namespace Go.Proofs.Ytccjiampgpgaoaa
open Go.RowKit
set_option linter.unusedVariables false

theorem OwnI.same {w w' : World} {g n : Nat} {f : Nat → Value} (h : OwnI w g n f) (e : w'.heap[g]? = w.heap[g]?) (hs : w.heap.size ≤ w'.heap.size) : OwnI w' g n f :=
  ⟨fun j hj => (World.cell?_of_block (a := ⟨g, j, none⟩) e).trans (h.1 j hj), fun j => (World.frozen?_of_block (a := ⟨g, j, none⟩) e).trans (h.2.1 j), Nat.lt_of_lt_of_le h.2.2 hs⟩
theorem OwnI.turn {w w' : World} {g n lo hi : Nat} {f : Nat → Value} (h : OwnI w g n f) (ht : Turned lo hi w w') (hg : g < lo ∨ hi ≤ g) : OwnI w' g n f := h.same (ht.block g h.2.2 hg) ht.size
theorem Turned.under {lo hi B : Nat} {w w' : World} (h : Turned lo hi w w') (hB : B ≤ lo) (hl : B ≤ w.heap.size) : Below B w w' :=
  ⟨h.os, h.tape, h.output, h.size, fun k hk => h.block k (by omega) (Or.inl (by omega))⟩

end Go.Proofs.Ytccjiampgpgaoaa
