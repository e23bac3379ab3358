/- Nets in variables of a law; walks of laws.loTies, loNet, loHas, loTie. -/
import Derived.Test.YtljnjpjnadlmhaaPartWLeaf
import Derived.Test.YtljnjpjnadlmhaaMath
import Derived.Test.YtljnjpjnadlmhaaPartWReach
import Derived.BigRegion
namespace Go.Proofs.Ytljnjpjnadlmhaa
open Go.RowKit
set_option linter.unusedVariables false

/-- a net in a variable: its two cells, its ties -/
structure NetV (w : World) (A : Nat) (K : Int) (ao : Option Addr) (cap : Nat) (ts : List (Int × Int)) : Prop where
  c0 : w.cell? ⟨A, 0, none⟩ = some (.int .i64 K)
  c1 : w.cell? ⟨A, 1, none⟩ = some (.slice ao ts.length cap)
  lt : A < w.heap.size
  ties : TiesIn w w.heap.size ao ts
theorem NetV.next {w w' : World} {A : Nat} {K : Int} {ao : Option Addr} {cap : Nat} {ts : List (Int × Int)} (h : NetV w A K ao cap ts) (hb : Below w.heap.size w w') : NetV w' A K ao cap ts :=
  ⟨(hb.cell (p := ⟨A, 0, none⟩) h.lt).trans h.c0, (hb.cell (p := ⟨A, 1, none⟩) h.lt).trans h.c1, Nat.lt_of_lt_of_le h.lt hb.size, (h.ties.below hb (Nat.le_refl _)).wide hb.size⟩
theorem NetV.new {w : World} {K : Int} {ao : Option Addr} {cap : Nat} {ts : List (Int × Int)} (t : TypeId) (h : TiesIn w w.heap.size ao ts) : NetV (w.alloc (.cells #[.int .i64 K, .slice ao ts.length cap] t)) w.heap.size K ao cap ts :=
  ⟨by simp, by simp, by simp, (h.below (below_one _ _) (Nat.le_refl _)).wide (by simp)⟩

end Go.Proofs.Ytljnjpjnadlmhaa
