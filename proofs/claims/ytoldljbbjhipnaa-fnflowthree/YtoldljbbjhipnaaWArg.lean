/- What comes in: a laws.Net by value, opened. -/
import Derived.Test.YtoldljbbjhipnaaPartWLeaf
import Derived.ProofKit
import Derived.OpenShut
import Derived.ShutString
import Derived.ChangeOld
import Derived.Lib.SmallJoins
import Derived.Deep.SlicePairs
import Derived.ChangeSlices
namespace Go.Proofs.Ytoldljbbjhipnaa
open Go.ChangeShapes Go.WideShapes Go.ChangeAt Go.RowKit
set_option linter.unusedVariables false

theorem Try.own : ownKnob Try.prog.godebug = none := by kernel_rfl
theorem Try.laidOut : laidOutB Try.prog = true := by kernel_rfl
theorem Try.cellsInt : Try.prog.cellsOf 3 = 1 := by kernel_rfl
theorem cell_lt {w : World} {p : Addr} {v : Value} (h : w.cell? p = some v) : p.block < w.heap.size := by
  apply Decidable.byContradiction
  intro hc
  have e : w.heap[p.block]? = none := Array.getElem?_eq_none (by omega)
  simp [World.cell?, e] at h

theorem tA_map (n : Nat) (f g : Nat → Int) (i : Nat) (h : i < n) : tA ((List.range n).map fun i => (f i, g i)) i = f i := by simp [tA, h]
theorem tB_map (n : Nat) (f g : Nat → Int) (i : Nat) (h : i < n) : tB ((List.range n).map fun i => (f i, g i)) i = g i := by simp [tB, h]

end Go.Proofs.Ytoldljbbjhipnaa
