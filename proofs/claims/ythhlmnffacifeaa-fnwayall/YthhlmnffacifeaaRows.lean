/-
  No cell of these rows narrows 'for every input' (looked for: loops, veiled, ifaces, maps, wideKeys, modest, calm, conditions, laid).
  DERIVED. THE GIVEN ROWS OF THIS SEAT. 6 by the template 'for every input the law returns true; each argument reads behind the call as it read before'; 0 by the template 'total and deterministic' (their statements: YthhlmnffacifeaaTotals.lean).
  GIVEN WITH THE SEED: the statements are not yours to turn. If you find one false, say at which input.
  Laid BY PROGRAM, IN A SANDBOX (cutbox-rows.mjs): the forced cells as the released guide's own fill.sh prints them over the translation 487ecd85e7a54a42… (all of the seat's roots in one cut). By AI agents, Wed Nov 11 2026. No macro, syntax, notation, axiom, sorry.
-/
import Derived.Test.YthhlmnffacifeaaChecked
import GoSem.Claim
import GoSem.ClaimJoined
import GoSem.ClaimMapViews
import Derived.JoinedTies
import Derived.KernelRfl
namespace Go.Proofs.Ythhlmnffacifeaa
/- THE CELL 'sum', in the pinned program and in every row, IS THE sha256 OF THE DUMP (.gsa) THAT YthhlmnffacifeaaProg.lean LOADS. Nothing in Lean hashes anything: it is a label: what it is worth is what the hold of that sum in a sandbox is worth. -/
noncomputable def Try.pinned : Pinned := { name := "ythhlmnffacifeaa", sum := "487ecd85e7a54a424bfbbfb4e0d57b59c13d98c6458fb92e310d57c41aa24bbc", checked := Try.checked }
namespace Rows
def none {H : Type} : Left H := { results := [], args := [] }

/-- 'laws.FnWayShort': WHATEVER THE INPUT: true; the input reads as it did. -/
def fnWayShortSpec : ChangeSpec := { name := "fnWayShort", fn := fun _ => fun
  | [d] => { results := [.lit (.bool true)], args := [d] }
  | _ => none }
def fnWayShortRow : OpenClaim := { program := "ythhlmnffacifeaa", sum := "487ecd85e7a54a424bfbbfb4e0d57b59c13d98c6458fb92e310d57c41aa24bbc", func := "loop.example/osier/laws.FnWayShort", spec := "fnWayShort", unfollowed := true, recurses := true, apart := false }
def FnWayShortSaid : Prop := fnWayShortRow.holds Try.pinned (OpenSpec.ofChange fnWayShortSpec)

/-- ITS FALSE NEIGHBOUR: 'it returns false'. Refute it at one input. -/
def fnWayShortWrong : ChangeSpec := { name := "fnWayShort", fn := fun _ => fun
  | [d] => { results := [.lit (.bool false)], args := [d] }
  | _ => none }
def FnWayShortWrongFalsely : Prop := fnWayShortRow.holds Try.pinned (OpenSpec.ofChange fnWayShortWrong)

/-- 'laws.FnWayAll': WHATEVER THE INPUT: true; the input reads as it did. -/
def fnWayAllSpec : ChangeSpec := { name := "fnWayAll", fn := fun _ => fun
  | [d] => { results := [.lit (.bool true)], args := [d] }
  | _ => none }
def fnWayAllRow : OpenClaim := { program := "ythhlmnffacifeaa", sum := "487ecd85e7a54a424bfbbfb4e0d57b59c13d98c6458fb92e310d57c41aa24bbc", func := "loop.example/osier/laws.FnWayAll", spec := "fnWayAll", unfollowed := true, recurses := true, apart := false }
def FnWayAllSaid : Prop := fnWayAllRow.holds Try.pinned (OpenSpec.ofChange fnWayAllSpec)

/-- ITS FALSE NEIGHBOUR: 'it returns false'. Refute it at one input. -/
def fnWayAllWrong : ChangeSpec := { name := "fnWayAll", fn := fun _ => fun
  | [d] => { results := [.lit (.bool false)], args := [d] }
  | _ => none }
def FnWayAllWrongFalsely : Prop := fnWayAllRow.holds Try.pinned (OpenSpec.ofChange fnWayAllWrong)

/-- 'laws.FnWayEvery': WHATEVER THE INPUT: true; the input reads as it did. -/
def fnWayEverySpec : ChangeSpec := { name := "fnWayEvery", fn := fun _ => fun
  | [d] => { results := [.lit (.bool true)], args := [d] }
  | _ => none }
def fnWayEveryRow : OpenClaim := { program := "ythhlmnffacifeaa", sum := "487ecd85e7a54a424bfbbfb4e0d57b59c13d98c6458fb92e310d57c41aa24bbc", func := "loop.example/osier/laws.FnWayEvery", spec := "fnWayEvery", unfollowed := true, recurses := true, apart := false }
def FnWayEverySaid : Prop := fnWayEveryRow.holds Try.pinned (OpenSpec.ofChange fnWayEverySpec)

/-- ITS FALSE NEIGHBOUR: 'it returns false'. Refute it at one input. -/
def fnWayEveryWrong : ChangeSpec := { name := "fnWayEvery", fn := fun _ => fun
  | [d] => { results := [.lit (.bool false)], args := [d] }
  | _ => none }
def FnWayEveryWrongFalsely : Prop := fnWayEveryRow.holds Try.pinned (OpenSpec.ofChange fnWayEveryWrong)

/-- 'laws.FnWayThree': WHATEVER THE INPUT: true; the input reads as it did. -/
def fnWayThreeSpec : ChangeSpec := { name := "fnWayThree", fn := fun _ => fun
  | [d1, d2] => { results := [.lit (.bool true)], args := [d1, d2] }
  | _ => none }
def fnWayThreeRow : OpenClaim := { program := "ythhlmnffacifeaa", sum := "487ecd85e7a54a424bfbbfb4e0d57b59c13d98c6458fb92e310d57c41aa24bbc", func := "loop.example/osier/laws.FnWayThree", spec := "fnWayThree", unfollowed := true, recurses := true, apart := false }
def FnWayThreeSaid : Prop := fnWayThreeRow.holds Try.pinned (OpenSpec.ofChange fnWayThreeSpec)

/-- ITS FALSE NEIGHBOUR: 'it returns false'. Refute it at one input. -/
def fnWayThreeWrong : ChangeSpec := { name := "fnWayThree", fn := fun _ => fun
  | [d1, d2] => { results := [.lit (.bool false)], args := [d1, d2] }
  | _ => none }
def FnWayThreeWrongFalsely : Prop := fnWayThreeRow.holds Try.pinned (OpenSpec.ofChange fnWayThreeWrong)

/-- 'laws.FnWayPiece': WHATEVER THE INPUT: true; the input reads as it did. -/
def fnWayPieceSpec : ChangeSpec := { name := "fnWayPiece", fn := fun _ => fun
  | [d1, d2] => { results := [.lit (.bool true)], args := [d1, d2] }
  | _ => none }
def fnWayPieceRow : OpenClaim := { program := "ythhlmnffacifeaa", sum := "487ecd85e7a54a424bfbbfb4e0d57b59c13d98c6458fb92e310d57c41aa24bbc", func := "loop.example/osier/laws.FnWayPiece", spec := "fnWayPiece", unfollowed := true, recurses := true, apart := false }
def FnWayPieceSaid : Prop := fnWayPieceRow.holds Try.pinned (OpenSpec.ofChange fnWayPieceSpec)

/-- ITS FALSE NEIGHBOUR: 'it returns false'. Refute it at one input. -/
def fnWayPieceWrong : ChangeSpec := { name := "fnWayPiece", fn := fun _ => fun
  | [d1, d2] => { results := [.lit (.bool false)], args := [d1, d2] }
  | _ => none }
def FnWayPieceWrongFalsely : Prop := fnWayPieceRow.holds Try.pinned (OpenSpec.ofChange fnWayPieceWrong)

/-- 'laws.FnWayFar': WHATEVER THE INPUT: true; the input reads as it did. -/
def fnWayFarSpec : ChangeSpec := { name := "fnWayFar", fn := fun _ => fun
  | [d] => { results := [.lit (.bool true)], args := [d] }
  | _ => none }
def fnWayFarRow : OpenClaim := { program := "ythhlmnffacifeaa", sum := "487ecd85e7a54a424bfbbfb4e0d57b59c13d98c6458fb92e310d57c41aa24bbc", func := "loop.example/osier/laws.FnWayFar", spec := "fnWayFar", unfollowed := true, recurses := true, apart := false }
def FnWayFarSaid : Prop := fnWayFarRow.holds Try.pinned (OpenSpec.ofChange fnWayFarSpec)

/-- ITS FALSE NEIGHBOUR: 'it returns false'. Refute it at one input. -/
def fnWayFarWrong : ChangeSpec := { name := "fnWayFar", fn := fun _ => fun
  | [d] => { results := [.lit (.bool false)], args := [d] }
  | _ => none }
def FnWayFarWrongFalsely : Prop := fnWayFarRow.holds Try.pinned (OpenSpec.ofChange fnWayFarWrong)

/- THE SECOND FORM. 'bulk': how many values and letters a reading holds, each counted each time it is reached (what is shared counts as often as it is met; a slice's spare places count too). A statement '..UptoSaid' is the law's where the arguments, and the package variables that the reading takes, are together of bulk at most 1048576: NARROWER than '..Said'. Prove '..Said' where nothing that the law and all that it calls make is longer than what came in: it says more and counts as full. Else prove '..UptoSaid'. A law counts once. -/
mutual
def uptoBulk {H : Type} : DataW H → Nat
  | .lit (.string bytes) => bytes.length + 1
  | .lit _ => 1
  | .nil => 1
  | .ptr d => uptoBulk d + 1
  | .slice elems spare => uptoBulkAll elems + uptoBulkAll spare + 1
  | .agg parts => uptoBulkAll parts + 1
  | .iface _ d => uptoBulk d + 1
  | .map entries => uptoBulkEntries entries + 1
  | .held _ => 1
def uptoBulkAll {H : Type} : List (DataW H) → Nat
  | [] => 0
  | d :: r => uptoBulk d + uptoBulkAll r
def uptoBulkEntries {H : Type} : List (Lit × DataW H) → Nat
  | [] => 0
  | x :: r => uptoBulkEntry x + uptoBulkEntries r
def uptoBulkEntry {H : Type} : Lit × DataW H → Nat
  | (.string bytes, d) => bytes.length + uptoBulk d + 1
  | (_, d) => uptoBulk d + 1
 end
def uptoSmall : (H : Type) → List (DataW H) → Bool := fun _ ds => decide (uptoBulkAll ds ≤ 1048576)
def OpenSpec.upto (s : _root_.Go.ChangeSpec) : _root_.Go.OpenSpec := { _root_.Go.OpenSpec.ofChange s with cond := some uptoSmall }

/-- 'laws.FnWayShort', WHERE WHAT IT READS IS OF BULK AT MOST 1048576: true; the input reads as it did. -/
def fnWayShortUptoRow : OpenClaim := { program := "ythhlmnffacifeaa", sum := "487ecd85e7a54a424bfbbfb4e0d57b59c13d98c6458fb92e310d57c41aa24bbc", func := "loop.example/osier/laws.FnWayShort", spec := "fnWayShort", unfollowed := true, recurses := true, apart := false, narrowed := true }
def FnWayShortUptoSaid : Prop := fnWayShortUptoRow.holds Try.pinned (OpenSpec.upto fnWayShortSpec)

/-- 'laws.FnWayAll', WHERE WHAT IT READS IS OF BULK AT MOST 1048576: true; the input reads as it did. -/
def fnWayAllUptoRow : OpenClaim := { program := "ythhlmnffacifeaa", sum := "487ecd85e7a54a424bfbbfb4e0d57b59c13d98c6458fb92e310d57c41aa24bbc", func := "loop.example/osier/laws.FnWayAll", spec := "fnWayAll", unfollowed := true, recurses := true, apart := false, narrowed := true }
def FnWayAllUptoSaid : Prop := fnWayAllUptoRow.holds Try.pinned (OpenSpec.upto fnWayAllSpec)

/-- 'laws.FnWayEvery', WHERE WHAT IT READS IS OF BULK AT MOST 1048576: true; the input reads as it did. -/
def fnWayEveryUptoRow : OpenClaim := { program := "ythhlmnffacifeaa", sum := "487ecd85e7a54a424bfbbfb4e0d57b59c13d98c6458fb92e310d57c41aa24bbc", func := "loop.example/osier/laws.FnWayEvery", spec := "fnWayEvery", unfollowed := true, recurses := true, apart := false, narrowed := true }
def FnWayEveryUptoSaid : Prop := fnWayEveryUptoRow.holds Try.pinned (OpenSpec.upto fnWayEverySpec)

/-- 'laws.FnWayThree', WHERE WHAT IT READS IS OF BULK AT MOST 1048576: true; the input reads as it did. -/
def fnWayThreeUptoRow : OpenClaim := { program := "ythhlmnffacifeaa", sum := "487ecd85e7a54a424bfbbfb4e0d57b59c13d98c6458fb92e310d57c41aa24bbc", func := "loop.example/osier/laws.FnWayThree", spec := "fnWayThree", unfollowed := true, recurses := true, apart := false, narrowed := true }
def FnWayThreeUptoSaid : Prop := fnWayThreeUptoRow.holds Try.pinned (OpenSpec.upto fnWayThreeSpec)

/-- 'laws.FnWayPiece', WHERE WHAT IT READS IS OF BULK AT MOST 1048576: true; the input reads as it did. -/
def fnWayPieceUptoRow : OpenClaim := { program := "ythhlmnffacifeaa", sum := "487ecd85e7a54a424bfbbfb4e0d57b59c13d98c6458fb92e310d57c41aa24bbc", func := "loop.example/osier/laws.FnWayPiece", spec := "fnWayPiece", unfollowed := true, recurses := true, apart := false, narrowed := true }
def FnWayPieceUptoSaid : Prop := fnWayPieceUptoRow.holds Try.pinned (OpenSpec.upto fnWayPieceSpec)

/-- 'laws.FnWayFar', WHERE WHAT IT READS IS OF BULK AT MOST 1048576: true; the input reads as it did. -/
def fnWayFarUptoRow : OpenClaim := { program := "ythhlmnffacifeaa", sum := "487ecd85e7a54a424bfbbfb4e0d57b59c13d98c6458fb92e310d57c41aa24bbc", func := "loop.example/osier/laws.FnWayFar", spec := "fnWayFar", unfollowed := true, recurses := true, apart := false, narrowed := true }
def FnWayFarUptoSaid : Prop := fnWayFarUptoRow.holds Try.pinned (OpenSpec.upto fnWayFarSpec)

end Rows
end Go.Proofs.Ythhlmnffacifeaa
