/-
  NARROWER THAN 'FOR EVERY INPUT', by the rows' own cells (each row's printed sentence says how): FnTreeOk: laid · FnTreeSwap: laid · FnTreeRings: laid · FnTreeTwice: laid · FnBridgeTree: laid · FnBridgeCut: laid · FnExactTreeRings: laid.
  DERIVED. THE GIVEN ROWS OF THIS SEAT. 7 by the template 'for every input the law returns true; each argument reads behind the call as it read before'; 0 by the template 'total and deterministic' (their statements: YtloicmngoaccoaaDoorTotals.lean).
  GIVEN WITH THE SEED: the statements are not yours to turn. If you find one false, say at which input.
  Laid BY PROGRAM, IN A SANDBOX (cutbox-rows.mjs): the forced cells as the released guide's own fill.sh prints them over the translation 2f62abe3cf7ecf52… (all of the seat's roots in one cut). By AI agents, Wed Nov 11 2026. No macro, syntax, notation, axiom, sorry.
-/
import Derived.Test.YtloicmngoaccoaaDoorChecked
import GoSem.Claim
import GoSem.ClaimJoined
import GoSem.ClaimMapViews
import Derived.JoinedTies
import Derived.KernelRfl
namespace Go.Proofs.YtloicmngoaccoaaDoor
/- THE CELL 'sum', in the pinned program and in every row, IS THE sha256 OF THE DUMP (.gsa) THAT YtloicmngoaccoaaDoorProg.lean LOADS. Nothing in Lean hashes anything: it is a label: what it is worth is what the hold of that sum in a sandbox is worth. -/
noncomputable def Tryd.pinned : Pinned := { name := "ytloicmngoaccoaadoor", sum := "2f62abe3cf7ecf5287673c52a350686d718a8579634d7433b9c5d0f6ad9876be", checked := Tryd.checked }
namespace Rows
def none {H : Type} : Left H := { results := [], args := [] }

/- WHAT THE LISTED PACKAGE-LEVEL VARIABLES READ AS WHEN THE CALL BEGINS. Each datum BY PROGRAM (the guide's laid-datum.mjs) off the statement by which the dump's own 'gosem.cut.vars' lays the variable. In a bare row this is a premise. The card (YtloicmngoaccoaaDoorCards.lean) ties it to the program's text. -/
def laid_math_bits_deBruijn64tab {H : Type} : DataW H := .agg [.lit (.int .u8 0), .lit (.int .u8 1), .lit (.int .u8 56), .lit (.int .u8 2), .lit (.int .u8 57), .lit (.int .u8 49), .lit (.int .u8 28), .lit (.int .u8 3), .lit (.int .u8 61), .lit (.int .u8 58), .lit (.int .u8 42), .lit (.int .u8 50), .lit (.int .u8 38), .lit (.int .u8 29), .lit (.int .u8 17), .lit (.int .u8 4), .lit (.int .u8 62), .lit (.int .u8 47), .lit (.int .u8 59), .lit (.int .u8 36), .lit (.int .u8 45), .lit (.int .u8 43), .lit (.int .u8 51), .lit (.int .u8 22), .lit (.int .u8 53), .lit (.int .u8 39), .lit (.int .u8 33), .lit (.int .u8 30), .lit (.int .u8 24), .lit (.int .u8 18), .lit (.int .u8 12), .lit (.int .u8 5), .lit (.int .u8 63), .lit (.int .u8 55), .lit (.int .u8 48), .lit (.int .u8 27), .lit (.int .u8 60), .lit (.int .u8 41), .lit (.int .u8 37), .lit (.int .u8 16), .lit (.int .u8 46), .lit (.int .u8 35), .lit (.int .u8 44), .lit (.int .u8 21), .lit (.int .u8 52), .lit (.int .u8 32), .lit (.int .u8 23), .lit (.int .u8 11), .lit (.int .u8 54), .lit (.int .u8 26), .lit (.int .u8 40), .lit (.int .u8 15), .lit (.int .u8 34), .lit (.int .u8 20), .lit (.int .u8 31), .lit (.int .u8 10), .lit (.int .u8 25), .lit (.int .u8 14), .lit (.int .u8 19), .lit (.int .u8 9), .lit (.int .u8 13), .lit (.int .u8 8), .lit (.int .u8 7), .lit (.int .u8 6)]

/-- 'laws.FnTreeOk': WHATEVER THE INPUT: true; the input reads as it did. -/
def fnTreeOkSpec : ChangeSpec := { name := "fnTreeOk", fn := fun _ => fun
  | [d1, d2] => { results := [.lit (.bool true)], args := [d1, d2] }
  | _ => none }
def fnTreeOkRow : OpenClaim := { program := "ytloicmngoaccoaadoor", sum := "2f62abe3cf7ecf5287673c52a350686d718a8579634d7433b9c5d0f6ad9876be", func := "loop.example/osier/laws.FnTreeOk", spec := "fnTreeOk", unfollowed := true, recurses := true, named := ["math/bits.deBruijn64tab"], apart := false, laid := [("math/bits.deBruijn64tab", laid_math_bits_deBruijn64tab)] }
def FnTreeOkSaid : Prop := fnTreeOkRow.holds Tryd.pinned (OpenSpec.ofChange fnTreeOkSpec)

/-- ITS FALSE NEIGHBOUR: 'it returns false'. Refute it at one input. -/
def fnTreeOkWrong : ChangeSpec := { name := "fnTreeOk", fn := fun _ => fun
  | [d1, d2] => { results := [.lit (.bool false)], args := [d1, d2] }
  | _ => none }
def FnTreeOkWrongFalsely : Prop := fnTreeOkRow.holds Tryd.pinned (OpenSpec.ofChange fnTreeOkWrong)

/-- 'laws.FnTreeSwap': WHATEVER THE INPUT: true; the input reads as it did. -/
def fnTreeSwapSpec : ChangeSpec := { name := "fnTreeSwap", fn := fun _ => fun
  | [d1, d2] => { results := [.lit (.bool true)], args := [d1, d2] }
  | _ => none }
def fnTreeSwapRow : OpenClaim := { program := "ytloicmngoaccoaadoor", sum := "2f62abe3cf7ecf5287673c52a350686d718a8579634d7433b9c5d0f6ad9876be", func := "loop.example/osier/laws.FnTreeSwap", spec := "fnTreeSwap", recurses := true, named := ["math/bits.deBruijn64tab"], apart := false, laid := [("math/bits.deBruijn64tab", laid_math_bits_deBruijn64tab)] }
def FnTreeSwapSaid : Prop := fnTreeSwapRow.holds Tryd.pinned (OpenSpec.ofChange fnTreeSwapSpec)

/-- ITS FALSE NEIGHBOUR: 'it returns false'. Refute it at one input. -/
def fnTreeSwapWrong : ChangeSpec := { name := "fnTreeSwap", fn := fun _ => fun
  | [d1, d2] => { results := [.lit (.bool false)], args := [d1, d2] }
  | _ => none }
def FnTreeSwapWrongFalsely : Prop := fnTreeSwapRow.holds Tryd.pinned (OpenSpec.ofChange fnTreeSwapWrong)

/-- 'laws.FnTreeRings': WHATEVER THE INPUT: true; the input reads as it did. -/
def fnTreeRingsSpec : ChangeSpec := { name := "fnTreeRings", fn := fun _ => fun
  | [d] => { results := [.lit (.bool true)], args := [d] }
  | _ => none }
def fnTreeRingsRow : OpenClaim := { program := "ytloicmngoaccoaadoor", sum := "2f62abe3cf7ecf5287673c52a350686d718a8579634d7433b9c5d0f6ad9876be", func := "loop.example/osier/laws.FnTreeRings", spec := "fnTreeRings", recurses := true, named := ["math/bits.deBruijn64tab"], apart := false, laid := [("math/bits.deBruijn64tab", laid_math_bits_deBruijn64tab)] }
def FnTreeRingsSaid : Prop := fnTreeRingsRow.holds Tryd.pinned (OpenSpec.ofChange fnTreeRingsSpec)

/-- ITS FALSE NEIGHBOUR: 'it returns false'. Refute it at one input. -/
def fnTreeRingsWrong : ChangeSpec := { name := "fnTreeRings", fn := fun _ => fun
  | [d] => { results := [.lit (.bool false)], args := [d] }
  | _ => none }
def FnTreeRingsWrongFalsely : Prop := fnTreeRingsRow.holds Tryd.pinned (OpenSpec.ofChange fnTreeRingsWrong)

/-- 'laws.FnTreeTwice': WHATEVER THE INPUT: true; the input reads as it did. -/
def fnTreeTwiceSpec : ChangeSpec := { name := "fnTreeTwice", fn := fun _ => fun
  | [d] => { results := [.lit (.bool true)], args := [d] }
  | _ => none }
def fnTreeTwiceRow : OpenClaim := { program := "ytloicmngoaccoaadoor", sum := "2f62abe3cf7ecf5287673c52a350686d718a8579634d7433b9c5d0f6ad9876be", func := "loop.example/osier/laws.FnTreeTwice", spec := "fnTreeTwice", unfollowed := true, recurses := true, named := ["math/bits.deBruijn64tab"], apart := false, laid := [("math/bits.deBruijn64tab", laid_math_bits_deBruijn64tab)] }
def FnTreeTwiceSaid : Prop := fnTreeTwiceRow.holds Tryd.pinned (OpenSpec.ofChange fnTreeTwiceSpec)

/-- ITS FALSE NEIGHBOUR: 'it returns false'. Refute it at one input. -/
def fnTreeTwiceWrong : ChangeSpec := { name := "fnTreeTwice", fn := fun _ => fun
  | [d] => { results := [.lit (.bool false)], args := [d] }
  | _ => none }
def FnTreeTwiceWrongFalsely : Prop := fnTreeTwiceRow.holds Tryd.pinned (OpenSpec.ofChange fnTreeTwiceWrong)

/-- 'laws.FnBridgeTree': WHATEVER THE INPUT: true; the input reads as it did. -/
def fnBridgeTreeSpec : ChangeSpec := { name := "fnBridgeTree", fn := fun _ => fun
  | [d] => { results := [.lit (.bool true)], args := [d] }
  | _ => none }
def fnBridgeTreeRow : OpenClaim := { program := "ytloicmngoaccoaadoor", sum := "2f62abe3cf7ecf5287673c52a350686d718a8579634d7433b9c5d0f6ad9876be", func := "loop.example/osier/laws.FnBridgeTree", spec := "fnBridgeTree", unfollowed := true, recurses := true, named := ["math/bits.deBruijn64tab"], apart := false, laid := [("math/bits.deBruijn64tab", laid_math_bits_deBruijn64tab)] }
def FnBridgeTreeSaid : Prop := fnBridgeTreeRow.holds Tryd.pinned (OpenSpec.ofChange fnBridgeTreeSpec)

/-- ITS FALSE NEIGHBOUR: 'it returns false'. Refute it at one input. -/
def fnBridgeTreeWrong : ChangeSpec := { name := "fnBridgeTree", fn := fun _ => fun
  | [d] => { results := [.lit (.bool false)], args := [d] }
  | _ => none }
def FnBridgeTreeWrongFalsely : Prop := fnBridgeTreeRow.holds Tryd.pinned (OpenSpec.ofChange fnBridgeTreeWrong)

/-- 'laws.FnBridgeCut': WHATEVER THE INPUT: true; the input reads as it did. -/
def fnBridgeCutSpec : ChangeSpec := { name := "fnBridgeCut", fn := fun _ => fun
  | [d1, d2] => { results := [.lit (.bool true)], args := [d1, d2] }
  | _ => none }
def fnBridgeCutRow : OpenClaim := { program := "ytloicmngoaccoaadoor", sum := "2f62abe3cf7ecf5287673c52a350686d718a8579634d7433b9c5d0f6ad9876be", func := "loop.example/osier/laws.FnBridgeCut", spec := "fnBridgeCut", unfollowed := true, recurses := true, named := ["math/bits.deBruijn64tab"], apart := false, laid := [("math/bits.deBruijn64tab", laid_math_bits_deBruijn64tab)] }
def FnBridgeCutSaid : Prop := fnBridgeCutRow.holds Tryd.pinned (OpenSpec.ofChange fnBridgeCutSpec)

/-- ITS FALSE NEIGHBOUR: 'it returns false'. Refute it at one input. -/
def fnBridgeCutWrong : ChangeSpec := { name := "fnBridgeCut", fn := fun _ => fun
  | [d1, d2] => { results := [.lit (.bool false)], args := [d1, d2] }
  | _ => none }
def FnBridgeCutWrongFalsely : Prop := fnBridgeCutRow.holds Tryd.pinned (OpenSpec.ofChange fnBridgeCutWrong)

/-- 'laws.FnExactTreeRings': WHATEVER THE INPUT: true; the input reads as it did. -/
def fnExactTreeRingsSpec : ChangeSpec := { name := "fnExactTreeRings", fn := fun _ => fun
  | [d] => { results := [.lit (.bool true)], args := [d] }
  | _ => none }
def fnExactTreeRingsRow : OpenClaim := { program := "ytloicmngoaccoaadoor", sum := "2f62abe3cf7ecf5287673c52a350686d718a8579634d7433b9c5d0f6ad9876be", func := "loop.example/osier/laws.FnExactTreeRings", spec := "fnExactTreeRings", recurses := true, named := ["math/bits.deBruijn64tab"], apart := false, laid := [("math/bits.deBruijn64tab", laid_math_bits_deBruijn64tab)] }
def FnExactTreeRingsSaid : Prop := fnExactTreeRingsRow.holds Tryd.pinned (OpenSpec.ofChange fnExactTreeRingsSpec)

/-- ITS FALSE NEIGHBOUR: 'it returns false'. Refute it at one input. -/
def fnExactTreeRingsWrong : ChangeSpec := { name := "fnExactTreeRings", fn := fun _ => fun
  | [d] => { results := [.lit (.bool false)], args := [d] }
  | _ => none }
def FnExactTreeRingsWrongFalsely : Prop := fnExactTreeRingsRow.holds Tryd.pinned (OpenSpec.ofChange fnExactTreeRingsWrong)

/- THE SECOND FORM. 'bulk': how many values and letters a reading holds, each counted each time it is reached (what is shared counts as often as it is met; a slice's spare places count too). A statement '..UptoSaid' is the law's where the arguments, and the package variables that the reading takes, are together of bulk at most 1048576: NARROWER than '..Said'. Prove '..Said' where nothing that the law and all that it calls make is longer than what came in: it says more and counts as full. Else prove '..UptoSaid'. A law counts once. -/
mutual
def uptoBulk {H : Type} : DataW H → Nat
  | .lit (.string bytes) => bytes.length + 1
  | .lit _ => 1
  | .nil => 1
  | .ptr d => uptoBulk d + 1
  | .slice elems spare => uptoBulkAll elems + uptoBulkAll spare + 1
  | .agg parts => uptoBulkAll parts + 1
  | .iface _ d => uptoBulk d + 1
  | .map entries => uptoBulkEntries entries + 1
  | .held _ => 1
def uptoBulkAll {H : Type} : List (DataW H) → Nat
  | [] => 0
  | d :: r => uptoBulk d + uptoBulkAll r
def uptoBulkEntries {H : Type} : List (Lit × DataW H) → Nat
  | [] => 0
  | x :: r => uptoBulkEntry x + uptoBulkEntries r
def uptoBulkEntry {H : Type} : Lit × DataW H → Nat
  | (.string bytes, d) => bytes.length + uptoBulk d + 1
  | (_, d) => uptoBulk d + 1
 end
def uptoSmall : (H : Type) → List (DataW H) → Bool := fun _ ds => decide (uptoBulkAll ds ≤ 1048576)
def OpenSpec.upto (s : _root_.Go.ChangeSpec) : _root_.Go.OpenSpec := { _root_.Go.OpenSpec.ofChange s with cond := some uptoSmall }

/-- 'laws.FnTreeOk', WHERE WHAT IT READS IS OF BULK AT MOST 1048576: true; the input reads as it did. -/
def fnTreeOkUptoRow : OpenClaim := { program := "ytloicmngoaccoaadoor", sum := "2f62abe3cf7ecf5287673c52a350686d718a8579634d7433b9c5d0f6ad9876be", func := "loop.example/osier/laws.FnTreeOk", spec := "fnTreeOk", unfollowed := true, recurses := true, named := ["math/bits.deBruijn64tab"], apart := false, laid := [("math/bits.deBruijn64tab", laid_math_bits_deBruijn64tab)], narrowed := true }
def FnTreeOkUptoSaid : Prop := fnTreeOkUptoRow.holds Tryd.pinned (OpenSpec.upto fnTreeOkSpec)

/-- 'laws.FnTreeSwap', WHERE WHAT IT READS IS OF BULK AT MOST 1048576: true; the input reads as it did. -/
def fnTreeSwapUptoRow : OpenClaim := { program := "ytloicmngoaccoaadoor", sum := "2f62abe3cf7ecf5287673c52a350686d718a8579634d7433b9c5d0f6ad9876be", func := "loop.example/osier/laws.FnTreeSwap", spec := "fnTreeSwap", recurses := true, named := ["math/bits.deBruijn64tab"], apart := false, laid := [("math/bits.deBruijn64tab", laid_math_bits_deBruijn64tab)], narrowed := true }
def FnTreeSwapUptoSaid : Prop := fnTreeSwapUptoRow.holds Tryd.pinned (OpenSpec.upto fnTreeSwapSpec)

/-- 'laws.FnTreeRings', WHERE WHAT IT READS IS OF BULK AT MOST 1048576: true; the input reads as it did. -/
def fnTreeRingsUptoRow : OpenClaim := { program := "ytloicmngoaccoaadoor", sum := "2f62abe3cf7ecf5287673c52a350686d718a8579634d7433b9c5d0f6ad9876be", func := "loop.example/osier/laws.FnTreeRings", spec := "fnTreeRings", recurses := true, named := ["math/bits.deBruijn64tab"], apart := false, laid := [("math/bits.deBruijn64tab", laid_math_bits_deBruijn64tab)], narrowed := true }
def FnTreeRingsUptoSaid : Prop := fnTreeRingsUptoRow.holds Tryd.pinned (OpenSpec.upto fnTreeRingsSpec)

/-- 'laws.FnTreeTwice', WHERE WHAT IT READS IS OF BULK AT MOST 1048576: true; the input reads as it did. -/
def fnTreeTwiceUptoRow : OpenClaim := { program := "ytloicmngoaccoaadoor", sum := "2f62abe3cf7ecf5287673c52a350686d718a8579634d7433b9c5d0f6ad9876be", func := "loop.example/osier/laws.FnTreeTwice", spec := "fnTreeTwice", unfollowed := true, recurses := true, named := ["math/bits.deBruijn64tab"], apart := false, laid := [("math/bits.deBruijn64tab", laid_math_bits_deBruijn64tab)], narrowed := true }
def FnTreeTwiceUptoSaid : Prop := fnTreeTwiceUptoRow.holds Tryd.pinned (OpenSpec.upto fnTreeTwiceSpec)

/-- 'laws.FnBridgeTree', WHERE WHAT IT READS IS OF BULK AT MOST 1048576: true; the input reads as it did. -/
def fnBridgeTreeUptoRow : OpenClaim := { program := "ytloicmngoaccoaadoor", sum := "2f62abe3cf7ecf5287673c52a350686d718a8579634d7433b9c5d0f6ad9876be", func := "loop.example/osier/laws.FnBridgeTree", spec := "fnBridgeTree", unfollowed := true, recurses := true, named := ["math/bits.deBruijn64tab"], apart := false, laid := [("math/bits.deBruijn64tab", laid_math_bits_deBruijn64tab)], narrowed := true }
def FnBridgeTreeUptoSaid : Prop := fnBridgeTreeUptoRow.holds Tryd.pinned (OpenSpec.upto fnBridgeTreeSpec)

/-- 'laws.FnBridgeCut', WHERE WHAT IT READS IS OF BULK AT MOST 1048576: true; the input reads as it did. -/
def fnBridgeCutUptoRow : OpenClaim := { program := "ytloicmngoaccoaadoor", sum := "2f62abe3cf7ecf5287673c52a350686d718a8579634d7433b9c5d0f6ad9876be", func := "loop.example/osier/laws.FnBridgeCut", spec := "fnBridgeCut", unfollowed := true, recurses := true, named := ["math/bits.deBruijn64tab"], apart := false, laid := [("math/bits.deBruijn64tab", laid_math_bits_deBruijn64tab)], narrowed := true }
def FnBridgeCutUptoSaid : Prop := fnBridgeCutUptoRow.holds Tryd.pinned (OpenSpec.upto fnBridgeCutSpec)

/-- 'laws.FnExactTreeRings', WHERE WHAT IT READS IS OF BULK AT MOST 1048576: true; the input reads as it did. -/
def fnExactTreeRingsUptoRow : OpenClaim := { program := "ytloicmngoaccoaadoor", sum := "2f62abe3cf7ecf5287673c52a350686d718a8579634d7433b9c5d0f6ad9876be", func := "loop.example/osier/laws.FnExactTreeRings", spec := "fnExactTreeRings", recurses := true, named := ["math/bits.deBruijn64tab"], apart := false, laid := [("math/bits.deBruijn64tab", laid_math_bits_deBruijn64tab)], narrowed := true }
def FnExactTreeRingsUptoSaid : Prop := fnExactTreeRingsUptoRow.holds Tryd.pinned (OpenSpec.upto fnExactTreeRingsSpec)

end Rows
end Go.Proofs.YtloicmngoaccoaaDoor
