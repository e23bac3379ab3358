/-
  NARROWER THAN 'FOR EVERY INPUT', by the rows' own cells (each row's printed sentence says how): FnBridgeParts: laid · FnBridgeApart: laid · FnFlowTop: laid · FnFlowCut: laid · FnFlowParts: laid · FnFlowTurn: laid · FnFlowBridge: laid · FnFlowFew: laid · FnFlowCutTie: laid · FnExactFlowCut: laid.
  DERIVED. THE GIVEN ROWS OF THIS SEAT. 10 by the template 'for every input the law returns true; each argument reads behind the call as it read before'; 0 by the template 'total and deterministic' (their statements: YtmkbeiiifikbgaaDoorTotals.lean).
  GIVEN WITH THE SEED: the statements are not yours to turn. If you find one false, say at which input.
  Laid BY PROGRAM, IN A SANDBOX (cutbox-rows.mjs): the forced cells as the released guide's own fill.sh prints them over the translation 38ccee6b1ce2cc90… (all of the seat's roots in one cut). By AI agents, Wed Nov 11 2026. No macro, syntax, notation, axiom, sorry.
-/
import Derived.Test.YtmkbeiiifikbgaaDoorChecked
import GoSem.Claim
import GoSem.ClaimJoined
import GoSem.ClaimMapViews
import Derived.JoinedTies
import Derived.KernelRfl
namespace Go.Proofs.YtmkbeiiifikbgaaDoor
/- THE CELL 'sum', in the pinned program and in every row, IS THE sha256 OF THE DUMP (.gsa) THAT YtmkbeiiifikbgaaDoorProg.lean LOADS. Nothing in Lean hashes anything: it is a label: what it is worth is what the hold of that sum in a sandbox is worth. -/
noncomputable def Tryd.pinned : Pinned := { name := "ytmkbeiiifikbgaadoor", sum := "38ccee6b1ce2cc903db95b5beafe3c82c4bef5cbe0e3f7a4e9c007eee2228533", checked := Tryd.checked }
namespace Rows
def none {H : Type} : Left H := { results := [], args := [] }

/- WHAT THE LISTED PACKAGE-LEVEL VARIABLES READ AS WHEN THE CALL BEGINS. Each datum BY PROGRAM (the guide's laid-datum.mjs) off the statement by which the dump's own 'gosem.cut.vars' lays the variable. In a bare row this is a premise. The card (YtmkbeiiifikbgaaDoorCards.lean) ties it to the program's text. -/
def laid_math_bits_deBruijn64tab {H : Type} : DataW H := .agg [.lit (.int .u8 0), .lit (.int .u8 1), .lit (.int .u8 56), .lit (.int .u8 2), .lit (.int .u8 57), .lit (.int .u8 49), .lit (.int .u8 28), .lit (.int .u8 3), .lit (.int .u8 61), .lit (.int .u8 58), .lit (.int .u8 42), .lit (.int .u8 50), .lit (.int .u8 38), .lit (.int .u8 29), .lit (.int .u8 17), .lit (.int .u8 4), .lit (.int .u8 62), .lit (.int .u8 47), .lit (.int .u8 59), .lit (.int .u8 36), .lit (.int .u8 45), .lit (.int .u8 43), .lit (.int .u8 51), .lit (.int .u8 22), .lit (.int .u8 53), .lit (.int .u8 39), .lit (.int .u8 33), .lit (.int .u8 30), .lit (.int .u8 24), .lit (.int .u8 18), .lit (.int .u8 12), .lit (.int .u8 5), .lit (.int .u8 63), .lit (.int .u8 55), .lit (.int .u8 48), .lit (.int .u8 27), .lit (.int .u8 60), .lit (.int .u8 41), .lit (.int .u8 37), .lit (.int .u8 16), .lit (.int .u8 46), .lit (.int .u8 35), .lit (.int .u8 44), .lit (.int .u8 21), .lit (.int .u8 52), .lit (.int .u8 32), .lit (.int .u8 23), .lit (.int .u8 11), .lit (.int .u8 54), .lit (.int .u8 26), .lit (.int .u8 40), .lit (.int .u8 15), .lit (.int .u8 34), .lit (.int .u8 20), .lit (.int .u8 31), .lit (.int .u8 10), .lit (.int .u8 25), .lit (.int .u8 14), .lit (.int .u8 19), .lit (.int .u8 9), .lit (.int .u8 13), .lit (.int .u8 8), .lit (.int .u8 7), .lit (.int .u8 6)]

/-- 'laws.FnBridgeParts': WHATEVER THE INPUT: true; the input reads as it did. -/
def fnBridgePartsSpec : ChangeSpec := { name := "fnBridgeParts", fn := fun _ => fun
  | [d] => { results := [.lit (.bool true)], args := [d] }
  | _ => none }
def fnBridgePartsRow : OpenClaim := { program := "ytmkbeiiifikbgaadoor", sum := "38ccee6b1ce2cc903db95b5beafe3c82c4bef5cbe0e3f7a4e9c007eee2228533", func := "loop.example/osier/laws.FnBridgeParts", spec := "fnBridgeParts", unfollowed := true, recurses := true, named := ["math/bits.deBruijn64tab"], plainKeys := false, apart := false, laid := [("math/bits.deBruijn64tab", laid_math_bits_deBruijn64tab)] }
def FnBridgePartsSaid : Prop := fnBridgePartsRow.holds Tryd.pinned (OpenSpec.ofChange fnBridgePartsSpec)

/-- ITS FALSE NEIGHBOUR: 'it returns false'. Refute it at one input. -/
def fnBridgePartsWrong : ChangeSpec := { name := "fnBridgeParts", fn := fun _ => fun
  | [d] => { results := [.lit (.bool false)], args := [d] }
  | _ => none }
def FnBridgePartsWrongFalsely : Prop := fnBridgePartsRow.holds Tryd.pinned (OpenSpec.ofChange fnBridgePartsWrong)

/-- 'laws.FnBridgeApart': WHATEVER THE INPUT: true; the input reads as it did. -/
def fnBridgeApartSpec : ChangeSpec := { name := "fnBridgeApart", fn := fun _ => fun
  | [d] => { results := [.lit (.bool true)], args := [d] }
  | _ => none }
def fnBridgeApartRow : OpenClaim := { program := "ytmkbeiiifikbgaadoor", sum := "38ccee6b1ce2cc903db95b5beafe3c82c4bef5cbe0e3f7a4e9c007eee2228533", func := "loop.example/osier/laws.FnBridgeApart", spec := "fnBridgeApart", unfollowed := true, recurses := true, named := ["math/bits.deBruijn64tab"], plainKeys := false, apart := false, laid := [("math/bits.deBruijn64tab", laid_math_bits_deBruijn64tab)] }
def FnBridgeApartSaid : Prop := fnBridgeApartRow.holds Tryd.pinned (OpenSpec.ofChange fnBridgeApartSpec)

/-- ITS FALSE NEIGHBOUR: 'it returns false'. Refute it at one input. -/
def fnBridgeApartWrong : ChangeSpec := { name := "fnBridgeApart", fn := fun _ => fun
  | [d] => { results := [.lit (.bool false)], args := [d] }
  | _ => none }
def FnBridgeApartWrongFalsely : Prop := fnBridgeApartRow.holds Tryd.pinned (OpenSpec.ofChange fnBridgeApartWrong)

/-- 'laws.FnFlowTop': WHATEVER THE INPUT: true; the input reads as it did. -/
def fnFlowTopSpec : ChangeSpec := { name := "fnFlowTop", fn := fun _ => fun
  | [d] => { results := [.lit (.bool true)], args := [d] }
  | _ => none }
def fnFlowTopRow : OpenClaim := { program := "ytmkbeiiifikbgaadoor", sum := "38ccee6b1ce2cc903db95b5beafe3c82c4bef5cbe0e3f7a4e9c007eee2228533", func := "loop.example/osier/laws.FnFlowTop", spec := "fnFlowTop", unfollowed := true, recurses := true, named := ["math/bits.deBruijn64tab"], plainKeys := false, apart := false, laid := [("math/bits.deBruijn64tab", laid_math_bits_deBruijn64tab)] }
def FnFlowTopSaid : Prop := fnFlowTopRow.holds Tryd.pinned (OpenSpec.ofChange fnFlowTopSpec)

/-- ITS FALSE NEIGHBOUR: 'it returns false'. Refute it at one input. -/
def fnFlowTopWrong : ChangeSpec := { name := "fnFlowTop", fn := fun _ => fun
  | [d] => { results := [.lit (.bool false)], args := [d] }
  | _ => none }
def FnFlowTopWrongFalsely : Prop := fnFlowTopRow.holds Tryd.pinned (OpenSpec.ofChange fnFlowTopWrong)

/-- 'laws.FnFlowCut': WHATEVER THE INPUT: true; the input reads as it did. -/
def fnFlowCutSpec : ChangeSpec := { name := "fnFlowCut", fn := fun _ => fun
  | [d1, d2] => { results := [.lit (.bool true)], args := [d1, d2] }
  | _ => none }
def fnFlowCutRow : OpenClaim := { program := "ytmkbeiiifikbgaadoor", sum := "38ccee6b1ce2cc903db95b5beafe3c82c4bef5cbe0e3f7a4e9c007eee2228533", func := "loop.example/osier/laws.FnFlowCut", spec := "fnFlowCut", unfollowed := true, recurses := true, named := ["math/bits.deBruijn64tab"], plainKeys := false, apart := false, laid := [("math/bits.deBruijn64tab", laid_math_bits_deBruijn64tab)] }
def FnFlowCutSaid : Prop := fnFlowCutRow.holds Tryd.pinned (OpenSpec.ofChange fnFlowCutSpec)

/-- ITS FALSE NEIGHBOUR: 'it returns false'. Refute it at one input. -/
def fnFlowCutWrong : ChangeSpec := { name := "fnFlowCut", fn := fun _ => fun
  | [d1, d2] => { results := [.lit (.bool false)], args := [d1, d2] }
  | _ => none }
def FnFlowCutWrongFalsely : Prop := fnFlowCutRow.holds Tryd.pinned (OpenSpec.ofChange fnFlowCutWrong)

/-- 'laws.FnFlowParts': WHATEVER THE INPUT: true; the input reads as it did. -/
def fnFlowPartsSpec : ChangeSpec := { name := "fnFlowParts", fn := fun _ => fun
  | [d] => { results := [.lit (.bool true)], args := [d] }
  | _ => none }
def fnFlowPartsRow : OpenClaim := { program := "ytmkbeiiifikbgaadoor", sum := "38ccee6b1ce2cc903db95b5beafe3c82c4bef5cbe0e3f7a4e9c007eee2228533", func := "loop.example/osier/laws.FnFlowParts", spec := "fnFlowParts", unfollowed := true, recurses := true, named := ["math/bits.deBruijn64tab"], plainKeys := false, apart := false, laid := [("math/bits.deBruijn64tab", laid_math_bits_deBruijn64tab)] }
def FnFlowPartsSaid : Prop := fnFlowPartsRow.holds Tryd.pinned (OpenSpec.ofChange fnFlowPartsSpec)

/-- ITS FALSE NEIGHBOUR: 'it returns false'. Refute it at one input. -/
def fnFlowPartsWrong : ChangeSpec := { name := "fnFlowParts", fn := fun _ => fun
  | [d] => { results := [.lit (.bool false)], args := [d] }
  | _ => none }
def FnFlowPartsWrongFalsely : Prop := fnFlowPartsRow.holds Tryd.pinned (OpenSpec.ofChange fnFlowPartsWrong)

/-- 'laws.FnFlowTurn': WHATEVER THE INPUT: true; the input reads as it did. -/
def fnFlowTurnSpec : ChangeSpec := { name := "fnFlowTurn", fn := fun _ => fun
  | [d] => { results := [.lit (.bool true)], args := [d] }
  | _ => none }
def fnFlowTurnRow : OpenClaim := { program := "ytmkbeiiifikbgaadoor", sum := "38ccee6b1ce2cc903db95b5beafe3c82c4bef5cbe0e3f7a4e9c007eee2228533", func := "loop.example/osier/laws.FnFlowTurn", spec := "fnFlowTurn", unfollowed := true, recurses := true, named := ["math/bits.deBruijn64tab"], plainKeys := false, apart := false, laid := [("math/bits.deBruijn64tab", laid_math_bits_deBruijn64tab)] }
def FnFlowTurnSaid : Prop := fnFlowTurnRow.holds Tryd.pinned (OpenSpec.ofChange fnFlowTurnSpec)

/-- ITS FALSE NEIGHBOUR: 'it returns false'. Refute it at one input. -/
def fnFlowTurnWrong : ChangeSpec := { name := "fnFlowTurn", fn := fun _ => fun
  | [d] => { results := [.lit (.bool false)], args := [d] }
  | _ => none }
def FnFlowTurnWrongFalsely : Prop := fnFlowTurnRow.holds Tryd.pinned (OpenSpec.ofChange fnFlowTurnWrong)

/-- 'laws.FnFlowBridge': WHATEVER THE INPUT: true; the input reads as it did. -/
def fnFlowBridgeSpec : ChangeSpec := { name := "fnFlowBridge", fn := fun _ => fun
  | [d] => { results := [.lit (.bool true)], args := [d] }
  | _ => none }
def fnFlowBridgeRow : OpenClaim := { program := "ytmkbeiiifikbgaadoor", sum := "38ccee6b1ce2cc903db95b5beafe3c82c4bef5cbe0e3f7a4e9c007eee2228533", func := "loop.example/osier/laws.FnFlowBridge", spec := "fnFlowBridge", unfollowed := true, recurses := true, named := ["math/bits.deBruijn64tab"], plainKeys := false, apart := false, laid := [("math/bits.deBruijn64tab", laid_math_bits_deBruijn64tab)] }
def FnFlowBridgeSaid : Prop := fnFlowBridgeRow.holds Tryd.pinned (OpenSpec.ofChange fnFlowBridgeSpec)

/-- ITS FALSE NEIGHBOUR: 'it returns false'. Refute it at one input. -/
def fnFlowBridgeWrong : ChangeSpec := { name := "fnFlowBridge", fn := fun _ => fun
  | [d] => { results := [.lit (.bool false)], args := [d] }
  | _ => none }
def FnFlowBridgeWrongFalsely : Prop := fnFlowBridgeRow.holds Tryd.pinned (OpenSpec.ofChange fnFlowBridgeWrong)

/-- 'laws.FnFlowFew': WHATEVER THE INPUT: true; the input reads as it did. -/
def fnFlowFewSpec : ChangeSpec := { name := "fnFlowFew", fn := fun _ => fun
  | [d] => { results := [.lit (.bool true)], args := [d] }
  | _ => none }
def fnFlowFewRow : OpenClaim := { program := "ytmkbeiiifikbgaadoor", sum := "38ccee6b1ce2cc903db95b5beafe3c82c4bef5cbe0e3f7a4e9c007eee2228533", func := "loop.example/osier/laws.FnFlowFew", spec := "fnFlowFew", unfollowed := true, recurses := true, named := ["math/bits.deBruijn64tab"], plainKeys := false, apart := false, laid := [("math/bits.deBruijn64tab", laid_math_bits_deBruijn64tab)] }
def FnFlowFewSaid : Prop := fnFlowFewRow.holds Tryd.pinned (OpenSpec.ofChange fnFlowFewSpec)

/-- ITS FALSE NEIGHBOUR: 'it returns false'. Refute it at one input. -/
def fnFlowFewWrong : ChangeSpec := { name := "fnFlowFew", fn := fun _ => fun
  | [d] => { results := [.lit (.bool false)], args := [d] }
  | _ => none }
def FnFlowFewWrongFalsely : Prop := fnFlowFewRow.holds Tryd.pinned (OpenSpec.ofChange fnFlowFewWrong)

/-- 'laws.FnFlowCutTie': WHATEVER THE INPUT: true; the input reads as it did. -/
def fnFlowCutTieSpec : ChangeSpec := { name := "fnFlowCutTie", fn := fun _ => fun
  | [d1, d2] => { results := [.lit (.bool true)], args := [d1, d2] }
  | _ => none }
def fnFlowCutTieRow : OpenClaim := { program := "ytmkbeiiifikbgaadoor", sum := "38ccee6b1ce2cc903db95b5beafe3c82c4bef5cbe0e3f7a4e9c007eee2228533", func := "loop.example/osier/laws.FnFlowCutTie", spec := "fnFlowCutTie", unfollowed := true, recurses := true, named := ["math/bits.deBruijn64tab"], plainKeys := false, apart := false, laid := [("math/bits.deBruijn64tab", laid_math_bits_deBruijn64tab)] }
def FnFlowCutTieSaid : Prop := fnFlowCutTieRow.holds Tryd.pinned (OpenSpec.ofChange fnFlowCutTieSpec)

/-- ITS FALSE NEIGHBOUR: 'it returns false'. Refute it at one input. -/
def fnFlowCutTieWrong : ChangeSpec := { name := "fnFlowCutTie", fn := fun _ => fun
  | [d1, d2] => { results := [.lit (.bool false)], args := [d1, d2] }
  | _ => none }
def FnFlowCutTieWrongFalsely : Prop := fnFlowCutTieRow.holds Tryd.pinned (OpenSpec.ofChange fnFlowCutTieWrong)

/-- 'laws.FnExactFlowCut': WHATEVER THE INPUT: true; the input reads as it did. -/
def fnExactFlowCutSpec : ChangeSpec := { name := "fnExactFlowCut", fn := fun _ => fun
  | [d1, d2, d3] => { results := [.lit (.bool true)], args := [d1, d2, d3] }
  | _ => none }
def fnExactFlowCutRow : OpenClaim := { program := "ytmkbeiiifikbgaadoor", sum := "38ccee6b1ce2cc903db95b5beafe3c82c4bef5cbe0e3f7a4e9c007eee2228533", func := "loop.example/osier/laws.FnExactFlowCut", spec := "fnExactFlowCut", unfollowed := true, recurses := true, named := ["math/bits.deBruijn64tab"], plainKeys := false, apart := false, laid := [("math/bits.deBruijn64tab", laid_math_bits_deBruijn64tab)] }
def FnExactFlowCutSaid : Prop := fnExactFlowCutRow.holds Tryd.pinned (OpenSpec.ofChange fnExactFlowCutSpec)

/-- ITS FALSE NEIGHBOUR: 'it returns false'. Refute it at one input. -/
def fnExactFlowCutWrong : ChangeSpec := { name := "fnExactFlowCut", fn := fun _ => fun
  | [d1, d2, d3] => { results := [.lit (.bool false)], args := [d1, d2, d3] }
  | _ => none }
def FnExactFlowCutWrongFalsely : Prop := fnExactFlowCutRow.holds Tryd.pinned (OpenSpec.ofChange fnExactFlowCutWrong)

/- THE SECOND FORM. 'bulk': how many values and letters a reading holds, each counted each time it is reached (what is shared counts as often as it is met; a slice's spare places count too). A statement '..UptoSaid' is the law's where the arguments, and the package variables that the reading takes, are together of bulk at most 1048576: NARROWER than '..Said'. Prove '..Said' where nothing that the law and all that it calls make is longer than what came in: it says more and counts as full. Else prove '..UptoSaid'. A law counts once. -/
mutual
def uptoBulk {H : Type} : DataW H → Nat
  | .lit (.string bytes) => bytes.length + 1
  | .lit _ => 1
  | .nil => 1
  | .ptr d => uptoBulk d + 1
  | .slice elems spare => uptoBulkAll elems + uptoBulkAll spare + 1
  | .agg parts => uptoBulkAll parts + 1
  | .iface _ d => uptoBulk d + 1
  | .map entries => uptoBulkEntries entries + 1
  | .held _ => 1
def uptoBulkAll {H : Type} : List (DataW H) → Nat
  | [] => 0
  | d :: r => uptoBulk d + uptoBulkAll r
def uptoBulkEntries {H : Type} : List (Lit × DataW H) → Nat
  | [] => 0
  | x :: r => uptoBulkEntry x + uptoBulkEntries r
def uptoBulkEntry {H : Type} : Lit × DataW H → Nat
  | (.string bytes, d) => bytes.length + uptoBulk d + 1
  | (_, d) => uptoBulk d + 1
 end
def uptoSmall : (H : Type) → List (DataW H) → Bool := fun _ ds => decide (uptoBulkAll ds ≤ 1048576)
def OpenSpec.upto (s : _root_.Go.ChangeSpec) : _root_.Go.OpenSpec := { _root_.Go.OpenSpec.ofChange s with cond := some uptoSmall }

/-- 'laws.FnBridgeParts', WHERE WHAT IT READS IS OF BULK AT MOST 1048576: true; the input reads as it did. -/
def fnBridgePartsUptoRow : OpenClaim := { program := "ytmkbeiiifikbgaadoor", sum := "38ccee6b1ce2cc903db95b5beafe3c82c4bef5cbe0e3f7a4e9c007eee2228533", func := "loop.example/osier/laws.FnBridgeParts", spec := "fnBridgeParts", unfollowed := true, recurses := true, named := ["math/bits.deBruijn64tab"], plainKeys := false, apart := false, laid := [("math/bits.deBruijn64tab", laid_math_bits_deBruijn64tab)], narrowed := true }
def FnBridgePartsUptoSaid : Prop := fnBridgePartsUptoRow.holds Tryd.pinned (OpenSpec.upto fnBridgePartsSpec)

/-- 'laws.FnBridgeApart', WHERE WHAT IT READS IS OF BULK AT MOST 1048576: true; the input reads as it did. -/
def fnBridgeApartUptoRow : OpenClaim := { program := "ytmkbeiiifikbgaadoor", sum := "38ccee6b1ce2cc903db95b5beafe3c82c4bef5cbe0e3f7a4e9c007eee2228533", func := "loop.example/osier/laws.FnBridgeApart", spec := "fnBridgeApart", unfollowed := true, recurses := true, named := ["math/bits.deBruijn64tab"], plainKeys := false, apart := false, laid := [("math/bits.deBruijn64tab", laid_math_bits_deBruijn64tab)], narrowed := true }
def FnBridgeApartUptoSaid : Prop := fnBridgeApartUptoRow.holds Tryd.pinned (OpenSpec.upto fnBridgeApartSpec)

/-- 'laws.FnFlowTop', WHERE WHAT IT READS IS OF BULK AT MOST 1048576: true; the input reads as it did. -/
def fnFlowTopUptoRow : OpenClaim := { program := "ytmkbeiiifikbgaadoor", sum := "38ccee6b1ce2cc903db95b5beafe3c82c4bef5cbe0e3f7a4e9c007eee2228533", func := "loop.example/osier/laws.FnFlowTop", spec := "fnFlowTop", unfollowed := true, recurses := true, named := ["math/bits.deBruijn64tab"], plainKeys := false, apart := false, laid := [("math/bits.deBruijn64tab", laid_math_bits_deBruijn64tab)], narrowed := true }
def FnFlowTopUptoSaid : Prop := fnFlowTopUptoRow.holds Tryd.pinned (OpenSpec.upto fnFlowTopSpec)

/-- 'laws.FnFlowCut', WHERE WHAT IT READS IS OF BULK AT MOST 1048576: true; the input reads as it did. -/
def fnFlowCutUptoRow : OpenClaim := { program := "ytmkbeiiifikbgaadoor", sum := "38ccee6b1ce2cc903db95b5beafe3c82c4bef5cbe0e3f7a4e9c007eee2228533", func := "loop.example/osier/laws.FnFlowCut", spec := "fnFlowCut", unfollowed := true, recurses := true, named := ["math/bits.deBruijn64tab"], plainKeys := false, apart := false, laid := [("math/bits.deBruijn64tab", laid_math_bits_deBruijn64tab)], narrowed := true }
def FnFlowCutUptoSaid : Prop := fnFlowCutUptoRow.holds Tryd.pinned (OpenSpec.upto fnFlowCutSpec)

/-- 'laws.FnFlowParts', WHERE WHAT IT READS IS OF BULK AT MOST 1048576: true; the input reads as it did. -/
def fnFlowPartsUptoRow : OpenClaim := { program := "ytmkbeiiifikbgaadoor", sum := "38ccee6b1ce2cc903db95b5beafe3c82c4bef5cbe0e3f7a4e9c007eee2228533", func := "loop.example/osier/laws.FnFlowParts", spec := "fnFlowParts", unfollowed := true, recurses := true, named := ["math/bits.deBruijn64tab"], plainKeys := false, apart := false, laid := [("math/bits.deBruijn64tab", laid_math_bits_deBruijn64tab)], narrowed := true }
def FnFlowPartsUptoSaid : Prop := fnFlowPartsUptoRow.holds Tryd.pinned (OpenSpec.upto fnFlowPartsSpec)

/-- 'laws.FnFlowTurn', WHERE WHAT IT READS IS OF BULK AT MOST 1048576: true; the input reads as it did. -/
def fnFlowTurnUptoRow : OpenClaim := { program := "ytmkbeiiifikbgaadoor", sum := "38ccee6b1ce2cc903db95b5beafe3c82c4bef5cbe0e3f7a4e9c007eee2228533", func := "loop.example/osier/laws.FnFlowTurn", spec := "fnFlowTurn", unfollowed := true, recurses := true, named := ["math/bits.deBruijn64tab"], plainKeys := false, apart := false, laid := [("math/bits.deBruijn64tab", laid_math_bits_deBruijn64tab)], narrowed := true }
def FnFlowTurnUptoSaid : Prop := fnFlowTurnUptoRow.holds Tryd.pinned (OpenSpec.upto fnFlowTurnSpec)

/-- 'laws.FnFlowBridge', WHERE WHAT IT READS IS OF BULK AT MOST 1048576: true; the input reads as it did. -/
def fnFlowBridgeUptoRow : OpenClaim := { program := "ytmkbeiiifikbgaadoor", sum := "38ccee6b1ce2cc903db95b5beafe3c82c4bef5cbe0e3f7a4e9c007eee2228533", func := "loop.example/osier/laws.FnFlowBridge", spec := "fnFlowBridge", unfollowed := true, recurses := true, named := ["math/bits.deBruijn64tab"], plainKeys := false, apart := false, laid := [("math/bits.deBruijn64tab", laid_math_bits_deBruijn64tab)], narrowed := true }
def FnFlowBridgeUptoSaid : Prop := fnFlowBridgeUptoRow.holds Tryd.pinned (OpenSpec.upto fnFlowBridgeSpec)

/-- 'laws.FnFlowFew', WHERE WHAT IT READS IS OF BULK AT MOST 1048576: true; the input reads as it did. -/
def fnFlowFewUptoRow : OpenClaim := { program := "ytmkbeiiifikbgaadoor", sum := "38ccee6b1ce2cc903db95b5beafe3c82c4bef5cbe0e3f7a4e9c007eee2228533", func := "loop.example/osier/laws.FnFlowFew", spec := "fnFlowFew", unfollowed := true, recurses := true, named := ["math/bits.deBruijn64tab"], plainKeys := false, apart := false, laid := [("math/bits.deBruijn64tab", laid_math_bits_deBruijn64tab)], narrowed := true }
def FnFlowFewUptoSaid : Prop := fnFlowFewUptoRow.holds Tryd.pinned (OpenSpec.upto fnFlowFewSpec)

/-- 'laws.FnFlowCutTie', WHERE WHAT IT READS IS OF BULK AT MOST 1048576: true; the input reads as it did. -/
def fnFlowCutTieUptoRow : OpenClaim := { program := "ytmkbeiiifikbgaadoor", sum := "38ccee6b1ce2cc903db95b5beafe3c82c4bef5cbe0e3f7a4e9c007eee2228533", func := "loop.example/osier/laws.FnFlowCutTie", spec := "fnFlowCutTie", unfollowed := true, recurses := true, named := ["math/bits.deBruijn64tab"], plainKeys := false, apart := false, laid := [("math/bits.deBruijn64tab", laid_math_bits_deBruijn64tab)], narrowed := true }
def FnFlowCutTieUptoSaid : Prop := fnFlowCutTieUptoRow.holds Tryd.pinned (OpenSpec.upto fnFlowCutTieSpec)

/-- 'laws.FnExactFlowCut', WHERE WHAT IT READS IS OF BULK AT MOST 1048576: true; the input reads as it did. -/
def fnExactFlowCutUptoRow : OpenClaim := { program := "ytmkbeiiifikbgaadoor", sum := "38ccee6b1ce2cc903db95b5beafe3c82c4bef5cbe0e3f7a4e9c007eee2228533", func := "loop.example/osier/laws.FnExactFlowCut", spec := "fnExactFlowCut", unfollowed := true, recurses := true, named := ["math/bits.deBruijn64tab"], plainKeys := false, apart := false, laid := [("math/bits.deBruijn64tab", laid_math_bits_deBruijn64tab)], narrowed := true }
def FnExactFlowCutUptoSaid : Prop := fnExactFlowCutUptoRow.holds Tryd.pinned (OpenSpec.upto fnExactFlowCutSpec)

end Rows
end Go.Proofs.YtmkbeiiifikbgaaDoor
