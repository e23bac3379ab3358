/-
  NARROWER THAN 'FOR EVERY INPUT', by the rows' own cells (each row's printed sentence says how): FnSideOf: laid · FnSideTop: laid · FnSideOdd: laid · FnSideTurn: laid · FnSideOnly: laid · FnSideLess: laid · FnSideTree: laid · FnSideEven: laid · FnExactSideOf: laid · FnExactSideOk: laid · FnExactSideOdd: laid.
  DERIVED. THE GIVEN ROWS OF THIS SEAT. 11 by the template 'for every input the law returns true; each argument reads behind the call as it read before'; 0 by the template 'total and deterministic' (their statements: YtiaeffpjcinilaaDoorTotals.lean).
  GIVEN WITH THE SEED: the statements are not yours to turn. If you find one false, say at which input.
  Laid BY PROGRAM, IN A SANDBOX (cutbox-rows.mjs): the forced cells as the released guide's own fill.sh prints them over the translation 77b28794fe1d0495… (all of the seat's roots in one cut). By AI agents, Wed Nov 11 2026. No macro, syntax, notation, axiom, sorry.
-/
import Derived.Test.YtiaeffpjcinilaaDoorChecked
import GoSem.Claim
import GoSem.ClaimJoined
import GoSem.ClaimMapViews
import Derived.JoinedTies
import Derived.KernelRfl
namespace Go.Proofs.YtiaeffpjcinilaaDoor
/- THE CELL 'sum', in the pinned program and in every row, IS THE sha256 OF THE DUMP (.gsa) THAT YtiaeffpjcinilaaDoorProg.lean LOADS. Nothing in Lean hashes anything: it is a label: what it is worth is what the hold of that sum in a sandbox is worth. -/
noncomputable def Tryd.pinned : Pinned := { name := "ytiaeffpjcinilaadoor", sum := "77b28794fe1d04956ea21eda43fe45a531b8cdf2e4a839ad384c0e603d17d3db", checked := Tryd.checked }
namespace Rows
def none {H : Type} : Left H := { results := [], args := [] }

/- WHAT THE LISTED PACKAGE-LEVEL VARIABLES READ AS WHEN THE CALL BEGINS. Each datum BY PROGRAM (the guide's laid-datum.mjs) off the statement by which the dump's own 'gosem.cut.vars' lays the variable. In a bare row this is a premise. The card (YtiaeffpjcinilaaDoorCards.lean) ties it to the program's text. -/
def laid_math_bits_deBruijn64tab {H : Type} : DataW H := .agg [.lit (.int .u8 0), .lit (.int .u8 1), .lit (.int .u8 56), .lit (.int .u8 2), .lit (.int .u8 57), .lit (.int .u8 49), .lit (.int .u8 28), .lit (.int .u8 3), .lit (.int .u8 61), .lit (.int .u8 58), .lit (.int .u8 42), .lit (.int .u8 50), .lit (.int .u8 38), .lit (.int .u8 29), .lit (.int .u8 17), .lit (.int .u8 4), .lit (.int .u8 62), .lit (.int .u8 47), .lit (.int .u8 59), .lit (.int .u8 36), .lit (.int .u8 45), .lit (.int .u8 43), .lit (.int .u8 51), .lit (.int .u8 22), .lit (.int .u8 53), .lit (.int .u8 39), .lit (.int .u8 33), .lit (.int .u8 30), .lit (.int .u8 24), .lit (.int .u8 18), .lit (.int .u8 12), .lit (.int .u8 5), .lit (.int .u8 63), .lit (.int .u8 55), .lit (.int .u8 48), .lit (.int .u8 27), .lit (.int .u8 60), .lit (.int .u8 41), .lit (.int .u8 37), .lit (.int .u8 16), .lit (.int .u8 46), .lit (.int .u8 35), .lit (.int .u8 44), .lit (.int .u8 21), .lit (.int .u8 52), .lit (.int .u8 32), .lit (.int .u8 23), .lit (.int .u8 11), .lit (.int .u8 54), .lit (.int .u8 26), .lit (.int .u8 40), .lit (.int .u8 15), .lit (.int .u8 34), .lit (.int .u8 20), .lit (.int .u8 31), .lit (.int .u8 10), .lit (.int .u8 25), .lit (.int .u8 14), .lit (.int .u8 19), .lit (.int .u8 9), .lit (.int .u8 13), .lit (.int .u8 8), .lit (.int .u8 7), .lit (.int .u8 6)]

/-- 'laws.FnSideOf': WHATEVER THE INPUT: true; the input reads as it did. -/
def fnSideOfSpec : ChangeSpec := { name := "fnSideOf", fn := fun _ => fun
  | [d] => { results := [.lit (.bool true)], args := [d] }
  | _ => none }
def fnSideOfRow : OpenClaim := { program := "ytiaeffpjcinilaadoor", sum := "77b28794fe1d04956ea21eda43fe45a531b8cdf2e4a839ad384c0e603d17d3db", func := "loop.example/osier/laws.FnSideOf", spec := "fnSideOf", unfollowed := true, recurses := true, named := ["math/bits.deBruijn64tab"], apart := false, laid := [("math/bits.deBruijn64tab", laid_math_bits_deBruijn64tab)] }
def FnSideOfSaid : Prop := fnSideOfRow.holds Tryd.pinned (OpenSpec.ofChange fnSideOfSpec)

/-- ITS FALSE NEIGHBOUR: 'it returns false'. Refute it at one input. -/
def fnSideOfWrong : ChangeSpec := { name := "fnSideOf", fn := fun _ => fun
  | [d] => { results := [.lit (.bool false)], args := [d] }
  | _ => none }
def FnSideOfWrongFalsely : Prop := fnSideOfRow.holds Tryd.pinned (OpenSpec.ofChange fnSideOfWrong)

/-- 'laws.FnSideTop': WHATEVER THE INPUT: true; the input reads as it did. -/
def fnSideTopSpec : ChangeSpec := { name := "fnSideTop", fn := fun _ => fun
  | [d] => { results := [.lit (.bool true)], args := [d] }
  | _ => none }
def fnSideTopRow : OpenClaim := { program := "ytiaeffpjcinilaadoor", sum := "77b28794fe1d04956ea21eda43fe45a531b8cdf2e4a839ad384c0e603d17d3db", func := "loop.example/osier/laws.FnSideTop", spec := "fnSideTop", recurses := true, named := ["math/bits.deBruijn64tab"], apart := false, laid := [("math/bits.deBruijn64tab", laid_math_bits_deBruijn64tab)] }
def FnSideTopSaid : Prop := fnSideTopRow.holds Tryd.pinned (OpenSpec.ofChange fnSideTopSpec)

/-- ITS FALSE NEIGHBOUR: 'it returns false'. Refute it at one input. -/
def fnSideTopWrong : ChangeSpec := { name := "fnSideTop", fn := fun _ => fun
  | [d] => { results := [.lit (.bool false)], args := [d] }
  | _ => none }
def FnSideTopWrongFalsely : Prop := fnSideTopRow.holds Tryd.pinned (OpenSpec.ofChange fnSideTopWrong)

/-- 'laws.FnSideOdd': WHATEVER THE INPUT: true; the input reads as it did. -/
def fnSideOddSpec : ChangeSpec := { name := "fnSideOdd", fn := fun _ => fun
  | [d] => { results := [.lit (.bool true)], args := [d] }
  | _ => none }
def fnSideOddRow : OpenClaim := { program := "ytiaeffpjcinilaadoor", sum := "77b28794fe1d04956ea21eda43fe45a531b8cdf2e4a839ad384c0e603d17d3db", func := "loop.example/osier/laws.FnSideOdd", spec := "fnSideOdd", recurses := true, named := ["math/bits.deBruijn64tab"], apart := false, laid := [("math/bits.deBruijn64tab", laid_math_bits_deBruijn64tab)] }
def FnSideOddSaid : Prop := fnSideOddRow.holds Tryd.pinned (OpenSpec.ofChange fnSideOddSpec)

/-- ITS FALSE NEIGHBOUR: 'it returns false'. Refute it at one input. -/
def fnSideOddWrong : ChangeSpec := { name := "fnSideOdd", fn := fun _ => fun
  | [d] => { results := [.lit (.bool false)], args := [d] }
  | _ => none }
def FnSideOddWrongFalsely : Prop := fnSideOddRow.holds Tryd.pinned (OpenSpec.ofChange fnSideOddWrong)

/-- 'laws.FnSideTurn': WHATEVER THE INPUT: true; the input reads as it did. -/
def fnSideTurnSpec : ChangeSpec := { name := "fnSideTurn", fn := fun _ => fun
  | [d] => { results := [.lit (.bool true)], args := [d] }
  | _ => none }
def fnSideTurnRow : OpenClaim := { program := "ytiaeffpjcinilaadoor", sum := "77b28794fe1d04956ea21eda43fe45a531b8cdf2e4a839ad384c0e603d17d3db", func := "loop.example/osier/laws.FnSideTurn", spec := "fnSideTurn", unfollowed := true, recurses := true, named := ["math/bits.deBruijn64tab"], apart := false, laid := [("math/bits.deBruijn64tab", laid_math_bits_deBruijn64tab)] }
def FnSideTurnSaid : Prop := fnSideTurnRow.holds Tryd.pinned (OpenSpec.ofChange fnSideTurnSpec)

/-- ITS FALSE NEIGHBOUR: 'it returns false'. Refute it at one input. -/
def fnSideTurnWrong : ChangeSpec := { name := "fnSideTurn", fn := fun _ => fun
  | [d] => { results := [.lit (.bool false)], args := [d] }
  | _ => none }
def FnSideTurnWrongFalsely : Prop := fnSideTurnRow.holds Tryd.pinned (OpenSpec.ofChange fnSideTurnWrong)

/-- 'laws.FnSideOnly': WHATEVER THE INPUT: true; the input reads as it did. -/
def fnSideOnlySpec : ChangeSpec := { name := "fnSideOnly", fn := fun _ => fun
  | [d] => { results := [.lit (.bool true)], args := [d] }
  | _ => none }
def fnSideOnlyRow : OpenClaim := { program := "ytiaeffpjcinilaadoor", sum := "77b28794fe1d04956ea21eda43fe45a531b8cdf2e4a839ad384c0e603d17d3db", func := "loop.example/osier/laws.FnSideOnly", spec := "fnSideOnly", unfollowed := true, recurses := true, named := ["math/bits.deBruijn64tab"], apart := false, laid := [("math/bits.deBruijn64tab", laid_math_bits_deBruijn64tab)] }
def FnSideOnlySaid : Prop := fnSideOnlyRow.holds Tryd.pinned (OpenSpec.ofChange fnSideOnlySpec)

/-- ITS FALSE NEIGHBOUR: 'it returns false'. Refute it at one input. -/
def fnSideOnlyWrong : ChangeSpec := { name := "fnSideOnly", fn := fun _ => fun
  | [d] => { results := [.lit (.bool false)], args := [d] }
  | _ => none }
def FnSideOnlyWrongFalsely : Prop := fnSideOnlyRow.holds Tryd.pinned (OpenSpec.ofChange fnSideOnlyWrong)

/-- 'laws.FnSideLess': WHATEVER THE INPUT: true; the input reads as it did. -/
def fnSideLessSpec : ChangeSpec := { name := "fnSideLess", fn := fun _ => fun
  | [d1, d2] => { results := [.lit (.bool true)], args := [d1, d2] }
  | _ => none }
def fnSideLessRow : OpenClaim := { program := "ytiaeffpjcinilaadoor", sum := "77b28794fe1d04956ea21eda43fe45a531b8cdf2e4a839ad384c0e603d17d3db", func := "loop.example/osier/laws.FnSideLess", spec := "fnSideLess", unfollowed := true, recurses := true, named := ["math/bits.deBruijn64tab"], apart := false, laid := [("math/bits.deBruijn64tab", laid_math_bits_deBruijn64tab)] }
def FnSideLessSaid : Prop := fnSideLessRow.holds Tryd.pinned (OpenSpec.ofChange fnSideLessSpec)

/-- ITS FALSE NEIGHBOUR: 'it returns false'. Refute it at one input. -/
def fnSideLessWrong : ChangeSpec := { name := "fnSideLess", fn := fun _ => fun
  | [d1, d2] => { results := [.lit (.bool false)], args := [d1, d2] }
  | _ => none }
def FnSideLessWrongFalsely : Prop := fnSideLessRow.holds Tryd.pinned (OpenSpec.ofChange fnSideLessWrong)

/-- 'laws.FnSideTree': WHATEVER THE INPUT: true; the input reads as it did. -/
def fnSideTreeSpec : ChangeSpec := { name := "fnSideTree", fn := fun _ => fun
  | [d] => { results := [.lit (.bool true)], args := [d] }
  | _ => none }
def fnSideTreeRow : OpenClaim := { program := "ytiaeffpjcinilaadoor", sum := "77b28794fe1d04956ea21eda43fe45a531b8cdf2e4a839ad384c0e603d17d3db", func := "loop.example/osier/laws.FnSideTree", spec := "fnSideTree", named := ["math/bits.deBruijn64tab"], apart := false, laid := [("math/bits.deBruijn64tab", laid_math_bits_deBruijn64tab)] }
def FnSideTreeSaid : Prop := fnSideTreeRow.holds Tryd.pinned (OpenSpec.ofChange fnSideTreeSpec)

/-- ITS FALSE NEIGHBOUR: 'it returns false'. Refute it at one input. -/
def fnSideTreeWrong : ChangeSpec := { name := "fnSideTree", fn := fun _ => fun
  | [d] => { results := [.lit (.bool false)], args := [d] }
  | _ => none }
def FnSideTreeWrongFalsely : Prop := fnSideTreeRow.holds Tryd.pinned (OpenSpec.ofChange fnSideTreeWrong)

/-- 'laws.FnSideEven': WHATEVER THE INPUT: true; the input reads as it did. -/
def fnSideEvenSpec : ChangeSpec := { name := "fnSideEven", fn := fun _ => fun
  | [d] => { results := [.lit (.bool true)], args := [d] }
  | _ => none }
def fnSideEvenRow : OpenClaim := { program := "ytiaeffpjcinilaadoor", sum := "77b28794fe1d04956ea21eda43fe45a531b8cdf2e4a839ad384c0e603d17d3db", func := "loop.example/osier/laws.FnSideEven", spec := "fnSideEven", unfollowed := true, recurses := true, named := ["math/bits.deBruijn64tab"], apart := false, laid := [("math/bits.deBruijn64tab", laid_math_bits_deBruijn64tab)] }
def FnSideEvenSaid : Prop := fnSideEvenRow.holds Tryd.pinned (OpenSpec.ofChange fnSideEvenSpec)

/-- ITS FALSE NEIGHBOUR: 'it returns false'. Refute it at one input. -/
def fnSideEvenWrong : ChangeSpec := { name := "fnSideEven", fn := fun _ => fun
  | [d] => { results := [.lit (.bool false)], args := [d] }
  | _ => none }
def FnSideEvenWrongFalsely : Prop := fnSideEvenRow.holds Tryd.pinned (OpenSpec.ofChange fnSideEvenWrong)

/-- 'laws.FnExactSideOf': WHATEVER THE INPUT: true; the input reads as it did. -/
def fnExactSideOfSpec : ChangeSpec := { name := "fnExactSideOf", fn := fun _ => fun
  | [d] => { results := [.lit (.bool true)], args := [d] }
  | _ => none }
def fnExactSideOfRow : OpenClaim := { program := "ytiaeffpjcinilaadoor", sum := "77b28794fe1d04956ea21eda43fe45a531b8cdf2e4a839ad384c0e603d17d3db", func := "loop.example/osier/laws.FnExactSideOf", spec := "fnExactSideOf", named := ["math/bits.deBruijn64tab"], apart := false, laid := [("math/bits.deBruijn64tab", laid_math_bits_deBruijn64tab)] }
def FnExactSideOfSaid : Prop := fnExactSideOfRow.holds Tryd.pinned (OpenSpec.ofChange fnExactSideOfSpec)

/-- ITS FALSE NEIGHBOUR: 'it returns false'. Refute it at one input. -/
def fnExactSideOfWrong : ChangeSpec := { name := "fnExactSideOf", fn := fun _ => fun
  | [d] => { results := [.lit (.bool false)], args := [d] }
  | _ => none }
def FnExactSideOfWrongFalsely : Prop := fnExactSideOfRow.holds Tryd.pinned (OpenSpec.ofChange fnExactSideOfWrong)

/-- 'laws.FnExactSideOk': WHATEVER THE INPUT: true; the input reads as it did. -/
def fnExactSideOkSpec : ChangeSpec := { name := "fnExactSideOk", fn := fun _ => fun
  | [d1, d2] => { results := [.lit (.bool true)], args := [d1, d2] }
  | _ => none }
def fnExactSideOkRow : OpenClaim := { program := "ytiaeffpjcinilaadoor", sum := "77b28794fe1d04956ea21eda43fe45a531b8cdf2e4a839ad384c0e603d17d3db", func := "loop.example/osier/laws.FnExactSideOk", spec := "fnExactSideOk", unfollowed := true, recurses := true, named := ["math/bits.deBruijn64tab"], apart := false, laid := [("math/bits.deBruijn64tab", laid_math_bits_deBruijn64tab)] }
def FnExactSideOkSaid : Prop := fnExactSideOkRow.holds Tryd.pinned (OpenSpec.ofChange fnExactSideOkSpec)

/-- ITS FALSE NEIGHBOUR: 'it returns false'. Refute it at one input. -/
def fnExactSideOkWrong : ChangeSpec := { name := "fnExactSideOk", fn := fun _ => fun
  | [d1, d2] => { results := [.lit (.bool false)], args := [d1, d2] }
  | _ => none }
def FnExactSideOkWrongFalsely : Prop := fnExactSideOkRow.holds Tryd.pinned (OpenSpec.ofChange fnExactSideOkWrong)

/-- 'laws.FnExactSideOdd': WHATEVER THE INPUT: true; the input reads as it did. -/
def fnExactSideOddSpec : ChangeSpec := { name := "fnExactSideOdd", fn := fun _ => fun
  | [d] => { results := [.lit (.bool true)], args := [d] }
  | _ => none }
def fnExactSideOddRow : OpenClaim := { program := "ytiaeffpjcinilaadoor", sum := "77b28794fe1d04956ea21eda43fe45a531b8cdf2e4a839ad384c0e603d17d3db", func := "loop.example/osier/laws.FnExactSideOdd", spec := "fnExactSideOdd", recurses := true, named := ["math/bits.deBruijn64tab"], apart := false, laid := [("math/bits.deBruijn64tab", laid_math_bits_deBruijn64tab)] }
def FnExactSideOddSaid : Prop := fnExactSideOddRow.holds Tryd.pinned (OpenSpec.ofChange fnExactSideOddSpec)

/-- ITS FALSE NEIGHBOUR: 'it returns false'. Refute it at one input. -/
def fnExactSideOddWrong : ChangeSpec := { name := "fnExactSideOdd", fn := fun _ => fun
  | [d] => { results := [.lit (.bool false)], args := [d] }
  | _ => none }
def FnExactSideOddWrongFalsely : Prop := fnExactSideOddRow.holds Tryd.pinned (OpenSpec.ofChange fnExactSideOddWrong)

/- THE SECOND FORM. 'bulk': how many values and letters a reading holds, each counted each time it is reached (what is shared counts as often as it is met; a slice's spare places count too). A statement '..UptoSaid' is the law's where the arguments, and the package variables that the reading takes, are together of bulk at most 1048576: NARROWER than '..Said'. Prove '..Said' where nothing that the law and all that it calls make is longer than what came in: it says more and counts as full. Else prove '..UptoSaid'. A law counts once. -/
mutual
def uptoBulk {H : Type} : DataW H → Nat
  | .lit (.string bytes) => bytes.length + 1
  | .lit _ => 1
  | .nil => 1
  | .ptr d => uptoBulk d + 1
  | .slice elems spare => uptoBulkAll elems + uptoBulkAll spare + 1
  | .agg parts => uptoBulkAll parts + 1
  | .iface _ d => uptoBulk d + 1
  | .map entries => uptoBulkEntries entries + 1
  | .held _ => 1
def uptoBulkAll {H : Type} : List (DataW H) → Nat
  | [] => 0
  | d :: r => uptoBulk d + uptoBulkAll r
def uptoBulkEntries {H : Type} : List (Lit × DataW H) → Nat
  | [] => 0
  | x :: r => uptoBulkEntry x + uptoBulkEntries r
def uptoBulkEntry {H : Type} : Lit × DataW H → Nat
  | (.string bytes, d) => bytes.length + uptoBulk d + 1
  | (_, d) => uptoBulk d + 1
 end
def uptoSmall : (H : Type) → List (DataW H) → Bool := fun _ ds => decide (uptoBulkAll ds ≤ 1048576)
def OpenSpec.upto (s : _root_.Go.ChangeSpec) : _root_.Go.OpenSpec := { _root_.Go.OpenSpec.ofChange s with cond := some uptoSmall }

/-- 'laws.FnSideOf', WHERE WHAT IT READS IS OF BULK AT MOST 1048576: true; the input reads as it did. -/
def fnSideOfUptoRow : OpenClaim := { program := "ytiaeffpjcinilaadoor", sum := "77b28794fe1d04956ea21eda43fe45a531b8cdf2e4a839ad384c0e603d17d3db", func := "loop.example/osier/laws.FnSideOf", spec := "fnSideOf", unfollowed := true, recurses := true, named := ["math/bits.deBruijn64tab"], apart := false, laid := [("math/bits.deBruijn64tab", laid_math_bits_deBruijn64tab)], narrowed := true }
def FnSideOfUptoSaid : Prop := fnSideOfUptoRow.holds Tryd.pinned (OpenSpec.upto fnSideOfSpec)

/-- 'laws.FnSideTop', WHERE WHAT IT READS IS OF BULK AT MOST 1048576: true; the input reads as it did. -/
def fnSideTopUptoRow : OpenClaim := { program := "ytiaeffpjcinilaadoor", sum := "77b28794fe1d04956ea21eda43fe45a531b8cdf2e4a839ad384c0e603d17d3db", func := "loop.example/osier/laws.FnSideTop", spec := "fnSideTop", recurses := true, named := ["math/bits.deBruijn64tab"], apart := false, laid := [("math/bits.deBruijn64tab", laid_math_bits_deBruijn64tab)], narrowed := true }
def FnSideTopUptoSaid : Prop := fnSideTopUptoRow.holds Tryd.pinned (OpenSpec.upto fnSideTopSpec)

/-- 'laws.FnSideOdd', WHERE WHAT IT READS IS OF BULK AT MOST 1048576: true; the input reads as it did. -/
def fnSideOddUptoRow : OpenClaim := { program := "ytiaeffpjcinilaadoor", sum := "77b28794fe1d04956ea21eda43fe45a531b8cdf2e4a839ad384c0e603d17d3db", func := "loop.example/osier/laws.FnSideOdd", spec := "fnSideOdd", recurses := true, named := ["math/bits.deBruijn64tab"], apart := false, laid := [("math/bits.deBruijn64tab", laid_math_bits_deBruijn64tab)], narrowed := true }
def FnSideOddUptoSaid : Prop := fnSideOddUptoRow.holds Tryd.pinned (OpenSpec.upto fnSideOddSpec)

/-- 'laws.FnSideTurn', WHERE WHAT IT READS IS OF BULK AT MOST 1048576: true; the input reads as it did. -/
def fnSideTurnUptoRow : OpenClaim := { program := "ytiaeffpjcinilaadoor", sum := "77b28794fe1d04956ea21eda43fe45a531b8cdf2e4a839ad384c0e603d17d3db", func := "loop.example/osier/laws.FnSideTurn", spec := "fnSideTurn", unfollowed := true, recurses := true, named := ["math/bits.deBruijn64tab"], apart := false, laid := [("math/bits.deBruijn64tab", laid_math_bits_deBruijn64tab)], narrowed := true }
def FnSideTurnUptoSaid : Prop := fnSideTurnUptoRow.holds Tryd.pinned (OpenSpec.upto fnSideTurnSpec)

/-- 'laws.FnSideOnly', WHERE WHAT IT READS IS OF BULK AT MOST 1048576: true; the input reads as it did. -/
def fnSideOnlyUptoRow : OpenClaim := { program := "ytiaeffpjcinilaadoor", sum := "77b28794fe1d04956ea21eda43fe45a531b8cdf2e4a839ad384c0e603d17d3db", func := "loop.example/osier/laws.FnSideOnly", spec := "fnSideOnly", unfollowed := true, recurses := true, named := ["math/bits.deBruijn64tab"], apart := false, laid := [("math/bits.deBruijn64tab", laid_math_bits_deBruijn64tab)], narrowed := true }
def FnSideOnlyUptoSaid : Prop := fnSideOnlyUptoRow.holds Tryd.pinned (OpenSpec.upto fnSideOnlySpec)

/-- 'laws.FnSideLess', WHERE WHAT IT READS IS OF BULK AT MOST 1048576: true; the input reads as it did. -/
def fnSideLessUptoRow : OpenClaim := { program := "ytiaeffpjcinilaadoor", sum := "77b28794fe1d04956ea21eda43fe45a531b8cdf2e4a839ad384c0e603d17d3db", func := "loop.example/osier/laws.FnSideLess", spec := "fnSideLess", unfollowed := true, recurses := true, named := ["math/bits.deBruijn64tab"], apart := false, laid := [("math/bits.deBruijn64tab", laid_math_bits_deBruijn64tab)], narrowed := true }
def FnSideLessUptoSaid : Prop := fnSideLessUptoRow.holds Tryd.pinned (OpenSpec.upto fnSideLessSpec)

/-- 'laws.FnSideTree', WHERE WHAT IT READS IS OF BULK AT MOST 1048576: true; the input reads as it did. -/
def fnSideTreeUptoRow : OpenClaim := { program := "ytiaeffpjcinilaadoor", sum := "77b28794fe1d04956ea21eda43fe45a531b8cdf2e4a839ad384c0e603d17d3db", func := "loop.example/osier/laws.FnSideTree", spec := "fnSideTree", named := ["math/bits.deBruijn64tab"], apart := false, laid := [("math/bits.deBruijn64tab", laid_math_bits_deBruijn64tab)], narrowed := true }
def FnSideTreeUptoSaid : Prop := fnSideTreeUptoRow.holds Tryd.pinned (OpenSpec.upto fnSideTreeSpec)

/-- 'laws.FnSideEven', WHERE WHAT IT READS IS OF BULK AT MOST 1048576: true; the input reads as it did. -/
def fnSideEvenUptoRow : OpenClaim := { program := "ytiaeffpjcinilaadoor", sum := "77b28794fe1d04956ea21eda43fe45a531b8cdf2e4a839ad384c0e603d17d3db", func := "loop.example/osier/laws.FnSideEven", spec := "fnSideEven", unfollowed := true, recurses := true, named := ["math/bits.deBruijn64tab"], apart := false, laid := [("math/bits.deBruijn64tab", laid_math_bits_deBruijn64tab)], narrowed := true }
def FnSideEvenUptoSaid : Prop := fnSideEvenUptoRow.holds Tryd.pinned (OpenSpec.upto fnSideEvenSpec)

/-- 'laws.FnExactSideOf', WHERE WHAT IT READS IS OF BULK AT MOST 1048576: true; the input reads as it did. -/
def fnExactSideOfUptoRow : OpenClaim := { program := "ytiaeffpjcinilaadoor", sum := "77b28794fe1d04956ea21eda43fe45a531b8cdf2e4a839ad384c0e603d17d3db", func := "loop.example/osier/laws.FnExactSideOf", spec := "fnExactSideOf", named := ["math/bits.deBruijn64tab"], apart := false, laid := [("math/bits.deBruijn64tab", laid_math_bits_deBruijn64tab)], narrowed := true }
def FnExactSideOfUptoSaid : Prop := fnExactSideOfUptoRow.holds Tryd.pinned (OpenSpec.upto fnExactSideOfSpec)

/-- 'laws.FnExactSideOk', WHERE WHAT IT READS IS OF BULK AT MOST 1048576: true; the input reads as it did. -/
def fnExactSideOkUptoRow : OpenClaim := { program := "ytiaeffpjcinilaadoor", sum := "77b28794fe1d04956ea21eda43fe45a531b8cdf2e4a839ad384c0e603d17d3db", func := "loop.example/osier/laws.FnExactSideOk", spec := "fnExactSideOk", unfollowed := true, recurses := true, named := ["math/bits.deBruijn64tab"], apart := false, laid := [("math/bits.deBruijn64tab", laid_math_bits_deBruijn64tab)], narrowed := true }
def FnExactSideOkUptoSaid : Prop := fnExactSideOkUptoRow.holds Tryd.pinned (OpenSpec.upto fnExactSideOkSpec)

/-- 'laws.FnExactSideOdd', WHERE WHAT IT READS IS OF BULK AT MOST 1048576: true; the input reads as it did. -/
def fnExactSideOddUptoRow : OpenClaim := { program := "ytiaeffpjcinilaadoor", sum := "77b28794fe1d04956ea21eda43fe45a531b8cdf2e4a839ad384c0e603d17d3db", func := "loop.example/osier/laws.FnExactSideOdd", spec := "fnExactSideOdd", recurses := true, named := ["math/bits.deBruijn64tab"], apart := false, laid := [("math/bits.deBruijn64tab", laid_math_bits_deBruijn64tab)], narrowed := true }
def FnExactSideOddUptoSaid : Prop := fnExactSideOddUptoRow.holds Tryd.pinned (OpenSpec.upto fnExactSideOddSpec)

end Rows
end Go.Proofs.YtiaeffpjcinilaaDoor
