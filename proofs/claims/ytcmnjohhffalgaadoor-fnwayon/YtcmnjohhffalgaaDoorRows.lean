/-
  NARROWER THAN 'FOR EVERY INPUT', by the rows' own cells (each row's printed sentence says how): FnWayReach: laid · FnWayOn: laid · FnWayParts: laid · FnWayCount: laid · FnWayTie: laid · FnWayCut: laid.
  DERIVED. THE GIVEN ROWS OF THIS SEAT. 6 by the template 'for every input the law returns true; each argument reads behind the call as it read before'; 0 by the template 'total and deterministic' (their statements: YtcmnjohhffalgaaDoorTotals.lean).
  GIVEN WITH THE SEED: the statements are not yours to turn. If you find one false, say at which input.
  Laid BY PROGRAM, IN A SANDBOX (cutbox-rows.mjs): the forced cells as the released guide's own fill.sh prints them over the translation e8121e8942f10e7d… (all of the seat's roots in one cut). By AI agents, Wed Nov 11 2026. No macro, syntax, notation, axiom, sorry.
-/
import Derived.Test.YtcmnjohhffalgaaDoorChecked
import GoSem.Claim
import GoSem.ClaimJoined
import GoSem.ClaimMapViews
import Derived.JoinedTies
import Derived.KernelRfl
namespace Go.Proofs.YtcmnjohhffalgaaDoor
/- THE CELL 'sum', in the pinned program and in every row, IS THE sha256 OF THE DUMP (.gsa) THAT YtcmnjohhffalgaaDoorProg.lean LOADS. Nothing in Lean hashes anything: it is a label: what it is worth is what the hold of that sum in a sandbox is worth. -/
noncomputable def Tryd.pinned : Pinned := { name := "ytcmnjohhffalgaadoor", sum := "e8121e8942f10e7d1ca1dac44ccfdfdd9743adcace5f593c09e6a8ac354f8f00", checked := Tryd.checked }
namespace Rows
def none {H : Type} : Left H := { results := [], args := [] }

/- WHAT THE LISTED PACKAGE-LEVEL VARIABLES READ AS WHEN THE CALL BEGINS. Each datum BY PROGRAM (the guide's laid-datum.mjs) off the statement by which the dump's own 'gosem.cut.vars' lays the variable. In a bare row this is a premise. The card (YtcmnjohhffalgaaDoorCards.lean) ties it to the program's text. -/
def laid_math_bits_deBruijn64tab {H : Type} : DataW H := .agg [.lit (.int .u8 0), .lit (.int .u8 1), .lit (.int .u8 56), .lit (.int .u8 2), .lit (.int .u8 57), .lit (.int .u8 49), .lit (.int .u8 28), .lit (.int .u8 3), .lit (.int .u8 61), .lit (.int .u8 58), .lit (.int .u8 42), .lit (.int .u8 50), .lit (.int .u8 38), .lit (.int .u8 29), .lit (.int .u8 17), .lit (.int .u8 4), .lit (.int .u8 62), .lit (.int .u8 47), .lit (.int .u8 59), .lit (.int .u8 36), .lit (.int .u8 45), .lit (.int .u8 43), .lit (.int .u8 51), .lit (.int .u8 22), .lit (.int .u8 53), .lit (.int .u8 39), .lit (.int .u8 33), .lit (.int .u8 30), .lit (.int .u8 24), .lit (.int .u8 18), .lit (.int .u8 12), .lit (.int .u8 5), .lit (.int .u8 63), .lit (.int .u8 55), .lit (.int .u8 48), .lit (.int .u8 27), .lit (.int .u8 60), .lit (.int .u8 41), .lit (.int .u8 37), .lit (.int .u8 16), .lit (.int .u8 46), .lit (.int .u8 35), .lit (.int .u8 44), .lit (.int .u8 21), .lit (.int .u8 52), .lit (.int .u8 32), .lit (.int .u8 23), .lit (.int .u8 11), .lit (.int .u8 54), .lit (.int .u8 26), .lit (.int .u8 40), .lit (.int .u8 15), .lit (.int .u8 34), .lit (.int .u8 20), .lit (.int .u8 31), .lit (.int .u8 10), .lit (.int .u8 25), .lit (.int .u8 14), .lit (.int .u8 19), .lit (.int .u8 9), .lit (.int .u8 13), .lit (.int .u8 8), .lit (.int .u8 7), .lit (.int .u8 6)]

/-- 'laws.FnWayReach': WHATEVER THE INPUT: true; the input reads as it did. -/
def fnWayReachSpec : ChangeSpec := { name := "fnWayReach", fn := fun _ => fun
  | [d] => { results := [.lit (.bool true)], args := [d] }
  | _ => none }
def fnWayReachRow : OpenClaim := { program := "ytcmnjohhffalgaadoor", sum := "e8121e8942f10e7d1ca1dac44ccfdfdd9743adcace5f593c09e6a8ac354f8f00", func := "loop.example/osier/laws.FnWayReach", spec := "fnWayReach", named := ["math/bits.deBruijn64tab"], apart := false, laid := [("math/bits.deBruijn64tab", laid_math_bits_deBruijn64tab)] }
def FnWayReachSaid : Prop := fnWayReachRow.holds Tryd.pinned (OpenSpec.ofChange fnWayReachSpec)

/-- ITS FALSE NEIGHBOUR: 'it returns false'. Refute it at one input. -/
def fnWayReachWrong : ChangeSpec := { name := "fnWayReach", fn := fun _ => fun
  | [d] => { results := [.lit (.bool false)], args := [d] }
  | _ => none }
def FnWayReachWrongFalsely : Prop := fnWayReachRow.holds Tryd.pinned (OpenSpec.ofChange fnWayReachWrong)

/-- 'laws.FnWayOn': WHATEVER THE INPUT: true; the input reads as it did. -/
def fnWayOnSpec : ChangeSpec := { name := "fnWayOn", fn := fun _ => fun
  | [d] => { results := [.lit (.bool true)], args := [d] }
  | _ => none }
def fnWayOnRow : OpenClaim := { program := "ytcmnjohhffalgaadoor", sum := "e8121e8942f10e7d1ca1dac44ccfdfdd9743adcace5f593c09e6a8ac354f8f00", func := "loop.example/osier/laws.FnWayOn", spec := "fnWayOn", named := ["math/bits.deBruijn64tab"], apart := false, laid := [("math/bits.deBruijn64tab", laid_math_bits_deBruijn64tab)] }
def FnWayOnSaid : Prop := fnWayOnRow.holds Tryd.pinned (OpenSpec.ofChange fnWayOnSpec)

/-- ITS FALSE NEIGHBOUR: 'it returns false'. Refute it at one input. -/
def fnWayOnWrong : ChangeSpec := { name := "fnWayOn", fn := fun _ => fun
  | [d] => { results := [.lit (.bool false)], args := [d] }
  | _ => none }
def FnWayOnWrongFalsely : Prop := fnWayOnRow.holds Tryd.pinned (OpenSpec.ofChange fnWayOnWrong)

/-- 'laws.FnWayParts': WHATEVER THE INPUT: true; the input reads as it did. -/
def fnWayPartsSpec : ChangeSpec := { name := "fnWayParts", fn := fun _ => fun
  | [d] => { results := [.lit (.bool true)], args := [d] }
  | _ => none }
def fnWayPartsRow : OpenClaim := { program := "ytcmnjohhffalgaadoor", sum := "e8121e8942f10e7d1ca1dac44ccfdfdd9743adcace5f593c09e6a8ac354f8f00", func := "loop.example/osier/laws.FnWayParts", spec := "fnWayParts", named := ["math/bits.deBruijn64tab"], apart := false, laid := [("math/bits.deBruijn64tab", laid_math_bits_deBruijn64tab)] }
def FnWayPartsSaid : Prop := fnWayPartsRow.holds Tryd.pinned (OpenSpec.ofChange fnWayPartsSpec)

/-- ITS FALSE NEIGHBOUR: 'it returns false'. Refute it at one input. -/
def fnWayPartsWrong : ChangeSpec := { name := "fnWayParts", fn := fun _ => fun
  | [d] => { results := [.lit (.bool false)], args := [d] }
  | _ => none }
def FnWayPartsWrongFalsely : Prop := fnWayPartsRow.holds Tryd.pinned (OpenSpec.ofChange fnWayPartsWrong)

/-- 'laws.FnWayCount': WHATEVER THE INPUT: true; the input reads as it did. -/
def fnWayCountSpec : ChangeSpec := { name := "fnWayCount", fn := fun _ => fun
  | [d] => { results := [.lit (.bool true)], args := [d] }
  | _ => none }
def fnWayCountRow : OpenClaim := { program := "ytcmnjohhffalgaadoor", sum := "e8121e8942f10e7d1ca1dac44ccfdfdd9743adcace5f593c09e6a8ac354f8f00", func := "loop.example/osier/laws.FnWayCount", spec := "fnWayCount", named := ["math/bits.deBruijn64tab"], apart := false, laid := [("math/bits.deBruijn64tab", laid_math_bits_deBruijn64tab)] }
def FnWayCountSaid : Prop := fnWayCountRow.holds Tryd.pinned (OpenSpec.ofChange fnWayCountSpec)

/-- ITS FALSE NEIGHBOUR: 'it returns false'. Refute it at one input. -/
def fnWayCountWrong : ChangeSpec := { name := "fnWayCount", fn := fun _ => fun
  | [d] => { results := [.lit (.bool false)], args := [d] }
  | _ => none }
def FnWayCountWrongFalsely : Prop := fnWayCountRow.holds Tryd.pinned (OpenSpec.ofChange fnWayCountWrong)

/-- 'laws.FnWayTie': WHATEVER THE INPUT: true; the input reads as it did. -/
def fnWayTieSpec : ChangeSpec := { name := "fnWayTie", fn := fun _ => fun
  | [d] => { results := [.lit (.bool true)], args := [d] }
  | _ => none }
def fnWayTieRow : OpenClaim := { program := "ytcmnjohhffalgaadoor", sum := "e8121e8942f10e7d1ca1dac44ccfdfdd9743adcace5f593c09e6a8ac354f8f00", func := "loop.example/osier/laws.FnWayTie", spec := "fnWayTie", named := ["math/bits.deBruijn64tab"], apart := false, laid := [("math/bits.deBruijn64tab", laid_math_bits_deBruijn64tab)] }
def FnWayTieSaid : Prop := fnWayTieRow.holds Tryd.pinned (OpenSpec.ofChange fnWayTieSpec)

/-- ITS FALSE NEIGHBOUR: 'it returns false'. Refute it at one input. -/
def fnWayTieWrong : ChangeSpec := { name := "fnWayTie", fn := fun _ => fun
  | [d] => { results := [.lit (.bool false)], args := [d] }
  | _ => none }
def FnWayTieWrongFalsely : Prop := fnWayTieRow.holds Tryd.pinned (OpenSpec.ofChange fnWayTieWrong)

/-- 'laws.FnWayCut': WHATEVER THE INPUT: true; the input reads as it did. -/
def fnWayCutSpec : ChangeSpec := { name := "fnWayCut", fn := fun _ => fun
  | [d] => { results := [.lit (.bool true)], args := [d] }
  | _ => none }
def fnWayCutRow : OpenClaim := { program := "ytcmnjohhffalgaadoor", sum := "e8121e8942f10e7d1ca1dac44ccfdfdd9743adcace5f593c09e6a8ac354f8f00", func := "loop.example/osier/laws.FnWayCut", spec := "fnWayCut", named := ["math/bits.deBruijn64tab"], apart := false, laid := [("math/bits.deBruijn64tab", laid_math_bits_deBruijn64tab)] }
def FnWayCutSaid : Prop := fnWayCutRow.holds Tryd.pinned (OpenSpec.ofChange fnWayCutSpec)

/-- ITS FALSE NEIGHBOUR: 'it returns false'. Refute it at one input. -/
def fnWayCutWrong : ChangeSpec := { name := "fnWayCut", fn := fun _ => fun
  | [d] => { results := [.lit (.bool false)], args := [d] }
  | _ => none }
def FnWayCutWrongFalsely : Prop := fnWayCutRow.holds Tryd.pinned (OpenSpec.ofChange fnWayCutWrong)

/- THE SECOND FORM. 'bulk': how many values and letters a reading holds, each counted each time it is reached (what is shared counts as often as it is met; a slice's spare places count too). A statement '..UptoSaid' is the law's where the arguments, and the package variables that the reading takes, are together of bulk at most 1048576: NARROWER than '..Said'. Prove '..Said' where nothing that the law and all that it calls make is longer than what came in: it says more and counts as full. Else prove '..UptoSaid'. A law counts once. -/
mutual
def uptoBulk {H : Type} : DataW H → Nat
  | .lit (.string bytes) => bytes.length + 1
  | .lit _ => 1
  | .nil => 1
  | .ptr d => uptoBulk d + 1
  | .slice elems spare => uptoBulkAll elems + uptoBulkAll spare + 1
  | .agg parts => uptoBulkAll parts + 1
  | .iface _ d => uptoBulk d + 1
  | .map entries => uptoBulkEntries entries + 1
  | .held _ => 1
def uptoBulkAll {H : Type} : List (DataW H) → Nat
  | [] => 0
  | d :: r => uptoBulk d + uptoBulkAll r
def uptoBulkEntries {H : Type} : List (Lit × DataW H) → Nat
  | [] => 0
  | x :: r => uptoBulkEntry x + uptoBulkEntries r
def uptoBulkEntry {H : Type} : Lit × DataW H → Nat
  | (.string bytes, d) => bytes.length + uptoBulk d + 1
  | (_, d) => uptoBulk d + 1
 end
def uptoSmall : (H : Type) → List (DataW H) → Bool := fun _ ds => decide (uptoBulkAll ds ≤ 1048576)
def OpenSpec.upto (s : _root_.Go.ChangeSpec) : _root_.Go.OpenSpec := { _root_.Go.OpenSpec.ofChange s with cond := some uptoSmall }

/-- 'laws.FnWayReach', WHERE WHAT IT READS IS OF BULK AT MOST 1048576: true; the input reads as it did. -/
def fnWayReachUptoRow : OpenClaim := { program := "ytcmnjohhffalgaadoor", sum := "e8121e8942f10e7d1ca1dac44ccfdfdd9743adcace5f593c09e6a8ac354f8f00", func := "loop.example/osier/laws.FnWayReach", spec := "fnWayReach", named := ["math/bits.deBruijn64tab"], apart := false, laid := [("math/bits.deBruijn64tab", laid_math_bits_deBruijn64tab)], narrowed := true }
def FnWayReachUptoSaid : Prop := fnWayReachUptoRow.holds Tryd.pinned (OpenSpec.upto fnWayReachSpec)

/-- 'laws.FnWayOn', WHERE WHAT IT READS IS OF BULK AT MOST 1048576: true; the input reads as it did. -/
def fnWayOnUptoRow : OpenClaim := { program := "ytcmnjohhffalgaadoor", sum := "e8121e8942f10e7d1ca1dac44ccfdfdd9743adcace5f593c09e6a8ac354f8f00", func := "loop.example/osier/laws.FnWayOn", spec := "fnWayOn", named := ["math/bits.deBruijn64tab"], apart := false, laid := [("math/bits.deBruijn64tab", laid_math_bits_deBruijn64tab)], narrowed := true }
def FnWayOnUptoSaid : Prop := fnWayOnUptoRow.holds Tryd.pinned (OpenSpec.upto fnWayOnSpec)

/-- 'laws.FnWayParts', WHERE WHAT IT READS IS OF BULK AT MOST 1048576: true; the input reads as it did. -/
def fnWayPartsUptoRow : OpenClaim := { program := "ytcmnjohhffalgaadoor", sum := "e8121e8942f10e7d1ca1dac44ccfdfdd9743adcace5f593c09e6a8ac354f8f00", func := "loop.example/osier/laws.FnWayParts", spec := "fnWayParts", named := ["math/bits.deBruijn64tab"], apart := false, laid := [("math/bits.deBruijn64tab", laid_math_bits_deBruijn64tab)], narrowed := true }
def FnWayPartsUptoSaid : Prop := fnWayPartsUptoRow.holds Tryd.pinned (OpenSpec.upto fnWayPartsSpec)

/-- 'laws.FnWayCount', WHERE WHAT IT READS IS OF BULK AT MOST 1048576: true; the input reads as it did. -/
def fnWayCountUptoRow : OpenClaim := { program := "ytcmnjohhffalgaadoor", sum := "e8121e8942f10e7d1ca1dac44ccfdfdd9743adcace5f593c09e6a8ac354f8f00", func := "loop.example/osier/laws.FnWayCount", spec := "fnWayCount", named := ["math/bits.deBruijn64tab"], apart := false, laid := [("math/bits.deBruijn64tab", laid_math_bits_deBruijn64tab)], narrowed := true }
def FnWayCountUptoSaid : Prop := fnWayCountUptoRow.holds Tryd.pinned (OpenSpec.upto fnWayCountSpec)

/-- 'laws.FnWayTie', WHERE WHAT IT READS IS OF BULK AT MOST 1048576: true; the input reads as it did. -/
def fnWayTieUptoRow : OpenClaim := { program := "ytcmnjohhffalgaadoor", sum := "e8121e8942f10e7d1ca1dac44ccfdfdd9743adcace5f593c09e6a8ac354f8f00", func := "loop.example/osier/laws.FnWayTie", spec := "fnWayTie", named := ["math/bits.deBruijn64tab"], apart := false, laid := [("math/bits.deBruijn64tab", laid_math_bits_deBruijn64tab)], narrowed := true }
def FnWayTieUptoSaid : Prop := fnWayTieUptoRow.holds Tryd.pinned (OpenSpec.upto fnWayTieSpec)

/-- 'laws.FnWayCut', WHERE WHAT IT READS IS OF BULK AT MOST 1048576: true; the input reads as it did. -/
def fnWayCutUptoRow : OpenClaim := { program := "ytcmnjohhffalgaadoor", sum := "e8121e8942f10e7d1ca1dac44ccfdfdd9743adcace5f593c09e6a8ac354f8f00", func := "loop.example/osier/laws.FnWayCut", spec := "fnWayCut", named := ["math/bits.deBruijn64tab"], apart := false, laid := [("math/bits.deBruijn64tab", laid_math_bits_deBruijn64tab)], narrowed := true }
def FnWayCutUptoSaid : Prop := fnWayCutUptoRow.holds Tryd.pinned (OpenSpec.upto fnWayCutSpec)

end Rows
end Go.Proofs.YtcmnjohhffalgaaDoor
