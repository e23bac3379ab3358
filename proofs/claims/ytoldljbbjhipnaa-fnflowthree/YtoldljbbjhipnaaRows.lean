/-
  No cell of these rows narrows 'for every input' (looked for: loops, veiled, ifaces, maps, wideKeys, modest, calm, conditions, laid).
  DERIVED. THE GIVEN ROWS OF THIS SEAT. 2 by the template 'for every input the law returns true; each argument reads behind the call as it read before'; 0 by the template 'total and deterministic' (their statements: YtoldljbbjhipnaaTotals.lean).
  GIVEN WITH THE SEED: the statements are not yours to turn. If you find one false, say at which input.
  Laid BY PROGRAM, IN A SANDBOX (cutbox-rows.mjs): the forced cells as the released guide's own fill.sh prints them over the translation 429ab27c96c0f8a9… (all of the seat's roots in one cut). By AI agents, Wed Nov 11 2026. No macro, syntax, notation, axiom, sorry.
-/
import Derived.Test.YtoldljbbjhipnaaChecked
import GoSem.Claim
import GoSem.ClaimJoined
import GoSem.ClaimMapViews
import Derived.JoinedTies
import Derived.KernelRfl
namespace Go.Proofs.Ytoldljbbjhipnaa
/- THE CELL 'sum', in the pinned program and in every row, IS THE sha256 OF THE DUMP (.gsa) THAT YtoldljbbjhipnaaProg.lean LOADS. Nothing in Lean hashes anything: it is a label: what it is worth is what the hold of that sum in a sandbox is worth. -/
noncomputable def Try.pinned : Pinned := { name := "ytoldljbbjhipnaa", sum := "429ab27c96c0f8a9d460d4e88e6f05baf8168f22a9c97102baeb7f9947d86b22", checked := Try.checked }
namespace Rows
def none {H : Type} : Left H := { results := [], args := [] }

/-- 'laws.FnFlowThree': WHATEVER THE INPUT: true; the input reads as it did. -/
def fnFlowThreeSpec : ChangeSpec := { name := "fnFlowThree", fn := fun _ => fun
  | [d1, d2] => { results := [.lit (.bool true)], args := [d1, d2] }
  | _ => none }
def fnFlowThreeRow : OpenClaim := { program := "ytoldljbbjhipnaa", sum := "429ab27c96c0f8a9d460d4e88e6f05baf8168f22a9c97102baeb7f9947d86b22", func := "loop.example/osier/laws.FnFlowThree", spec := "fnFlowThree", unfollowed := true, recurses := true, plainKeys := false, apart := false }
def FnFlowThreeSaid : Prop := fnFlowThreeRow.holds Try.pinned (OpenSpec.ofChange fnFlowThreeSpec)

/-- ITS FALSE NEIGHBOUR: 'it returns false'. Refute it at one input. -/
def fnFlowThreeWrong : ChangeSpec := { name := "fnFlowThree", fn := fun _ => fun
  | [d1, d2] => { results := [.lit (.bool false)], args := [d1, d2] }
  | _ => none }
def FnFlowThreeWrongFalsely : Prop := fnFlowThreeRow.holds Try.pinned (OpenSpec.ofChange fnFlowThreeWrong)

/-- 'laws.FnFlowWeak': WHATEVER THE INPUT: true; the input reads as it did. -/
def fnFlowWeakSpec : ChangeSpec := { name := "fnFlowWeak", fn := fun _ => fun
  | [d] => { results := [.lit (.bool true)], args := [d] }
  | _ => none }
def fnFlowWeakRow : OpenClaim := { program := "ytoldljbbjhipnaa", sum := "429ab27c96c0f8a9d460d4e88e6f05baf8168f22a9c97102baeb7f9947d86b22", func := "loop.example/osier/laws.FnFlowWeak", spec := "fnFlowWeak", unfollowed := true, recurses := true, plainKeys := false, apart := false }
def FnFlowWeakSaid : Prop := fnFlowWeakRow.holds Try.pinned (OpenSpec.ofChange fnFlowWeakSpec)

/-- ITS FALSE NEIGHBOUR: 'it returns false'. Refute it at one input. -/
def fnFlowWeakWrong : ChangeSpec := { name := "fnFlowWeak", fn := fun _ => fun
  | [d] => { results := [.lit (.bool false)], args := [d] }
  | _ => none }
def FnFlowWeakWrongFalsely : Prop := fnFlowWeakRow.holds Try.pinned (OpenSpec.ofChange fnFlowWeakWrong)

/- THE SECOND FORM. 'bulk': how many values and letters a reading holds, each counted each time it is reached (what is shared counts as often as it is met; a slice's spare places count too). A statement '..UptoSaid' is the law's where the arguments, and the package variables that the reading takes, are together of bulk at most 1048576: NARROWER than '..Said'. Prove '..Said' where nothing that the law and all that it calls make is longer than what came in: it says more and counts as full. Else prove '..UptoSaid'. A law counts once. -/
mutual
def uptoBulk {H : Type} : DataW H → Nat
  | .lit (.string bytes) => bytes.length + 1
  | .lit _ => 1
  | .nil => 1
  | .ptr d => uptoBulk d + 1
  | .slice elems spare => uptoBulkAll elems + uptoBulkAll spare + 1
  | .agg parts => uptoBulkAll parts + 1
  | .iface _ d => uptoBulk d + 1
  | .map entries => uptoBulkEntries entries + 1
  | .held _ => 1
def uptoBulkAll {H : Type} : List (DataW H) → Nat
  | [] => 0
  | d :: r => uptoBulk d + uptoBulkAll r
def uptoBulkEntries {H : Type} : List (Lit × DataW H) → Nat
  | [] => 0
  | x :: r => uptoBulkEntry x + uptoBulkEntries r
def uptoBulkEntry {H : Type} : Lit × DataW H → Nat
  | (.string bytes, d) => bytes.length + uptoBulk d + 1
  | (_, d) => uptoBulk d + 1
 end
def uptoSmall : (H : Type) → List (DataW H) → Bool := fun _ ds => decide (uptoBulkAll ds ≤ 1048576)
def OpenSpec.upto (s : _root_.Go.ChangeSpec) : _root_.Go.OpenSpec := { _root_.Go.OpenSpec.ofChange s with cond := some uptoSmall }

/-- 'laws.FnFlowThree', WHERE WHAT IT READS IS OF BULK AT MOST 1048576: true; the input reads as it did. -/
def fnFlowThreeUptoRow : OpenClaim := { program := "ytoldljbbjhipnaa", sum := "429ab27c96c0f8a9d460d4e88e6f05baf8168f22a9c97102baeb7f9947d86b22", func := "loop.example/osier/laws.FnFlowThree", spec := "fnFlowThree", unfollowed := true, recurses := true, plainKeys := false, apart := false, narrowed := true }
def FnFlowThreeUptoSaid : Prop := fnFlowThreeUptoRow.holds Try.pinned (OpenSpec.upto fnFlowThreeSpec)

/-- 'laws.FnFlowWeak', WHERE WHAT IT READS IS OF BULK AT MOST 1048576: true; the input reads as it did. -/
def fnFlowWeakUptoRow : OpenClaim := { program := "ytoldljbbjhipnaa", sum := "429ab27c96c0f8a9d460d4e88e6f05baf8168f22a9c97102baeb7f9947d86b22", func := "loop.example/osier/laws.FnFlowWeak", spec := "fnFlowWeak", unfollowed := true, recurses := true, plainKeys := false, apart := false, narrowed := true }
def FnFlowWeakUptoSaid : Prop := fnFlowWeakUptoRow.holds Try.pinned (OpenSpec.upto fnFlowWeakSpec)

end Rows
end Go.Proofs.Ytoldljbbjhipnaa
