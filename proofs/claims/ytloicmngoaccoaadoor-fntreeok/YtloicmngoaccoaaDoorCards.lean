/-
  DERIVED. GIVEN WITH THE SEED: THE CARDS: each row of YtloicmngoaccoaaDoorRows.lean that lists a variable, with what it lists TIED to the program's text (the seventh form; the later family's looks); each row that meets fmt, with fmt's text TOLD by the authors' own Lean function (tested against real Go, not proved from fmt's source: count such statements apart). THE CARD IS WHAT COUNTS. Prove the row's statement (the work); the ties are given (YtloicmngoaccoaaDoorTie.lean); close each card by the builder's one call (the guide's Derived/Test/ToyasCard.lean, 'card_holds'). Laid BY PROGRAM, IN A SANDBOX (cutbox-door.mjs). By AI agents, Wed Nov 11 2026. No macro, syntax, notation, axiom, sorry.
-/
import Derived.Test.YtloicmngoaccoaaDoorRows
import GoSem.ClaimSeven
namespace Go.Proofs.YtloicmngoaccoaaDoor
namespace Rows

/-- THE TIED CARD OF 'laws.FnTreeOk'. -/
def fnTreeOkCard : Claim7 := { stood := { row := fnTreeOkRow, standIns := [], harness := (true, "b563aab273b4da91bb7c09feccea60ba42b3a3e8604332511cc6abf2c1d25d72"), looks := false }, kinds := [], alts := [], laidByText := true, laidKinds := [.data], laidTests := true, laidLooks := .later }
def FnTreeOkCardSaid : Prop := Claim7.holds Tryd.pinned (.plain (OpenSpec.ofChange fnTreeOkSpec)) fnTreeOkCard

/-- THE TIED CARD OF 'laws.FnTreeSwap'. -/
def fnTreeSwapCard : Claim7 := { stood := { row := fnTreeSwapRow, standIns := [], harness := (true, "b563aab273b4da91bb7c09feccea60ba42b3a3e8604332511cc6abf2c1d25d72"), looks := false }, kinds := [], alts := [], laidByText := true, laidKinds := [.data], laidTests := true, laidLooks := .later }
def FnTreeSwapCardSaid : Prop := Claim7.holds Tryd.pinned (.plain (OpenSpec.ofChange fnTreeSwapSpec)) fnTreeSwapCard

/-- THE TIED CARD OF 'laws.FnTreeRings'. -/
def fnTreeRingsCard : Claim7 := { stood := { row := fnTreeRingsRow, standIns := [], harness := (true, "b563aab273b4da91bb7c09feccea60ba42b3a3e8604332511cc6abf2c1d25d72"), looks := false }, kinds := [], alts := [], laidByText := true, laidKinds := [.data], laidTests := true, laidLooks := .later }
def FnTreeRingsCardSaid : Prop := Claim7.holds Tryd.pinned (.plain (OpenSpec.ofChange fnTreeRingsSpec)) fnTreeRingsCard

/-- THE TIED CARD OF 'laws.FnTreeTwice'. -/
def fnTreeTwiceCard : Claim7 := { stood := { row := fnTreeTwiceRow, standIns := [], harness := (true, "b563aab273b4da91bb7c09feccea60ba42b3a3e8604332511cc6abf2c1d25d72"), looks := false }, kinds := [], alts := [], laidByText := true, laidKinds := [.data], laidTests := true, laidLooks := .later }
def FnTreeTwiceCardSaid : Prop := Claim7.holds Tryd.pinned (.plain (OpenSpec.ofChange fnTreeTwiceSpec)) fnTreeTwiceCard

/-- THE TIED CARD OF 'laws.FnBridgeTree'. -/
def fnBridgeTreeCard : Claim7 := { stood := { row := fnBridgeTreeRow, standIns := [], harness := (true, "b563aab273b4da91bb7c09feccea60ba42b3a3e8604332511cc6abf2c1d25d72"), looks := false }, kinds := [], alts := [], laidByText := true, laidKinds := [.data], laidTests := true, laidLooks := .later }
def FnBridgeTreeCardSaid : Prop := Claim7.holds Tryd.pinned (.plain (OpenSpec.ofChange fnBridgeTreeSpec)) fnBridgeTreeCard

/-- THE TIED CARD OF 'laws.FnBridgeCut'. -/
def fnBridgeCutCard : Claim7 := { stood := { row := fnBridgeCutRow, standIns := [], harness := (true, "b563aab273b4da91bb7c09feccea60ba42b3a3e8604332511cc6abf2c1d25d72"), looks := false }, kinds := [], alts := [], laidByText := true, laidKinds := [.data], laidTests := true, laidLooks := .later }
def FnBridgeCutCardSaid : Prop := Claim7.holds Tryd.pinned (.plain (OpenSpec.ofChange fnBridgeCutSpec)) fnBridgeCutCard

/-- THE TIED CARD OF 'laws.FnExactTreeRings'. -/
def fnExactTreeRingsCard : Claim7 := { stood := { row := fnExactTreeRingsRow, standIns := [], harness := (true, "b563aab273b4da91bb7c09feccea60ba42b3a3e8604332511cc6abf2c1d25d72"), looks := false }, kinds := [], alts := [], laidByText := true, laidKinds := [.data], laidTests := true, laidLooks := .later }
def FnExactTreeRingsCardSaid : Prop := Claim7.holds Tryd.pinned (.plain (OpenSpec.ofChange fnExactTreeRingsSpec)) fnExactTreeRingsCard

/-- THE SECOND FORM's CARD OF 'laws.FnTreeOk'. -/
def fnTreeOkUptoCard : Claim7 := { stood := { row := fnTreeOkUptoRow, standIns := [], harness := (true, "b563aab273b4da91bb7c09feccea60ba42b3a3e8604332511cc6abf2c1d25d72"), looks := false }, kinds := [], alts := [], laidByText := true, laidKinds := [.data], laidTests := true, laidLooks := .later }
def FnTreeOkUptoCardSaid : Prop := Claim7.holds Tryd.pinned (.plain (OpenSpec.upto fnTreeOkSpec)) fnTreeOkUptoCard

/-- THE SECOND FORM's CARD OF 'laws.FnTreeSwap'. -/
def fnTreeSwapUptoCard : Claim7 := { stood := { row := fnTreeSwapUptoRow, standIns := [], harness := (true, "b563aab273b4da91bb7c09feccea60ba42b3a3e8604332511cc6abf2c1d25d72"), looks := false }, kinds := [], alts := [], laidByText := true, laidKinds := [.data], laidTests := true, laidLooks := .later }
def FnTreeSwapUptoCardSaid : Prop := Claim7.holds Tryd.pinned (.plain (OpenSpec.upto fnTreeSwapSpec)) fnTreeSwapUptoCard

/-- THE SECOND FORM's CARD OF 'laws.FnTreeRings'. -/
def fnTreeRingsUptoCard : Claim7 := { stood := { row := fnTreeRingsUptoRow, standIns := [], harness := (true, "b563aab273b4da91bb7c09feccea60ba42b3a3e8604332511cc6abf2c1d25d72"), looks := false }, kinds := [], alts := [], laidByText := true, laidKinds := [.data], laidTests := true, laidLooks := .later }
def FnTreeRingsUptoCardSaid : Prop := Claim7.holds Tryd.pinned (.plain (OpenSpec.upto fnTreeRingsSpec)) fnTreeRingsUptoCard

/-- THE SECOND FORM's CARD OF 'laws.FnTreeTwice'. -/
def fnTreeTwiceUptoCard : Claim7 := { stood := { row := fnTreeTwiceUptoRow, standIns := [], harness := (true, "b563aab273b4da91bb7c09feccea60ba42b3a3e8604332511cc6abf2c1d25d72"), looks := false }, kinds := [], alts := [], laidByText := true, laidKinds := [.data], laidTests := true, laidLooks := .later }
def FnTreeTwiceUptoCardSaid : Prop := Claim7.holds Tryd.pinned (.plain (OpenSpec.upto fnTreeTwiceSpec)) fnTreeTwiceUptoCard

/-- THE SECOND FORM's CARD OF 'laws.FnBridgeTree'. -/
def fnBridgeTreeUptoCard : Claim7 := { stood := { row := fnBridgeTreeUptoRow, standIns := [], harness := (true, "b563aab273b4da91bb7c09feccea60ba42b3a3e8604332511cc6abf2c1d25d72"), looks := false }, kinds := [], alts := [], laidByText := true, laidKinds := [.data], laidTests := true, laidLooks := .later }
def FnBridgeTreeUptoCardSaid : Prop := Claim7.holds Tryd.pinned (.plain (OpenSpec.upto fnBridgeTreeSpec)) fnBridgeTreeUptoCard

/-- THE SECOND FORM's CARD OF 'laws.FnBridgeCut'. -/
def fnBridgeCutUptoCard : Claim7 := { stood := { row := fnBridgeCutUptoRow, standIns := [], harness := (true, "b563aab273b4da91bb7c09feccea60ba42b3a3e8604332511cc6abf2c1d25d72"), looks := false }, kinds := [], alts := [], laidByText := true, laidKinds := [.data], laidTests := true, laidLooks := .later }
def FnBridgeCutUptoCardSaid : Prop := Claim7.holds Tryd.pinned (.plain (OpenSpec.upto fnBridgeCutSpec)) fnBridgeCutUptoCard

/-- THE SECOND FORM's CARD OF 'laws.FnExactTreeRings'. -/
def fnExactTreeRingsUptoCard : Claim7 := { stood := { row := fnExactTreeRingsUptoRow, standIns := [], harness := (true, "b563aab273b4da91bb7c09feccea60ba42b3a3e8604332511cc6abf2c1d25d72"), looks := false }, kinds := [], alts := [], laidByText := true, laidKinds := [.data], laidTests := true, laidLooks := .later }
def FnExactTreeRingsUptoCardSaid : Prop := Claim7.holds Tryd.pinned (.plain (OpenSpec.upto fnExactTreeRingsSpec)) fnExactTreeRingsUptoCard
end Rows
end Go.Proofs.YtloicmngoaccoaaDoor
