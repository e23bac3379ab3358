/-
  DERIVED. GIVEN WITH THE SEED: THE CARDS: each row of YtncjdbhicpgfkaaDoorRows.lean that lists a variable, with what it lists TIED to the program's text (the seventh form; the later family's looks); each row that meets fmt, with fmt's text TOLD by the authors' own Lean function (tested against real Go, not proved from fmt's source: count such statements apart). THE CARD IS WHAT COUNTS. Prove the row's statement (the work); the ties are given (YtncjdbhicpgfkaaDoorTie.lean); close each card by the builder's one call (the guide's Derived/Test/ToyasCard.lean, 'card_holds'). Laid BY PROGRAM, IN A SANDBOX (cutbox-door.mjs). By AI agents, Wed Nov 11 2026. No macro, syntax, notation, axiom, sorry.
-/
import Derived.Test.YtncjdbhicpgfkaaDoorRows
import GoSem.ClaimSeven
namespace Go.Proofs.YtncjdbhicpgfkaaDoor
namespace Rows

/-- THE TIED CARD OF 'laws.FnTreeOk'. -/
def fnTreeOkCard : Claim7 := { stood := { row := fnTreeOkRow, standIns := [], harness := (true, "253d00e8b3cb235242ec0ea88ec90462e3dbdc88ea10fbfa8c924f1639b4bb60"), looks := false }, kinds := [], alts := [], laidByText := true, laidKinds := [.data], laidTests := true, laidLooks := .later }
def FnTreeOkCardSaid : Prop := Claim7.holds Tryd.pinned (.plain (OpenSpec.ofChange fnTreeOkSpec)) fnTreeOkCard

/-- THE TIED CARD OF 'laws.FnTreeFirst'. -/
def fnTreeFirstCard : Claim7 := { stood := { row := fnTreeFirstRow, standIns := [], harness := (true, "253d00e8b3cb235242ec0ea88ec90462e3dbdc88ea10fbfa8c924f1639b4bb60"), looks := false }, kinds := [], alts := [], laidByText := true, laidKinds := [.data], laidTests := true, laidLooks := .later }
def FnTreeFirstCardSaid : Prop := Claim7.holds Tryd.pinned (.plain (OpenSpec.ofChange fnTreeFirstSpec)) fnTreeFirstCard

/-- THE TIED CARD OF 'laws.FnTreeSwap'. -/
def fnTreeSwapCard : Claim7 := { stood := { row := fnTreeSwapRow, standIns := [], harness := (true, "253d00e8b3cb235242ec0ea88ec90462e3dbdc88ea10fbfa8c924f1639b4bb60"), looks := false }, kinds := [], alts := [], laidByText := true, laidKinds := [.data], laidTests := true, laidLooks := .later }
def FnTreeSwapCardSaid : Prop := Claim7.holds Tryd.pinned (.plain (OpenSpec.ofChange fnTreeSwapSpec)) fnTreeSwapCard

/-- THE TIED CARD OF 'laws.FnTreeRings'. -/
def fnTreeRingsCard : Claim7 := { stood := { row := fnTreeRingsRow, standIns := [], harness := (true, "253d00e8b3cb235242ec0ea88ec90462e3dbdc88ea10fbfa8c924f1639b4bb60"), looks := false }, kinds := [], alts := [], laidByText := true, laidKinds := [.data], laidTests := true, laidLooks := .later }
def FnTreeRingsCardSaid : Prop := Claim7.holds Tryd.pinned (.plain (OpenSpec.ofChange fnTreeRingsSpec)) fnTreeRingsCard

/-- THE TIED CARD OF 'laws.FnTreeTwice'. -/
def fnTreeTwiceCard : Claim7 := { stood := { row := fnTreeTwiceRow, standIns := [], harness := (true, "253d00e8b3cb235242ec0ea88ec90462e3dbdc88ea10fbfa8c924f1639b4bb60"), looks := false }, kinds := [], alts := [], laidByText := true, laidKinds := [.data], laidTests := true, laidLooks := .later }
def FnTreeTwiceCardSaid : Prop := Claim7.holds Tryd.pinned (.plain (OpenSpec.ofChange fnTreeTwiceSpec)) fnTreeTwiceCard

/-- THE TIED CARD OF 'laws.FnBridgeIs'. -/
def fnBridgeIsCard : Claim7 := { stood := { row := fnBridgeIsRow, standIns := [], harness := (true, "253d00e8b3cb235242ec0ea88ec90462e3dbdc88ea10fbfa8c924f1639b4bb60"), looks := false }, kinds := [], alts := [], laidByText := true, laidKinds := [.data], laidTests := true, laidLooks := .later }
def FnBridgeIsCardSaid : Prop := Claim7.holds Tryd.pinned (.plain (OpenSpec.ofChange fnBridgeIsSpec)) fnBridgeIsCard

/-- THE TIED CARD OF 'laws.FnBridgeList'. -/
def fnBridgeListCard : Claim7 := { stood := { row := fnBridgeListRow, standIns := [], harness := (true, "253d00e8b3cb235242ec0ea88ec90462e3dbdc88ea10fbfa8c924f1639b4bb60"), looks := false }, kinds := [], alts := [], laidByText := true, laidKinds := [.data], laidTests := true, laidLooks := .later }
def FnBridgeListCardSaid : Prop := Claim7.holds Tryd.pinned (.plain (OpenSpec.ofChange fnBridgeListSpec)) fnBridgeListCard

/-- THE TIED CARD OF 'laws.FnBridgeTree'. -/
def fnBridgeTreeCard : Claim7 := { stood := { row := fnBridgeTreeRow, standIns := [], harness := (true, "253d00e8b3cb235242ec0ea88ec90462e3dbdc88ea10fbfa8c924f1639b4bb60"), looks := false }, kinds := [], alts := [], laidByText := true, laidKinds := [.data], laidTests := true, laidLooks := .later }
def FnBridgeTreeCardSaid : Prop := Claim7.holds Tryd.pinned (.plain (OpenSpec.ofChange fnBridgeTreeSpec)) fnBridgeTreeCard

/-- THE TIED CARD OF 'laws.FnBridgeFew'. -/
def fnBridgeFewCard : Claim7 := { stood := { row := fnBridgeFewRow, standIns := [], harness := (true, "253d00e8b3cb235242ec0ea88ec90462e3dbdc88ea10fbfa8c924f1639b4bb60"), looks := false }, kinds := [], alts := [], laidByText := true, laidKinds := [.data], laidTests := true, laidLooks := .later }
def FnBridgeFewCardSaid : Prop := Claim7.holds Tryd.pinned (.plain (OpenSpec.ofChange fnBridgeFewSpec)) fnBridgeFewCard

/-- THE TIED CARD OF 'laws.FnBridgeCount'. -/
def fnBridgeCountCard : Claim7 := { stood := { row := fnBridgeCountRow, standIns := [], harness := (true, "253d00e8b3cb235242ec0ea88ec90462e3dbdc88ea10fbfa8c924f1639b4bb60"), looks := false }, kinds := [], alts := [], laidByText := true, laidKinds := [.data], laidTests := true, laidLooks := .later }
def FnBridgeCountCardSaid : Prop := Claim7.holds Tryd.pinned (.plain (OpenSpec.ofChange fnBridgeCountSpec)) fnBridgeCountCard

/-- THE TIED CARD OF 'laws.FnBridgeCut'. -/
def fnBridgeCutCard : Claim7 := { stood := { row := fnBridgeCutRow, standIns := [], harness := (true, "253d00e8b3cb235242ec0ea88ec90462e3dbdc88ea10fbfa8c924f1639b4bb60"), looks := false }, kinds := [], alts := [], laidByText := true, laidKinds := [.data], laidTests := true, laidLooks := .later }
def FnBridgeCutCardSaid : Prop := Claim7.holds Tryd.pinned (.plain (OpenSpec.ofChange fnBridgeCutSpec)) fnBridgeCutCard

/-- THE TIED CARD OF 'laws.FnBridgeEnds'. -/
def fnBridgeEndsCard : Claim7 := { stood := { row := fnBridgeEndsRow, standIns := [], harness := (true, "253d00e8b3cb235242ec0ea88ec90462e3dbdc88ea10fbfa8c924f1639b4bb60"), looks := false }, kinds := [], alts := [], laidByText := true, laidKinds := [.data], laidTests := true, laidLooks := .later }
def FnBridgeEndsCardSaid : Prop := Claim7.holds Tryd.pinned (.plain (OpenSpec.ofChange fnBridgeEndsSpec)) fnBridgeEndsCard

/-- THE SECOND FORM's CARD OF 'laws.FnTreeOk'. -/
def fnTreeOkUptoCard : Claim7 := { stood := { row := fnTreeOkUptoRow, standIns := [], harness := (true, "253d00e8b3cb235242ec0ea88ec90462e3dbdc88ea10fbfa8c924f1639b4bb60"), looks := false }, kinds := [], alts := [], laidByText := true, laidKinds := [.data], laidTests := true, laidLooks := .later }
def FnTreeOkUptoCardSaid : Prop := Claim7.holds Tryd.pinned (.plain (OpenSpec.upto fnTreeOkSpec)) fnTreeOkUptoCard

/-- THE SECOND FORM's CARD OF 'laws.FnTreeFirst'. -/
def fnTreeFirstUptoCard : Claim7 := { stood := { row := fnTreeFirstUptoRow, standIns := [], harness := (true, "253d00e8b3cb235242ec0ea88ec90462e3dbdc88ea10fbfa8c924f1639b4bb60"), looks := false }, kinds := [], alts := [], laidByText := true, laidKinds := [.data], laidTests := true, laidLooks := .later }
def FnTreeFirstUptoCardSaid : Prop := Claim7.holds Tryd.pinned (.plain (OpenSpec.upto fnTreeFirstSpec)) fnTreeFirstUptoCard

/-- THE SECOND FORM's CARD OF 'laws.FnTreeSwap'. -/
def fnTreeSwapUptoCard : Claim7 := { stood := { row := fnTreeSwapUptoRow, standIns := [], harness := (true, "253d00e8b3cb235242ec0ea88ec90462e3dbdc88ea10fbfa8c924f1639b4bb60"), looks := false }, kinds := [], alts := [], laidByText := true, laidKinds := [.data], laidTests := true, laidLooks := .later }
def FnTreeSwapUptoCardSaid : Prop := Claim7.holds Tryd.pinned (.plain (OpenSpec.upto fnTreeSwapSpec)) fnTreeSwapUptoCard

/-- THE SECOND FORM's CARD OF 'laws.FnTreeRings'. -/
def fnTreeRingsUptoCard : Claim7 := { stood := { row := fnTreeRingsUptoRow, standIns := [], harness := (true, "253d00e8b3cb235242ec0ea88ec90462e3dbdc88ea10fbfa8c924f1639b4bb60"), looks := false }, kinds := [], alts := [], laidByText := true, laidKinds := [.data], laidTests := true, laidLooks := .later }
def FnTreeRingsUptoCardSaid : Prop := Claim7.holds Tryd.pinned (.plain (OpenSpec.upto fnTreeRingsSpec)) fnTreeRingsUptoCard

/-- THE SECOND FORM's CARD OF 'laws.FnTreeTwice'. -/
def fnTreeTwiceUptoCard : Claim7 := { stood := { row := fnTreeTwiceUptoRow, standIns := [], harness := (true, "253d00e8b3cb235242ec0ea88ec90462e3dbdc88ea10fbfa8c924f1639b4bb60"), looks := false }, kinds := [], alts := [], laidByText := true, laidKinds := [.data], laidTests := true, laidLooks := .later }
def FnTreeTwiceUptoCardSaid : Prop := Claim7.holds Tryd.pinned (.plain (OpenSpec.upto fnTreeTwiceSpec)) fnTreeTwiceUptoCard

/-- THE SECOND FORM's CARD OF 'laws.FnBridgeIs'. -/
def fnBridgeIsUptoCard : Claim7 := { stood := { row := fnBridgeIsUptoRow, standIns := [], harness := (true, "253d00e8b3cb235242ec0ea88ec90462e3dbdc88ea10fbfa8c924f1639b4bb60"), looks := false }, kinds := [], alts := [], laidByText := true, laidKinds := [.data], laidTests := true, laidLooks := .later }
def FnBridgeIsUptoCardSaid : Prop := Claim7.holds Tryd.pinned (.plain (OpenSpec.upto fnBridgeIsSpec)) fnBridgeIsUptoCard

/-- THE SECOND FORM's CARD OF 'laws.FnBridgeList'. -/
def fnBridgeListUptoCard : Claim7 := { stood := { row := fnBridgeListUptoRow, standIns := [], harness := (true, "253d00e8b3cb235242ec0ea88ec90462e3dbdc88ea10fbfa8c924f1639b4bb60"), looks := false }, kinds := [], alts := [], laidByText := true, laidKinds := [.data], laidTests := true, laidLooks := .later }
def FnBridgeListUptoCardSaid : Prop := Claim7.holds Tryd.pinned (.plain (OpenSpec.upto fnBridgeListSpec)) fnBridgeListUptoCard

/-- THE SECOND FORM's CARD OF 'laws.FnBridgeTree'. -/
def fnBridgeTreeUptoCard : Claim7 := { stood := { row := fnBridgeTreeUptoRow, standIns := [], harness := (true, "253d00e8b3cb235242ec0ea88ec90462e3dbdc88ea10fbfa8c924f1639b4bb60"), looks := false }, kinds := [], alts := [], laidByText := true, laidKinds := [.data], laidTests := true, laidLooks := .later }
def FnBridgeTreeUptoCardSaid : Prop := Claim7.holds Tryd.pinned (.plain (OpenSpec.upto fnBridgeTreeSpec)) fnBridgeTreeUptoCard

/-- THE SECOND FORM's CARD OF 'laws.FnBridgeFew'. -/
def fnBridgeFewUptoCard : Claim7 := { stood := { row := fnBridgeFewUptoRow, standIns := [], harness := (true, "253d00e8b3cb235242ec0ea88ec90462e3dbdc88ea10fbfa8c924f1639b4bb60"), looks := false }, kinds := [], alts := [], laidByText := true, laidKinds := [.data], laidTests := true, laidLooks := .later }
def FnBridgeFewUptoCardSaid : Prop := Claim7.holds Tryd.pinned (.plain (OpenSpec.upto fnBridgeFewSpec)) fnBridgeFewUptoCard

/-- THE SECOND FORM's CARD OF 'laws.FnBridgeCount'. -/
def fnBridgeCountUptoCard : Claim7 := { stood := { row := fnBridgeCountUptoRow, standIns := [], harness := (true, "253d00e8b3cb235242ec0ea88ec90462e3dbdc88ea10fbfa8c924f1639b4bb60"), looks := false }, kinds := [], alts := [], laidByText := true, laidKinds := [.data], laidTests := true, laidLooks := .later }
def FnBridgeCountUptoCardSaid : Prop := Claim7.holds Tryd.pinned (.plain (OpenSpec.upto fnBridgeCountSpec)) fnBridgeCountUptoCard

/-- THE SECOND FORM's CARD OF 'laws.FnBridgeCut'. -/
def fnBridgeCutUptoCard : Claim7 := { stood := { row := fnBridgeCutUptoRow, standIns := [], harness := (true, "253d00e8b3cb235242ec0ea88ec90462e3dbdc88ea10fbfa8c924f1639b4bb60"), looks := false }, kinds := [], alts := [], laidByText := true, laidKinds := [.data], laidTests := true, laidLooks := .later }
def FnBridgeCutUptoCardSaid : Prop := Claim7.holds Tryd.pinned (.plain (OpenSpec.upto fnBridgeCutSpec)) fnBridgeCutUptoCard

/-- THE SECOND FORM's CARD OF 'laws.FnBridgeEnds'. -/
def fnBridgeEndsUptoCard : Claim7 := { stood := { row := fnBridgeEndsUptoRow, standIns := [], harness := (true, "253d00e8b3cb235242ec0ea88ec90462e3dbdc88ea10fbfa8c924f1639b4bb60"), looks := false }, kinds := [], alts := [], laidByText := true, laidKinds := [.data], laidTests := true, laidLooks := .later }
def FnBridgeEndsUptoCardSaid : Prop := Claim7.holds Tryd.pinned (.plain (OpenSpec.upto fnBridgeEndsSpec)) fnBridgeEndsUptoCard
end Rows
end Go.Proofs.YtncjdbhicpgfkaaDoor
