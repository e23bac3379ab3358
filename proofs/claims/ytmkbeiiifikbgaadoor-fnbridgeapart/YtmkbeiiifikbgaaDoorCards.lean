/-
  DERIVED. GIVEN WITH THE SEED: THE CARDS: each row of YtmkbeiiifikbgaaDoorRows.lean that lists a variable, with what it lists TIED to the program's text (the seventh form; the later family's looks); each row that meets fmt, with fmt's text TOLD by the authors' own Lean function (tested against real Go, not proved from fmt's source: count such statements apart). THE CARD IS WHAT COUNTS. Prove the row's statement (the work); the ties are given (YtmkbeiiifikbgaaDoorTie.lean); close each card by the builder's one call (the guide's Derived/Test/ToyasCard.lean, 'card_holds'). Laid BY PROGRAM, IN A SANDBOX (cutbox-door.mjs). By AI agents, Wed Nov 11 2026. No macro, syntax, notation, axiom, sorry.
-/
import Derived.Test.YtmkbeiiifikbgaaDoorRows
import GoSem.ClaimSeven
namespace Go.Proofs.YtmkbeiiifikbgaaDoor
namespace Rows

/-- THE TIED CARD OF 'laws.FnBridgeParts'. -/
def fnBridgePartsCard : Claim7 := { stood := { row := fnBridgePartsRow, standIns := [], harness := (true, "3b5130cb50565df674311bdacf3843a52edb98df039acf75643da6e9bb59e8d7"), looks := false }, kinds := [], alts := [], laidByText := true, laidKinds := [.data], laidTests := true, laidLooks := .later }
def FnBridgePartsCardSaid : Prop := Claim7.holds Tryd.pinned (.plain (OpenSpec.ofChange fnBridgePartsSpec)) fnBridgePartsCard

/-- THE TIED CARD OF 'laws.FnBridgeApart'. -/
def fnBridgeApartCard : Claim7 := { stood := { row := fnBridgeApartRow, standIns := [], harness := (true, "3b5130cb50565df674311bdacf3843a52edb98df039acf75643da6e9bb59e8d7"), looks := false }, kinds := [], alts := [], laidByText := true, laidKinds := [.data], laidTests := true, laidLooks := .later }
def FnBridgeApartCardSaid : Prop := Claim7.holds Tryd.pinned (.plain (OpenSpec.ofChange fnBridgeApartSpec)) fnBridgeApartCard

/-- THE TIED CARD OF 'laws.FnFlowTop'. -/
def fnFlowTopCard : Claim7 := { stood := { row := fnFlowTopRow, standIns := [], harness := (true, "3b5130cb50565df674311bdacf3843a52edb98df039acf75643da6e9bb59e8d7"), looks := false }, kinds := [], alts := [], laidByText := true, laidKinds := [.data], laidTests := true, laidLooks := .later }
def FnFlowTopCardSaid : Prop := Claim7.holds Tryd.pinned (.plain (OpenSpec.ofChange fnFlowTopSpec)) fnFlowTopCard

/-- THE TIED CARD OF 'laws.FnFlowCut'. -/
def fnFlowCutCard : Claim7 := { stood := { row := fnFlowCutRow, standIns := [], harness := (true, "3b5130cb50565df674311bdacf3843a52edb98df039acf75643da6e9bb59e8d7"), looks := false }, kinds := [], alts := [], laidByText := true, laidKinds := [.data], laidTests := true, laidLooks := .later }
def FnFlowCutCardSaid : Prop := Claim7.holds Tryd.pinned (.plain (OpenSpec.ofChange fnFlowCutSpec)) fnFlowCutCard

/-- THE TIED CARD OF 'laws.FnFlowParts'. -/
def fnFlowPartsCard : Claim7 := { stood := { row := fnFlowPartsRow, standIns := [], harness := (true, "3b5130cb50565df674311bdacf3843a52edb98df039acf75643da6e9bb59e8d7"), looks := false }, kinds := [], alts := [], laidByText := true, laidKinds := [.data], laidTests := true, laidLooks := .later }
def FnFlowPartsCardSaid : Prop := Claim7.holds Tryd.pinned (.plain (OpenSpec.ofChange fnFlowPartsSpec)) fnFlowPartsCard

/-- THE TIED CARD OF 'laws.FnFlowTurn'. -/
def fnFlowTurnCard : Claim7 := { stood := { row := fnFlowTurnRow, standIns := [], harness := (true, "3b5130cb50565df674311bdacf3843a52edb98df039acf75643da6e9bb59e8d7"), looks := false }, kinds := [], alts := [], laidByText := true, laidKinds := [.data], laidTests := true, laidLooks := .later }
def FnFlowTurnCardSaid : Prop := Claim7.holds Tryd.pinned (.plain (OpenSpec.ofChange fnFlowTurnSpec)) fnFlowTurnCard

/-- THE TIED CARD OF 'laws.FnFlowBridge'. -/
def fnFlowBridgeCard : Claim7 := { stood := { row := fnFlowBridgeRow, standIns := [], harness := (true, "3b5130cb50565df674311bdacf3843a52edb98df039acf75643da6e9bb59e8d7"), looks := false }, kinds := [], alts := [], laidByText := true, laidKinds := [.data], laidTests := true, laidLooks := .later }
def FnFlowBridgeCardSaid : Prop := Claim7.holds Tryd.pinned (.plain (OpenSpec.ofChange fnFlowBridgeSpec)) fnFlowBridgeCard

/-- THE TIED CARD OF 'laws.FnFlowFew'. -/
def fnFlowFewCard : Claim7 := { stood := { row := fnFlowFewRow, standIns := [], harness := (true, "3b5130cb50565df674311bdacf3843a52edb98df039acf75643da6e9bb59e8d7"), looks := false }, kinds := [], alts := [], laidByText := true, laidKinds := [.data], laidTests := true, laidLooks := .later }
def FnFlowFewCardSaid : Prop := Claim7.holds Tryd.pinned (.plain (OpenSpec.ofChange fnFlowFewSpec)) fnFlowFewCard

/-- THE TIED CARD OF 'laws.FnFlowCutTie'. -/
def fnFlowCutTieCard : Claim7 := { stood := { row := fnFlowCutTieRow, standIns := [], harness := (true, "3b5130cb50565df674311bdacf3843a52edb98df039acf75643da6e9bb59e8d7"), looks := false }, kinds := [], alts := [], laidByText := true, laidKinds := [.data], laidTests := true, laidLooks := .later }
def FnFlowCutTieCardSaid : Prop := Claim7.holds Tryd.pinned (.plain (OpenSpec.ofChange fnFlowCutTieSpec)) fnFlowCutTieCard

/-- THE TIED CARD OF 'laws.FnExactFlowCut'. -/
def fnExactFlowCutCard : Claim7 := { stood := { row := fnExactFlowCutRow, standIns := [], harness := (true, "3b5130cb50565df674311bdacf3843a52edb98df039acf75643da6e9bb59e8d7"), looks := false }, kinds := [], alts := [], laidByText := true, laidKinds := [.data], laidTests := true, laidLooks := .later }
def FnExactFlowCutCardSaid : Prop := Claim7.holds Tryd.pinned (.plain (OpenSpec.ofChange fnExactFlowCutSpec)) fnExactFlowCutCard

/-- THE SECOND FORM's CARD OF 'laws.FnBridgeParts'. -/
def fnBridgePartsUptoCard : Claim7 := { stood := { row := fnBridgePartsUptoRow, standIns := [], harness := (true, "3b5130cb50565df674311bdacf3843a52edb98df039acf75643da6e9bb59e8d7"), looks := false }, kinds := [], alts := [], laidByText := true, laidKinds := [.data], laidTests := true, laidLooks := .later }
def FnBridgePartsUptoCardSaid : Prop := Claim7.holds Tryd.pinned (.plain (OpenSpec.upto fnBridgePartsSpec)) fnBridgePartsUptoCard

/-- THE SECOND FORM's CARD OF 'laws.FnBridgeApart'. -/
def fnBridgeApartUptoCard : Claim7 := { stood := { row := fnBridgeApartUptoRow, standIns := [], harness := (true, "3b5130cb50565df674311bdacf3843a52edb98df039acf75643da6e9bb59e8d7"), looks := false }, kinds := [], alts := [], laidByText := true, laidKinds := [.data], laidTests := true, laidLooks := .later }
def FnBridgeApartUptoCardSaid : Prop := Claim7.holds Tryd.pinned (.plain (OpenSpec.upto fnBridgeApartSpec)) fnBridgeApartUptoCard

/-- THE SECOND FORM's CARD OF 'laws.FnFlowTop'. -/
def fnFlowTopUptoCard : Claim7 := { stood := { row := fnFlowTopUptoRow, standIns := [], harness := (true, "3b5130cb50565df674311bdacf3843a52edb98df039acf75643da6e9bb59e8d7"), looks := false }, kinds := [], alts := [], laidByText := true, laidKinds := [.data], laidTests := true, laidLooks := .later }
def FnFlowTopUptoCardSaid : Prop := Claim7.holds Tryd.pinned (.plain (OpenSpec.upto fnFlowTopSpec)) fnFlowTopUptoCard

/-- THE SECOND FORM's CARD OF 'laws.FnFlowCut'. -/
def fnFlowCutUptoCard : Claim7 := { stood := { row := fnFlowCutUptoRow, standIns := [], harness := (true, "3b5130cb50565df674311bdacf3843a52edb98df039acf75643da6e9bb59e8d7"), looks := false }, kinds := [], alts := [], laidByText := true, laidKinds := [.data], laidTests := true, laidLooks := .later }
def FnFlowCutUptoCardSaid : Prop := Claim7.holds Tryd.pinned (.plain (OpenSpec.upto fnFlowCutSpec)) fnFlowCutUptoCard

/-- THE SECOND FORM's CARD OF 'laws.FnFlowParts'. -/
def fnFlowPartsUptoCard : Claim7 := { stood := { row := fnFlowPartsUptoRow, standIns := [], harness := (true, "3b5130cb50565df674311bdacf3843a52edb98df039acf75643da6e9bb59e8d7"), looks := false }, kinds := [], alts := [], laidByText := true, laidKinds := [.data], laidTests := true, laidLooks := .later }
def FnFlowPartsUptoCardSaid : Prop := Claim7.holds Tryd.pinned (.plain (OpenSpec.upto fnFlowPartsSpec)) fnFlowPartsUptoCard

/-- THE SECOND FORM's CARD OF 'laws.FnFlowTurn'. -/
def fnFlowTurnUptoCard : Claim7 := { stood := { row := fnFlowTurnUptoRow, standIns := [], harness := (true, "3b5130cb50565df674311bdacf3843a52edb98df039acf75643da6e9bb59e8d7"), looks := false }, kinds := [], alts := [], laidByText := true, laidKinds := [.data], laidTests := true, laidLooks := .later }
def FnFlowTurnUptoCardSaid : Prop := Claim7.holds Tryd.pinned (.plain (OpenSpec.upto fnFlowTurnSpec)) fnFlowTurnUptoCard

/-- THE SECOND FORM's CARD OF 'laws.FnFlowBridge'. -/
def fnFlowBridgeUptoCard : Claim7 := { stood := { row := fnFlowBridgeUptoRow, standIns := [], harness := (true, "3b5130cb50565df674311bdacf3843a52edb98df039acf75643da6e9bb59e8d7"), looks := false }, kinds := [], alts := [], laidByText := true, laidKinds := [.data], laidTests := true, laidLooks := .later }
def FnFlowBridgeUptoCardSaid : Prop := Claim7.holds Tryd.pinned (.plain (OpenSpec.upto fnFlowBridgeSpec)) fnFlowBridgeUptoCard

/-- THE SECOND FORM's CARD OF 'laws.FnFlowFew'. -/
def fnFlowFewUptoCard : Claim7 := { stood := { row := fnFlowFewUptoRow, standIns := [], harness := (true, "3b5130cb50565df674311bdacf3843a52edb98df039acf75643da6e9bb59e8d7"), looks := false }, kinds := [], alts := [], laidByText := true, laidKinds := [.data], laidTests := true, laidLooks := .later }
def FnFlowFewUptoCardSaid : Prop := Claim7.holds Tryd.pinned (.plain (OpenSpec.upto fnFlowFewSpec)) fnFlowFewUptoCard

/-- THE SECOND FORM's CARD OF 'laws.FnFlowCutTie'. -/
def fnFlowCutTieUptoCard : Claim7 := { stood := { row := fnFlowCutTieUptoRow, standIns := [], harness := (true, "3b5130cb50565df674311bdacf3843a52edb98df039acf75643da6e9bb59e8d7"), looks := false }, kinds := [], alts := [], laidByText := true, laidKinds := [.data], laidTests := true, laidLooks := .later }
def FnFlowCutTieUptoCardSaid : Prop := Claim7.holds Tryd.pinned (.plain (OpenSpec.upto fnFlowCutTieSpec)) fnFlowCutTieUptoCard

/-- THE SECOND FORM's CARD OF 'laws.FnExactFlowCut'. -/
def fnExactFlowCutUptoCard : Claim7 := { stood := { row := fnExactFlowCutUptoRow, standIns := [], harness := (true, "3b5130cb50565df674311bdacf3843a52edb98df039acf75643da6e9bb59e8d7"), looks := false }, kinds := [], alts := [], laidByText := true, laidKinds := [.data], laidTests := true, laidLooks := .later }
def FnExactFlowCutUptoCardSaid : Prop := Claim7.holds Tryd.pinned (.plain (OpenSpec.upto fnExactFlowCutSpec)) fnExactFlowCutUptoCard
end Rows
end Go.Proofs.YtmkbeiiifikbgaaDoor
