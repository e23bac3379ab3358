/-
  DERIVED. GIVEN WITH THE SEED: THE CARDS: each row of YtapnbnapfapneaaDoorRows.lean that lists a variable, with what it lists TIED to the program's text (the seventh form; the later family's looks); each row that meets fmt, with fmt's text TOLD by the authors' own Lean function (tested against real Go, not proved from fmt's source: count such statements apart). THE CARD IS WHAT COUNTS. Prove the row's statement (the work); the ties are given (YtapnbnapfapneaaDoorTie.lean); close each card by the builder's one call (the guide's Derived/Test/ToyasCard.lean, 'card_holds'). Laid BY PROGRAM, IN A SANDBOX (cutbox-door.mjs). By AI agents, Wed Nov 11 2026. No macro, syntax, notation, axiom, sorry.
-/
import Derived.Test.YtapnbnapfapneaaDoorRows
import GoSem.ClaimSeven
namespace Go.Proofs.YtapnbnapfapneaaDoor
namespace Rows

/-- THE TIED CARD OF 'laws.FnExactBridgeList'. -/
def fnExactBridgeListCard : Claim7 := { stood := { row := fnExactBridgeListRow, standIns := [], harness := (true, "3a69c17f68543579ac7d59218ef74d3b612413c58aba3cd762a85ea1300c13a5"), looks := false }, kinds := [], alts := [], laidByText := true, laidKinds := [.data], laidTests := true, laidLooks := .later }
def FnExactBridgeListCardSaid : Prop := Claim7.holds Tryd.pinned (.plain (OpenSpec.ofChange fnExactBridgeListSpec)) fnExactBridgeListCard

/-- THE TIED CARD OF 'laws.FnExactBridgeParts'. -/
def fnExactBridgePartsCard : Claim7 := { stood := { row := fnExactBridgePartsRow, standIns := [], harness := (true, "3a69c17f68543579ac7d59218ef74d3b612413c58aba3cd762a85ea1300c13a5"), looks := false }, kinds := [], alts := [], laidByText := true, laidKinds := [.data], laidTests := true, laidLooks := .later }
def FnExactBridgePartsCardSaid : Prop := Claim7.holds Tryd.pinned (.plain (OpenSpec.ofChange fnExactBridgePartsSpec)) fnExactBridgePartsCard

/-- THE TIED CARD OF 'laws.FnExactBridgeApart'. -/
def fnExactBridgeApartCard : Claim7 := { stood := { row := fnExactBridgeApartRow, standIns := [], harness := (true, "3a69c17f68543579ac7d59218ef74d3b612413c58aba3cd762a85ea1300c13a5"), looks := false }, kinds := [], alts := [], laidByText := true, laidKinds := [.data], laidTests := true, laidLooks := .later }
def FnExactBridgeApartCardSaid : Prop := Claim7.holds Tryd.pinned (.plain (OpenSpec.ofChange fnExactBridgeApartSpec)) fnExactBridgeApartCard

/-- THE TIED CARD OF 'laws.FnExactTreeRings'. -/
def fnExactTreeRingsCard : Claim7 := { stood := { row := fnExactTreeRingsRow, standIns := [], harness := (true, "3a69c17f68543579ac7d59218ef74d3b612413c58aba3cd762a85ea1300c13a5"), looks := false }, kinds := [], alts := [], laidByText := true, laidKinds := [.data], laidTests := true, laidLooks := .later }
def FnExactTreeRingsCardSaid : Prop := Claim7.holds Tryd.pinned (.plain (OpenSpec.ofChange fnExactTreeRingsSpec)) fnExactTreeRingsCard

/-- THE SECOND FORM's CARD OF 'laws.FnExactBridgeList'. -/
def fnExactBridgeListUptoCard : Claim7 := { stood := { row := fnExactBridgeListUptoRow, standIns := [], harness := (true, "3a69c17f68543579ac7d59218ef74d3b612413c58aba3cd762a85ea1300c13a5"), looks := false }, kinds := [], alts := [], laidByText := true, laidKinds := [.data], laidTests := true, laidLooks := .later }
def FnExactBridgeListUptoCardSaid : Prop := Claim7.holds Tryd.pinned (.plain (OpenSpec.upto fnExactBridgeListSpec)) fnExactBridgeListUptoCard

/-- THE SECOND FORM's CARD OF 'laws.FnExactBridgeParts'. -/
def fnExactBridgePartsUptoCard : Claim7 := { stood := { row := fnExactBridgePartsUptoRow, standIns := [], harness := (true, "3a69c17f68543579ac7d59218ef74d3b612413c58aba3cd762a85ea1300c13a5"), looks := false }, kinds := [], alts := [], laidByText := true, laidKinds := [.data], laidTests := true, laidLooks := .later }
def FnExactBridgePartsUptoCardSaid : Prop := Claim7.holds Tryd.pinned (.plain (OpenSpec.upto fnExactBridgePartsSpec)) fnExactBridgePartsUptoCard

/-- THE SECOND FORM's CARD OF 'laws.FnExactBridgeApart'. -/
def fnExactBridgeApartUptoCard : Claim7 := { stood := { row := fnExactBridgeApartUptoRow, standIns := [], harness := (true, "3a69c17f68543579ac7d59218ef74d3b612413c58aba3cd762a85ea1300c13a5"), looks := false }, kinds := [], alts := [], laidByText := true, laidKinds := [.data], laidTests := true, laidLooks := .later }
def FnExactBridgeApartUptoCardSaid : Prop := Claim7.holds Tryd.pinned (.plain (OpenSpec.upto fnExactBridgeApartSpec)) fnExactBridgeApartUptoCard

/-- THE SECOND FORM's CARD OF 'laws.FnExactTreeRings'. -/
def fnExactTreeRingsUptoCard : Claim7 := { stood := { row := fnExactTreeRingsUptoRow, standIns := [], harness := (true, "3a69c17f68543579ac7d59218ef74d3b612413c58aba3cd762a85ea1300c13a5"), looks := false }, kinds := [], alts := [], laidByText := true, laidKinds := [.data], laidTests := true, laidLooks := .later }
def FnExactTreeRingsUptoCardSaid : Prop := Claim7.holds Tryd.pinned (.plain (OpenSpec.upto fnExactTreeRingsSpec)) fnExactTreeRingsUptoCard
end Rows
end Go.Proofs.YtapnbnapfapneaaDoor
