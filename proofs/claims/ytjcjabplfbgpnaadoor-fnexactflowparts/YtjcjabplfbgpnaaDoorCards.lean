/-
  DERIVED. GIVEN WITH THE SEED: THE CARDS: each row of YtjcjabplfbgpnaaDoorRows.lean that lists a variable, with what it lists TIED to the program's text (the seventh form; the later family's looks); each row that meets fmt, with fmt's text TOLD by the authors' own Lean function (tested against real Go, not proved from fmt's source: count such statements apart). THE CARD IS WHAT COUNTS. Prove the row's statement (the work); the ties are given (YtjcjabplfbgpnaaDoorTie.lean); close each card by the builder's one call (the guide's Derived/Test/ToyasCard.lean, 'card_holds'). Laid BY PROGRAM, IN A SANDBOX (cutbox-door.mjs). By AI agents, Wed Nov 11 2026. No macro, syntax, notation, axiom, sorry.
-/
import Derived.Test.YtjcjabplfbgpnaaDoorRows
import GoSem.ClaimSeven
namespace Go.Proofs.YtjcjabplfbgpnaaDoor
namespace Rows

/-- THE TIED CARD OF 'laws.FnExactFlowCut'. -/
def fnExactFlowCutCard : Claim7 := { stood := { row := fnExactFlowCutRow, standIns := [], harness := (true, "c5b6bc2ad611cee8c3da3c2026ec72787acde77c767993a4dae1cb874adf1cb4"), looks := false }, kinds := [], alts := [], laidByText := true, laidKinds := [.data], laidTests := true, laidLooks := .later }
def FnExactFlowCutCardSaid : Prop := Claim7.holds Tryd.pinned (.plain (OpenSpec.ofChange fnExactFlowCutSpec)) fnExactFlowCutCard

/-- THE TIED CARD OF 'laws.FnExactFlowParts'. -/
def fnExactFlowPartsCard : Claim7 := { stood := { row := fnExactFlowPartsRow, standIns := [], harness := (true, "c5b6bc2ad611cee8c3da3c2026ec72787acde77c767993a4dae1cb874adf1cb4"), looks := false }, kinds := [], alts := [], laidByText := true, laidKinds := [.data], laidTests := true, laidLooks := .later }
def FnExactFlowPartsCardSaid : Prop := Claim7.holds Tryd.pinned (.plain (OpenSpec.ofChange fnExactFlowPartsSpec)) fnExactFlowPartsCard

/-- THE SECOND FORM's CARD OF 'laws.FnExactFlowCut'. -/
def fnExactFlowCutUptoCard : Claim7 := { stood := { row := fnExactFlowCutUptoRow, standIns := [], harness := (true, "c5b6bc2ad611cee8c3da3c2026ec72787acde77c767993a4dae1cb874adf1cb4"), looks := false }, kinds := [], alts := [], laidByText := true, laidKinds := [.data], laidTests := true, laidLooks := .later }
def FnExactFlowCutUptoCardSaid : Prop := Claim7.holds Tryd.pinned (.plain (OpenSpec.upto fnExactFlowCutSpec)) fnExactFlowCutUptoCard

/-- THE SECOND FORM's CARD OF 'laws.FnExactFlowParts'. -/
def fnExactFlowPartsUptoCard : Claim7 := { stood := { row := fnExactFlowPartsUptoRow, standIns := [], harness := (true, "c5b6bc2ad611cee8c3da3c2026ec72787acde77c767993a4dae1cb874adf1cb4"), looks := false }, kinds := [], alts := [], laidByText := true, laidKinds := [.data], laidTests := true, laidLooks := .later }
def FnExactFlowPartsUptoCardSaid : Prop := Claim7.holds Tryd.pinned (.plain (OpenSpec.upto fnExactFlowPartsSpec)) fnExactFlowPartsUptoCard
end Rows
end Go.Proofs.YtjcjabplfbgpnaaDoor
