/-
  DERIVED. GIVEN WITH THE SEED: THE CARDS: each row of YtmmbbhkgfkhipaaDoorRows.lean that lists a variable, with what it lists TIED to the program's text (the seventh form; the later family's looks); each row that meets fmt, with fmt's text TOLD by the authors' own Lean function (tested against real Go, not proved from fmt's source: count such statements apart). THE CARD IS WHAT COUNTS. Prove the row's statement (the work); the ties are given (YtmmbbhkgfkhipaaDoorTie.lean); close each card by the builder's one call (the guide's Derived/Test/ToyasCard.lean, 'card_holds'). Laid BY PROGRAM, IN A SANDBOX (cutbox-door.mjs). By AI agents, Wed Nov 11 2026. No macro, syntax, notation, axiom, sorry.
-/
import Derived.Test.YtmmbbhkgfkhipaaDoorRows
import GoSem.ClaimSeven
namespace Go.Proofs.YtmmbbhkgfkhipaaDoor
namespace Rows

/-- THE TIED CARD OF 'laws.FnNetAdd'. -/
def fnNetAddCard : Claim7 := { stood := { row := fnNetAddRow, standIns := [], harness := (true, "af03fd21ef1dbdc4e73f32de6ba69fe89b377fd562100c0959d12277e82bbece"), looks := false }, kinds := [], alts := [], laidByText := true, laidKinds := [.data], laidTests := true, laidLooks := .later }
def FnNetAddCardSaid : Prop := Claim7.holds Tryd.pinned (.plain (OpenSpec.ofChange fnNetAddSpec)) fnNetAddCard

/-- THE TIED CARD OF 'laws.FnNetCut'. -/
def fnNetCutCard : Claim7 := { stood := { row := fnNetCutRow, standIns := [], harness := (true, "af03fd21ef1dbdc4e73f32de6ba69fe89b377fd562100c0959d12277e82bbece"), looks := false }, kinds := [], alts := [], laidByText := true, laidKinds := [.data], laidTests := true, laidLooks := .later }
def FnNetCutCardSaid : Prop := Claim7.holds Tryd.pinned (.plain (OpenSpec.ofChange fnNetCutSpec)) fnNetCutCard

/-- THE TIED CARD OF 'laws.FnNetUndo'. -/
def fnNetUndoCard : Claim7 := { stood := { row := fnNetUndoRow, standIns := [], harness := (true, "af03fd21ef1dbdc4e73f32de6ba69fe89b377fd562100c0959d12277e82bbece"), looks := false }, kinds := [], alts := [], laidByText := true, laidKinds := [.data], laidTests := true, laidLooks := .later }
def FnNetUndoCardSaid : Prop := Claim7.holds Tryd.pinned (.plain (OpenSpec.ofChange fnNetUndoSpec)) fnNetUndoCard

/-- THE TIED CARD OF 'laws.FnNetTurn'. -/
def fnNetTurnCard : Claim7 := { stood := { row := fnNetTurnRow, standIns := [], harness := (true, "af03fd21ef1dbdc4e73f32de6ba69fe89b377fd562100c0959d12277e82bbece"), looks := false }, kinds := [], alts := [], laidByText := true, laidKinds := [.data], laidTests := true, laidLooks := .later }
def FnNetTurnCardSaid : Prop := Claim7.holds Tryd.pinned (.plain (OpenSpec.ofChange fnNetTurnSpec)) fnNetTurnCard

/-- THE TIED CARD OF 'laws.FnNetWithout'. -/
def fnNetWithoutCard : Claim7 := { stood := { row := fnNetWithoutRow, standIns := [], harness := (true, "af03fd21ef1dbdc4e73f32de6ba69fe89b377fd562100c0959d12277e82bbece"), looks := false }, kinds := [], alts := [], laidByText := true, laidKinds := [.data], laidTests := true, laidLooks := .later }
def FnNetWithoutCardSaid : Prop := Claim7.holds Tryd.pinned (.plain (OpenSpec.ofChange fnNetWithoutSpec)) fnNetWithoutCard

/-- THE SECOND FORM's CARD OF 'laws.FnNetAdd'. -/
def fnNetAddUptoCard : Claim7 := { stood := { row := fnNetAddUptoRow, standIns := [], harness := (true, "af03fd21ef1dbdc4e73f32de6ba69fe89b377fd562100c0959d12277e82bbece"), looks := false }, kinds := [], alts := [], laidByText := true, laidKinds := [.data], laidTests := true, laidLooks := .later }
def FnNetAddUptoCardSaid : Prop := Claim7.holds Tryd.pinned (.plain (OpenSpec.upto fnNetAddSpec)) fnNetAddUptoCard

/-- THE SECOND FORM's CARD OF 'laws.FnNetCut'. -/
def fnNetCutUptoCard : Claim7 := { stood := { row := fnNetCutUptoRow, standIns := [], harness := (true, "af03fd21ef1dbdc4e73f32de6ba69fe89b377fd562100c0959d12277e82bbece"), looks := false }, kinds := [], alts := [], laidByText := true, laidKinds := [.data], laidTests := true, laidLooks := .later }
def FnNetCutUptoCardSaid : Prop := Claim7.holds Tryd.pinned (.plain (OpenSpec.upto fnNetCutSpec)) fnNetCutUptoCard

/-- THE SECOND FORM's CARD OF 'laws.FnNetUndo'. -/
def fnNetUndoUptoCard : Claim7 := { stood := { row := fnNetUndoUptoRow, standIns := [], harness := (true, "af03fd21ef1dbdc4e73f32de6ba69fe89b377fd562100c0959d12277e82bbece"), looks := false }, kinds := [], alts := [], laidByText := true, laidKinds := [.data], laidTests := true, laidLooks := .later }
def FnNetUndoUptoCardSaid : Prop := Claim7.holds Tryd.pinned (.plain (OpenSpec.upto fnNetUndoSpec)) fnNetUndoUptoCard

/-- THE SECOND FORM's CARD OF 'laws.FnNetTurn'. -/
def fnNetTurnUptoCard : Claim7 := { stood := { row := fnNetTurnUptoRow, standIns := [], harness := (true, "af03fd21ef1dbdc4e73f32de6ba69fe89b377fd562100c0959d12277e82bbece"), looks := false }, kinds := [], alts := [], laidByText := true, laidKinds := [.data], laidTests := true, laidLooks := .later }
def FnNetTurnUptoCardSaid : Prop := Claim7.holds Tryd.pinned (.plain (OpenSpec.upto fnNetTurnSpec)) fnNetTurnUptoCard

/-- THE SECOND FORM's CARD OF 'laws.FnNetWithout'. -/
def fnNetWithoutUptoCard : Claim7 := { stood := { row := fnNetWithoutUptoRow, standIns := [], harness := (true, "af03fd21ef1dbdc4e73f32de6ba69fe89b377fd562100c0959d12277e82bbece"), looks := false }, kinds := [], alts := [], laidByText := true, laidKinds := [.data], laidTests := true, laidLooks := .later }
def FnNetWithoutUptoCardSaid : Prop := Claim7.holds Tryd.pinned (.plain (OpenSpec.upto fnNetWithoutSpec)) fnNetWithoutUptoCard
end Rows
end Go.Proofs.YtmmbbhkgfkhipaaDoor
