/-
  DERIVED. GIVEN WITH THE SEED: THE CARDS: each row of YtkbcaffhdaoalaaDoorRows.lean that lists a variable, with what it lists TIED to the program's text (the seventh form; the later family's looks); each row that meets fmt, with fmt's text TOLD by the authors' own Lean function (tested against real Go, not proved from fmt's source: count such statements apart). THE CARD IS WHAT COUNTS. Prove the row's statement (the work); the ties are given (YtkbcaffhdaoalaaDoorTie.lean); close each card by the builder's one call (the guide's Derived/Test/ToyasCard.lean, 'card_holds'). Laid BY PROGRAM, IN A SANDBOX (cutbox-door.mjs). By AI agents, Wed Nov 11 2026. No macro, syntax, notation, axiom, sorry.
-/
import Derived.Test.YtkbcaffhdaoalaaDoorRows
import GoSem.ClaimSeven
namespace Go.Proofs.YtkbcaffhdaoalaaDoor
namespace Rows

/-- THE TIED CARD OF 'laws.FnNetAdd'. -/
def fnNetAddCard : Claim7 := { stood := { row := fnNetAddRow, standIns := [], harness := (true, "1afe8b06a1bc521ebd06cf74fd69375fca9a7b6f68f7b2f265ce7e9eeec4723a"), looks := false }, kinds := [], alts := [], laidByText := true, laidKinds := [.data], laidTests := true, laidLooks := .later }
def FnNetAddCardSaid : Prop := Claim7.holds Tryd.pinned (.plain (OpenSpec.ofChange fnNetAddSpec)) fnNetAddCard

/-- THE TIED CARD OF 'laws.FnNetCut'. -/
def fnNetCutCard : Claim7 := { stood := { row := fnNetCutRow, standIns := [], harness := (true, "1afe8b06a1bc521ebd06cf74fd69375fca9a7b6f68f7b2f265ce7e9eeec4723a"), looks := false }, kinds := [], alts := [], laidByText := true, laidKinds := [.data], laidTests := true, laidLooks := .later }
def FnNetCutCardSaid : Prop := Claim7.holds Tryd.pinned (.plain (OpenSpec.ofChange fnNetCutSpec)) fnNetCutCard

/-- THE TIED CARD OF 'laws.FnNetUndo'. -/
def fnNetUndoCard : Claim7 := { stood := { row := fnNetUndoRow, standIns := [], harness := (true, "1afe8b06a1bc521ebd06cf74fd69375fca9a7b6f68f7b2f265ce7e9eeec4723a"), looks := false }, kinds := [], alts := [], laidByText := true, laidKinds := [.data], laidTests := true, laidLooks := .later }
def FnNetUndoCardSaid : Prop := Claim7.holds Tryd.pinned (.plain (OpenSpec.ofChange fnNetUndoSpec)) fnNetUndoCard

/-- THE TIED CARD OF 'laws.FnNetTurn'. -/
def fnNetTurnCard : Claim7 := { stood := { row := fnNetTurnRow, standIns := [], harness := (true, "1afe8b06a1bc521ebd06cf74fd69375fca9a7b6f68f7b2f265ce7e9eeec4723a"), looks := false }, kinds := [], alts := [], laidByText := true, laidKinds := [.data], laidTests := true, laidLooks := .later }
def FnNetTurnCardSaid : Prop := Claim7.holds Tryd.pinned (.plain (OpenSpec.ofChange fnNetTurnSpec)) fnNetTurnCard

/-- THE TIED CARD OF 'laws.FnNetWithout'. -/
def fnNetWithoutCard : Claim7 := { stood := { row := fnNetWithoutRow, standIns := [], harness := (true, "1afe8b06a1bc521ebd06cf74fd69375fca9a7b6f68f7b2f265ce7e9eeec4723a"), looks := false }, kinds := [], alts := [], laidByText := true, laidKinds := [.data], laidTests := true, laidLooks := .later }
def FnNetWithoutCardSaid : Prop := Claim7.holds Tryd.pinned (.plain (OpenSpec.ofChange fnNetWithoutSpec)) fnNetWithoutCard

/-- THE TIED CARD OF 'laws.FnExactNetAdd'. -/
def fnExactNetAddCard : Claim7 := { stood := { row := fnExactNetAddRow, standIns := [], harness := (true, "1afe8b06a1bc521ebd06cf74fd69375fca9a7b6f68f7b2f265ce7e9eeec4723a"), looks := false }, kinds := [], alts := [], laidByText := true, laidKinds := [.data], laidTests := true, laidLooks := .later }
def FnExactNetAddCardSaid : Prop := Claim7.holds Tryd.pinned (.plain (OpenSpec.ofChange fnExactNetAddSpec)) fnExactNetAddCard

/-- THE TIED CARD OF 'laws.FnExactNetCut'. -/
def fnExactNetCutCard : Claim7 := { stood := { row := fnExactNetCutRow, standIns := [], harness := (true, "1afe8b06a1bc521ebd06cf74fd69375fca9a7b6f68f7b2f265ce7e9eeec4723a"), looks := false }, kinds := [], alts := [], laidByText := true, laidKinds := [.data], laidTests := true, laidLooks := .later }
def FnExactNetCutCardSaid : Prop := Claim7.holds Tryd.pinned (.plain (OpenSpec.ofChange fnExactNetCutSpec)) fnExactNetCutCard

/-- THE TIED CARD OF 'laws.FnExactNetWithout'. -/
def fnExactNetWithoutCard : Claim7 := { stood := { row := fnExactNetWithoutRow, standIns := [], harness := (true, "1afe8b06a1bc521ebd06cf74fd69375fca9a7b6f68f7b2f265ce7e9eeec4723a"), looks := false }, kinds := [], alts := [], laidByText := true, laidKinds := [.data], laidTests := true, laidLooks := .later }
def FnExactNetWithoutCardSaid : Prop := Claim7.holds Tryd.pinned (.plain (OpenSpec.ofChange fnExactNetWithoutSpec)) fnExactNetWithoutCard

/-- THE SECOND FORM's CARD OF 'laws.FnNetAdd'. -/
def fnNetAddUptoCard : Claim7 := { stood := { row := fnNetAddUptoRow, standIns := [], harness := (true, "1afe8b06a1bc521ebd06cf74fd69375fca9a7b6f68f7b2f265ce7e9eeec4723a"), looks := false }, kinds := [], alts := [], laidByText := true, laidKinds := [.data], laidTests := true, laidLooks := .later }
def FnNetAddUptoCardSaid : Prop := Claim7.holds Tryd.pinned (.plain (OpenSpec.upto fnNetAddSpec)) fnNetAddUptoCard

/-- THE SECOND FORM's CARD OF 'laws.FnNetCut'. -/
def fnNetCutUptoCard : Claim7 := { stood := { row := fnNetCutUptoRow, standIns := [], harness := (true, "1afe8b06a1bc521ebd06cf74fd69375fca9a7b6f68f7b2f265ce7e9eeec4723a"), looks := false }, kinds := [], alts := [], laidByText := true, laidKinds := [.data], laidTests := true, laidLooks := .later }
def FnNetCutUptoCardSaid : Prop := Claim7.holds Tryd.pinned (.plain (OpenSpec.upto fnNetCutSpec)) fnNetCutUptoCard

/-- THE SECOND FORM's CARD OF 'laws.FnNetUndo'. -/
def fnNetUndoUptoCard : Claim7 := { stood := { row := fnNetUndoUptoRow, standIns := [], harness := (true, "1afe8b06a1bc521ebd06cf74fd69375fca9a7b6f68f7b2f265ce7e9eeec4723a"), looks := false }, kinds := [], alts := [], laidByText := true, laidKinds := [.data], laidTests := true, laidLooks := .later }
def FnNetUndoUptoCardSaid : Prop := Claim7.holds Tryd.pinned (.plain (OpenSpec.upto fnNetUndoSpec)) fnNetUndoUptoCard

/-- THE SECOND FORM's CARD OF 'laws.FnNetTurn'. -/
def fnNetTurnUptoCard : Claim7 := { stood := { row := fnNetTurnUptoRow, standIns := [], harness := (true, "1afe8b06a1bc521ebd06cf74fd69375fca9a7b6f68f7b2f265ce7e9eeec4723a"), looks := false }, kinds := [], alts := [], laidByText := true, laidKinds := [.data], laidTests := true, laidLooks := .later }
def FnNetTurnUptoCardSaid : Prop := Claim7.holds Tryd.pinned (.plain (OpenSpec.upto fnNetTurnSpec)) fnNetTurnUptoCard

/-- THE SECOND FORM's CARD OF 'laws.FnNetWithout'. -/
def fnNetWithoutUptoCard : Claim7 := { stood := { row := fnNetWithoutUptoRow, standIns := [], harness := (true, "1afe8b06a1bc521ebd06cf74fd69375fca9a7b6f68f7b2f265ce7e9eeec4723a"), looks := false }, kinds := [], alts := [], laidByText := true, laidKinds := [.data], laidTests := true, laidLooks := .later }
def FnNetWithoutUptoCardSaid : Prop := Claim7.holds Tryd.pinned (.plain (OpenSpec.upto fnNetWithoutSpec)) fnNetWithoutUptoCard

/-- THE SECOND FORM's CARD OF 'laws.FnExactNetAdd'. -/
def fnExactNetAddUptoCard : Claim7 := { stood := { row := fnExactNetAddUptoRow, standIns := [], harness := (true, "1afe8b06a1bc521ebd06cf74fd69375fca9a7b6f68f7b2f265ce7e9eeec4723a"), looks := false }, kinds := [], alts := [], laidByText := true, laidKinds := [.data], laidTests := true, laidLooks := .later }
def FnExactNetAddUptoCardSaid : Prop := Claim7.holds Tryd.pinned (.plain (OpenSpec.upto fnExactNetAddSpec)) fnExactNetAddUptoCard

/-- THE SECOND FORM's CARD OF 'laws.FnExactNetCut'. -/
def fnExactNetCutUptoCard : Claim7 := { stood := { row := fnExactNetCutUptoRow, standIns := [], harness := (true, "1afe8b06a1bc521ebd06cf74fd69375fca9a7b6f68f7b2f265ce7e9eeec4723a"), looks := false }, kinds := [], alts := [], laidByText := true, laidKinds := [.data], laidTests := true, laidLooks := .later }
def FnExactNetCutUptoCardSaid : Prop := Claim7.holds Tryd.pinned (.plain (OpenSpec.upto fnExactNetCutSpec)) fnExactNetCutUptoCard

/-- THE SECOND FORM's CARD OF 'laws.FnExactNetWithout'. -/
def fnExactNetWithoutUptoCard : Claim7 := { stood := { row := fnExactNetWithoutUptoRow, standIns := [], harness := (true, "1afe8b06a1bc521ebd06cf74fd69375fca9a7b6f68f7b2f265ce7e9eeec4723a"), looks := false }, kinds := [], alts := [], laidByText := true, laidKinds := [.data], laidTests := true, laidLooks := .later }
def FnExactNetWithoutUptoCardSaid : Prop := Claim7.holds Tryd.pinned (.plain (OpenSpec.upto fnExactNetWithoutSpec)) fnExactNetWithoutUptoCard
end Rows
end Go.Proofs.YtkbcaffhdaoalaaDoor
