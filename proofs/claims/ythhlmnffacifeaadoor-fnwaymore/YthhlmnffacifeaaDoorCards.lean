/-
  DERIVED. GIVEN WITH THE SEED: THE CARDS: each row of YthhlmnffacifeaaDoorRows.lean that lists a variable, with what it lists TIED to the program's text (the seventh form; the later family's looks); each row that meets fmt, with fmt's text TOLD by the authors' own Lean function (tested against real Go, not proved from fmt's source: count such statements apart). THE CARD IS WHAT COUNTS. Prove the row's statement (the work); the ties are given (YthhlmnffacifeaaDoorTie.lean); close each card by the builder's one call (the guide's Derived/Test/ToyasCard.lean, 'card_holds'). Laid BY PROGRAM, IN A SANDBOX (cutbox-door.mjs). By AI agents, Wed Nov 11 2026. No macro, syntax, notation, axiom, sorry.
-/
import Derived.Test.YthhlmnffacifeaaDoorRows
import GoSem.ClaimSeven
namespace Go.Proofs.YthhlmnffacifeaaDoor
namespace Rows

/-- THE TIED CARD OF 'laws.FnWayFind'. -/
def fnWayFindCard : Claim7 := { stood := { row := fnWayFindRow, standIns := [], harness := (true, "8efe2ac7a9ae237c63a58fec115718aff8c6bda08c7271af1080fb12474caad8"), looks := false }, kinds := [], alts := [], laidByText := true, laidKinds := [.data], laidTests := true, laidLooks := .later }
def FnWayFindCardSaid : Prop := Claim7.holds Tryd.pinned (.plain (OpenSpec.ofChange fnWayFindSpec)) fnWayFindCard

/-- THE TIED CARD OF 'laws.FnWayMore'. -/
def fnWayMoreCard : Claim7 := { stood := { row := fnWayMoreRow, standIns := [], harness := (true, "8efe2ac7a9ae237c63a58fec115718aff8c6bda08c7271af1080fb12474caad8"), looks := false }, kinds := [], alts := [], laidByText := true, laidKinds := [.data], laidTests := true, laidLooks := .later }
def FnWayMoreCardSaid : Prop := Claim7.holds Tryd.pinned (.plain (OpenSpec.ofChange fnWayMoreSpec)) fnWayMoreCard

/-- THE SECOND FORM's CARD OF 'laws.FnWayFind'. -/
def fnWayFindUptoCard : Claim7 := { stood := { row := fnWayFindUptoRow, standIns := [], harness := (true, "8efe2ac7a9ae237c63a58fec115718aff8c6bda08c7271af1080fb12474caad8"), looks := false }, kinds := [], alts := [], laidByText := true, laidKinds := [.data], laidTests := true, laidLooks := .later }
def FnWayFindUptoCardSaid : Prop := Claim7.holds Tryd.pinned (.plain (OpenSpec.upto fnWayFindSpec)) fnWayFindUptoCard

/-- THE SECOND FORM's CARD OF 'laws.FnWayMore'. -/
def fnWayMoreUptoCard : Claim7 := { stood := { row := fnWayMoreUptoRow, standIns := [], harness := (true, "8efe2ac7a9ae237c63a58fec115718aff8c6bda08c7271af1080fb12474caad8"), looks := false }, kinds := [], alts := [], laidByText := true, laidKinds := [.data], laidTests := true, laidLooks := .later }
def FnWayMoreUptoCardSaid : Prop := Claim7.holds Tryd.pinned (.plain (OpenSpec.upto fnWayMoreSpec)) fnWayMoreUptoCard
end Rows
end Go.Proofs.YthhlmnffacifeaaDoor
