/-
  DERIVED. GIVEN WITH THE SEED: THE CARDS: each row of YtjaabnodimgckaaDoorRows.lean that lists a variable, with what it lists TIED to the program's text (the seventh form; the later family's looks); each row that meets fmt, with fmt's text TOLD by the authors' own Lean function (tested against real Go, not proved from fmt's source: count such statements apart). THE CARD IS WHAT COUNTS. Prove the row's statement (the work); the ties are given (YtjaabnodimgckaaDoorTie.lean); close each card by the builder's one call (the guide's Derived/Test/ToyasCard.lean, 'card_holds'). Laid BY PROGRAM, IN A SANDBOX (cutbox-door.mjs). By AI agents, Wed Nov 11 2026. No macro, syntax, notation, axiom, sorry.
-/
import Derived.Test.YtjaabnodimgckaaDoorRows
import GoSem.ClaimSeven
namespace Go.Proofs.YtjaabnodimgckaaDoor
namespace Rows

/-- THE TIED CARD OF 'laws.FnExactWayReach'. -/
def fnExactWayReachCard : Claim7 := { stood := { row := fnExactWayReachRow, standIns := [], harness := (true, "8f9e4ce790bbe85ef42337dcb00909fb0d59d3f05186b0e1d8aae87272ebb845"), looks := false }, kinds := [], alts := [], laidByText := true, laidKinds := [.data], laidTests := true, laidLooks := .later }
def FnExactWayReachCardSaid : Prop := Claim7.holds Tryd.pinned (.plain (OpenSpec.ofChange fnExactWayReachSpec)) fnExactWayReachCard

/-- THE TIED CARD OF 'laws.FnExactWayParts'. -/
def fnExactWayPartsCard : Claim7 := { stood := { row := fnExactWayPartsRow, standIns := [], harness := (true, "8f9e4ce790bbe85ef42337dcb00909fb0d59d3f05186b0e1d8aae87272ebb845"), looks := false }, kinds := [], alts := [], laidByText := true, laidKinds := [.data], laidTests := true, laidLooks := .later }
def FnExactWayPartsCardSaid : Prop := Claim7.holds Tryd.pinned (.plain (OpenSpec.ofChange fnExactWayPartsSpec)) fnExactWayPartsCard

/-- THE TIED CARD OF 'laws.FnExactWayCount'. -/
def fnExactWayCountCard : Claim7 := { stood := { row := fnExactWayCountRow, standIns := [], harness := (true, "8f9e4ce790bbe85ef42337dcb00909fb0d59d3f05186b0e1d8aae87272ebb845"), looks := false }, kinds := [], alts := [], laidByText := true, laidKinds := [.data], laidTests := true, laidLooks := .later }
def FnExactWayCountCardSaid : Prop := Claim7.holds Tryd.pinned (.plain (OpenSpec.ofChange fnExactWayCountSpec)) fnExactWayCountCard

/-- THE SECOND FORM's CARD OF 'laws.FnExactWayReach'. -/
def fnExactWayReachUptoCard : Claim7 := { stood := { row := fnExactWayReachUptoRow, standIns := [], harness := (true, "8f9e4ce790bbe85ef42337dcb00909fb0d59d3f05186b0e1d8aae87272ebb845"), looks := false }, kinds := [], alts := [], laidByText := true, laidKinds := [.data], laidTests := true, laidLooks := .later }
def FnExactWayReachUptoCardSaid : Prop := Claim7.holds Tryd.pinned (.plain (OpenSpec.upto fnExactWayReachSpec)) fnExactWayReachUptoCard

/-- THE SECOND FORM's CARD OF 'laws.FnExactWayParts'. -/
def fnExactWayPartsUptoCard : Claim7 := { stood := { row := fnExactWayPartsUptoRow, standIns := [], harness := (true, "8f9e4ce790bbe85ef42337dcb00909fb0d59d3f05186b0e1d8aae87272ebb845"), looks := false }, kinds := [], alts := [], laidByText := true, laidKinds := [.data], laidTests := true, laidLooks := .later }
def FnExactWayPartsUptoCardSaid : Prop := Claim7.holds Tryd.pinned (.plain (OpenSpec.upto fnExactWayPartsSpec)) fnExactWayPartsUptoCard

/-- THE SECOND FORM's CARD OF 'laws.FnExactWayCount'. -/
def fnExactWayCountUptoCard : Claim7 := { stood := { row := fnExactWayCountUptoRow, standIns := [], harness := (true, "8f9e4ce790bbe85ef42337dcb00909fb0d59d3f05186b0e1d8aae87272ebb845"), looks := false }, kinds := [], alts := [], laidByText := true, laidKinds := [.data], laidTests := true, laidLooks := .later }
def FnExactWayCountUptoCardSaid : Prop := Claim7.holds Tryd.pinned (.plain (OpenSpec.upto fnExactWayCountSpec)) fnExactWayCountUptoCard
end Rows
end Go.Proofs.YtjaabnodimgckaaDoor
