/-
  DERIVED. GIVEN WITH THE SEED: THE CARDS: each row of YtnnjdhkokgiocaaDoorRows.lean that lists a variable, with what it lists TIED to the program's text (the seventh form; the later family's looks); each row that meets fmt, with fmt's text TOLD by the authors' own Lean function (tested against real Go, not proved from fmt's source: count such statements apart). THE CARD IS WHAT COUNTS. Prove the row's statement (the work); the ties are given (YtnnjdhkokgiocaaDoorTie.lean); close each card by the builder's one call (the guide's Derived/Test/ToyasCard.lean, 'card_holds'). Laid BY PROGRAM, IN A SANDBOX (cutbox-door.mjs). By AI agents, Wed Nov 11 2026. No macro, syntax, notation, axiom, sorry.
-/
import Derived.Test.YtnnjdhkokgiocaaDoorRows
import GoSem.ClaimSeven
namespace Go.Proofs.YtnnjdhkokgiocaaDoor
namespace Rows

/-- THE TIED CARD OF 'laws.FnTreeOf'. -/
def fnTreeOfCard : Claim7 := { stood := { row := fnTreeOfRow, standIns := [], harness := (true, "480bb74a104ca5a60da1bc000332ae50f174edc2b9ad9c9d6261c20aa0b0036a"), looks := false }, kinds := [], alts := [], laidByText := true, laidKinds := [.data], laidTests := true, laidLooks := .later }
def FnTreeOfCardSaid : Prop := Claim7.holds Tryd.pinned (.plain (OpenSpec.ofChange fnTreeOfSpec)) fnTreeOfCard

/-- THE TIED CARD OF 'laws.FnTreeFirst'. -/
def fnTreeFirstCard : Claim7 := { stood := { row := fnTreeFirstRow, standIns := [], harness := (true, "480bb74a104ca5a60da1bc000332ae50f174edc2b9ad9c9d6261c20aa0b0036a"), looks := false }, kinds := [], alts := [], laidByText := true, laidKinds := [.data], laidTests := true, laidLooks := .later }
def FnTreeFirstCardSaid : Prop := Claim7.holds Tryd.pinned (.plain (OpenSpec.ofChange fnTreeFirstSpec)) fnTreeFirstCard

/-- THE TIED CARD OF 'laws.FnTreeSwap'. -/
def fnTreeSwapCard : Claim7 := { stood := { row := fnTreeSwapRow, standIns := [], harness := (true, "480bb74a104ca5a60da1bc000332ae50f174edc2b9ad9c9d6261c20aa0b0036a"), looks := false }, kinds := [], alts := [], laidByText := true, laidKinds := [.data], laidTests := true, laidLooks := .later }
def FnTreeSwapCardSaid : Prop := Claim7.holds Tryd.pinned (.plain (OpenSpec.ofChange fnTreeSwapSpec)) fnTreeSwapCard

/-- THE TIED CARD OF 'laws.FnTreeRings'. -/
def fnTreeRingsCard : Claim7 := { stood := { row := fnTreeRingsRow, standIns := [], harness := (true, "480bb74a104ca5a60da1bc000332ae50f174edc2b9ad9c9d6261c20aa0b0036a"), looks := false }, kinds := [], alts := [], laidByText := true, laidKinds := [.data], laidTests := true, laidLooks := .later }
def FnTreeRingsCardSaid : Prop := Claim7.holds Tryd.pinned (.plain (OpenSpec.ofChange fnTreeRingsSpec)) fnTreeRingsCard

/-- THE SECOND FORM's CARD OF 'laws.FnTreeOf'. -/
def fnTreeOfUptoCard : Claim7 := { stood := { row := fnTreeOfUptoRow, standIns := [], harness := (true, "480bb74a104ca5a60da1bc000332ae50f174edc2b9ad9c9d6261c20aa0b0036a"), looks := false }, kinds := [], alts := [], laidByText := true, laidKinds := [.data], laidTests := true, laidLooks := .later }
def FnTreeOfUptoCardSaid : Prop := Claim7.holds Tryd.pinned (.plain (OpenSpec.upto fnTreeOfSpec)) fnTreeOfUptoCard

/-- THE SECOND FORM's CARD OF 'laws.FnTreeFirst'. -/
def fnTreeFirstUptoCard : Claim7 := { stood := { row := fnTreeFirstUptoRow, standIns := [], harness := (true, "480bb74a104ca5a60da1bc000332ae50f174edc2b9ad9c9d6261c20aa0b0036a"), looks := false }, kinds := [], alts := [], laidByText := true, laidKinds := [.data], laidTests := true, laidLooks := .later }
def FnTreeFirstUptoCardSaid : Prop := Claim7.holds Tryd.pinned (.plain (OpenSpec.upto fnTreeFirstSpec)) fnTreeFirstUptoCard

/-- THE SECOND FORM's CARD OF 'laws.FnTreeSwap'. -/
def fnTreeSwapUptoCard : Claim7 := { stood := { row := fnTreeSwapUptoRow, standIns := [], harness := (true, "480bb74a104ca5a60da1bc000332ae50f174edc2b9ad9c9d6261c20aa0b0036a"), looks := false }, kinds := [], alts := [], laidByText := true, laidKinds := [.data], laidTests := true, laidLooks := .later }
def FnTreeSwapUptoCardSaid : Prop := Claim7.holds Tryd.pinned (.plain (OpenSpec.upto fnTreeSwapSpec)) fnTreeSwapUptoCard

/-- THE SECOND FORM's CARD OF 'laws.FnTreeRings'. -/
def fnTreeRingsUptoCard : Claim7 := { stood := { row := fnTreeRingsUptoRow, standIns := [], harness := (true, "480bb74a104ca5a60da1bc000332ae50f174edc2b9ad9c9d6261c20aa0b0036a"), looks := false }, kinds := [], alts := [], laidByText := true, laidKinds := [.data], laidTests := true, laidLooks := .later }
def FnTreeRingsUptoCardSaid : Prop := Claim7.holds Tryd.pinned (.plain (OpenSpec.upto fnTreeRingsSpec)) fnTreeRingsUptoCard
end Rows
end Go.Proofs.YtnnjdhkokgiocaaDoor
