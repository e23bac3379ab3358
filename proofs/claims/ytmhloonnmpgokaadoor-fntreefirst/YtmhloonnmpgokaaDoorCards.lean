/-
  DERIVED. GIVEN WITH THE SEED: THE CARDS: each row of YtmhloonnmpgokaaDoorRows.lean that lists a variable, with what it lists TIED to the program's text (the seventh form; the later family's looks); each row that meets fmt, with fmt's text TOLD by the authors' own Lean function (tested against real Go, not proved from fmt's source: count such statements apart). THE CARD IS WHAT COUNTS. Prove the row's statement (the work); the ties are given (YtmhloonnmpgokaaDoorTie.lean); close each card by the builder's one call (the guide's Derived/Test/ToyasCard.lean, 'card_holds'). Laid BY PROGRAM, IN A SANDBOX (cutbox-door.mjs). By AI agents, Wed Nov 11 2026. No macro, syntax, notation, axiom, sorry.
-/
import Derived.Test.YtmhloonnmpgokaaDoorRows
import GoSem.ClaimSeven
namespace Go.Proofs.YtmhloonnmpgokaaDoor
namespace Rows

/-- THE TIED CARD OF 'laws.FnTreeOk'. -/
def fnTreeOkCard : Claim7 := { stood := { row := fnTreeOkRow, standIns := [], harness := (true, "ec617b256b04be908e2231c05a9e80a255ae095a8edfa7307084f59b30eb8805"), looks := false }, kinds := [], alts := [], laidByText := true, laidKinds := [.data], laidTests := true, laidLooks := .later }
def FnTreeOkCardSaid : Prop := Claim7.holds Tryd.pinned (.plain (OpenSpec.ofChange fnTreeOkSpec)) fnTreeOkCard

/-- THE TIED CARD OF 'laws.FnTreeFirst'. -/
def fnTreeFirstCard : Claim7 := { stood := { row := fnTreeFirstRow, standIns := [], harness := (true, "ec617b256b04be908e2231c05a9e80a255ae095a8edfa7307084f59b30eb8805"), looks := false }, kinds := [], alts := [], laidByText := true, laidKinds := [.data], laidTests := true, laidLooks := .later }
def FnTreeFirstCardSaid : Prop := Claim7.holds Tryd.pinned (.plain (OpenSpec.ofChange fnTreeFirstSpec)) fnTreeFirstCard

/-- THE SECOND FORM's CARD OF 'laws.FnTreeOk'. -/
def fnTreeOkUptoCard : Claim7 := { stood := { row := fnTreeOkUptoRow, standIns := [], harness := (true, "ec617b256b04be908e2231c05a9e80a255ae095a8edfa7307084f59b30eb8805"), looks := false }, kinds := [], alts := [], laidByText := true, laidKinds := [.data], laidTests := true, laidLooks := .later }
def FnTreeOkUptoCardSaid : Prop := Claim7.holds Tryd.pinned (.plain (OpenSpec.upto fnTreeOkSpec)) fnTreeOkUptoCard

/-- THE SECOND FORM's CARD OF 'laws.FnTreeFirst'. -/
def fnTreeFirstUptoCard : Claim7 := { stood := { row := fnTreeFirstUptoRow, standIns := [], harness := (true, "ec617b256b04be908e2231c05a9e80a255ae095a8edfa7307084f59b30eb8805"), looks := false }, kinds := [], alts := [], laidByText := true, laidKinds := [.data], laidTests := true, laidLooks := .later }
def FnTreeFirstUptoCardSaid : Prop := Claim7.holds Tryd.pinned (.plain (OpenSpec.upto fnTreeFirstSpec)) fnTreeFirstUptoCard
end Rows
end Go.Proofs.YtmhloonnmpgokaaDoor
