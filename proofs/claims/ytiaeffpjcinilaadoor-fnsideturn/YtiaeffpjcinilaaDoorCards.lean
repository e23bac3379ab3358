/-
  DERIVED. GIVEN WITH THE SEED: THE CARDS: each row of YtiaeffpjcinilaaDoorRows.lean that lists a variable, with what it lists TIED to the program's text (the seventh form; the later family's looks); each row that meets fmt, with fmt's text TOLD by the authors' own Lean function (tested against real Go, not proved from fmt's source: count such statements apart). THE CARD IS WHAT COUNTS. Prove the row's statement (the work); the ties are given (YtiaeffpjcinilaaDoorTie.lean); close each card by the builder's one call (the guide's Derived/Test/ToyasCard.lean, 'card_holds'). Laid BY PROGRAM, IN A SANDBOX (cutbox-door.mjs). By AI agents, Wed Nov 11 2026. No macro, syntax, notation, axiom, sorry.
-/
import Derived.Test.YtiaeffpjcinilaaDoorRows
import GoSem.ClaimSeven
namespace Go.Proofs.YtiaeffpjcinilaaDoor
namespace Rows

/-- THE TIED CARD OF 'laws.FnSideOf'. -/
def fnSideOfCard : Claim7 := { stood := { row := fnSideOfRow, standIns := [], harness := (true, "b15e93256cc7c309088a9abcdc4fe591b0438fba0f9edcd27ed521783aad2b62"), looks := false }, kinds := [], alts := [], laidByText := true, laidKinds := [.data], laidTests := true, laidLooks := .later }
def FnSideOfCardSaid : Prop := Claim7.holds Tryd.pinned (.plain (OpenSpec.ofChange fnSideOfSpec)) fnSideOfCard

/-- THE TIED CARD OF 'laws.FnSideTop'. -/
def fnSideTopCard : Claim7 := { stood := { row := fnSideTopRow, standIns := [], harness := (true, "b15e93256cc7c309088a9abcdc4fe591b0438fba0f9edcd27ed521783aad2b62"), looks := false }, kinds := [], alts := [], laidByText := true, laidKinds := [.data], laidTests := true, laidLooks := .later }
def FnSideTopCardSaid : Prop := Claim7.holds Tryd.pinned (.plain (OpenSpec.ofChange fnSideTopSpec)) fnSideTopCard

/-- THE TIED CARD OF 'laws.FnSideOdd'. -/
def fnSideOddCard : Claim7 := { stood := { row := fnSideOddRow, standIns := [], harness := (true, "b15e93256cc7c309088a9abcdc4fe591b0438fba0f9edcd27ed521783aad2b62"), looks := false }, kinds := [], alts := [], laidByText := true, laidKinds := [.data], laidTests := true, laidLooks := .later }
def FnSideOddCardSaid : Prop := Claim7.holds Tryd.pinned (.plain (OpenSpec.ofChange fnSideOddSpec)) fnSideOddCard

/-- THE TIED CARD OF 'laws.FnSideTurn'. -/
def fnSideTurnCard : Claim7 := { stood := { row := fnSideTurnRow, standIns := [], harness := (true, "b15e93256cc7c309088a9abcdc4fe591b0438fba0f9edcd27ed521783aad2b62"), looks := false }, kinds := [], alts := [], laidByText := true, laidKinds := [.data], laidTests := true, laidLooks := .later }
def FnSideTurnCardSaid : Prop := Claim7.holds Tryd.pinned (.plain (OpenSpec.ofChange fnSideTurnSpec)) fnSideTurnCard

/-- THE TIED CARD OF 'laws.FnSideOnly'. -/
def fnSideOnlyCard : Claim7 := { stood := { row := fnSideOnlyRow, standIns := [], harness := (true, "b15e93256cc7c309088a9abcdc4fe591b0438fba0f9edcd27ed521783aad2b62"), looks := false }, kinds := [], alts := [], laidByText := true, laidKinds := [.data], laidTests := true, laidLooks := .later }
def FnSideOnlyCardSaid : Prop := Claim7.holds Tryd.pinned (.plain (OpenSpec.ofChange fnSideOnlySpec)) fnSideOnlyCard

/-- THE TIED CARD OF 'laws.FnSideLess'. -/
def fnSideLessCard : Claim7 := { stood := { row := fnSideLessRow, standIns := [], harness := (true, "b15e93256cc7c309088a9abcdc4fe591b0438fba0f9edcd27ed521783aad2b62"), looks := false }, kinds := [], alts := [], laidByText := true, laidKinds := [.data], laidTests := true, laidLooks := .later }
def FnSideLessCardSaid : Prop := Claim7.holds Tryd.pinned (.plain (OpenSpec.ofChange fnSideLessSpec)) fnSideLessCard

/-- THE TIED CARD OF 'laws.FnSideTree'. -/
def fnSideTreeCard : Claim7 := { stood := { row := fnSideTreeRow, standIns := [], harness := (true, "b15e93256cc7c309088a9abcdc4fe591b0438fba0f9edcd27ed521783aad2b62"), looks := false }, kinds := [], alts := [], laidByText := true, laidKinds := [.data], laidTests := true, laidLooks := .later }
def FnSideTreeCardSaid : Prop := Claim7.holds Tryd.pinned (.plain (OpenSpec.ofChange fnSideTreeSpec)) fnSideTreeCard

/-- THE TIED CARD OF 'laws.FnSideEven'. -/
def fnSideEvenCard : Claim7 := { stood := { row := fnSideEvenRow, standIns := [], harness := (true, "b15e93256cc7c309088a9abcdc4fe591b0438fba0f9edcd27ed521783aad2b62"), looks := false }, kinds := [], alts := [], laidByText := true, laidKinds := [.data], laidTests := true, laidLooks := .later }
def FnSideEvenCardSaid : Prop := Claim7.holds Tryd.pinned (.plain (OpenSpec.ofChange fnSideEvenSpec)) fnSideEvenCard

/-- THE TIED CARD OF 'laws.FnExactSideOf'. -/
def fnExactSideOfCard : Claim7 := { stood := { row := fnExactSideOfRow, standIns := [], harness := (true, "b15e93256cc7c309088a9abcdc4fe591b0438fba0f9edcd27ed521783aad2b62"), looks := false }, kinds := [], alts := [], laidByText := true, laidKinds := [.data], laidTests := true, laidLooks := .later }
def FnExactSideOfCardSaid : Prop := Claim7.holds Tryd.pinned (.plain (OpenSpec.ofChange fnExactSideOfSpec)) fnExactSideOfCard

/-- THE TIED CARD OF 'laws.FnExactSideOk'. -/
def fnExactSideOkCard : Claim7 := { stood := { row := fnExactSideOkRow, standIns := [], harness := (true, "b15e93256cc7c309088a9abcdc4fe591b0438fba0f9edcd27ed521783aad2b62"), looks := false }, kinds := [], alts := [], laidByText := true, laidKinds := [.data], laidTests := true, laidLooks := .later }
def FnExactSideOkCardSaid : Prop := Claim7.holds Tryd.pinned (.plain (OpenSpec.ofChange fnExactSideOkSpec)) fnExactSideOkCard

/-- THE TIED CARD OF 'laws.FnExactSideOdd'. -/
def fnExactSideOddCard : Claim7 := { stood := { row := fnExactSideOddRow, standIns := [], harness := (true, "b15e93256cc7c309088a9abcdc4fe591b0438fba0f9edcd27ed521783aad2b62"), looks := false }, kinds := [], alts := [], laidByText := true, laidKinds := [.data], laidTests := true, laidLooks := .later }
def FnExactSideOddCardSaid : Prop := Claim7.holds Tryd.pinned (.plain (OpenSpec.ofChange fnExactSideOddSpec)) fnExactSideOddCard

/-- THE SECOND FORM's CARD OF 'laws.FnSideOf'. -/
def fnSideOfUptoCard : Claim7 := { stood := { row := fnSideOfUptoRow, standIns := [], harness := (true, "b15e93256cc7c309088a9abcdc4fe591b0438fba0f9edcd27ed521783aad2b62"), looks := false }, kinds := [], alts := [], laidByText := true, laidKinds := [.data], laidTests := true, laidLooks := .later }
def FnSideOfUptoCardSaid : Prop := Claim7.holds Tryd.pinned (.plain (OpenSpec.upto fnSideOfSpec)) fnSideOfUptoCard

/-- THE SECOND FORM's CARD OF 'laws.FnSideTop'. -/
def fnSideTopUptoCard : Claim7 := { stood := { row := fnSideTopUptoRow, standIns := [], harness := (true, "b15e93256cc7c309088a9abcdc4fe591b0438fba0f9edcd27ed521783aad2b62"), looks := false }, kinds := [], alts := [], laidByText := true, laidKinds := [.data], laidTests := true, laidLooks := .later }
def FnSideTopUptoCardSaid : Prop := Claim7.holds Tryd.pinned (.plain (OpenSpec.upto fnSideTopSpec)) fnSideTopUptoCard

/-- THE SECOND FORM's CARD OF 'laws.FnSideOdd'. -/
def fnSideOddUptoCard : Claim7 := { stood := { row := fnSideOddUptoRow, standIns := [], harness := (true, "b15e93256cc7c309088a9abcdc4fe591b0438fba0f9edcd27ed521783aad2b62"), looks := false }, kinds := [], alts := [], laidByText := true, laidKinds := [.data], laidTests := true, laidLooks := .later }
def FnSideOddUptoCardSaid : Prop := Claim7.holds Tryd.pinned (.plain (OpenSpec.upto fnSideOddSpec)) fnSideOddUptoCard

/-- THE SECOND FORM's CARD OF 'laws.FnSideTurn'. -/
def fnSideTurnUptoCard : Claim7 := { stood := { row := fnSideTurnUptoRow, standIns := [], harness := (true, "b15e93256cc7c309088a9abcdc4fe591b0438fba0f9edcd27ed521783aad2b62"), looks := false }, kinds := [], alts := [], laidByText := true, laidKinds := [.data], laidTests := true, laidLooks := .later }
def FnSideTurnUptoCardSaid : Prop := Claim7.holds Tryd.pinned (.plain (OpenSpec.upto fnSideTurnSpec)) fnSideTurnUptoCard

/-- THE SECOND FORM's CARD OF 'laws.FnSideOnly'. -/
def fnSideOnlyUptoCard : Claim7 := { stood := { row := fnSideOnlyUptoRow, standIns := [], harness := (true, "b15e93256cc7c309088a9abcdc4fe591b0438fba0f9edcd27ed521783aad2b62"), looks := false }, kinds := [], alts := [], laidByText := true, laidKinds := [.data], laidTests := true, laidLooks := .later }
def FnSideOnlyUptoCardSaid : Prop := Claim7.holds Tryd.pinned (.plain (OpenSpec.upto fnSideOnlySpec)) fnSideOnlyUptoCard

/-- THE SECOND FORM's CARD OF 'laws.FnSideLess'. -/
def fnSideLessUptoCard : Claim7 := { stood := { row := fnSideLessUptoRow, standIns := [], harness := (true, "b15e93256cc7c309088a9abcdc4fe591b0438fba0f9edcd27ed521783aad2b62"), looks := false }, kinds := [], alts := [], laidByText := true, laidKinds := [.data], laidTests := true, laidLooks := .later }
def FnSideLessUptoCardSaid : Prop := Claim7.holds Tryd.pinned (.plain (OpenSpec.upto fnSideLessSpec)) fnSideLessUptoCard

/-- THE SECOND FORM's CARD OF 'laws.FnSideTree'. -/
def fnSideTreeUptoCard : Claim7 := { stood := { row := fnSideTreeUptoRow, standIns := [], harness := (true, "b15e93256cc7c309088a9abcdc4fe591b0438fba0f9edcd27ed521783aad2b62"), looks := false }, kinds := [], alts := [], laidByText := true, laidKinds := [.data], laidTests := true, laidLooks := .later }
def FnSideTreeUptoCardSaid : Prop := Claim7.holds Tryd.pinned (.plain (OpenSpec.upto fnSideTreeSpec)) fnSideTreeUptoCard

/-- THE SECOND FORM's CARD OF 'laws.FnSideEven'. -/
def fnSideEvenUptoCard : Claim7 := { stood := { row := fnSideEvenUptoRow, standIns := [], harness := (true, "b15e93256cc7c309088a9abcdc4fe591b0438fba0f9edcd27ed521783aad2b62"), looks := false }, kinds := [], alts := [], laidByText := true, laidKinds := [.data], laidTests := true, laidLooks := .later }
def FnSideEvenUptoCardSaid : Prop := Claim7.holds Tryd.pinned (.plain (OpenSpec.upto fnSideEvenSpec)) fnSideEvenUptoCard

/-- THE SECOND FORM's CARD OF 'laws.FnExactSideOf'. -/
def fnExactSideOfUptoCard : Claim7 := { stood := { row := fnExactSideOfUptoRow, standIns := [], harness := (true, "b15e93256cc7c309088a9abcdc4fe591b0438fba0f9edcd27ed521783aad2b62"), looks := false }, kinds := [], alts := [], laidByText := true, laidKinds := [.data], laidTests := true, laidLooks := .later }
def FnExactSideOfUptoCardSaid : Prop := Claim7.holds Tryd.pinned (.plain (OpenSpec.upto fnExactSideOfSpec)) fnExactSideOfUptoCard

/-- THE SECOND FORM's CARD OF 'laws.FnExactSideOk'. -/
def fnExactSideOkUptoCard : Claim7 := { stood := { row := fnExactSideOkUptoRow, standIns := [], harness := (true, "b15e93256cc7c309088a9abcdc4fe591b0438fba0f9edcd27ed521783aad2b62"), looks := false }, kinds := [], alts := [], laidByText := true, laidKinds := [.data], laidTests := true, laidLooks := .later }
def FnExactSideOkUptoCardSaid : Prop := Claim7.holds Tryd.pinned (.plain (OpenSpec.upto fnExactSideOkSpec)) fnExactSideOkUptoCard

/-- THE SECOND FORM's CARD OF 'laws.FnExactSideOdd'. -/
def fnExactSideOddUptoCard : Claim7 := { stood := { row := fnExactSideOddUptoRow, standIns := [], harness := (true, "b15e93256cc7c309088a9abcdc4fe591b0438fba0f9edcd27ed521783aad2b62"), looks := false }, kinds := [], alts := [], laidByText := true, laidKinds := [.data], laidTests := true, laidLooks := .later }
def FnExactSideOddUptoCardSaid : Prop := Claim7.holds Tryd.pinned (.plain (OpenSpec.upto fnExactSideOddSpec)) fnExactSideOddUptoCard
end Rows
end Go.Proofs.YtiaeffpjcinilaaDoor
