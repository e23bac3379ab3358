/-
  DERIVED. GIVEN WITH THE SEED: THE CARDS: each row of YtcmnjohhffalgaaDoorRows.lean that lists a variable, with what it lists TIED to the program's text (the seventh form; the later family's looks); each row that meets fmt, with fmt's text TOLD by the authors' own Lean function (tested against real Go, not proved from fmt's source: count such statements apart). THE CARD IS WHAT COUNTS. Prove the row's statement (the work); the ties are given (YtcmnjohhffalgaaDoorTie.lean); close each card by the builder's one call (the guide's Derived/Test/ToyasCard.lean, 'card_holds'). Laid BY PROGRAM, IN A SANDBOX (cutbox-door.mjs). By AI agents, Wed Nov 11 2026. No macro, syntax, notation, axiom, sorry.
-/
import Derived.Test.YtcmnjohhffalgaaDoorRows
import GoSem.ClaimSeven
namespace Go.Proofs.YtcmnjohhffalgaaDoor
namespace Rows

/-- THE TIED CARD OF 'laws.FnWayReach'. -/
def fnWayReachCard : Claim7 := { stood := { row := fnWayReachRow, standIns := [], harness := (true, "2bc1bd270132655a14f621e19339c75d1a9d9e91ae7a09f4511a0afc9e3b844d"), looks := false }, kinds := [], alts := [], laidByText := true, laidKinds := [.data], laidTests := true, laidLooks := .later }
def FnWayReachCardSaid : Prop := Claim7.holds Tryd.pinned (.plain (OpenSpec.ofChange fnWayReachSpec)) fnWayReachCard

/-- THE TIED CARD OF 'laws.FnWayOn'. -/
def fnWayOnCard : Claim7 := { stood := { row := fnWayOnRow, standIns := [], harness := (true, "2bc1bd270132655a14f621e19339c75d1a9d9e91ae7a09f4511a0afc9e3b844d"), looks := false }, kinds := [], alts := [], laidByText := true, laidKinds := [.data], laidTests := true, laidLooks := .later }
def FnWayOnCardSaid : Prop := Claim7.holds Tryd.pinned (.plain (OpenSpec.ofChange fnWayOnSpec)) fnWayOnCard

/-- THE TIED CARD OF 'laws.FnWayParts'. -/
def fnWayPartsCard : Claim7 := { stood := { row := fnWayPartsRow, standIns := [], harness := (true, "2bc1bd270132655a14f621e19339c75d1a9d9e91ae7a09f4511a0afc9e3b844d"), looks := false }, kinds := [], alts := [], laidByText := true, laidKinds := [.data], laidTests := true, laidLooks := .later }
def FnWayPartsCardSaid : Prop := Claim7.holds Tryd.pinned (.plain (OpenSpec.ofChange fnWayPartsSpec)) fnWayPartsCard

/-- THE TIED CARD OF 'laws.FnWayCount'. -/
def fnWayCountCard : Claim7 := { stood := { row := fnWayCountRow, standIns := [], harness := (true, "2bc1bd270132655a14f621e19339c75d1a9d9e91ae7a09f4511a0afc9e3b844d"), looks := false }, kinds := [], alts := [], laidByText := true, laidKinds := [.data], laidTests := true, laidLooks := .later }
def FnWayCountCardSaid : Prop := Claim7.holds Tryd.pinned (.plain (OpenSpec.ofChange fnWayCountSpec)) fnWayCountCard

/-- THE TIED CARD OF 'laws.FnWayTie'. -/
def fnWayTieCard : Claim7 := { stood := { row := fnWayTieRow, standIns := [], harness := (true, "2bc1bd270132655a14f621e19339c75d1a9d9e91ae7a09f4511a0afc9e3b844d"), looks := false }, kinds := [], alts := [], laidByText := true, laidKinds := [.data], laidTests := true, laidLooks := .later }
def FnWayTieCardSaid : Prop := Claim7.holds Tryd.pinned (.plain (OpenSpec.ofChange fnWayTieSpec)) fnWayTieCard

/-- THE TIED CARD OF 'laws.FnWayCut'. -/
def fnWayCutCard : Claim7 := { stood := { row := fnWayCutRow, standIns := [], harness := (true, "2bc1bd270132655a14f621e19339c75d1a9d9e91ae7a09f4511a0afc9e3b844d"), looks := false }, kinds := [], alts := [], laidByText := true, laidKinds := [.data], laidTests := true, laidLooks := .later }
def FnWayCutCardSaid : Prop := Claim7.holds Tryd.pinned (.plain (OpenSpec.ofChange fnWayCutSpec)) fnWayCutCard

/-- THE SECOND FORM's CARD OF 'laws.FnWayReach'. -/
def fnWayReachUptoCard : Claim7 := { stood := { row := fnWayReachUptoRow, standIns := [], harness := (true, "2bc1bd270132655a14f621e19339c75d1a9d9e91ae7a09f4511a0afc9e3b844d"), looks := false }, kinds := [], alts := [], laidByText := true, laidKinds := [.data], laidTests := true, laidLooks := .later }
def FnWayReachUptoCardSaid : Prop := Claim7.holds Tryd.pinned (.plain (OpenSpec.upto fnWayReachSpec)) fnWayReachUptoCard

/-- THE SECOND FORM's CARD OF 'laws.FnWayOn'. -/
def fnWayOnUptoCard : Claim7 := { stood := { row := fnWayOnUptoRow, standIns := [], harness := (true, "2bc1bd270132655a14f621e19339c75d1a9d9e91ae7a09f4511a0afc9e3b844d"), looks := false }, kinds := [], alts := [], laidByText := true, laidKinds := [.data], laidTests := true, laidLooks := .later }
def FnWayOnUptoCardSaid : Prop := Claim7.holds Tryd.pinned (.plain (OpenSpec.upto fnWayOnSpec)) fnWayOnUptoCard

/-- THE SECOND FORM's CARD OF 'laws.FnWayParts'. -/
def fnWayPartsUptoCard : Claim7 := { stood := { row := fnWayPartsUptoRow, standIns := [], harness := (true, "2bc1bd270132655a14f621e19339c75d1a9d9e91ae7a09f4511a0afc9e3b844d"), looks := false }, kinds := [], alts := [], laidByText := true, laidKinds := [.data], laidTests := true, laidLooks := .later }
def FnWayPartsUptoCardSaid : Prop := Claim7.holds Tryd.pinned (.plain (OpenSpec.upto fnWayPartsSpec)) fnWayPartsUptoCard

/-- THE SECOND FORM's CARD OF 'laws.FnWayCount'. -/
def fnWayCountUptoCard : Claim7 := { stood := { row := fnWayCountUptoRow, standIns := [], harness := (true, "2bc1bd270132655a14f621e19339c75d1a9d9e91ae7a09f4511a0afc9e3b844d"), looks := false }, kinds := [], alts := [], laidByText := true, laidKinds := [.data], laidTests := true, laidLooks := .later }
def FnWayCountUptoCardSaid : Prop := Claim7.holds Tryd.pinned (.plain (OpenSpec.upto fnWayCountSpec)) fnWayCountUptoCard

/-- THE SECOND FORM's CARD OF 'laws.FnWayTie'. -/
def fnWayTieUptoCard : Claim7 := { stood := { row := fnWayTieUptoRow, standIns := [], harness := (true, "2bc1bd270132655a14f621e19339c75d1a9d9e91ae7a09f4511a0afc9e3b844d"), looks := false }, kinds := [], alts := [], laidByText := true, laidKinds := [.data], laidTests := true, laidLooks := .later }
def FnWayTieUptoCardSaid : Prop := Claim7.holds Tryd.pinned (.plain (OpenSpec.upto fnWayTieSpec)) fnWayTieUptoCard

/-- THE SECOND FORM's CARD OF 'laws.FnWayCut'. -/
def fnWayCutUptoCard : Claim7 := { stood := { row := fnWayCutUptoRow, standIns := [], harness := (true, "2bc1bd270132655a14f621e19339c75d1a9d9e91ae7a09f4511a0afc9e3b844d"), looks := false }, kinds := [], alts := [], laidByText := true, laidKinds := [.data], laidTests := true, laidLooks := .later }
def FnWayCutUptoCardSaid : Prop := Claim7.holds Tryd.pinned (.plain (OpenSpec.upto fnWayCutSpec)) fnWayCutUptoCard
end Rows
end Go.Proofs.YtcmnjohhffalgaaDoor
