/-
  DERIVED. GIVEN WITH THE SEED: THE CARDS: each row of YtljnjpjnadlmhaaDoorRows.lean that lists a variable, with what it lists TIED to the program's text (the seventh form; the later family's looks); each row that meets fmt, with fmt's text TOLD by the authors' own Lean function (tested against real Go, not proved from fmt's source: count such statements apart). THE CARD IS WHAT COUNTS. Prove the row's statement (the work); the ties are given (YtljnjpjnadlmhaaDoorTie.lean); close each card by the builder's one call (the guide's Derived/Test/ToyasCard.lean, 'card_holds'). Laid BY PROGRAM, IN A SANDBOX (cutbox-door.mjs). By AI agents, Wed Nov 11 2026. No macro, syntax, notation, axiom, sorry.
-/
import Derived.Test.YtljnjpjnadlmhaaDoorRows
import GoSem.ClaimSeven
namespace Go.Proofs.YtljnjpjnadlmhaaDoor
namespace Rows

/-- THE TIED CARD OF 'laws.FnFlowTop'. -/
def fnFlowTopCard : Claim7 := { stood := { row := fnFlowTopRow, standIns := [], harness := (true, "aabda91bb98339ddd6136e9015b09e0ce2f6d8901aa06ba32607a61e27506320"), looks := false }, kinds := [], alts := [], laidByText := true, laidKinds := [.data], laidTests := true, laidLooks := .later }
def FnFlowTopCardSaid : Prop := Claim7.holds Tryd.pinned (.plain (OpenSpec.ofChange fnFlowTopSpec)) fnFlowTopCard

/-- THE TIED CARD OF 'laws.FnFlowParts'. -/
def fnFlowPartsCard : Claim7 := { stood := { row := fnFlowPartsRow, standIns := [], harness := (true, "aabda91bb98339ddd6136e9015b09e0ce2f6d8901aa06ba32607a61e27506320"), looks := false }, kinds := [], alts := [], laidByText := true, laidKinds := [.data], laidTests := true, laidLooks := .later }
def FnFlowPartsCardSaid : Prop := Claim7.holds Tryd.pinned (.plain (OpenSpec.ofChange fnFlowPartsSpec)) fnFlowPartsCard

/-- THE SECOND FORM's CARD OF 'laws.FnFlowTop'. -/
def fnFlowTopUptoCard : Claim7 := { stood := { row := fnFlowTopUptoRow, standIns := [], harness := (true, "aabda91bb98339ddd6136e9015b09e0ce2f6d8901aa06ba32607a61e27506320"), looks := false }, kinds := [], alts := [], laidByText := true, laidKinds := [.data], laidTests := true, laidLooks := .later }
def FnFlowTopUptoCardSaid : Prop := Claim7.holds Tryd.pinned (.plain (OpenSpec.upto fnFlowTopSpec)) fnFlowTopUptoCard

/-- THE SECOND FORM's CARD OF 'laws.FnFlowParts'. -/
def fnFlowPartsUptoCard : Claim7 := { stood := { row := fnFlowPartsUptoRow, standIns := [], harness := (true, "aabda91bb98339ddd6136e9015b09e0ce2f6d8901aa06ba32607a61e27506320"), looks := false }, kinds := [], alts := [], laidByText := true, laidKinds := [.data], laidTests := true, laidLooks := .later }
def FnFlowPartsUptoCardSaid : Prop := Claim7.holds Tryd.pinned (.plain (OpenSpec.upto fnFlowPartsSpec)) fnFlowPartsUptoCard
end Rows
end Go.Proofs.YtljnjpjnadlmhaaDoor
