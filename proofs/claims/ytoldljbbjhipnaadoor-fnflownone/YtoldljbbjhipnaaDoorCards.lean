/-
  DERIVED. GIVEN WITH THE SEED: THE CARDS: each row of YtoldljbbjhipnaaDoorRows.lean that lists a variable, with what it lists TIED to the program's text (the seventh form; the later family's looks); each row that meets fmt, with fmt's text TOLD by the authors' own Lean function (tested against real Go, not proved from fmt's source: count such statements apart). THE CARD IS WHAT COUNTS. Prove the row's statement (the work); the ties are given (YtoldljbbjhipnaaDoorTie.lean); close each card by the builder's one call (the guide's Derived/Test/ToyasCard.lean, 'card_holds'). Laid BY PROGRAM, IN A SANDBOX (cutbox-door.mjs). By AI agents, Wed Nov 11 2026. No macro, syntax, notation, axiom, sorry.
-/
import Derived.Test.YtoldljbbjhipnaaDoorRows
import GoSem.ClaimSeven
namespace Go.Proofs.YtoldljbbjhipnaaDoor
namespace Rows

/-- THE TIED CARD OF 'laws.FnFlowTie'. -/
def fnFlowTieCard : Claim7 := { stood := { row := fnFlowTieRow, standIns := [], harness := (true, "6cdb6322595867cab6bd20dc58e20817001ccaaf3e1f63d0af3179b6116521dc"), looks := false }, kinds := [], alts := [], laidByText := true, laidKinds := [.data], laidTests := true, laidLooks := .later }
def FnFlowTieCardSaid : Prop := Claim7.holds Tryd.pinned (.plain (OpenSpec.ofChange fnFlowTieSpec)) fnFlowTieCard

/-- THE TIED CARD OF 'laws.FnFlowBridge'. -/
def fnFlowBridgeCard : Claim7 := { stood := { row := fnFlowBridgeRow, standIns := [], harness := (true, "6cdb6322595867cab6bd20dc58e20817001ccaaf3e1f63d0af3179b6116521dc"), looks := false }, kinds := [], alts := [], laidByText := true, laidKinds := [.data], laidTests := true, laidLooks := .later }
def FnFlowBridgeCardSaid : Prop := Claim7.holds Tryd.pinned (.plain (OpenSpec.ofChange fnFlowBridgeSpec)) fnFlowBridgeCard

/-- THE TIED CARD OF 'laws.FnFlowFew'. -/
def fnFlowFewCard : Claim7 := { stood := { row := fnFlowFewRow, standIns := [], harness := (true, "6cdb6322595867cab6bd20dc58e20817001ccaaf3e1f63d0af3179b6116521dc"), looks := false }, kinds := [], alts := [], laidByText := true, laidKinds := [.data], laidTests := true, laidLooks := .later }
def FnFlowFewCardSaid : Prop := Claim7.holds Tryd.pinned (.plain (OpenSpec.ofChange fnFlowFewSpec)) fnFlowFewCard

/-- THE TIED CARD OF 'laws.FnFlowNone'. -/
def fnFlowNoneCard : Claim7 := { stood := { row := fnFlowNoneRow, standIns := [], harness := (true, "6cdb6322595867cab6bd20dc58e20817001ccaaf3e1f63d0af3179b6116521dc"), looks := false }, kinds := [], alts := [], laidByText := true, laidKinds := [.data], laidTests := true, laidLooks := .later }
def FnFlowNoneCardSaid : Prop := Claim7.holds Tryd.pinned (.plain (OpenSpec.ofChange fnFlowNoneSpec)) fnFlowNoneCard

/-- THE TIED CARD OF 'laws.FnFlowCutTie'. -/
def fnFlowCutTieCard : Claim7 := { stood := { row := fnFlowCutTieRow, standIns := [], harness := (true, "6cdb6322595867cab6bd20dc58e20817001ccaaf3e1f63d0af3179b6116521dc"), looks := false }, kinds := [], alts := [], laidByText := true, laidKinds := [.data], laidTests := true, laidLooks := .later }
def FnFlowCutTieCardSaid : Prop := Claim7.holds Tryd.pinned (.plain (OpenSpec.ofChange fnFlowCutTieSpec)) fnFlowCutTieCard

/-- THE SECOND FORM's CARD OF 'laws.FnFlowTie'. -/
def fnFlowTieUptoCard : Claim7 := { stood := { row := fnFlowTieUptoRow, standIns := [], harness := (true, "6cdb6322595867cab6bd20dc58e20817001ccaaf3e1f63d0af3179b6116521dc"), looks := false }, kinds := [], alts := [], laidByText := true, laidKinds := [.data], laidTests := true, laidLooks := .later }
def FnFlowTieUptoCardSaid : Prop := Claim7.holds Tryd.pinned (.plain (OpenSpec.upto fnFlowTieSpec)) fnFlowTieUptoCard

/-- THE SECOND FORM's CARD OF 'laws.FnFlowBridge'. -/
def fnFlowBridgeUptoCard : Claim7 := { stood := { row := fnFlowBridgeUptoRow, standIns := [], harness := (true, "6cdb6322595867cab6bd20dc58e20817001ccaaf3e1f63d0af3179b6116521dc"), looks := false }, kinds := [], alts := [], laidByText := true, laidKinds := [.data], laidTests := true, laidLooks := .later }
def FnFlowBridgeUptoCardSaid : Prop := Claim7.holds Tryd.pinned (.plain (OpenSpec.upto fnFlowBridgeSpec)) fnFlowBridgeUptoCard

/-- THE SECOND FORM's CARD OF 'laws.FnFlowFew'. -/
def fnFlowFewUptoCard : Claim7 := { stood := { row := fnFlowFewUptoRow, standIns := [], harness := (true, "6cdb6322595867cab6bd20dc58e20817001ccaaf3e1f63d0af3179b6116521dc"), looks := false }, kinds := [], alts := [], laidByText := true, laidKinds := [.data], laidTests := true, laidLooks := .later }
def FnFlowFewUptoCardSaid : Prop := Claim7.holds Tryd.pinned (.plain (OpenSpec.upto fnFlowFewSpec)) fnFlowFewUptoCard

/-- THE SECOND FORM's CARD OF 'laws.FnFlowNone'. -/
def fnFlowNoneUptoCard : Claim7 := { stood := { row := fnFlowNoneUptoRow, standIns := [], harness := (true, "6cdb6322595867cab6bd20dc58e20817001ccaaf3e1f63d0af3179b6116521dc"), looks := false }, kinds := [], alts := [], laidByText := true, laidKinds := [.data], laidTests := true, laidLooks := .later }
def FnFlowNoneUptoCardSaid : Prop := Claim7.holds Tryd.pinned (.plain (OpenSpec.upto fnFlowNoneSpec)) fnFlowNoneUptoCard

/-- THE SECOND FORM's CARD OF 'laws.FnFlowCutTie'. -/
def fnFlowCutTieUptoCard : Claim7 := { stood := { row := fnFlowCutTieUptoRow, standIns := [], harness := (true, "6cdb6322595867cab6bd20dc58e20817001ccaaf3e1f63d0af3179b6116521dc"), looks := false }, kinds := [], alts := [], laidByText := true, laidKinds := [.data], laidTests := true, laidLooks := .later }
def FnFlowCutTieUptoCardSaid : Prop := Claim7.holds Tryd.pinned (.plain (OpenSpec.upto fnFlowCutTieSpec)) fnFlowCutTieUptoCard
end Rows
end Go.Proofs.YtoldljbbjhipnaaDoor
