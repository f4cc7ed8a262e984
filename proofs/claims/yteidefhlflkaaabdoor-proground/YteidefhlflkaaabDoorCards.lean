/-
  DERIVED. GIVEN WITH THE SEED: THE CARDS: each row of YteidefhlflkaaabDoorRows.lean that lists a variable, with what it lists TIED to the program's text (the seventh form; the later family's looks); each row that meets fmt, with fmt's text TOLD by the authors' own Lean function (tested against real Go, not proved from fmt's source: count such statements apart). THE CARD IS WHAT COUNTS. Prove the row's statement (the work); the ties are given (YteidefhlflkaaabDoorTie.lean); close each card by the builder's one call (the guide's Derived/Test/ToyasCard.lean, 'card_holds'). Laid BY PROGRAM, IN A SANDBOX (cutbox-door.mjs). By AI agents, Wed Nov 11 2026. No macro, syntax, notation, axiom, sorry.
-/
import Derived.Test.YteidefhlflkaaabDoorRows
import GoSem.ClaimSeven
namespace Go.Proofs.YteidefhlflkaaabDoor
namespace Rows

/-- THE TIED CARD OF 'plunderlaw5.ProgRound'. -/
def progRoundCard : Claim7 := { stood := { row := progRoundRow, standIns := [], harness := (true, "a0e7c83286dc96309dce7491aadefdcee75b5df65d5372288cad38534ab51094"), looks := true }, kinds := [], alts := [], laidByText := true, laidKinds := [.data, .data], laidTests := true, laidLooks := .later }
def ProgRoundCardSaid : Prop := Claim7.holds Tryd.pinned (.plain (OpenSpec.ofChange progRoundSpec)) progRoundCard

/-- THE TIED CARD OF 'plunderlaw5.ProgTrail'. -/
def progTrailCard : Claim7 := { stood := { row := progTrailRow, standIns := [], harness := (true, "a0e7c83286dc96309dce7491aadefdcee75b5df65d5372288cad38534ab51094"), looks := true }, kinds := [], alts := [], laidByText := true, laidKinds := [.data, .data], laidTests := true, laidLooks := .later }
def ProgTrailCardSaid : Prop := Claim7.holds Tryd.pinned (.plain (OpenSpec.ofChange progTrailSpec)) progTrailCard

/-- THE TIED CARD OF 'plunderlaw5.ProgFlow'. -/
def progFlowCard : Claim7 := { stood := { row := progFlowRow, standIns := [], harness := (true, "a0e7c83286dc96309dce7491aadefdcee75b5df65d5372288cad38534ab51094"), looks := true }, kinds := [], alts := [], laidByText := true, laidKinds := [.data, .data], laidTests := true, laidLooks := .later }
def ProgFlowCardSaid : Prop := Claim7.holds Tryd.pinned (.plain (OpenSpec.ofChange progFlowSpec)) progFlowCard

/-- THE TIED CARD OF 'plunderlaw5.ProgCheck'. -/
def progCheckCard : Claim7 := { stood := { row := progCheckRow, standIns := [], harness := (true, "a0e7c83286dc96309dce7491aadefdcee75b5df65d5372288cad38534ab51094"), looks := true }, kinds := [], alts := [], laidByText := true, laidKinds := [.data, .data], laidTests := true, laidLooks := .later }
def ProgCheckCardSaid : Prop := Claim7.holds Tryd.pinned (.plain (OpenSpec.ofChange progCheckSpec)) progCheckCard

/-- THE TIED CARD OF 'plunderlaw5.ProgDecode'. -/
def progDecodeCard : Claim7 := { stood := { row := progDecodeRow, standIns := [], harness := (true, "a0e7c83286dc96309dce7491aadefdcee75b5df65d5372288cad38534ab51094"), looks := true }, kinds := [], alts := [], laidByText := true, laidKinds := [.data, .data], laidTests := true, laidLooks := .later }
def ProgDecodeCardSaid : Prop := Claim7.holds Tryd.pinned (.plain (OpenSpec.ofChange progDecodeSpec)) progDecodeCard

/-- THE TIED CARD OF 'plunderlaw5.ProgEncode'. -/
def progEncodeCard : Claim7 := { stood := { row := progEncodeRow, standIns := [], harness := (true, "a0e7c83286dc96309dce7491aadefdcee75b5df65d5372288cad38534ab51094"), looks := true }, kinds := [], alts := [], laidByText := true, laidKinds := [.data, .data], laidTests := true, laidLooks := .later }
def ProgEncodeCardSaid : Prop := Claim7.holds Tryd.pinned (.plain (OpenSpec.ofChange progEncodeSpec)) progEncodeCard

/-- THE SECOND FORM's CARD OF 'plunderlaw5.ProgRound'. -/
def progRoundUptoCard : Claim7 := { stood := { row := progRoundUptoRow, standIns := [], harness := (true, "a0e7c83286dc96309dce7491aadefdcee75b5df65d5372288cad38534ab51094"), looks := true }, kinds := [], alts := [], laidByText := true, laidKinds := [.data, .data], laidTests := true, laidLooks := .later }
def ProgRoundUptoCardSaid : Prop := Claim7.holds Tryd.pinned (.plain (OpenSpec.upto progRoundSpec)) progRoundUptoCard

/-- THE SECOND FORM's CARD OF 'plunderlaw5.ProgTrail'. -/
def progTrailUptoCard : Claim7 := { stood := { row := progTrailUptoRow, standIns := [], harness := (true, "a0e7c83286dc96309dce7491aadefdcee75b5df65d5372288cad38534ab51094"), looks := true }, kinds := [], alts := [], laidByText := true, laidKinds := [.data, .data], laidTests := true, laidLooks := .later }
def ProgTrailUptoCardSaid : Prop := Claim7.holds Tryd.pinned (.plain (OpenSpec.upto progTrailSpec)) progTrailUptoCard

/-- THE SECOND FORM's CARD OF 'plunderlaw5.ProgFlow'. -/
def progFlowUptoCard : Claim7 := { stood := { row := progFlowUptoRow, standIns := [], harness := (true, "a0e7c83286dc96309dce7491aadefdcee75b5df65d5372288cad38534ab51094"), looks := true }, kinds := [], alts := [], laidByText := true, laidKinds := [.data, .data], laidTests := true, laidLooks := .later }
def ProgFlowUptoCardSaid : Prop := Claim7.holds Tryd.pinned (.plain (OpenSpec.upto progFlowSpec)) progFlowUptoCard

/-- THE SECOND FORM's CARD OF 'plunderlaw5.ProgCheck'. -/
def progCheckUptoCard : Claim7 := { stood := { row := progCheckUptoRow, standIns := [], harness := (true, "a0e7c83286dc96309dce7491aadefdcee75b5df65d5372288cad38534ab51094"), looks := true }, kinds := [], alts := [], laidByText := true, laidKinds := [.data, .data], laidTests := true, laidLooks := .later }
def ProgCheckUptoCardSaid : Prop := Claim7.holds Tryd.pinned (.plain (OpenSpec.upto progCheckSpec)) progCheckUptoCard

/-- THE SECOND FORM's CARD OF 'plunderlaw5.ProgDecode'. -/
def progDecodeUptoCard : Claim7 := { stood := { row := progDecodeUptoRow, standIns := [], harness := (true, "a0e7c83286dc96309dce7491aadefdcee75b5df65d5372288cad38534ab51094"), looks := true }, kinds := [], alts := [], laidByText := true, laidKinds := [.data, .data], laidTests := true, laidLooks := .later }
def ProgDecodeUptoCardSaid : Prop := Claim7.holds Tryd.pinned (.plain (OpenSpec.upto progDecodeSpec)) progDecodeUptoCard

/-- THE SECOND FORM's CARD OF 'plunderlaw5.ProgEncode'. -/
def progEncodeUptoCard : Claim7 := { stood := { row := progEncodeUptoRow, standIns := [], harness := (true, "a0e7c83286dc96309dce7491aadefdcee75b5df65d5372288cad38534ab51094"), looks := true }, kinds := [], alts := [], laidByText := true, laidKinds := [.data, .data], laidTests := true, laidLooks := .later }
def ProgEncodeUptoCardSaid : Prop := Claim7.holds Tryd.pinned (.plain (OpenSpec.upto progEncodeSpec)) progEncodeUptoCard
end Rows
end Go.Proofs.YteidefhlflkaaabDoor
