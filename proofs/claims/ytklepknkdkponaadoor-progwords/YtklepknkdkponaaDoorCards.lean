/-
  DERIVED. GIVEN WITH THE SEED: THE CARDS: each row of YtklepknkdkponaaDoorRows.lean that lists a variable, with what it lists TIED to the program's text (the seventh form; the later family's looks); each row that meets fmt, with fmt's text TOLD by the authors' own Lean function (tested against real Go, not proved from fmt's source: count such statements apart). THE CARD IS WHAT COUNTS. Prove the row's statement (the work); the ties are given (YtklepknkdkponaaDoorTie.lean); close each card by the builder's one call (the guide's Derived/Test/ToyasCard.lean, 'card_holds'). Laid BY PROGRAM, IN A SANDBOX (cutbox-door.mjs). By AI agents, Wed Nov 11 2026. No macro, syntax, notation, axiom, sorry.
-/
import Derived.Test.YtklepknkdkponaaDoorRows
import GoSem.ClaimSeven
namespace Go.Proofs.YtklepknkdkponaaDoor
namespace Rows

/-- THE TIED CARD OF 'plunderlaw5.ProgCheck'. -/
def progCheckCard : Claim7 := { stood := { row := progCheckRow, standIns := [], harness := (true, "2a6961a246c9aa91c9788d3d8120f6aa99fe5731433fb06536513564539824c7"), looks := true }, kinds := [], alts := [], laidByText := true, laidKinds := [.data, .data], laidTests := true, laidLooks := .later }
def ProgCheckCardSaid : Prop := Claim7.holds Tryd.pinned (.plain (OpenSpec.ofChange progCheckSpec)) progCheckCard

/-- THE TIED CARD OF 'plunderlaw5.ProgFlow'. -/
def progFlowCard : Claim7 := { stood := { row := progFlowRow, standIns := [], harness := (true, "2a6961a246c9aa91c9788d3d8120f6aa99fe5731433fb06536513564539824c7"), looks := true }, kinds := [], alts := [], laidByText := true, laidKinds := [.data, .data], laidTests := true, laidLooks := .later }
def ProgFlowCardSaid : Prop := Claim7.holds Tryd.pinned (.plain (OpenSpec.ofChange progFlowSpec)) progFlowCard

/-- THE TIED CARD OF 'plunderlaw5.ProgTrail'. -/
def progTrailCard : Claim7 := { stood := { row := progTrailRow, standIns := [], harness := (true, "2a6961a246c9aa91c9788d3d8120f6aa99fe5731433fb06536513564539824c7"), looks := true }, kinds := [], alts := [], laidByText := true, laidKinds := [.data, .data], laidTests := true, laidLooks := .later }
def ProgTrailCardSaid : Prop := Claim7.holds Tryd.pinned (.plain (OpenSpec.ofChange progTrailSpec)) progTrailCard

/-- THE TIED CARD OF 'plunderlaw5.ProgEncode'. -/
def progEncodeCard : Claim7 := { stood := { row := progEncodeRow, standIns := [], harness := (true, "2a6961a246c9aa91c9788d3d8120f6aa99fe5731433fb06536513564539824c7"), looks := true }, kinds := [], alts := [], laidByText := true, laidKinds := [.data, .data], laidTests := true, laidLooks := .later }
def ProgEncodeCardSaid : Prop := Claim7.holds Tryd.pinned (.plain (OpenSpec.ofChange progEncodeSpec)) progEncodeCard

/-- THE TIED CARD OF 'plunderlaw5.ProgDecode'. -/
def progDecodeCard : Claim7 := { stood := { row := progDecodeRow, standIns := [], harness := (true, "2a6961a246c9aa91c9788d3d8120f6aa99fe5731433fb06536513564539824c7"), looks := true }, kinds := [], alts := [], laidByText := true, laidKinds := [.data, .data], laidTests := true, laidLooks := .later }
def ProgDecodeCardSaid : Prop := Claim7.holds Tryd.pinned (.plain (OpenSpec.ofChange progDecodeSpec)) progDecodeCard

/-- THE TIED CARD OF 'plunderlaw5.ProgWords'. -/
def progWordsCard : Claim7 := { stood := { row := progWordsRow, standIns := [], harness := (true, "2a6961a246c9aa91c9788d3d8120f6aa99fe5731433fb06536513564539824c7"), looks := true }, kinds := [], alts := [], laidByText := true, laidKinds := [.data, .data], laidTests := true, laidLooks := .later }
def ProgWordsCardSaid : Prop := Claim7.holds Tryd.pinned (.plain (OpenSpec.ofChange progWordsSpec)) progWordsCard

/-- THE SECOND FORM's CARD OF 'plunderlaw5.ProgCheck'. -/
def progCheckUptoCard : Claim7 := { stood := { row := progCheckUptoRow, standIns := [], harness := (true, "2a6961a246c9aa91c9788d3d8120f6aa99fe5731433fb06536513564539824c7"), looks := true }, kinds := [], alts := [], laidByText := true, laidKinds := [.data, .data], laidTests := true, laidLooks := .later }
def ProgCheckUptoCardSaid : Prop := Claim7.holds Tryd.pinned (.plain (OpenSpec.upto progCheckSpec)) progCheckUptoCard

/-- THE SECOND FORM's CARD OF 'plunderlaw5.ProgFlow'. -/
def progFlowUptoCard : Claim7 := { stood := { row := progFlowUptoRow, standIns := [], harness := (true, "2a6961a246c9aa91c9788d3d8120f6aa99fe5731433fb06536513564539824c7"), looks := true }, kinds := [], alts := [], laidByText := true, laidKinds := [.data, .data], laidTests := true, laidLooks := .later }
def ProgFlowUptoCardSaid : Prop := Claim7.holds Tryd.pinned (.plain (OpenSpec.upto progFlowSpec)) progFlowUptoCard

/-- THE SECOND FORM's CARD OF 'plunderlaw5.ProgTrail'. -/
def progTrailUptoCard : Claim7 := { stood := { row := progTrailUptoRow, standIns := [], harness := (true, "2a6961a246c9aa91c9788d3d8120f6aa99fe5731433fb06536513564539824c7"), looks := true }, kinds := [], alts := [], laidByText := true, laidKinds := [.data, .data], laidTests := true, laidLooks := .later }
def ProgTrailUptoCardSaid : Prop := Claim7.holds Tryd.pinned (.plain (OpenSpec.upto progTrailSpec)) progTrailUptoCard

/-- THE SECOND FORM's CARD OF 'plunderlaw5.ProgEncode'. -/
def progEncodeUptoCard : Claim7 := { stood := { row := progEncodeUptoRow, standIns := [], harness := (true, "2a6961a246c9aa91c9788d3d8120f6aa99fe5731433fb06536513564539824c7"), looks := true }, kinds := [], alts := [], laidByText := true, laidKinds := [.data, .data], laidTests := true, laidLooks := .later }
def ProgEncodeUptoCardSaid : Prop := Claim7.holds Tryd.pinned (.plain (OpenSpec.upto progEncodeSpec)) progEncodeUptoCard

/-- THE SECOND FORM's CARD OF 'plunderlaw5.ProgDecode'. -/
def progDecodeUptoCard : Claim7 := { stood := { row := progDecodeUptoRow, standIns := [], harness := (true, "2a6961a246c9aa91c9788d3d8120f6aa99fe5731433fb06536513564539824c7"), looks := true }, kinds := [], alts := [], laidByText := true, laidKinds := [.data, .data], laidTests := true, laidLooks := .later }
def ProgDecodeUptoCardSaid : Prop := Claim7.holds Tryd.pinned (.plain (OpenSpec.upto progDecodeSpec)) progDecodeUptoCard

/-- THE SECOND FORM's CARD OF 'plunderlaw5.ProgWords'. -/
def progWordsUptoCard : Claim7 := { stood := { row := progWordsUptoRow, standIns := [], harness := (true, "2a6961a246c9aa91c9788d3d8120f6aa99fe5731433fb06536513564539824c7"), looks := true }, kinds := [], alts := [], laidByText := true, laidKinds := [.data, .data], laidTests := true, laidLooks := .later }
def ProgWordsUptoCardSaid : Prop := Claim7.holds Tryd.pinned (.plain (OpenSpec.upto progWordsSpec)) progWordsUptoCard
end Rows
end Go.Proofs.YtklepknkdkponaaDoor
