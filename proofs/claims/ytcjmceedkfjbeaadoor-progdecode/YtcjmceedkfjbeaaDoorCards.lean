/-
  DERIVED. GIVEN WITH THE SEED: THE CARDS: each row of YtcjmceedkfjbeaaDoorRows.lean that lists a variable, with what it lists TIED to the program's text (the seventh form; the later family's looks); each row that meets fmt, with fmt's text TOLD by the authors' own Lean function (tested against real Go, not proved from fmt's source: count such statements apart). THE CARD IS WHAT COUNTS. Prove the row's statement (the work); the ties are given (YtcjmceedkfjbeaaDoorTie.lean); close each card by the builder's one call (the guide's Derived/Test/ToyasCard.lean, 'card_holds'). Laid BY PROGRAM, IN A SANDBOX (cutbox-door.mjs). By AI agents, Wed Nov 11 2026. No macro, syntax, notation, axiom, sorry.
-/
import Derived.Test.YtcjmceedkfjbeaaDoorRows
import GoSem.ClaimSeven
namespace Go.Proofs.YtcjmceedkfjbeaaDoor
namespace Rows

/-- THE TIED CARD OF 'plunderlaw5.ProgWords'. -/
def progWordsCard : Claim7 := { stood := { row := progWordsRow, standIns := [], harness := (true, "19cbddb599b36a6cf618d87db60ea338dcfdf4538fb03442cb568d8372861b22"), looks := true }, kinds := [], alts := [], laidByText := true, laidKinds := [.data, .data], laidTests := true, laidLooks := .later }
def ProgWordsCardSaid : Prop := Claim7.holds Tryd.pinned (.plain (OpenSpec.ofChange progWordsSpec)) progWordsCard

/-- THE TIED CARD OF 'plunderlaw5.ProgDecode'. -/
def progDecodeCard : Claim7 := { stood := { row := progDecodeRow, standIns := [], harness := (true, "19cbddb599b36a6cf618d87db60ea338dcfdf4538fb03442cb568d8372861b22"), looks := true }, kinds := [], alts := [], laidByText := true, laidKinds := [.data, .data], laidTests := true, laidLooks := .later }
def ProgDecodeCardSaid : Prop := Claim7.holds Tryd.pinned (.plain (OpenSpec.ofChange progDecodeSpec)) progDecodeCard

/-- THE TIED CARD OF 'plunderlaw5.ProgEncode'. -/
def progEncodeCard : Claim7 := { stood := { row := progEncodeRow, standIns := [], harness := (true, "19cbddb599b36a6cf618d87db60ea338dcfdf4538fb03442cb568d8372861b22"), looks := true }, kinds := [], alts := [], laidByText := true, laidKinds := [.data, .data], laidTests := true, laidLooks := .later }
def ProgEncodeCardSaid : Prop := Claim7.holds Tryd.pinned (.plain (OpenSpec.ofChange progEncodeSpec)) progEncodeCard

/-- THE SECOND FORM's CARD OF 'plunderlaw5.ProgWords'. -/
def progWordsUptoCard : Claim7 := { stood := { row := progWordsUptoRow, standIns := [], harness := (true, "19cbddb599b36a6cf618d87db60ea338dcfdf4538fb03442cb568d8372861b22"), looks := true }, kinds := [], alts := [], laidByText := true, laidKinds := [.data, .data], laidTests := true, laidLooks := .later }
def ProgWordsUptoCardSaid : Prop := Claim7.holds Tryd.pinned (.plain (OpenSpec.upto progWordsSpec)) progWordsUptoCard

/-- THE SECOND FORM's CARD OF 'plunderlaw5.ProgDecode'. -/
def progDecodeUptoCard : Claim7 := { stood := { row := progDecodeUptoRow, standIns := [], harness := (true, "19cbddb599b36a6cf618d87db60ea338dcfdf4538fb03442cb568d8372861b22"), looks := true }, kinds := [], alts := [], laidByText := true, laidKinds := [.data, .data], laidTests := true, laidLooks := .later }
def ProgDecodeUptoCardSaid : Prop := Claim7.holds Tryd.pinned (.plain (OpenSpec.upto progDecodeSpec)) progDecodeUptoCard

/-- THE SECOND FORM's CARD OF 'plunderlaw5.ProgEncode'. -/
def progEncodeUptoCard : Claim7 := { stood := { row := progEncodeUptoRow, standIns := [], harness := (true, "19cbddb599b36a6cf618d87db60ea338dcfdf4538fb03442cb568d8372861b22"), looks := true }, kinds := [], alts := [], laidByText := true, laidKinds := [.data, .data], laidTests := true, laidLooks := .later }
def ProgEncodeUptoCardSaid : Prop := Claim7.holds Tryd.pinned (.plain (OpenSpec.upto progEncodeSpec)) progEncodeUptoCard
end Rows
end Go.Proofs.YtcjmceedkfjbeaaDoor
