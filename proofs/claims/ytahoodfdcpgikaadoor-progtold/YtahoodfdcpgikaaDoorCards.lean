/-
  DERIVED. GIVEN WITH THE SEED: THE CARDS: each row of YtahoodfdcpgikaaDoorRows.lean that lists a variable, with what it lists TIED to the program's text (the seventh form; the later family's looks); each row that meets fmt, with fmt's text TOLD by the authors' own Lean function (tested against real Go, not proved from fmt's source: count such statements apart). THE CARD IS WHAT COUNTS. Prove the row's statement (the work); the ties are given (YtahoodfdcpgikaaDoorTie.lean); close each card by the builder's one call (the guide's Derived/Test/ToyasCard.lean, 'card_holds'). Laid BY PROGRAM, IN A SANDBOX (cutbox-door.mjs). By AI agents, Wed Nov 11 2026. No macro, syntax, notation, axiom, sorry.
-/
import Derived.Test.YtahoodfdcpgikaaDoorRows
import GoSem.ClaimSeven
namespace Go.Proofs.YtahoodfdcpgikaaDoor
namespace Rows

/-- THE TIED CARD OF 'plunderlaw5.ProgTold'. -/
def progToldCard : Claim7 := { stood := { row := progToldRow, standIns := [], harness := (true, "f1d48a41c58c6a7c1487f57f71ae03e2244ae2ca89eba4dd388498a649e8e2bb"), looks := true }, kinds := [], alts := [], laidByText := true, laidKinds := [.data, .data], laidTests := true, laidLooks := .later }
def ProgToldCardSaid : Prop := Claim7.holds Tryd.pinned (.plain (OpenSpec.ofChange progToldSpec)) progToldCard

/-- THE TIED CARD OF 'plunderlaw5.ProgWords'. -/
def progWordsCard : Claim7 := { stood := { row := progWordsRow, standIns := [], harness := (true, "f1d48a41c58c6a7c1487f57f71ae03e2244ae2ca89eba4dd388498a649e8e2bb"), looks := true }, kinds := [], alts := [], laidByText := true, laidKinds := [.data, .data], laidTests := true, laidLooks := .later }
def ProgWordsCardSaid : Prop := Claim7.holds Tryd.pinned (.plain (OpenSpec.ofChange progWordsSpec)) progWordsCard

/-- THE TIED CARD OF 'plunderlaw5.ProgShown'. -/
def progShownCard : Claim7 := { stood := { row := progShownRow, standIns := [], harness := (true, "f1d48a41c58c6a7c1487f57f71ae03e2244ae2ca89eba4dd388498a649e8e2bb"), looks := true }, kinds := [], alts := [], laidByText := true, laidKinds := [.data, .data], laidTests := true, laidLooks := .later }
def ProgShownCardSaid : Prop := Claim7.holds Tryd.pinned (.plain (OpenSpec.ofChange progShownSpec)) progShownCard

/-- THE SECOND FORM's CARD OF 'plunderlaw5.ProgTold'. -/
def progToldUptoCard : Claim7 := { stood := { row := progToldUptoRow, standIns := [], harness := (true, "f1d48a41c58c6a7c1487f57f71ae03e2244ae2ca89eba4dd388498a649e8e2bb"), looks := true }, kinds := [], alts := [], laidByText := true, laidKinds := [.data, .data], laidTests := true, laidLooks := .later }
def ProgToldUptoCardSaid : Prop := Claim7.holds Tryd.pinned (.plain (OpenSpec.upto progToldSpec)) progToldUptoCard

/-- THE SECOND FORM's CARD OF 'plunderlaw5.ProgWords'. -/
def progWordsUptoCard : Claim7 := { stood := { row := progWordsUptoRow, standIns := [], harness := (true, "f1d48a41c58c6a7c1487f57f71ae03e2244ae2ca89eba4dd388498a649e8e2bb"), looks := true }, kinds := [], alts := [], laidByText := true, laidKinds := [.data, .data], laidTests := true, laidLooks := .later }
def ProgWordsUptoCardSaid : Prop := Claim7.holds Tryd.pinned (.plain (OpenSpec.upto progWordsSpec)) progWordsUptoCard

/-- THE SECOND FORM's CARD OF 'plunderlaw5.ProgShown'. -/
def progShownUptoCard : Claim7 := { stood := { row := progShownUptoRow, standIns := [], harness := (true, "f1d48a41c58c6a7c1487f57f71ae03e2244ae2ca89eba4dd388498a649e8e2bb"), looks := true }, kinds := [], alts := [], laidByText := true, laidKinds := [.data, .data], laidTests := true, laidLooks := .later }
def ProgShownUptoCardSaid : Prop := Claim7.holds Tryd.pinned (.plain (OpenSpec.upto progShownSpec)) progShownUptoCard
end Rows
end Go.Proofs.YtahoodfdcpgikaaDoor
