/-
  DERIVED. GIVEN WITH THE SEED: THE CARDS: each row of YteidefhlflkaaaaDoorRows.lean that lists a variable, with what it lists TIED to the program's text (the seventh form; the later family's looks); each row that meets fmt, with fmt's text TOLD by the authors' own Lean function (tested against real Go, not proved from fmt's source: count such statements apart). THE CARD IS WHAT COUNTS. Prove the row's statement (the work); the ties are given (YteidefhlflkaaaaDoorTie.lean); close each card by the builder's one call (the guide's Derived/Test/ToyasCard.lean, 'card_holds'). Laid BY PROGRAM, IN A SANDBOX (cutbox-door.mjs). By AI agents, Wed Nov 11 2026. No macro, syntax, notation, axiom, sorry.
-/
import Derived.Test.YteidefhlflkaaaaDoorRows
import GoSem.ClaimSeven
namespace Go.Proofs.YteidefhlflkaaaaDoor
namespace Rows

/-- THE TIED CARD OF 'plunderlaw5.ProgSafe'. -/
def progSafeCard : Claim7 := { stood := { row := progSafeRow, standIns := [], harness := (true, "bd3d4d24e0153451372495eeb8274f438c85efafe1891d62ac9cfdcc29909b16"), looks := true }, kinds := [], alts := [], laidByText := true, laidKinds := [.data, .data], laidTests := true, laidLooks := .later }
def ProgSafeCardSaid : Prop := Claim7.holds Tryd.pinned (.plain (OpenSpec.ofChange progSafeSpec)) progSafeCard

/-- THE TIED CARD OF 'plunderlaw5.ProgPaths'. -/
def progPathsCard : Claim7 := { stood := { row := progPathsRow, standIns := [], harness := (true, "bd3d4d24e0153451372495eeb8274f438c85efafe1891d62ac9cfdcc29909b16"), looks := true }, kinds := [], alts := [], laidByText := true, laidKinds := [.data, .data], laidTests := true, laidLooks := .later }
def ProgPathsCardSaid : Prop := Claim7.holds Tryd.pinned (.plain (OpenSpec.ofChange progPathsSpec)) progPathsCard

/-- THE TIED CARD OF 'plunderlaw5.ProgTold'. -/
def progToldCard : Claim7 := { stood := { row := progToldRow, standIns := [], harness := (true, "bd3d4d24e0153451372495eeb8274f438c85efafe1891d62ac9cfdcc29909b16"), looks := true }, kinds := [], alts := [], laidByText := true, laidKinds := [.data, .data], laidTests := true, laidLooks := .later }
def ProgToldCardSaid : Prop := Claim7.holds Tryd.pinned (.plain (OpenSpec.ofChange progToldSpec)) progToldCard

/-- THE TIED CARD OF 'plunderlaw5.ProgWords'. -/
def progWordsCard : Claim7 := { stood := { row := progWordsRow, standIns := [], harness := (true, "bd3d4d24e0153451372495eeb8274f438c85efafe1891d62ac9cfdcc29909b16"), looks := true }, kinds := [], alts := [], laidByText := true, laidKinds := [.data, .data], laidTests := true, laidLooks := .later }
def ProgWordsCardSaid : Prop := Claim7.holds Tryd.pinned (.plain (OpenSpec.ofChange progWordsSpec)) progWordsCard

/-- THE TIED CARD OF 'plunderlaw5.ProgSpoilt'. -/
def progSpoiltCard : Claim7 := { stood := { row := progSpoiltRow, standIns := [], harness := (true, "bd3d4d24e0153451372495eeb8274f438c85efafe1891d62ac9cfdcc29909b16"), looks := true }, kinds := [], alts := [], laidByText := true, laidKinds := [.data, .data], laidTests := true, laidLooks := .later }
def ProgSpoiltCardSaid : Prop := Claim7.holds Tryd.pinned (.plain (OpenSpec.ofChange progSpoiltSpec)) progSpoiltCard

/-- THE TIED CARD OF 'plunderlaw5.ProgShown'. -/
def progShownCard : Claim7 := { stood := { row := progShownRow, standIns := [], harness := (true, "bd3d4d24e0153451372495eeb8274f438c85efafe1891d62ac9cfdcc29909b16"), looks := true }, kinds := [], alts := [], laidByText := true, laidKinds := [.data, .data], laidTests := true, laidLooks := .later }
def ProgShownCardSaid : Prop := Claim7.holds Tryd.pinned (.plain (OpenSpec.ofChange progShownSpec)) progShownCard

/-- THE SECOND FORM's CARD OF 'plunderlaw5.ProgSafe'. -/
def progSafeUptoCard : Claim7 := { stood := { row := progSafeUptoRow, standIns := [], harness := (true, "bd3d4d24e0153451372495eeb8274f438c85efafe1891d62ac9cfdcc29909b16"), looks := true }, kinds := [], alts := [], laidByText := true, laidKinds := [.data, .data], laidTests := true, laidLooks := .later }
def ProgSafeUptoCardSaid : Prop := Claim7.holds Tryd.pinned (.plain (OpenSpec.upto progSafeSpec)) progSafeUptoCard

/-- THE SECOND FORM's CARD OF 'plunderlaw5.ProgPaths'. -/
def progPathsUptoCard : Claim7 := { stood := { row := progPathsUptoRow, standIns := [], harness := (true, "bd3d4d24e0153451372495eeb8274f438c85efafe1891d62ac9cfdcc29909b16"), looks := true }, kinds := [], alts := [], laidByText := true, laidKinds := [.data, .data], laidTests := true, laidLooks := .later }
def ProgPathsUptoCardSaid : Prop := Claim7.holds Tryd.pinned (.plain (OpenSpec.upto progPathsSpec)) progPathsUptoCard

/-- THE SECOND FORM's CARD OF 'plunderlaw5.ProgTold'. -/
def progToldUptoCard : Claim7 := { stood := { row := progToldUptoRow, standIns := [], harness := (true, "bd3d4d24e0153451372495eeb8274f438c85efafe1891d62ac9cfdcc29909b16"), looks := true }, kinds := [], alts := [], laidByText := true, laidKinds := [.data, .data], laidTests := true, laidLooks := .later }
def ProgToldUptoCardSaid : Prop := Claim7.holds Tryd.pinned (.plain (OpenSpec.upto progToldSpec)) progToldUptoCard

/-- THE SECOND FORM's CARD OF 'plunderlaw5.ProgWords'. -/
def progWordsUptoCard : Claim7 := { stood := { row := progWordsUptoRow, standIns := [], harness := (true, "bd3d4d24e0153451372495eeb8274f438c85efafe1891d62ac9cfdcc29909b16"), looks := true }, kinds := [], alts := [], laidByText := true, laidKinds := [.data, .data], laidTests := true, laidLooks := .later }
def ProgWordsUptoCardSaid : Prop := Claim7.holds Tryd.pinned (.plain (OpenSpec.upto progWordsSpec)) progWordsUptoCard

/-- THE SECOND FORM's CARD OF 'plunderlaw5.ProgSpoilt'. -/
def progSpoiltUptoCard : Claim7 := { stood := { row := progSpoiltUptoRow, standIns := [], harness := (true, "bd3d4d24e0153451372495eeb8274f438c85efafe1891d62ac9cfdcc29909b16"), looks := true }, kinds := [], alts := [], laidByText := true, laidKinds := [.data, .data], laidTests := true, laidLooks := .later }
def ProgSpoiltUptoCardSaid : Prop := Claim7.holds Tryd.pinned (.plain (OpenSpec.upto progSpoiltSpec)) progSpoiltUptoCard

/-- THE SECOND FORM's CARD OF 'plunderlaw5.ProgShown'. -/
def progShownUptoCard : Claim7 := { stood := { row := progShownUptoRow, standIns := [], harness := (true, "bd3d4d24e0153451372495eeb8274f438c85efafe1891d62ac9cfdcc29909b16"), looks := true }, kinds := [], alts := [], laidByText := true, laidKinds := [.data, .data], laidTests := true, laidLooks := .later }
def ProgShownUptoCardSaid : Prop := Claim7.holds Tryd.pinned (.plain (OpenSpec.upto progShownSpec)) progShownUptoCard
end Rows
end Go.Proofs.YteidefhlflkaaaaDoor
