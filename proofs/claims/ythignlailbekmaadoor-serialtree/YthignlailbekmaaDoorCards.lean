/-
  DERIVED. GIVEN WITH THE SEED: THE CARDS: each row of YthignlailbekmaaDoorRows.lean that lists a variable, with what it lists TIED to the program's text (the seventh form; the later family's looks); each row that meets fmt, with fmt's text TOLD by the authors' own Lean function (tested against real Go, not proved from fmt's source: count such statements apart). THE CARD IS WHAT COUNTS. Prove the row's statement (the work); the ties are given (YthignlailbekmaaDoorTie.lean); close each card by the builder's one call (the guide's Derived/Test/ToyasCard.lean, 'card_holds'). Laid BY PROGRAM, IN A SANDBOX (cutbox-door.mjs). By AI agents, Wed Nov 11 2026. No macro, syntax, notation, axiom, sorry.
-/
import Derived.Test.YthignlailbekmaaDoorRows
import GoSem.ClaimSeven
namespace Go.Proofs.YthignlailbekmaaDoor
namespace Rows

/-- THE TIED CARD OF 'plunderlaw6.SerialEval'. -/
def serialEvalCard : Claim7 := { stood := { row := serialEvalRow, standIns := [], harness := (true, "161b4732893db15b8ba78d5dca618506969b751873b562a4fdfa534767799631"), looks := true }, kinds := [], alts := [], laidByText := true, laidKinds := [.data, .data], laidTests := true, laidLooks := .later }
def SerialEvalCardSaid : Prop := Claim7.holds Tryd.pinned (.plain (OpenSpec.ofChange serialEvalSpec)) serialEvalCard

/-- THE TIED CARD OF 'plunderlaw6.SerialTree'. -/
def serialTreeCard : Claim7 := { stood := { row := serialTreeRow, standIns := [], harness := (true, "161b4732893db15b8ba78d5dca618506969b751873b562a4fdfa534767799631"), looks := true }, kinds := [], alts := [], laidByText := true, laidKinds := [.data, .data], laidTests := true, laidLooks := .later }
def SerialTreeCardSaid : Prop := Claim7.holds Tryd.pinned (.plain (OpenSpec.ofChange serialTreeSpec)) serialTreeCard

/-- THE SECOND FORM's CARD OF 'plunderlaw6.SerialEval'. -/
def serialEvalUptoCard : Claim7 := { stood := { row := serialEvalUptoRow, standIns := [], harness := (true, "161b4732893db15b8ba78d5dca618506969b751873b562a4fdfa534767799631"), looks := true }, kinds := [], alts := [], laidByText := true, laidKinds := [.data, .data], laidTests := true, laidLooks := .later }
def SerialEvalUptoCardSaid : Prop := Claim7.holds Tryd.pinned (.plain (OpenSpec.upto serialEvalSpec)) serialEvalUptoCard

/-- THE SECOND FORM's CARD OF 'plunderlaw6.SerialTree'. -/
def serialTreeUptoCard : Claim7 := { stood := { row := serialTreeUptoRow, standIns := [], harness := (true, "161b4732893db15b8ba78d5dca618506969b751873b562a4fdfa534767799631"), looks := true }, kinds := [], alts := [], laidByText := true, laidKinds := [.data, .data], laidTests := true, laidLooks := .later }
def SerialTreeUptoCardSaid : Prop := Claim7.holds Tryd.pinned (.plain (OpenSpec.upto serialTreeSpec)) serialTreeUptoCard
end Rows
end Go.Proofs.YthignlailbekmaaDoor
