/-
  DERIVED. GIVEN WITH THE SEED: THE CARDS: each row of YtbeblgeiafkniaaDoorRows.lean that lists a variable, with what it lists TIED to the program's text (the seventh form; the later family's looks); each row that meets fmt, with fmt's text TOLD by the authors' own Lean function (tested against real Go, not proved from fmt's source: count such statements apart). THE CARD IS WHAT COUNTS. Prove the row's statement (the work); the ties are given (YtbeblgeiafkniaaDoorTie.lean); close each card by the builder's one call (the guide's Derived/Test/ToyasCard.lean, 'card_holds'). Laid BY PROGRAM, IN A SANDBOX (cutbox-door.mjs). By AI agents, Wed Nov 11 2026. No macro, syntax, notation, axiom, sorry.
-/
import Derived.Test.YtbeblgeiafkniaaDoorRows
import GoSem.ClaimSeven
namespace Go.Proofs.YtbeblgeiafkniaaDoor
namespace Rows

/-- THE TIED CARD OF 'plunderlaw10.ScriptEncode'. -/
def scriptEncodeCard : Claim7 := { stood := { row := scriptEncodeRow, standIns := [], harness := (true, "39ca3b1293763ad516f6d86f843ac76dcb6272b23265a0532871894a49d22d3b"), looks := true }, kinds := [], alts := [], laidByText := true, laidKinds := [.data, .data, .data], laidTests := true, laidLooks := .later }
def ScriptEncodeCardSaid : Prop := Claim7.holds Tryd.pinned (.plain (OpenSpec.ofChange scriptEncodeSpec)) scriptEncodeCard

/-- THE TIED CARD OF 'plunderlaw10.ScriptRound'. -/
def scriptRoundCard : Claim7 := { stood := { row := scriptRoundRow, standIns := [], harness := (true, "39ca3b1293763ad516f6d86f843ac76dcb6272b23265a0532871894a49d22d3b"), looks := true }, kinds := [], alts := [], laidByText := true, laidKinds := [.data, .data, .data], laidTests := true, laidLooks := .later }
def ScriptRoundCardSaid : Prop := Claim7.holds Tryd.pinned (.plain (OpenSpec.ofChange scriptRoundSpec)) scriptRoundCard

/-- THE SECOND FORM's CARD OF 'plunderlaw10.ScriptEncode'. -/
def scriptEncodeUptoCard : Claim7 := { stood := { row := scriptEncodeUptoRow, standIns := [], harness := (true, "39ca3b1293763ad516f6d86f843ac76dcb6272b23265a0532871894a49d22d3b"), looks := true }, kinds := [], alts := [], laidByText := true, laidKinds := [.data, .data, .data], laidTests := true, laidLooks := .later }
def ScriptEncodeUptoCardSaid : Prop := Claim7.holds Tryd.pinned (.plain (OpenSpec.upto scriptEncodeSpec)) scriptEncodeUptoCard

/-- THE SECOND FORM's CARD OF 'plunderlaw10.ScriptRound'. -/
def scriptRoundUptoCard : Claim7 := { stood := { row := scriptRoundUptoRow, standIns := [], harness := (true, "39ca3b1293763ad516f6d86f843ac76dcb6272b23265a0532871894a49d22d3b"), looks := true }, kinds := [], alts := [], laidByText := true, laidKinds := [.data, .data, .data], laidTests := true, laidLooks := .later }
def ScriptRoundUptoCardSaid : Prop := Claim7.holds Tryd.pinned (.plain (OpenSpec.upto scriptRoundSpec)) scriptRoundUptoCard
end Rows
end Go.Proofs.YtbeblgeiafkniaaDoor
