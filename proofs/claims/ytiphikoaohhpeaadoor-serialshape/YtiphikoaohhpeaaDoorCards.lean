/-
  DERIVED. GIVEN WITH THE SEED: THE CARDS: each row of YtiphikoaohhpeaaDoorRows.lean that lists a variable, with what it lists TIED to the program's text (the seventh form; the later family's looks); each row that meets fmt, with fmt's text TOLD by the authors' own Lean function (tested against real Go, not proved from fmt's source: count such statements apart). THE CARD IS WHAT COUNTS. Prove the row's statement (the work); the ties are given (YtiphikoaohhpeaaDoorTie.lean); close each card by the builder's one call (the guide's Derived/Test/ToyasCard.lean, 'card_holds'). Laid BY PROGRAM, IN A SANDBOX (cutbox-door.mjs). By AI agents, Wed Nov 11 2026. No macro, syntax, notation, axiom, sorry.
-/
import Derived.Test.YtiphikoaohhpeaaDoorRows
import GoSem.ClaimSeven
namespace Go.Proofs.YtiphikoaohhpeaaDoor
namespace Rows

/-- THE TIED CARD OF 'plunderlaw6.SerialShape'. -/
def serialShapeCard : Claim7 := { stood := { row := serialShapeRow, standIns := [], harness := (true, "85c6cf475b8448e55c335fff73a5aadd7244a223dd7f3d2032870eb983db5a4b"), looks := true }, kinds := [], alts := [], laidByText := true, laidKinds := [.data, .data], laidTests := true, laidLooks := .later }
def SerialShapeCardSaid : Prop := Claim7.holds Tryd.pinned (.plain (OpenSpec.ofChange serialShapeSpec)) serialShapeCard

/-- THE SECOND FORM's CARD OF 'plunderlaw6.SerialShape'. -/
def serialShapeUptoCard : Claim7 := { stood := { row := serialShapeUptoRow, standIns := [], harness := (true, "85c6cf475b8448e55c335fff73a5aadd7244a223dd7f3d2032870eb983db5a4b"), looks := true }, kinds := [], alts := [], laidByText := true, laidKinds := [.data, .data], laidTests := true, laidLooks := .later }
def SerialShapeUptoCardSaid : Prop := Claim7.holds Tryd.pinned (.plain (OpenSpec.upto serialShapeSpec)) serialShapeUptoCard
end Rows
end Go.Proofs.YtiphikoaohhpeaaDoor
