/-
  DERIVED. GIVEN WITH THE SEED: THE CARDS: each row of YtfccnmgbdkideaaDoorRows.lean that lists a variable, with what it lists TIED to the program's text (the seventh form; the later family's looks); each row that meets fmt, with fmt's text TOLD by the authors' own Lean function (tested against real Go, not proved from fmt's source: count such statements apart). THE CARD IS WHAT COUNTS. Prove the row's statement (the work); the ties are given (YtfccnmgbdkideaaDoorTie.lean); close each card by the builder's one call (the guide's Derived/Test/ToyasCard.lean, 'card_holds'). Laid BY PROGRAM, IN A SANDBOX (cutbox-door.mjs). By AI agents, Wed Nov 11 2026. No macro, syntax, notation, axiom, sorry.
-/
import Derived.Test.YtfccnmgbdkideaaDoorRows
import GoSem.ClaimSeven
namespace Go.Proofs.YtfccnmgbdkideaaDoor
namespace Rows

/-- THE TIED CARD OF 'plunderlaw6.SerialPart'. -/
def serialPartCard : Claim7 := { stood := { row := serialPartRow, standIns := [], harness := (true, "f486b511318234c8b325dd76aaf02125109648162de2ab69021d055a69f94fa5"), looks := true }, kinds := [], alts := [], laidByText := true, laidKinds := [.data, .data], laidTests := true, laidLooks := .later }
def SerialPartCardSaid : Prop := Claim7.holds Tryd.pinned (.plain (OpenSpec.ofChange serialPartSpec)) serialPartCard

/-- THE SECOND FORM's CARD OF 'plunderlaw6.SerialPart'. -/
def serialPartUptoCard : Claim7 := { stood := { row := serialPartUptoRow, standIns := [], harness := (true, "f486b511318234c8b325dd76aaf02125109648162de2ab69021d055a69f94fa5"), looks := true }, kinds := [], alts := [], laidByText := true, laidKinds := [.data, .data], laidTests := true, laidLooks := .later }
def SerialPartUptoCardSaid : Prop := Claim7.holds Tryd.pinned (.plain (OpenSpec.upto serialPartSpec)) serialPartUptoCard
end Rows
end Go.Proofs.YtfccnmgbdkideaaDoor
