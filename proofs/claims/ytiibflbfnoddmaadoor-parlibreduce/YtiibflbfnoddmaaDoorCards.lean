/-
  DERIVED. GIVEN WITH THE SEED: THE CARDS: each row of YtiibflbfnoddmaaDoorRows.lean that lists a variable, with what it lists TIED to the program's text (the seventh form; the later family's looks); each row that meets fmt, with fmt's text TOLD by the authors' own Lean function (tested against real Go, not proved from fmt's source: count such statements apart). THE CARD IS WHAT COUNTS. Prove the row's statement (the work); the ties are given (YtiibflbfnoddmaaDoorTie.lean); close each card by the builder's one call (the guide's Derived/Test/ToyasCard.lean, 'card_holds'). Laid BY PROGRAM, IN A SANDBOX (cutbox-door.mjs). By AI agents, Wed Nov 11 2026. No macro, syntax, notation, axiom, sorry.
-/
import Derived.Test.YtiibflbfnoddmaaDoorRows
import GoSem.ClaimSeven
namespace Go.Proofs.YtiibflbfnoddmaaDoor
namespace Rows

/-- THE TIED CARD OF 'plunderlaw13.ParlibFor'. -/
def parlibForCard : Claim7 := { stood := { row := parlibForRow, standIns := [], harness := (true, "842d33606935c337c334c6b800c4900d5229ebadc9a395e28c91b8dc1fb63a4c"), looks := true }, kinds := [], alts := [], laidByText := true, laidKinds := [.data, .data], laidTests := true, laidLooks := .later }
def ParlibForCardSaid : Prop := Claim7.holds Tryd.pinned (.plain (OpenSpec.ofChange parlibForSpec)) parlibForCard

/-- THE TIED CARD OF 'plunderlaw13.ParlibReduce'. -/
def parlibReduceCard : Claim7 := { stood := { row := parlibReduceRow, standIns := [], harness := (true, "842d33606935c337c334c6b800c4900d5229ebadc9a395e28c91b8dc1fb63a4c"), looks := true }, kinds := [], alts := [], laidByText := true, laidKinds := [.data, .data], laidTests := true, laidLooks := .later }
def ParlibReduceCardSaid : Prop := Claim7.holds Tryd.pinned (.plain (OpenSpec.ofChange parlibReduceSpec)) parlibReduceCard

/-- THE SECOND FORM's CARD OF 'plunderlaw13.ParlibFor'. -/
def parlibForUptoCard : Claim7 := { stood := { row := parlibForUptoRow, standIns := [], harness := (true, "842d33606935c337c334c6b800c4900d5229ebadc9a395e28c91b8dc1fb63a4c"), looks := true }, kinds := [], alts := [], laidByText := true, laidKinds := [.data, .data], laidTests := true, laidLooks := .later }
def ParlibForUptoCardSaid : Prop := Claim7.holds Tryd.pinned (.plain (OpenSpec.upto parlibForSpec)) parlibForUptoCard

/-- THE SECOND FORM's CARD OF 'plunderlaw13.ParlibReduce'. -/
def parlibReduceUptoCard : Claim7 := { stood := { row := parlibReduceUptoRow, standIns := [], harness := (true, "842d33606935c337c334c6b800c4900d5229ebadc9a395e28c91b8dc1fb63a4c"), looks := true }, kinds := [], alts := [], laidByText := true, laidKinds := [.data, .data], laidTests := true, laidLooks := .later }
def ParlibReduceUptoCardSaid : Prop := Claim7.holds Tryd.pinned (.plain (OpenSpec.upto parlibReduceSpec)) parlibReduceUptoCard
end Rows
end Go.Proofs.YtiibflbfnoddmaaDoor
