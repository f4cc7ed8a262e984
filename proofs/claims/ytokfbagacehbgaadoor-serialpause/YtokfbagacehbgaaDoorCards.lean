/-
  DERIVED. GIVEN WITH THE SEED: THE CARDS: each row of YtokfbagacehbgaaDoorRows.lean that lists a variable, with what it lists TIED to the program's text (the seventh form; the later family's looks); each row that meets fmt, with fmt's text TOLD by the authors' own Lean function (tested against real Go, not proved from fmt's source: count such statements apart). THE CARD IS WHAT COUNTS. Prove the row's statement (the work); the ties are given (YtokfbagacehbgaaDoorTie.lean); close each card by the builder's one call (the guide's Derived/Test/ToyasCard.lean, 'card_holds'). Laid BY PROGRAM, IN A SANDBOX (cutbox-door.mjs). By AI agents, Wed Nov 11 2026. No macro, syntax, notation, axiom, sorry.
-/
import Derived.Test.YtokfbagacehbgaaDoorRows
import GoSem.ClaimSeven
namespace Go.Proofs.YtokfbagacehbgaaDoor
namespace Rows

/-- THE TIED CARD OF 'plunderlaw6.SerialPause'. -/
def serialPauseCard : Claim7 := { stood := { row := serialPauseRow, standIns := [], harness := (true, "42487d04d85931ea8bff60870e8c44a9d7db65804da271bb569b9ffd190f819a"), looks := true }, kinds := [], alts := [], laidByText := true, laidKinds := [.data, .data], laidTests := true, laidLooks := .later }
def SerialPauseCardSaid : Prop := Claim7.holds Tryd.pinned (.plain (OpenSpec.ofChange serialPauseSpec)) serialPauseCard

/-- THE SECOND FORM's CARD OF 'plunderlaw6.SerialPause'. -/
def serialPauseUptoCard : Claim7 := { stood := { row := serialPauseUptoRow, standIns := [], harness := (true, "42487d04d85931ea8bff60870e8c44a9d7db65804da271bb569b9ffd190f819a"), looks := true }, kinds := [], alts := [], laidByText := true, laidKinds := [.data, .data], laidTests := true, laidLooks := .later }
def SerialPauseUptoCardSaid : Prop := Claim7.holds Tryd.pinned (.plain (OpenSpec.upto serialPauseSpec)) serialPauseUptoCard
end Rows
end Go.Proofs.YtokfbagacehbgaaDoor
