/-
  DERIVED. GIVEN WITH THE SEED: THE CARDS: each row of YtoglgifmgpogjabDoorRows.lean that lists a variable, with what it lists TIED to the program's text (the seventh form; the later family's looks); each row that meets fmt, with fmt's text TOLD by the authors' own Lean function (tested against real Go, not proved from fmt's source: count such statements apart). THE CARD IS WHAT COUNTS. Prove the row's statement (the work); the ties are given (YtoglgifmgpogjabDoorTie.lean); close each card by the builder's one call (the guide's Derived/Test/ToyasCard.lean, 'card_holds'). Laid BY PROGRAM, IN A SANDBOX (cutbox-door.mjs). By AI agents, Wed Nov 11 2026. No macro, syntax, notation, axiom, sorry.
-/
import Derived.Test.YtoglgifmgpogjabDoorRows
import GoSem.ClaimSeven
namespace Go.Proofs.YtoglgifmgpogjabDoor
namespace Rows

/-- THE TIED CARD OF 'plunderlaw1.OpsRound'. -/
def opsRoundCard : Claim7 := { stood := { row := opsRoundRow, standIns := [], harness := (true, "d37ab4c22541176623f0ad32c4461e11b1f2b5207afdbe54a89ce3aab9be9347"), looks := false }, kinds := [], alts := [], laidByText := true, laidKinds := [.data, .data, .data], laidTests := true, laidLooks := .later }
def OpsRoundCardSaid : Prop := Claim7.holds Tryd.pinned (.plain (OpenSpec.ofChange opsRoundSpec)) opsRoundCard

/-- THE TIED CARD OF 'plunderlaw1.OpsFormat'. -/
def opsFormatCard : Claim7 := { stood := { row := opsFormatRow, standIns := [], harness := (true, "d37ab4c22541176623f0ad32c4461e11b1f2b5207afdbe54a89ce3aab9be9347"), looks := false }, kinds := [], alts := [], laidByText := true, laidKinds := [.data, .data, .data], laidTests := true, laidLooks := .later }
def OpsFormatCardSaid : Prop := Claim7.holds Tryd.pinned (.plain (OpenSpec.ofChange opsFormatSpec)) opsFormatCard

/-- THE SECOND FORM's CARD OF 'plunderlaw1.OpsRound'. -/
def opsRoundUptoCard : Claim7 := { stood := { row := opsRoundUptoRow, standIns := [], harness := (true, "d37ab4c22541176623f0ad32c4461e11b1f2b5207afdbe54a89ce3aab9be9347"), looks := false }, kinds := [], alts := [], laidByText := true, laidKinds := [.data, .data, .data], laidTests := true, laidLooks := .later }
def OpsRoundUptoCardSaid : Prop := Claim7.holds Tryd.pinned (.plain (OpenSpec.upto opsRoundSpec)) opsRoundUptoCard

/-- THE SECOND FORM's CARD OF 'plunderlaw1.OpsFormat'. -/
def opsFormatUptoCard : Claim7 := { stood := { row := opsFormatUptoRow, standIns := [], harness := (true, "d37ab4c22541176623f0ad32c4461e11b1f2b5207afdbe54a89ce3aab9be9347"), looks := false }, kinds := [], alts := [], laidByText := true, laidKinds := [.data, .data, .data], laidTests := true, laidLooks := .later }
def OpsFormatUptoCardSaid : Prop := Claim7.holds Tryd.pinned (.plain (OpenSpec.upto opsFormatSpec)) opsFormatUptoCard
end Rows
end Go.Proofs.YtoglgifmgpogjabDoor
