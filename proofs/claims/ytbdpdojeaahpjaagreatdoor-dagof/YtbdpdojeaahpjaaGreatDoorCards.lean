/-
  DERIVED. GIVEN WITH THE SEED: THE CARDS: each row of YtbdpdojeaahpjaaGreatDoorRows.lean that lists a variable, with what it lists TIED to the program's text (the seventh form; the later family's looks); each row that meets fmt, with fmt's text TOLD by the authors' own Lean function (tested against real Go, not proved from fmt's source: count such statements apart). THE CARD IS WHAT COUNTS. Prove the row's statement (the work); the ties are given (YtbdpdojeaahpjaaGreatDoorTie.lean); close each card by the builder's one call (the guide's Derived/Test/ToyasCard.lean, 'card_holds'). Laid BY PROGRAM, IN A SANDBOX (cutbox-door.mjs). By AI agents, Wed Nov 11 2026. No macro, syntax, notation, axiom, sorry.
-/
import Derived.Test.YtbdpdojeaahpjaaGreatDoorRows
import GoSem.ClaimSeven
namespace Go.Proofs.YtbdpdojeaahpjaaGreatDoor
namespace Rows

/-- THE TIED CARD OF 'plunderlaw7.DagOf'. -/
def dagOfCard : Claim7 := { stood := { row := dagOfRow, standIns := [], harness := (true, "2e75623a3873e783eaef2f135f88e1c9350e0f75b3f950885dcd90afb0c82e5a"), looks := true }, kinds := [], alts := [], laidByText := true, laidKinds := [.data, .data], laidTests := true, laidLooks := .later }
def DagOfCardSaid : Prop := Claim7.holds Tryz.pinned (.plain (OpenSpec.ofChange dagOfSpec)) dagOfCard

/-- THE SECOND FORM's CARD OF 'plunderlaw7.DagOf'. -/
def dagOfUptoCard : Claim7 := { stood := { row := dagOfUptoRow, standIns := [], harness := (true, "2e75623a3873e783eaef2f135f88e1c9350e0f75b3f950885dcd90afb0c82e5a"), looks := true }, kinds := [], alts := [], laidByText := true, laidKinds := [.data, .data], laidTests := true, laidLooks := .later }
def DagOfUptoCardSaid : Prop := Claim7.holds Tryz.pinned (.plain (OpenSpec.upto dagOfSpec)) dagOfUptoCard
end Rows
end Go.Proofs.YtbdpdojeaahpjaaGreatDoor
