/-
  DERIVED. GIVEN WITH THE SEED: THE CARDS: each row of YtocfcdnbielbiabDoorRows.lean that lists a variable, with what it lists TIED to the program's text (the seventh form; the later family's looks); each row that meets fmt, with fmt's text TOLD by the authors' own Lean function (tested against real Go, not proved from fmt's source: count such statements apart). THE CARD IS WHAT COUNTS. Prove the row's statement (the work); the ties are given (YtocfcdnbielbiabDoorTie.lean); close each card by the builder's one call (the guide's Derived/Test/ToyasCard.lean, 'card_holds'). Laid BY PROGRAM, IN A SANDBOX (cutbox-door.mjs). By AI agents, Wed Nov 11 2026. No macro, syntax, notation, axiom, sorry.
-/
import Derived.Test.YtocfcdnbielbiabDoorRows
import GoSem.ClaimSeven
namespace Go.Proofs.YtocfcdnbielbiabDoor
namespace Rows

/-- THE TIED CARD OF 'plunderlaw6.SerialFan'. -/
def serialFanCard : Claim7 := { stood := { row := serialFanRow, standIns := [], harness := (true, "2f0a5299cdcac090c51a3556932c2418dd77ef087f09b62238add9d1e157d266"), looks := true }, kinds := [], alts := [], laidByText := true, laidKinds := [.data, .data], laidTests := true, laidLooks := .later }
def SerialFanCardSaid : Prop := Claim7.holds Tryd.pinned (.plain (OpenSpec.ofChange serialFanSpec)) serialFanCard

/-- THE TIED CARD OF 'plunderlaw6.SerialShape'. -/
def serialShapeCard : Claim7 := { stood := { row := serialShapeRow, standIns := [], harness := (true, "2f0a5299cdcac090c51a3556932c2418dd77ef087f09b62238add9d1e157d266"), looks := true }, kinds := [], alts := [], laidByText := true, laidKinds := [.data, .data], laidTests := true, laidLooks := .later }
def SerialShapeCardSaid : Prop := Claim7.holds Tryd.pinned (.plain (OpenSpec.ofChange serialShapeSpec)) serialShapeCard

/-- THE TIED CARD OF 'plunderlaw6.SerialPart'. -/
def serialPartCard : Claim7 := { stood := { row := serialPartRow, standIns := [], harness := (true, "2f0a5299cdcac090c51a3556932c2418dd77ef087f09b62238add9d1e157d266"), looks := true }, kinds := [], alts := [], laidByText := true, laidKinds := [.data, .data], laidTests := true, laidLooks := .later }
def SerialPartCardSaid : Prop := Claim7.holds Tryd.pinned (.plain (OpenSpec.ofChange serialPartSpec)) serialPartCard

/-- THE SECOND FORM's CARD OF 'plunderlaw6.SerialFan'. -/
def serialFanUptoCard : Claim7 := { stood := { row := serialFanUptoRow, standIns := [], harness := (true, "2f0a5299cdcac090c51a3556932c2418dd77ef087f09b62238add9d1e157d266"), looks := true }, kinds := [], alts := [], laidByText := true, laidKinds := [.data, .data], laidTests := true, laidLooks := .later }
def SerialFanUptoCardSaid : Prop := Claim7.holds Tryd.pinned (.plain (OpenSpec.upto serialFanSpec)) serialFanUptoCard

/-- THE SECOND FORM's CARD OF 'plunderlaw6.SerialShape'. -/
def serialShapeUptoCard : Claim7 := { stood := { row := serialShapeUptoRow, standIns := [], harness := (true, "2f0a5299cdcac090c51a3556932c2418dd77ef087f09b62238add9d1e157d266"), looks := true }, kinds := [], alts := [], laidByText := true, laidKinds := [.data, .data], laidTests := true, laidLooks := .later }
def SerialShapeUptoCardSaid : Prop := Claim7.holds Tryd.pinned (.plain (OpenSpec.upto serialShapeSpec)) serialShapeUptoCard

/-- THE SECOND FORM's CARD OF 'plunderlaw6.SerialPart'. -/
def serialPartUptoCard : Claim7 := { stood := { row := serialPartUptoRow, standIns := [], harness := (true, "2f0a5299cdcac090c51a3556932c2418dd77ef087f09b62238add9d1e157d266"), looks := true }, kinds := [], alts := [], laidByText := true, laidKinds := [.data, .data], laidTests := true, laidLooks := .later }
def SerialPartUptoCardSaid : Prop := Claim7.holds Tryd.pinned (.plain (OpenSpec.upto serialPartSpec)) serialPartUptoCard
end Rows
end Go.Proofs.YtocfcdnbielbiabDoor
