/-
  DERIVED. GIVEN WITH THE SEED: THE CARDS: each row of YtboingcmlmfceabDoorRows.lean that lists a variable, with what it lists TIED to the program's text (the seventh form; the later family's looks); each row that meets fmt, with fmt's text TOLD by the authors' own Lean function (tested against real Go, not proved from fmt's source: count such statements apart). THE CARD IS WHAT COUNTS. Prove the row's statement (the work); the ties are given (YtboingcmlmfceabDoorTie.lean); close each card by the builder's one call (the guide's Derived/Test/ToyasCard.lean, 'card_holds'). Laid BY PROGRAM, IN A SANDBOX (cutbox-door.mjs). By AI agents, Wed Nov 11 2026. No macro, syntax, notation, axiom, sorry.
-/
import Derived.Test.YtboingcmlmfceabDoorRows
import GoSem.ClaimSeven
namespace Go.Proofs.YtboingcmlmfceabDoor
namespace Rows

/-- THE TIED CARD OF 'plunderlaw6.SerialFan'. -/
def serialFanCard : Claim7 := { stood := { row := serialFanRow, standIns := [], harness := (true, "7a9dd6c1070110aa39e195fbc333e689fbaae0d1300657d7972fe29d1ed0d0b8"), looks := true }, kinds := [], alts := [], laidByText := true, laidKinds := [.data, .data], laidTests := true, laidLooks := .later }
def SerialFanCardSaid : Prop := Claim7.holds Tryd.pinned (.plain (OpenSpec.ofChange serialFanSpec)) serialFanCard

/-- THE TIED CARD OF 'plunderlaw6.SerialShape'. -/
def serialShapeCard : Claim7 := { stood := { row := serialShapeRow, standIns := [], harness := (true, "7a9dd6c1070110aa39e195fbc333e689fbaae0d1300657d7972fe29d1ed0d0b8"), looks := true }, kinds := [], alts := [], laidByText := true, laidKinds := [.data, .data], laidTests := true, laidLooks := .later }
def SerialShapeCardSaid : Prop := Claim7.holds Tryd.pinned (.plain (OpenSpec.ofChange serialShapeSpec)) serialShapeCard

/-- THE TIED CARD OF 'plunderlaw6.SerialPart'. -/
def serialPartCard : Claim7 := { stood := { row := serialPartRow, standIns := [], harness := (true, "7a9dd6c1070110aa39e195fbc333e689fbaae0d1300657d7972fe29d1ed0d0b8"), looks := true }, kinds := [], alts := [], laidByText := true, laidKinds := [.data, .data], laidTests := true, laidLooks := .later }
def SerialPartCardSaid : Prop := Claim7.holds Tryd.pinned (.plain (OpenSpec.ofChange serialPartSpec)) serialPartCard

/-- THE TIED CARD OF 'plunderlaw6.SerialEval'. -/
def serialEvalCard : Claim7 := { stood := { row := serialEvalRow, standIns := [], harness := (true, "7a9dd6c1070110aa39e195fbc333e689fbaae0d1300657d7972fe29d1ed0d0b8"), looks := true }, kinds := [], alts := [], laidByText := true, laidKinds := [.data, .data], laidTests := true, laidLooks := .later }
def SerialEvalCardSaid : Prop := Claim7.holds Tryd.pinned (.plain (OpenSpec.ofChange serialEvalSpec)) serialEvalCard

/-- THE TIED CARD OF 'plunderlaw6.SerialTree'. -/
def serialTreeCard : Claim7 := { stood := { row := serialTreeRow, standIns := [], harness := (true, "7a9dd6c1070110aa39e195fbc333e689fbaae0d1300657d7972fe29d1ed0d0b8"), looks := true }, kinds := [], alts := [], laidByText := true, laidKinds := [.data, .data], laidTests := true, laidLooks := .later }
def SerialTreeCardSaid : Prop := Claim7.holds Tryd.pinned (.plain (OpenSpec.ofChange serialTreeSpec)) serialTreeCard

/-- THE SECOND FORM's CARD OF 'plunderlaw6.SerialFan'. -/
def serialFanUptoCard : Claim7 := { stood := { row := serialFanUptoRow, standIns := [], harness := (true, "7a9dd6c1070110aa39e195fbc333e689fbaae0d1300657d7972fe29d1ed0d0b8"), looks := true }, kinds := [], alts := [], laidByText := true, laidKinds := [.data, .data], laidTests := true, laidLooks := .later }
def SerialFanUptoCardSaid : Prop := Claim7.holds Tryd.pinned (.plain (OpenSpec.upto serialFanSpec)) serialFanUptoCard

/-- THE SECOND FORM's CARD OF 'plunderlaw6.SerialShape'. -/
def serialShapeUptoCard : Claim7 := { stood := { row := serialShapeUptoRow, standIns := [], harness := (true, "7a9dd6c1070110aa39e195fbc333e689fbaae0d1300657d7972fe29d1ed0d0b8"), looks := true }, kinds := [], alts := [], laidByText := true, laidKinds := [.data, .data], laidTests := true, laidLooks := .later }
def SerialShapeUptoCardSaid : Prop := Claim7.holds Tryd.pinned (.plain (OpenSpec.upto serialShapeSpec)) serialShapeUptoCard

/-- THE SECOND FORM's CARD OF 'plunderlaw6.SerialPart'. -/
def serialPartUptoCard : Claim7 := { stood := { row := serialPartUptoRow, standIns := [], harness := (true, "7a9dd6c1070110aa39e195fbc333e689fbaae0d1300657d7972fe29d1ed0d0b8"), looks := true }, kinds := [], alts := [], laidByText := true, laidKinds := [.data, .data], laidTests := true, laidLooks := .later }
def SerialPartUptoCardSaid : Prop := Claim7.holds Tryd.pinned (.plain (OpenSpec.upto serialPartSpec)) serialPartUptoCard

/-- THE SECOND FORM's CARD OF 'plunderlaw6.SerialEval'. -/
def serialEvalUptoCard : Claim7 := { stood := { row := serialEvalUptoRow, standIns := [], harness := (true, "7a9dd6c1070110aa39e195fbc333e689fbaae0d1300657d7972fe29d1ed0d0b8"), looks := true }, kinds := [], alts := [], laidByText := true, laidKinds := [.data, .data], laidTests := true, laidLooks := .later }
def SerialEvalUptoCardSaid : Prop := Claim7.holds Tryd.pinned (.plain (OpenSpec.upto serialEvalSpec)) serialEvalUptoCard

/-- THE SECOND FORM's CARD OF 'plunderlaw6.SerialTree'. -/
def serialTreeUptoCard : Claim7 := { stood := { row := serialTreeUptoRow, standIns := [], harness := (true, "7a9dd6c1070110aa39e195fbc333e689fbaae0d1300657d7972fe29d1ed0d0b8"), looks := true }, kinds := [], alts := [], laidByText := true, laidKinds := [.data, .data], laidTests := true, laidLooks := .later }
def SerialTreeUptoCardSaid : Prop := Claim7.holds Tryd.pinned (.plain (OpenSpec.upto serialTreeSpec)) serialTreeUptoCard
end Rows
end Go.Proofs.YtboingcmlmfceabDoor
