/-
  DERIVED. GIVEN WITH THE SEED: THE CARDS: each row of YtoehkjfdaolcnaaDoorRows.lean that lists a variable, with what it lists TIED to the program's text (the seventh form; the later family's looks); each row that meets fmt, with fmt's text TOLD by the authors' own Lean function (tested against real Go, not proved from fmt's source: count such statements apart). THE CARD IS WHAT COUNTS. Prove the row's statement (the work); the ties are given (YtoehkjfdaolcnaaDoorTie.lean); close each card by the builder's one call (the guide's Derived/Test/ToyasCard.lean, 'card_holds'). Laid BY PROGRAM, IN A SANDBOX (cutbox-door.mjs). By AI agents, Wed Nov 11 2026. No macro, syntax, notation, axiom, sorry.
-/
import Derived.Test.YtoehkjfdaolcnaaDoorRows
import GoSem.ClaimSeven
namespace Go.Proofs.YtoehkjfdaolcnaaDoor
namespace Rows

/-- THE TIED CARD OF 'plunderlaw18.TrimNeat'. -/
def trimNeatCard : Claim7 := { stood := { row := trimNeatRow, standIns := [], harness := (true, "e981885d558a14762191f8f0dd79dc511f4c517aed4e22fa1e57f22639afcb15"), looks := true }, kinds := [], alts := [], laidByText := true, laidKinds := [.data, .data], laidTests := true, laidLooks := .later }
def TrimNeatCardSaid : Prop := Claim7.holds Tryd.pinned (.plain (OpenSpec.ofChange trimNeatSpec)) trimNeatCard

/-- THE TIED CARD OF 'plunderlaw18.TrimShape'. -/
def trimShapeCard : Claim7 := { stood := { row := trimShapeRow, standIns := [], harness := (true, "e981885d558a14762191f8f0dd79dc511f4c517aed4e22fa1e57f22639afcb15"), looks := true }, kinds := [], alts := [], laidByText := true, laidKinds := [.data, .data], laidTests := true, laidLooks := .later }
def TrimShapeCardSaid : Prop := Claim7.holds Tryd.pinned (.plain (OpenSpec.ofChange trimShapeSpec)) trimShapeCard

/-- THE TIED CARD OF 'plunderlaw18.TrimLive'. -/
def trimLiveCard : Claim7 := { stood := { row := trimLiveRow, standIns := [], harness := (true, "e981885d558a14762191f8f0dd79dc511f4c517aed4e22fa1e57f22639afcb15"), looks := true }, kinds := [], alts := [], laidByText := true, laidKinds := [.data, .data], laidTests := true, laidLooks := .later }
def TrimLiveCardSaid : Prop := Claim7.holds Tryd.pinned (.plain (OpenSpec.ofChange trimLiveSpec)) trimLiveCard

/-- THE SECOND FORM's CARD OF 'plunderlaw18.TrimNeat'. -/
def trimNeatUptoCard : Claim7 := { stood := { row := trimNeatUptoRow, standIns := [], harness := (true, "e981885d558a14762191f8f0dd79dc511f4c517aed4e22fa1e57f22639afcb15"), looks := true }, kinds := [], alts := [], laidByText := true, laidKinds := [.data, .data], laidTests := true, laidLooks := .later }
def TrimNeatUptoCardSaid : Prop := Claim7.holds Tryd.pinned (.plain (OpenSpec.upto trimNeatSpec)) trimNeatUptoCard

/-- THE SECOND FORM's CARD OF 'plunderlaw18.TrimShape'. -/
def trimShapeUptoCard : Claim7 := { stood := { row := trimShapeUptoRow, standIns := [], harness := (true, "e981885d558a14762191f8f0dd79dc511f4c517aed4e22fa1e57f22639afcb15"), looks := true }, kinds := [], alts := [], laidByText := true, laidKinds := [.data, .data], laidTests := true, laidLooks := .later }
def TrimShapeUptoCardSaid : Prop := Claim7.holds Tryd.pinned (.plain (OpenSpec.upto trimShapeSpec)) trimShapeUptoCard

/-- THE SECOND FORM's CARD OF 'plunderlaw18.TrimLive'. -/
def trimLiveUptoCard : Claim7 := { stood := { row := trimLiveUptoRow, standIns := [], harness := (true, "e981885d558a14762191f8f0dd79dc511f4c517aed4e22fa1e57f22639afcb15"), looks := true }, kinds := [], alts := [], laidByText := true, laidKinds := [.data, .data], laidTests := true, laidLooks := .later }
def TrimLiveUptoCardSaid : Prop := Claim7.holds Tryd.pinned (.plain (OpenSpec.upto trimLiveSpec)) trimLiveUptoCard
end Rows
end Go.Proofs.YtoehkjfdaolcnaaDoor
