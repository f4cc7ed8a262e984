/-
  DERIVED. GIVEN WITH THE SEED: THE CARDS: each row of YtocfcdnbielbiaaDoorRows.lean that lists a variable, with what it lists TIED to the program's text (the seventh form; the later family's looks); each row that meets fmt, with fmt's text TOLD by the authors' own Lean function (tested against real Go, not proved from fmt's source: count such statements apart). THE CARD IS WHAT COUNTS. Prove the row's statement (the work); the ties are given (YtocfcdnbielbiaaDoorTie.lean); close each card by the builder's one call (the guide's Derived/Test/ToyasCard.lean, 'card_holds'). Laid BY PROGRAM, IN A SANDBOX (cutbox-door.mjs). By AI agents, Wed Nov 11 2026. No macro, syntax, notation, axiom, sorry.
-/
import Derived.Test.YtocfcdnbielbiaaDoorRows
import GoSem.ClaimSeven
namespace Go.Proofs.YtocfcdnbielbiaaDoor
namespace Rows

/-- THE TIED CARD OF 'plunderlaw6.SerialEval'. -/
def serialEvalCard : Claim7 := { stood := { row := serialEvalRow, standIns := [], harness := (true, "82949e8595a4adac3773fa9af2673290e527c4b3beae65ae8ad82edaae17cf18"), looks := true }, kinds := [], alts := [], laidByText := true, laidKinds := [.data, .data], laidTests := true, laidLooks := .later }
def SerialEvalCardSaid : Prop := Claim7.holds Tryd.pinned (.plain (OpenSpec.ofChange serialEvalSpec)) serialEvalCard

/-- THE TIED CARD OF 'plunderlaw6.SerialTree'. -/
def serialTreeCard : Claim7 := { stood := { row := serialTreeRow, standIns := [], harness := (true, "82949e8595a4adac3773fa9af2673290e527c4b3beae65ae8ad82edaae17cf18"), looks := true }, kinds := [], alts := [], laidByText := true, laidKinds := [.data, .data], laidTests := true, laidLooks := .later }
def SerialTreeCardSaid : Prop := Claim7.holds Tryd.pinned (.plain (OpenSpec.ofChange serialTreeSpec)) serialTreeCard

/-- THE TIED CARD OF 'plunderlaw6.SerialFuel'. -/
def serialFuelCard : Claim7 := { stood := { row := serialFuelRow, standIns := [], harness := (true, "82949e8595a4adac3773fa9af2673290e527c4b3beae65ae8ad82edaae17cf18"), looks := true }, kinds := [], alts := [], laidByText := true, laidKinds := [.data, .data], laidTests := true, laidLooks := .later }
def SerialFuelCardSaid : Prop := Claim7.holds Tryd.pinned (.plain (OpenSpec.ofChange serialFuelSpec)) serialFuelCard

/-- THE TIED CARD OF 'plunderlaw6.SerialSizes'. -/
def serialSizesCard : Claim7 := { stood := { row := serialSizesRow, standIns := [], harness := (true, "82949e8595a4adac3773fa9af2673290e527c4b3beae65ae8ad82edaae17cf18"), looks := true }, kinds := [], alts := [], laidByText := true, laidKinds := [.data, .data], laidTests := true, laidLooks := .later }
def SerialSizesCardSaid : Prop := Claim7.holds Tryd.pinned (.plain (OpenSpec.ofChange serialSizesSpec)) serialSizesCard

/-- THE TIED CARD OF 'plunderlaw6.SerialOps'. -/
def serialOpsCard : Claim7 := { stood := { row := serialOpsRow, standIns := [], harness := (true, "82949e8595a4adac3773fa9af2673290e527c4b3beae65ae8ad82edaae17cf18"), looks := true }, kinds := [], alts := [], laidByText := true, laidKinds := [.data, .data], laidTests := true, laidLooks := .later }
def SerialOpsCardSaid : Prop := Claim7.holds Tryd.pinned (.plain (OpenSpec.ofChange serialOpsSpec)) serialOpsCard

/-- THE TIED CARD OF 'plunderlaw6.SerialSum'. -/
def serialSumCard : Claim7 := { stood := { row := serialSumRow, standIns := [], harness := (true, "82949e8595a4adac3773fa9af2673290e527c4b3beae65ae8ad82edaae17cf18"), looks := true }, kinds := [], alts := [], laidByText := true, laidKinds := [.data, .data], laidTests := true, laidLooks := .later }
def SerialSumCardSaid : Prop := Claim7.holds Tryd.pinned (.plain (OpenSpec.ofChange serialSumSpec)) serialSumCard

/-- THE SECOND FORM's CARD OF 'plunderlaw6.SerialEval'. -/
def serialEvalUptoCard : Claim7 := { stood := { row := serialEvalUptoRow, standIns := [], harness := (true, "82949e8595a4adac3773fa9af2673290e527c4b3beae65ae8ad82edaae17cf18"), looks := true }, kinds := [], alts := [], laidByText := true, laidKinds := [.data, .data], laidTests := true, laidLooks := .later }
def SerialEvalUptoCardSaid : Prop := Claim7.holds Tryd.pinned (.plain (OpenSpec.upto serialEvalSpec)) serialEvalUptoCard

/-- THE SECOND FORM's CARD OF 'plunderlaw6.SerialTree'. -/
def serialTreeUptoCard : Claim7 := { stood := { row := serialTreeUptoRow, standIns := [], harness := (true, "82949e8595a4adac3773fa9af2673290e527c4b3beae65ae8ad82edaae17cf18"), looks := true }, kinds := [], alts := [], laidByText := true, laidKinds := [.data, .data], laidTests := true, laidLooks := .later }
def SerialTreeUptoCardSaid : Prop := Claim7.holds Tryd.pinned (.plain (OpenSpec.upto serialTreeSpec)) serialTreeUptoCard

/-- THE SECOND FORM's CARD OF 'plunderlaw6.SerialFuel'. -/
def serialFuelUptoCard : Claim7 := { stood := { row := serialFuelUptoRow, standIns := [], harness := (true, "82949e8595a4adac3773fa9af2673290e527c4b3beae65ae8ad82edaae17cf18"), looks := true }, kinds := [], alts := [], laidByText := true, laidKinds := [.data, .data], laidTests := true, laidLooks := .later }
def SerialFuelUptoCardSaid : Prop := Claim7.holds Tryd.pinned (.plain (OpenSpec.upto serialFuelSpec)) serialFuelUptoCard

/-- THE SECOND FORM's CARD OF 'plunderlaw6.SerialSizes'. -/
def serialSizesUptoCard : Claim7 := { stood := { row := serialSizesUptoRow, standIns := [], harness := (true, "82949e8595a4adac3773fa9af2673290e527c4b3beae65ae8ad82edaae17cf18"), looks := true }, kinds := [], alts := [], laidByText := true, laidKinds := [.data, .data], laidTests := true, laidLooks := .later }
def SerialSizesUptoCardSaid : Prop := Claim7.holds Tryd.pinned (.plain (OpenSpec.upto serialSizesSpec)) serialSizesUptoCard

/-- THE SECOND FORM's CARD OF 'plunderlaw6.SerialOps'. -/
def serialOpsUptoCard : Claim7 := { stood := { row := serialOpsUptoRow, standIns := [], harness := (true, "82949e8595a4adac3773fa9af2673290e527c4b3beae65ae8ad82edaae17cf18"), looks := true }, kinds := [], alts := [], laidByText := true, laidKinds := [.data, .data], laidTests := true, laidLooks := .later }
def SerialOpsUptoCardSaid : Prop := Claim7.holds Tryd.pinned (.plain (OpenSpec.upto serialOpsSpec)) serialOpsUptoCard

/-- THE SECOND FORM's CARD OF 'plunderlaw6.SerialSum'. -/
def serialSumUptoCard : Claim7 := { stood := { row := serialSumUptoRow, standIns := [], harness := (true, "82949e8595a4adac3773fa9af2673290e527c4b3beae65ae8ad82edaae17cf18"), looks := true }, kinds := [], alts := [], laidByText := true, laidKinds := [.data, .data], laidTests := true, laidLooks := .later }
def SerialSumUptoCardSaid : Prop := Claim7.holds Tryd.pinned (.plain (OpenSpec.upto serialSumSpec)) serialSumUptoCard
end Rows
end Go.Proofs.YtocfcdnbielbiaaDoor
