/-
  DERIVED. GIVEN WITH THE SEED: THE CARDS: each row of YtboingcmlmfceaaDoorRows.lean that lists a variable, with what it lists TIED to the program's text (the seventh form; the later family's looks); each row that meets fmt, with fmt's text TOLD by the authors' own Lean function (tested against real Go, not proved from fmt's source: count such statements apart). THE CARD IS WHAT COUNTS. Prove the row's statement (the work); the ties are given (YtboingcmlmfceaaDoorTie.lean); close each card by the builder's one call (the guide's Derived/Test/ToyasCard.lean, 'card_holds'). Laid BY PROGRAM, IN A SANDBOX (cutbox-door.mjs). By AI agents, Wed Nov 11 2026. No macro, syntax, notation, axiom, sorry.
-/
import Derived.Test.YtboingcmlmfceaaDoorRows
import GoSem.ClaimSeven
namespace Go.Proofs.YtboingcmlmfceaaDoor
namespace Rows

/-- THE TIED CARD OF 'plunderlaw6.SerialOps'. -/
def serialOpsCard : Claim7 := { stood := { row := serialOpsRow, standIns := [], harness := (true, "cc8982b9027f48678649677122119105e586ac80b02546b47d0ac2218c92582f"), looks := true }, kinds := [], alts := [], laidByText := true, laidKinds := [.data, .data], laidTests := true, laidLooks := .later }
def SerialOpsCardSaid : Prop := Claim7.holds Tryd.pinned (.plain (OpenSpec.ofChange serialOpsSpec)) serialOpsCard

/-- THE TIED CARD OF 'plunderlaw6.SerialFuel'. -/
def serialFuelCard : Claim7 := { stood := { row := serialFuelRow, standIns := [], harness := (true, "cc8982b9027f48678649677122119105e586ac80b02546b47d0ac2218c92582f"), looks := true }, kinds := [], alts := [], laidByText := true, laidKinds := [.data, .data], laidTests := true, laidLooks := .later }
def SerialFuelCardSaid : Prop := Claim7.holds Tryd.pinned (.plain (OpenSpec.ofChange serialFuelSpec)) serialFuelCard

/-- THE TIED CARD OF 'plunderlaw6.SerialSizes'. -/
def serialSizesCard : Claim7 := { stood := { row := serialSizesRow, standIns := [], harness := (true, "cc8982b9027f48678649677122119105e586ac80b02546b47d0ac2218c92582f"), looks := true }, kinds := [], alts := [], laidByText := true, laidKinds := [.data, .data], laidTests := true, laidLooks := .later }
def SerialSizesCardSaid : Prop := Claim7.holds Tryd.pinned (.plain (OpenSpec.ofChange serialSizesSpec)) serialSizesCard

/-- THE TIED CARD OF 'plunderlaw6.SerialPause'. -/
def serialPauseCard : Claim7 := { stood := { row := serialPauseRow, standIns := [], harness := (true, "cc8982b9027f48678649677122119105e586ac80b02546b47d0ac2218c92582f"), looks := true }, kinds := [], alts := [], laidByText := true, laidKinds := [.data, .data], laidTests := true, laidLooks := .later }
def SerialPauseCardSaid : Prop := Claim7.holds Tryd.pinned (.plain (OpenSpec.ofChange serialPauseSpec)) serialPauseCard

/-- THE TIED CARD OF 'plunderlaw6.SerialSum'. -/
def serialSumCard : Claim7 := { stood := { row := serialSumRow, standIns := [], harness := (true, "cc8982b9027f48678649677122119105e586ac80b02546b47d0ac2218c92582f"), looks := true }, kinds := [], alts := [], laidByText := true, laidKinds := [.data, .data], laidTests := true, laidLooks := .later }
def SerialSumCardSaid : Prop := Claim7.holds Tryd.pinned (.plain (OpenSpec.ofChange serialSumSpec)) serialSumCard

/-- THE SECOND FORM's CARD OF 'plunderlaw6.SerialOps'. -/
def serialOpsUptoCard : Claim7 := { stood := { row := serialOpsUptoRow, standIns := [], harness := (true, "cc8982b9027f48678649677122119105e586ac80b02546b47d0ac2218c92582f"), looks := true }, kinds := [], alts := [], laidByText := true, laidKinds := [.data, .data], laidTests := true, laidLooks := .later }
def SerialOpsUptoCardSaid : Prop := Claim7.holds Tryd.pinned (.plain (OpenSpec.upto serialOpsSpec)) serialOpsUptoCard

/-- THE SECOND FORM's CARD OF 'plunderlaw6.SerialFuel'. -/
def serialFuelUptoCard : Claim7 := { stood := { row := serialFuelUptoRow, standIns := [], harness := (true, "cc8982b9027f48678649677122119105e586ac80b02546b47d0ac2218c92582f"), looks := true }, kinds := [], alts := [], laidByText := true, laidKinds := [.data, .data], laidTests := true, laidLooks := .later }
def SerialFuelUptoCardSaid : Prop := Claim7.holds Tryd.pinned (.plain (OpenSpec.upto serialFuelSpec)) serialFuelUptoCard

/-- THE SECOND FORM's CARD OF 'plunderlaw6.SerialSizes'. -/
def serialSizesUptoCard : Claim7 := { stood := { row := serialSizesUptoRow, standIns := [], harness := (true, "cc8982b9027f48678649677122119105e586ac80b02546b47d0ac2218c92582f"), looks := true }, kinds := [], alts := [], laidByText := true, laidKinds := [.data, .data], laidTests := true, laidLooks := .later }
def SerialSizesUptoCardSaid : Prop := Claim7.holds Tryd.pinned (.plain (OpenSpec.upto serialSizesSpec)) serialSizesUptoCard

/-- THE SECOND FORM's CARD OF 'plunderlaw6.SerialPause'. -/
def serialPauseUptoCard : Claim7 := { stood := { row := serialPauseUptoRow, standIns := [], harness := (true, "cc8982b9027f48678649677122119105e586ac80b02546b47d0ac2218c92582f"), looks := true }, kinds := [], alts := [], laidByText := true, laidKinds := [.data, .data], laidTests := true, laidLooks := .later }
def SerialPauseUptoCardSaid : Prop := Claim7.holds Tryd.pinned (.plain (OpenSpec.upto serialPauseSpec)) serialPauseUptoCard

/-- THE SECOND FORM's CARD OF 'plunderlaw6.SerialSum'. -/
def serialSumUptoCard : Claim7 := { stood := { row := serialSumUptoRow, standIns := [], harness := (true, "cc8982b9027f48678649677122119105e586ac80b02546b47d0ac2218c92582f"), looks := true }, kinds := [], alts := [], laidByText := true, laidKinds := [.data, .data], laidTests := true, laidLooks := .later }
def SerialSumUptoCardSaid : Prop := Claim7.holds Tryd.pinned (.plain (OpenSpec.upto serialSumSpec)) serialSumUptoCard
end Rows
end Go.Proofs.YtboingcmlmfceaaDoor
