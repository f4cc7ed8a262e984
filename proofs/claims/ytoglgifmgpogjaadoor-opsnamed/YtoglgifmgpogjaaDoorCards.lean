/-
  DERIVED. GIVEN WITH THE SEED: THE CARDS: each row of YtoglgifmgpogjaaDoorRows.lean that lists a variable, with what it lists TIED to the program's text (the seventh form; the later family's looks); each row that meets fmt, with fmt's text TOLD by the authors' own Lean function (tested against real Go, not proved from fmt's source: count such statements apart). THE CARD IS WHAT COUNTS. Prove the row's statement (the work); the ties are given (YtoglgifmgpogjaaDoorTie.lean); close each card by the builder's one call (the guide's Derived/Test/ToyasCard.lean, 'card_holds'). Laid BY PROGRAM, IN A SANDBOX (cutbox-door.mjs). By AI agents, Wed Nov 11 2026. No macro, syntax, notation, axiom, sorry.
-/
import Derived.Test.YtoglgifmgpogjaaDoorRows
import GoSem.ClaimSeven
namespace Go.Proofs.YtoglgifmgpogjaaDoor
namespace Rows

/-- THE TIED CARD OF 'plunderlaw1.OpsNamed'. -/
def opsNamedCard : Claim7 := { stood := { row := opsNamedRow, standIns := [], harness := (true, "13849dbd1b0a74f207b6275955c26fe03027324d5e2c83d882f757b2084b6662"), looks := false }, kinds := [], alts := [], laidByText := true, laidKinds := [.data], laidTests := true, laidLooks := .later }
def OpsNamedCardSaid : Prop := Claim7.holds Tryd.pinned (.plain (OpenSpec.ofChange opsNamedSpec)) opsNamedCard

/-- THE TIED CARD OF 'plunderlaw1.OpsFind'. -/
def opsFindCard : Claim7 := { stood := { row := opsFindRow, standIns := [], harness := (true, "13849dbd1b0a74f207b6275955c26fe03027324d5e2c83d882f757b2084b6662"), looks := false }, kinds := [], alts := [], laidByText := true, laidKinds := [.data], laidTests := true, laidLooks := .later }
def OpsFindCardSaid : Prop := Claim7.holds Tryd.pinned (.plain (OpenSpec.ofChange opsFindSpec)) opsFindCard

/-- THE TIED CARD OF 'plunderlaw1.OpsTable'. -/
def opsTableCard : Claim7 := { stood := { row := opsTableRow, standIns := [], harness := (true, "13849dbd1b0a74f207b6275955c26fe03027324d5e2c83d882f757b2084b6662"), looks := false }, kinds := [], alts := [], laidByText := true, laidKinds := [.data], laidTests := true, laidLooks := .later }
def OpsTableCardSaid : Prop := Claim7.holds Tryd.pinned (.plain (OpenSpec.ofChange opsTableSpec)) opsTableCard

/-- THE SECOND FORM's CARD OF 'plunderlaw1.OpsNamed'. -/
def opsNamedUptoCard : Claim7 := { stood := { row := opsNamedUptoRow, standIns := [], harness := (true, "13849dbd1b0a74f207b6275955c26fe03027324d5e2c83d882f757b2084b6662"), looks := false }, kinds := [], alts := [], laidByText := true, laidKinds := [.data], laidTests := true, laidLooks := .later }
def OpsNamedUptoCardSaid : Prop := Claim7.holds Tryd.pinned (.plain (OpenSpec.upto opsNamedSpec)) opsNamedUptoCard

/-- THE SECOND FORM's CARD OF 'plunderlaw1.OpsFind'. -/
def opsFindUptoCard : Claim7 := { stood := { row := opsFindUptoRow, standIns := [], harness := (true, "13849dbd1b0a74f207b6275955c26fe03027324d5e2c83d882f757b2084b6662"), looks := false }, kinds := [], alts := [], laidByText := true, laidKinds := [.data], laidTests := true, laidLooks := .later }
def OpsFindUptoCardSaid : Prop := Claim7.holds Tryd.pinned (.plain (OpenSpec.upto opsFindSpec)) opsFindUptoCard

/-- THE SECOND FORM's CARD OF 'plunderlaw1.OpsTable'. -/
def opsTableUptoCard : Claim7 := { stood := { row := opsTableUptoRow, standIns := [], harness := (true, "13849dbd1b0a74f207b6275955c26fe03027324d5e2c83d882f757b2084b6662"), looks := false }, kinds := [], alts := [], laidByText := true, laidKinds := [.data], laidTests := true, laidLooks := .later }
def OpsTableUptoCardSaid : Prop := Claim7.holds Tryd.pinned (.plain (OpenSpec.upto opsTableSpec)) opsTableUptoCard
end Rows
end Go.Proofs.YtoglgifmgpogjaaDoor
