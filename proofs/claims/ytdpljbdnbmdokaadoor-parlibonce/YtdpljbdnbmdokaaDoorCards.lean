/-
  DERIVED. GIVEN WITH THE SEED: THE CARDS: each row of YtdpljbdnbmdokaaDoorRows.lean that lists a variable, with what it lists TIED to the program's text (the seventh form; the later family's looks); each row that meets fmt, with fmt's text TOLD by the authors' own Lean function (tested against real Go, not proved from fmt's source: count such statements apart). THE CARD IS WHAT COUNTS. Prove the row's statement (the work); the ties are given (YtdpljbdnbmdokaaDoorTie.lean); close each card by the builder's one call (the guide's Derived/Test/ToyasCard.lean, 'card_holds'). Laid BY PROGRAM, IN A SANDBOX (cutbox-door.mjs). By AI agents, Wed Nov 11 2026. No macro, syntax, notation, axiom, sorry.
-/
import Derived.Test.YtdpljbdnbmdokaaDoorRows
import GoSem.ClaimSeven
namespace Go.Proofs.YtdpljbdnbmdokaaDoor
namespace Rows

/-- THE TIED CARD OF 'plunderlaw13.ParlibLog'. -/
def parlibLogCard : Claim7 := { stood := { row := parlibLogRow, standIns := [], harness := (true, "3a05c273f122b300be9265d96b53c1f5966e2c19e42b95f87c8d30a1c27608ec"), looks := true }, kinds := [], alts := [], laidByText := true, laidKinds := [.data, .data], laidTests := true, laidLooks := .later }
def ParlibLogCardSaid : Prop := Claim7.holds Tryd.pinned (.plain (OpenSpec.ofChange parlibLogSpec)) parlibLogCard

/-- THE TIED CARD OF 'plunderlaw13.ParlibOnce'. -/
def parlibOnceCard : Claim7 := { stood := { row := parlibOnceRow, standIns := [], harness := (true, "3a05c273f122b300be9265d96b53c1f5966e2c19e42b95f87c8d30a1c27608ec"), looks := true }, kinds := [], alts := [], laidByText := true, laidKinds := [.data, .data], laidTests := true, laidLooks := .later }
def ParlibOnceCardSaid : Prop := Claim7.holds Tryd.pinned (.plain (OpenSpec.ofChange parlibOnceSpec)) parlibOnceCard

/-- THE SECOND FORM's CARD OF 'plunderlaw13.ParlibLog'. -/
def parlibLogUptoCard : Claim7 := { stood := { row := parlibLogUptoRow, standIns := [], harness := (true, "3a05c273f122b300be9265d96b53c1f5966e2c19e42b95f87c8d30a1c27608ec"), looks := true }, kinds := [], alts := [], laidByText := true, laidKinds := [.data, .data], laidTests := true, laidLooks := .later }
def ParlibLogUptoCardSaid : Prop := Claim7.holds Tryd.pinned (.plain (OpenSpec.upto parlibLogSpec)) parlibLogUptoCard

/-- THE SECOND FORM's CARD OF 'plunderlaw13.ParlibOnce'. -/
def parlibOnceUptoCard : Claim7 := { stood := { row := parlibOnceUptoRow, standIns := [], harness := (true, "3a05c273f122b300be9265d96b53c1f5966e2c19e42b95f87c8d30a1c27608ec"), looks := true }, kinds := [], alts := [], laidByText := true, laidKinds := [.data, .data], laidTests := true, laidLooks := .later }
def ParlibOnceUptoCardSaid : Prop := Claim7.holds Tryd.pinned (.plain (OpenSpec.upto parlibOnceSpec)) parlibOnceUptoCard
end Rows
end Go.Proofs.YtdpljbdnbmdokaaDoor
