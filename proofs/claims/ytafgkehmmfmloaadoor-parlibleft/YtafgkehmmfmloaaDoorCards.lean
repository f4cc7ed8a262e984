/-
  DERIVED. GIVEN WITH THE SEED: THE CARDS: each row of YtafgkehmmfmloaaDoorRows.lean that lists a variable, with what it lists TIED to the program's text (the seventh form; the later family's looks); each row that meets fmt, with fmt's text TOLD by the authors' own Lean function (tested against real Go, not proved from fmt's source: count such statements apart). THE CARD IS WHAT COUNTS. Prove the row's statement (the work); the ties are given (YtafgkehmmfmloaaDoorTie.lean); close each card by the builder's one call (the guide's Derived/Test/ToyasCard.lean, 'card_holds'). Laid BY PROGRAM, IN A SANDBOX (cutbox-door.mjs). By AI agents, Wed Nov 11 2026. No macro, syntax, notation, axiom, sorry.
-/
import Derived.Test.YtafgkehmmfmloaaDoorRows
import GoSem.ClaimSeven
namespace Go.Proofs.YtafgkehmmfmloaaDoor
namespace Rows

/-- THE TIED CARD OF 'plunderlaw13.ParlibLeft'. -/
def parlibLeftCard : Claim7 := { stood := { row := parlibLeftRow, standIns := [], harness := (true, "675787b3d6a7cc3dd3e3b5359821e045a883b5d39ffbb81b31b0361a68c1ec09"), looks := true }, kinds := [], alts := [], laidByText := true, laidKinds := [.data, .data], laidTests := true, laidLooks := .later }
def ParlibLeftCardSaid : Prop := Claim7.holds Tryd.pinned (.plain (OpenSpec.ofChange parlibLeftSpec)) parlibLeftCard

/-- THE SECOND FORM's CARD OF 'plunderlaw13.ParlibLeft'. -/
def parlibLeftUptoCard : Claim7 := { stood := { row := parlibLeftUptoRow, standIns := [], harness := (true, "675787b3d6a7cc3dd3e3b5359821e045a883b5d39ffbb81b31b0361a68c1ec09"), looks := true }, kinds := [], alts := [], laidByText := true, laidKinds := [.data, .data], laidTests := true, laidLooks := .later }
def ParlibLeftUptoCardSaid : Prop := Claim7.holds Tryd.pinned (.plain (OpenSpec.upto parlibLeftSpec)) parlibLeftUptoCard
end Rows
end Go.Proofs.YtafgkehmmfmloaaDoor
