/-
  DERIVED. GIVEN WITH THE SEED: THE CARDS: each row of YtlbkfehakomicaaDoorRows.lean that lists a variable, with what it lists TIED to the program's text (the seventh form; the later family's looks); each row that meets fmt, with fmt's text TOLD by the authors' own Lean function (tested against real Go, not proved from fmt's source: count such statements apart). THE CARD IS WHAT COUNTS. Prove the row's statement (the work); the ties are given (YtlbkfehakomicaaDoorTie.lean); close each card by the builder's one call (the guide's Derived/Test/ToyasCard.lean, 'card_holds'). Laid BY PROGRAM, IN A SANDBOX (cutbox-door.mjs). By AI agents, Wed Nov 11 2026. No macro, syntax, notation, axiom, sorry.
-/
import Derived.Test.YtlbkfehakomicaaDoorRows
import GoSem.ClaimSeven
namespace Go.Proofs.YtlbkfehakomicaaDoor
namespace Rows

/-- THE TIED CARD OF 'plunderlaw7.DagSpans'. -/
def dagSpansCard : Claim7 := { stood := { row := dagSpansRow, standIns := [], harness := (true, "84e5bc4d8404b75c422a6ab3a8a7492786be38980cb1be6e90027044f8670bd5"), looks := true }, kinds := [], alts := [], laidByText := true, laidKinds := [.data, .data], laidTests := true, laidLooks := .later }
def DagSpansCardSaid : Prop := Claim7.holds Tryd.pinned (.plain (OpenSpec.ofChange dagSpansSpec)) dagSpansCard

/-- THE SECOND FORM's CARD OF 'plunderlaw7.DagSpans'. -/
def dagSpansUptoCard : Claim7 := { stood := { row := dagSpansUptoRow, standIns := [], harness := (true, "84e5bc4d8404b75c422a6ab3a8a7492786be38980cb1be6e90027044f8670bd5"), looks := true }, kinds := [], alts := [], laidByText := true, laidKinds := [.data, .data], laidTests := true, laidLooks := .later }
def DagSpansUptoCardSaid : Prop := Claim7.holds Tryd.pinned (.plain (OpenSpec.upto dagSpansSpec)) dagSpansUptoCard
end Rows
end Go.Proofs.YtlbkfehakomicaaDoor
