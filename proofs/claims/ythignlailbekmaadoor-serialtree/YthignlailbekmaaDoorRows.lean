/-
  NARROWER THAN 'FOR EVERY INPUT', by the rows' own cells (each row's printed sentence says how): SerialEval: laid · SerialTree: laid.
  DERIVED. THE GIVEN ROWS OF THIS SEAT. 2 by the template 'for every input the law returns true; each argument reads behind the call as it read before'; 0 by the template 'total and deterministic' (their statements: YthignlailbekmaaDoorTotals.lean).
  GIVEN WITH THE SEED: the statements are not yours to turn. If you find one false, say at which input.
  Laid BY PROGRAM, IN A SANDBOX (cutbox-rows.mjs): the forced cells as the released guide's own fill.sh prints them over the translation 77bd71e463c38f97… (all of the seat's roots in one cut). By AI agents, Wed Nov 11 2026. No macro, syntax, notation, axiom, sorry.
-/
import Derived.Test.YthignlailbekmaaDoorChecked
import GoSem.Claim
import GoSem.ClaimJoined
import GoSem.ClaimMapViews
import Derived.JoinedTies
import Derived.KernelRfl
namespace Go.Proofs.YthignlailbekmaaDoor
/- THE CELL 'sum', in the pinned program and in every row, IS THE sha256 OF THE DUMP (.gsa) THAT YthignlailbekmaaDoorProg.lean LOADS. Nothing in Lean hashes anything: it is a label: what it is worth is what the hold of that sum in a sandbox is worth. -/
noncomputable def Tryd.pinned : Pinned := { name := "ythignlailbekmaadoor", sum := "77bd71e463c38f97c32e35d3a36e73f415f345fa2f2ae74ab5d862e31bd73efd", checked := Tryd.checked }
namespace Rows
def none {H : Type} : Left H := { results := [], args := [] }

/- WHAT THE LISTED PACKAGE-LEVEL VARIABLES READ AS WHEN THE CALL BEGINS. Each datum BY PROGRAM (the guide's laid-datum.mjs) off the statement by which the dump's own 'gosem.cut.vars' lays the variable. In a bare row this is a premise. The card (YthignlailbekmaaDoorCards.lean) ties it to the program's text. -/
def laid_plunder_prog_forms {H : Type} : DataW H := .agg [.agg [.lit (.int .i64 1), .lit (.int .i64 0), .lit (.int .i64 0), .lit (.int .i64 0), .lit (.bool true)], .agg [.lit (.int .i64 1), .lit (.int .i64 1), .lit (.int .i64 0), .lit (.int .i64 0), .lit (.bool true)], .agg [.lit (.int .i64 1), .lit (.int .i64 1), .lit (.int .i64 1), .lit (.int .i64 6), .lit (.bool true)], .agg [.lit (.int .i64 3), .lit (.int .i64 0), .lit (.int .i64 0), .lit (.int .i64 0), .lit (.bool false)], .agg [.lit (.int .i64 1), .lit (.int .i64 3), .lit (.int .i64 0), .lit (.int .i64 0), .lit (.bool true)], .agg [.lit (.int .i64 2), .lit (.int .i64 4), .lit (.int .i64 5), .lit (.int .i64 0), .lit (.bool true)], .agg [.lit (.int .i64 0), .lit (.int .i64 0), .lit (.int .i64 0), .lit (.int .i64 0), .lit (.bool true)], .agg [.lit (.int .i64 1), .lit (.int .i64 2), .lit (.int .i64 0), .lit (.int .i64 0), .lit (.bool true)], .agg [.lit (.int .i64 1), .lit (.int .i64 0), .lit (.int .i64 0), .lit (.int .i64 0), .lit (.bool true)], .agg [.lit (.int .i64 1), .lit (.int .i64 0), .lit (.int .i64 0), .lit (.int .i64 0), .lit (.bool false)]]
def laid_plunder_prog_start {H : Type} : DataW H := .agg [.lit (.int .i64 0), .lit (.int .i64 1)]

/-- 'plunderlaw6.SerialEval': WHATEVER THE INPUT: true; the input reads as it did. -/
def serialEvalSpec : ChangeSpec := { name := "serialEval", fn := fun _ => fun
  | [d1, d2, d3] => { results := [.lit (.bool true)], args := [d1, d2, d3] }
  | _ => none }
def serialEvalRow : OpenClaim := { program := "ythignlailbekmaadoor", sum := "77bd71e463c38f97c32e35d3a36e73f415f345fa2f2ae74ab5d862e31bd73efd", func := "plunder/plunderlaw6.SerialEval", spec := "serialEval", unfollowed := true, recurses := true, named := ["plunder/prog.forms", "plunder/prog.start"], apart := false, laid := [("plunder/prog.forms", laid_plunder_prog_forms), ("plunder/prog.start", laid_plunder_prog_start)] }
def SerialEvalSaid : Prop := serialEvalRow.holds Tryd.pinned (OpenSpec.ofChange serialEvalSpec)

/-- ITS FALSE NEIGHBOUR: 'it returns false'. Refute it at one input. -/
def serialEvalWrong : ChangeSpec := { name := "serialEval", fn := fun _ => fun
  | [d1, d2, d3] => { results := [.lit (.bool false)], args := [d1, d2, d3] }
  | _ => none }
def SerialEvalWrongFalsely : Prop := serialEvalRow.holds Tryd.pinned (OpenSpec.ofChange serialEvalWrong)

/-- 'plunderlaw6.SerialTree': WHATEVER THE INPUT: true; the input reads as it did. -/
def serialTreeSpec : ChangeSpec := { name := "serialTree", fn := fun _ => fun
  | [d1, d2, d3] => { results := [.lit (.bool true)], args := [d1, d2, d3] }
  | _ => none }
def serialTreeRow : OpenClaim := { program := "ythignlailbekmaadoor", sum := "77bd71e463c38f97c32e35d3a36e73f415f345fa2f2ae74ab5d862e31bd73efd", func := "plunder/plunderlaw6.SerialTree", spec := "serialTree", unfollowed := true, recurses := true, named := ["plunder/prog.forms", "plunder/prog.start"], apart := false, laid := [("plunder/prog.forms", laid_plunder_prog_forms), ("plunder/prog.start", laid_plunder_prog_start)] }
def SerialTreeSaid : Prop := serialTreeRow.holds Tryd.pinned (OpenSpec.ofChange serialTreeSpec)

/-- ITS FALSE NEIGHBOUR: 'it returns false'. Refute it at one input. -/
def serialTreeWrong : ChangeSpec := { name := "serialTree", fn := fun _ => fun
  | [d1, d2, d3] => { results := [.lit (.bool false)], args := [d1, d2, d3] }
  | _ => none }
def SerialTreeWrongFalsely : Prop := serialTreeRow.holds Tryd.pinned (OpenSpec.ofChange serialTreeWrong)

/- THE SECOND FORM. 'bulk': how many values and letters a reading holds, each counted each time it is reached (what is shared counts as often as it is met; a slice's spare places count too). A statement '..UptoSaid' is the law's where the arguments, and the package variables that the reading takes, are together of bulk at most 1048576: NARROWER than '..Said'. Prove '..Said' where nothing that the law and all that it calls make is longer than what came in: it says more and counts as full. Else prove '..UptoSaid'. A law counts once. -/
mutual
def uptoBulk {H : Type} : DataW H → Nat
  | .lit (.string bytes) => bytes.length + 1
  | .lit _ => 1
  | .nil => 1
  | .ptr d => uptoBulk d + 1
  | .slice elems spare => uptoBulkAll elems + uptoBulkAll spare + 1
  | .agg parts => uptoBulkAll parts + 1
  | .iface _ d => uptoBulk d + 1
  | .map entries => uptoBulkEntries entries + 1
  | .held _ => 1
def uptoBulkAll {H : Type} : List (DataW H) → Nat
  | [] => 0
  | d :: r => uptoBulk d + uptoBulkAll r
def uptoBulkEntries {H : Type} : List (Lit × DataW H) → Nat
  | [] => 0
  | x :: r => uptoBulkEntry x + uptoBulkEntries r
def uptoBulkEntry {H : Type} : Lit × DataW H → Nat
  | (.string bytes, d) => bytes.length + uptoBulk d + 1
  | (_, d) => uptoBulk d + 1
 end
def uptoSmall : (H : Type) → List (DataW H) → Bool := fun _ ds => decide (uptoBulkAll ds ≤ 1048576)
def OpenSpec.upto (s : _root_.Go.ChangeSpec) : _root_.Go.OpenSpec := { _root_.Go.OpenSpec.ofChange s with cond := some uptoSmall }

/-- 'plunderlaw6.SerialEval', WHERE WHAT IT READS IS OF BULK AT MOST 1048576: true; the input reads as it did. -/
def serialEvalUptoRow : OpenClaim := { program := "ythignlailbekmaadoor", sum := "77bd71e463c38f97c32e35d3a36e73f415f345fa2f2ae74ab5d862e31bd73efd", func := "plunder/plunderlaw6.SerialEval", spec := "serialEval", unfollowed := true, recurses := true, named := ["plunder/prog.forms", "plunder/prog.start"], apart := false, laid := [("plunder/prog.forms", laid_plunder_prog_forms), ("plunder/prog.start", laid_plunder_prog_start)], narrowed := true }
def SerialEvalUptoSaid : Prop := serialEvalUptoRow.holds Tryd.pinned (OpenSpec.upto serialEvalSpec)

/-- 'plunderlaw6.SerialTree', WHERE WHAT IT READS IS OF BULK AT MOST 1048576: true; the input reads as it did. -/
def serialTreeUptoRow : OpenClaim := { program := "ythignlailbekmaadoor", sum := "77bd71e463c38f97c32e35d3a36e73f415f345fa2f2ae74ab5d862e31bd73efd", func := "plunder/plunderlaw6.SerialTree", spec := "serialTree", unfollowed := true, recurses := true, named := ["plunder/prog.forms", "plunder/prog.start"], apart := false, laid := [("plunder/prog.forms", laid_plunder_prog_forms), ("plunder/prog.start", laid_plunder_prog_start)], narrowed := true }
def SerialTreeUptoSaid : Prop := serialTreeUptoRow.holds Tryd.pinned (OpenSpec.upto serialTreeSpec)

end Rows
end Go.Proofs.YthignlailbekmaaDoor
