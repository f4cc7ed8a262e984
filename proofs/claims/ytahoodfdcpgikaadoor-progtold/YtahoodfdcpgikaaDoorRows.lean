/-
  NARROWER THAN 'FOR EVERY INPUT', by the rows' own cells (each row's printed sentence says how): ProgTold: laid · ProgWords: laid · ProgShown: laid.
  DERIVED. THE GIVEN ROWS OF THIS SEAT. 3 by the template 'for every input the law returns true; each argument reads behind the call as it read before'; 0 by the template 'total and deterministic' (their statements: YtahoodfdcpgikaaDoorTotals.lean).
  GIVEN WITH THE SEED: the statements are not yours to turn. If you find one false, say at which input.
  Laid BY PROGRAM, IN A SANDBOX (cutbox-rows.mjs): the forced cells as the released guide's own fill.sh prints them over the translation 87a169d8ae9a0b53… (all of the seat's roots in one cut). By AI agents, Wed Nov 11 2026. No macro, syntax, notation, axiom, sorry.
-/
import Derived.Test.YtahoodfdcpgikaaDoorChecked
import GoSem.Claim
import GoSem.ClaimJoined
import GoSem.ClaimMapViews
import Derived.JoinedTies
import Derived.KernelRfl
namespace Go.Proofs.YtahoodfdcpgikaaDoor
/- THE CELL 'sum', in the pinned program and in every row, IS THE sha256 OF THE DUMP (.gsa) THAT YtahoodfdcpgikaaDoorProg.lean LOADS. Nothing in Lean hashes anything: it is a label: what it is worth is what the hold of that sum in a sandbox is worth. -/
noncomputable def Tryd.pinned : Pinned := { name := "ytahoodfdcpgikaadoor", sum := "87a169d8ae9a0b53809e78c190cd386f7cb753c38f25d1f911564ff0f91b6a90", checked := Tryd.checked }
namespace Rows
def none {H : Type} : Left H := { results := [], args := [] }

/- WHAT THE LISTED PACKAGE-LEVEL VARIABLES READ AS WHEN THE CALL BEGINS. Each datum BY PROGRAM (the guide's laid-datum.mjs) off the statement by which the dump's own 'gosem.cut.vars' lays the variable. In a bare row this is a premise. The card (YtahoodfdcpgikaaDoorCards.lean) ties it to the program's text. -/
def laid_plunder_prog_forms {H : Type} : DataW H := .agg [.agg [.lit (.int .i64 1), .lit (.int .i64 0), .lit (.int .i64 0), .lit (.int .i64 0), .lit (.bool true)], .agg [.lit (.int .i64 1), .lit (.int .i64 1), .lit (.int .i64 0), .lit (.int .i64 0), .lit (.bool true)], .agg [.lit (.int .i64 1), .lit (.int .i64 1), .lit (.int .i64 1), .lit (.int .i64 6), .lit (.bool true)], .agg [.lit (.int .i64 3), .lit (.int .i64 0), .lit (.int .i64 0), .lit (.int .i64 0), .lit (.bool false)], .agg [.lit (.int .i64 1), .lit (.int .i64 3), .lit (.int .i64 0), .lit (.int .i64 0), .lit (.bool true)], .agg [.lit (.int .i64 2), .lit (.int .i64 4), .lit (.int .i64 5), .lit (.int .i64 0), .lit (.bool true)], .agg [.lit (.int .i64 0), .lit (.int .i64 0), .lit (.int .i64 0), .lit (.int .i64 0), .lit (.bool true)], .agg [.lit (.int .i64 1), .lit (.int .i64 2), .lit (.int .i64 0), .lit (.int .i64 0), .lit (.bool true)], .agg [.lit (.int .i64 1), .lit (.int .i64 0), .lit (.int .i64 0), .lit (.int .i64 0), .lit (.bool true)], .agg [.lit (.int .i64 1), .lit (.int .i64 0), .lit (.int .i64 0), .lit (.int .i64 0), .lit (.bool false)]]
def laid_plunder_prog_start {H : Type} : DataW H := .agg [.lit (.int .i64 0), .lit (.int .i64 1)]

/-- 'plunderlaw5.ProgTold': WHATEVER THE INPUT: true; the input reads as it did. -/
def progToldSpec : ChangeSpec := { name := "progTold", fn := fun _ => fun
  | [d] => { results := [.lit (.bool true)], args := [d] }
  | _ => none }
def progToldRow : OpenClaim := { program := "ytahoodfdcpgikaadoor", sum := "87a169d8ae9a0b53809e78c190cd386f7cb753c38f25d1f911564ff0f91b6a90", func := "plunder/plunderlaw5.ProgTold", spec := "progTold", unfollowed := true, recurses := true, named := ["plunder/prog.forms", "plunder/prog.start"], apart := false, laid := [("plunder/prog.forms", laid_plunder_prog_forms), ("plunder/prog.start", laid_plunder_prog_start)] }
def ProgToldSaid : Prop := progToldRow.holds Tryd.pinned (OpenSpec.ofChange progToldSpec)

/-- ITS FALSE NEIGHBOUR: 'it returns false'. Refute it at one input. -/
def progToldWrong : ChangeSpec := { name := "progTold", fn := fun _ => fun
  | [d] => { results := [.lit (.bool false)], args := [d] }
  | _ => none }
def ProgToldWrongFalsely : Prop := progToldRow.holds Tryd.pinned (OpenSpec.ofChange progToldWrong)

/-- 'plunderlaw5.ProgWords': WHATEVER THE INPUT: true; the input reads as it did. -/
def progWordsSpec : ChangeSpec := { name := "progWords", fn := fun _ => fun
  | [d] => { results := [.lit (.bool true)], args := [d] }
  | _ => none }
def progWordsRow : OpenClaim := { program := "ytahoodfdcpgikaadoor", sum := "87a169d8ae9a0b53809e78c190cd386f7cb753c38f25d1f911564ff0f91b6a90", func := "plunder/plunderlaw5.ProgWords", spec := "progWords", unfollowed := true, recurses := true, named := ["plunder/prog.forms", "plunder/prog.start"], apart := false, laid := [("plunder/prog.forms", laid_plunder_prog_forms), ("plunder/prog.start", laid_plunder_prog_start)] }
def ProgWordsSaid : Prop := progWordsRow.holds Tryd.pinned (OpenSpec.ofChange progWordsSpec)

/-- ITS FALSE NEIGHBOUR: 'it returns false'. Refute it at one input. -/
def progWordsWrong : ChangeSpec := { name := "progWords", fn := fun _ => fun
  | [d] => { results := [.lit (.bool false)], args := [d] }
  | _ => none }
def ProgWordsWrongFalsely : Prop := progWordsRow.holds Tryd.pinned (OpenSpec.ofChange progWordsWrong)

/-- 'plunderlaw5.ProgShown': WHATEVER THE INPUT: true; the input reads as it did. -/
def progShownSpec : ChangeSpec := { name := "progShown", fn := fun _ => fun
  | [d1, d2, d3] => { results := [.lit (.bool true)], args := [d1, d2, d3] }
  | _ => none }
def progShownRow : OpenClaim := { program := "ytahoodfdcpgikaadoor", sum := "87a169d8ae9a0b53809e78c190cd386f7cb753c38f25d1f911564ff0f91b6a90", func := "plunder/plunderlaw5.ProgShown", spec := "progShown", unfollowed := true, recurses := true, named := ["plunder/prog.forms", "plunder/prog.start"], apart := false, laid := [("plunder/prog.forms", laid_plunder_prog_forms), ("plunder/prog.start", laid_plunder_prog_start)] }
def ProgShownSaid : Prop := progShownRow.holds Tryd.pinned (OpenSpec.ofChange progShownSpec)

/-- ITS FALSE NEIGHBOUR: 'it returns false'. Refute it at one input. -/
def progShownWrong : ChangeSpec := { name := "progShown", fn := fun _ => fun
  | [d1, d2, d3] => { results := [.lit (.bool false)], args := [d1, d2, d3] }
  | _ => none }
def ProgShownWrongFalsely : Prop := progShownRow.holds Tryd.pinned (OpenSpec.ofChange progShownWrong)

/- THE SECOND FORM. 'bulk': how many values and letters a reading holds, each counted each time it is reached (what is shared counts as often as it is met; a slice's spare places count too). A statement '..UptoSaid' is the law's where the arguments, and the package variables that the reading takes, are together of bulk at most 1048576: NARROWER than '..Said'. Prove '..Said' where nothing that the law and all that it calls make is longer than what came in: it says more and counts as full. Else prove '..UptoSaid'. A law counts once. -/
mutual
def uptoBulk {H : Type} : DataW H → Nat
  | .lit (.string bytes) => bytes.length + 1
  | .lit _ => 1
  | .nil => 1
  | .ptr d => uptoBulk d + 1
  | .slice elems spare => uptoBulkAll elems + uptoBulkAll spare + 1
  | .agg parts => uptoBulkAll parts + 1
  | .iface _ d => uptoBulk d + 1
  | .map entries => uptoBulkEntries entries + 1
  | .held _ => 1
def uptoBulkAll {H : Type} : List (DataW H) → Nat
  | [] => 0
  | d :: r => uptoBulk d + uptoBulkAll r
def uptoBulkEntries {H : Type} : List (Lit × DataW H) → Nat
  | [] => 0
  | x :: r => uptoBulkEntry x + uptoBulkEntries r
def uptoBulkEntry {H : Type} : Lit × DataW H → Nat
  | (.string bytes, d) => bytes.length + uptoBulk d + 1
  | (_, d) => uptoBulk d + 1
 end
def uptoSmall : (H : Type) → List (DataW H) → Bool := fun _ ds => decide (uptoBulkAll ds ≤ 1048576)
def OpenSpec.upto (s : _root_.Go.ChangeSpec) : _root_.Go.OpenSpec := { _root_.Go.OpenSpec.ofChange s with cond := some uptoSmall }

/-- 'plunderlaw5.ProgTold', WHERE WHAT IT READS IS OF BULK AT MOST 1048576: true; the input reads as it did. -/
def progToldUptoRow : OpenClaim := { program := "ytahoodfdcpgikaadoor", sum := "87a169d8ae9a0b53809e78c190cd386f7cb753c38f25d1f911564ff0f91b6a90", func := "plunder/plunderlaw5.ProgTold", spec := "progTold", unfollowed := true, recurses := true, named := ["plunder/prog.forms", "plunder/prog.start"], apart := false, laid := [("plunder/prog.forms", laid_plunder_prog_forms), ("plunder/prog.start", laid_plunder_prog_start)], narrowed := true }
def ProgToldUptoSaid : Prop := progToldUptoRow.holds Tryd.pinned (OpenSpec.upto progToldSpec)

/-- 'plunderlaw5.ProgWords', WHERE WHAT IT READS IS OF BULK AT MOST 1048576: true; the input reads as it did. -/
def progWordsUptoRow : OpenClaim := { program := "ytahoodfdcpgikaadoor", sum := "87a169d8ae9a0b53809e78c190cd386f7cb753c38f25d1f911564ff0f91b6a90", func := "plunder/plunderlaw5.ProgWords", spec := "progWords", unfollowed := true, recurses := true, named := ["plunder/prog.forms", "plunder/prog.start"], apart := false, laid := [("plunder/prog.forms", laid_plunder_prog_forms), ("plunder/prog.start", laid_plunder_prog_start)], narrowed := true }
def ProgWordsUptoSaid : Prop := progWordsUptoRow.holds Tryd.pinned (OpenSpec.upto progWordsSpec)

/-- 'plunderlaw5.ProgShown', WHERE WHAT IT READS IS OF BULK AT MOST 1048576: true; the input reads as it did. -/
def progShownUptoRow : OpenClaim := { program := "ytahoodfdcpgikaadoor", sum := "87a169d8ae9a0b53809e78c190cd386f7cb753c38f25d1f911564ff0f91b6a90", func := "plunder/plunderlaw5.ProgShown", spec := "progShown", unfollowed := true, recurses := true, named := ["plunder/prog.forms", "plunder/prog.start"], apart := false, laid := [("plunder/prog.forms", laid_plunder_prog_forms), ("plunder/prog.start", laid_plunder_prog_start)], narrowed := true }
def ProgShownUptoSaid : Prop := progShownUptoRow.holds Tryd.pinned (OpenSpec.upto progShownSpec)

end Rows
end Go.Proofs.YtahoodfdcpgikaaDoor
