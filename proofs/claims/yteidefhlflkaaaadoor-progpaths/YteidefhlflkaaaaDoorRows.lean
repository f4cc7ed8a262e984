/-
  NARROWER THAN 'FOR EVERY INPUT', by the rows' own cells (each row's printed sentence says how): ProgSafe: laid · ProgPaths: laid · ProgTold: laid · ProgWords: laid · ProgSpoilt: laid · ProgShown: laid.
  DERIVED. THE GIVEN ROWS OF THIS SEAT. 6 by the template 'for every input the law returns true; each argument reads behind the call as it read before'; 0 by the template 'total and deterministic' (their statements: YteidefhlflkaaaaDoorTotals.lean).
  GIVEN WITH THE SEED: the statements are not yours to turn. If you find one false, say at which input.
  Laid BY PROGRAM, IN A SANDBOX (cutbox-rows.mjs): the forced cells as the released guide's own fill.sh prints them over the translation a5f5c2d21808228a… (all of the seat's roots in one cut). By AI agents, Wed Nov 11 2026. No macro, syntax, notation, axiom, sorry.
-/
import Derived.Test.YteidefhlflkaaaaDoorChecked
import GoSem.Claim
import GoSem.ClaimJoined
import GoSem.ClaimMapViews
import Derived.JoinedTies
import Derived.KernelRfl
namespace Go.Proofs.YteidefhlflkaaaaDoor
/- THE CELL 'sum', in the pinned program and in every row, IS THE sha256 OF THE DUMP (.gsa) THAT YteidefhlflkaaaaDoorProg.lean LOADS. Nothing in Lean hashes anything: it is a label: what it is worth is what the hold of that sum in a sandbox is worth. -/
noncomputable def Tryd.pinned : Pinned := { name := "yteidefhlflkaaaadoor", sum := "a5f5c2d21808228ada96a58fe8a1fe646c0db19e9c791b83e8a430cdc02eb7f7", checked := Tryd.checked }
namespace Rows
def none {H : Type} : Left H := { results := [], args := [] }

/- WHAT THE LISTED PACKAGE-LEVEL VARIABLES READ AS WHEN THE CALL BEGINS. Each datum BY PROGRAM (the guide's laid-datum.mjs) off the statement by which the dump's own 'gosem.cut.vars' lays the variable. In a bare row this is a premise. The card (YteidefhlflkaaaaDoorCards.lean) ties it to the program's text. -/
def laid_plunder_prog_forms {H : Type} : DataW H := .agg [.agg [.lit (.int .i64 1), .lit (.int .i64 0), .lit (.int .i64 0), .lit (.int .i64 0), .lit (.bool true)], .agg [.lit (.int .i64 1), .lit (.int .i64 1), .lit (.int .i64 0), .lit (.int .i64 0), .lit (.bool true)], .agg [.lit (.int .i64 1), .lit (.int .i64 1), .lit (.int .i64 1), .lit (.int .i64 6), .lit (.bool true)], .agg [.lit (.int .i64 3), .lit (.int .i64 0), .lit (.int .i64 0), .lit (.int .i64 0), .lit (.bool false)], .agg [.lit (.int .i64 1), .lit (.int .i64 3), .lit (.int .i64 0), .lit (.int .i64 0), .lit (.bool true)], .agg [.lit (.int .i64 2), .lit (.int .i64 4), .lit (.int .i64 5), .lit (.int .i64 0), .lit (.bool true)], .agg [.lit (.int .i64 0), .lit (.int .i64 0), .lit (.int .i64 0), .lit (.int .i64 0), .lit (.bool true)], .agg [.lit (.int .i64 1), .lit (.int .i64 2), .lit (.int .i64 0), .lit (.int .i64 0), .lit (.bool true)], .agg [.lit (.int .i64 1), .lit (.int .i64 0), .lit (.int .i64 0), .lit (.int .i64 0), .lit (.bool true)], .agg [.lit (.int .i64 1), .lit (.int .i64 0), .lit (.int .i64 0), .lit (.int .i64 0), .lit (.bool false)]]
def laid_plunder_prog_start {H : Type} : DataW H := .agg [.lit (.int .i64 0), .lit (.int .i64 1)]

/-- 'plunderlaw5.ProgSafe': WHATEVER THE INPUT: true; the input reads as it did. -/
def progSafeSpec : ChangeSpec := { name := "progSafe", fn := fun _ => fun
  | [d1, d2, d3] => { results := [.lit (.bool true)], args := [d1, d2, d3] }
  | _ => none }
def progSafeRow : OpenClaim := { program := "yteidefhlflkaaaadoor", sum := "a5f5c2d21808228ada96a58fe8a1fe646c0db19e9c791b83e8a430cdc02eb7f7", func := "plunder/plunderlaw5.ProgSafe", spec := "progSafe", unfollowed := true, recurses := true, named := ["plunder/prog.forms", "plunder/prog.start"], apart := false, laid := [("plunder/prog.forms", laid_plunder_prog_forms), ("plunder/prog.start", laid_plunder_prog_start)] }
def ProgSafeSaid : Prop := progSafeRow.holds Tryd.pinned (OpenSpec.ofChange progSafeSpec)

/-- ITS FALSE NEIGHBOUR: 'it returns false'. Refute it at one input. -/
def progSafeWrong : ChangeSpec := { name := "progSafe", fn := fun _ => fun
  | [d1, d2, d3] => { results := [.lit (.bool false)], args := [d1, d2, d3] }
  | _ => none }
def ProgSafeWrongFalsely : Prop := progSafeRow.holds Tryd.pinned (OpenSpec.ofChange progSafeWrong)

/-- 'plunderlaw5.ProgPaths': WHATEVER THE INPUT: true; the input reads as it did. -/
def progPathsSpec : ChangeSpec := { name := "progPaths", fn := fun _ => fun
  | [d1, d2, d3] => { results := [.lit (.bool true)], args := [d1, d2, d3] }
  | _ => none }
def progPathsRow : OpenClaim := { program := "yteidefhlflkaaaadoor", sum := "a5f5c2d21808228ada96a58fe8a1fe646c0db19e9c791b83e8a430cdc02eb7f7", func := "plunder/plunderlaw5.ProgPaths", spec := "progPaths", unfollowed := true, recurses := true, named := ["plunder/prog.forms", "plunder/prog.start"], apart := false, laid := [("plunder/prog.forms", laid_plunder_prog_forms), ("plunder/prog.start", laid_plunder_prog_start)] }
def ProgPathsSaid : Prop := progPathsRow.holds Tryd.pinned (OpenSpec.ofChange progPathsSpec)

/-- ITS FALSE NEIGHBOUR: 'it returns false'. Refute it at one input. -/
def progPathsWrong : ChangeSpec := { name := "progPaths", fn := fun _ => fun
  | [d1, d2, d3] => { results := [.lit (.bool false)], args := [d1, d2, d3] }
  | _ => none }
def ProgPathsWrongFalsely : Prop := progPathsRow.holds Tryd.pinned (OpenSpec.ofChange progPathsWrong)

/-- 'plunderlaw5.ProgTold': WHATEVER THE INPUT: true; the input reads as it did. -/
def progToldSpec : ChangeSpec := { name := "progTold", fn := fun _ => fun
  | [d] => { results := [.lit (.bool true)], args := [d] }
  | _ => none }
def progToldRow : OpenClaim := { program := "yteidefhlflkaaaadoor", sum := "a5f5c2d21808228ada96a58fe8a1fe646c0db19e9c791b83e8a430cdc02eb7f7", func := "plunder/plunderlaw5.ProgTold", spec := "progTold", unfollowed := true, recurses := true, named := ["plunder/prog.forms", "plunder/prog.start"], apart := false, laid := [("plunder/prog.forms", laid_plunder_prog_forms), ("plunder/prog.start", laid_plunder_prog_start)] }
def ProgToldSaid : Prop := progToldRow.holds Tryd.pinned (OpenSpec.ofChange progToldSpec)

/-- ITS FALSE NEIGHBOUR: 'it returns false'. Refute it at one input. -/
def progToldWrong : ChangeSpec := { name := "progTold", fn := fun _ => fun
  | [d] => { results := [.lit (.bool false)], args := [d] }
  | _ => none }
def ProgToldWrongFalsely : Prop := progToldRow.holds Tryd.pinned (OpenSpec.ofChange progToldWrong)

/-- 'plunderlaw5.ProgWords': WHATEVER THE INPUT: true; the input reads as it did. -/
def progWordsSpec : ChangeSpec := { name := "progWords", fn := fun _ => fun
  | [d] => { results := [.lit (.bool true)], args := [d] }
  | _ => none }
def progWordsRow : OpenClaim := { program := "yteidefhlflkaaaadoor", sum := "a5f5c2d21808228ada96a58fe8a1fe646c0db19e9c791b83e8a430cdc02eb7f7", func := "plunder/plunderlaw5.ProgWords", spec := "progWords", unfollowed := true, recurses := true, named := ["plunder/prog.forms", "plunder/prog.start"], apart := false, laid := [("plunder/prog.forms", laid_plunder_prog_forms), ("plunder/prog.start", laid_plunder_prog_start)] }
def ProgWordsSaid : Prop := progWordsRow.holds Tryd.pinned (OpenSpec.ofChange progWordsSpec)

/-- ITS FALSE NEIGHBOUR: 'it returns false'. Refute it at one input. -/
def progWordsWrong : ChangeSpec := { name := "progWords", fn := fun _ => fun
  | [d] => { results := [.lit (.bool false)], args := [d] }
  | _ => none }
def ProgWordsWrongFalsely : Prop := progWordsRow.holds Tryd.pinned (OpenSpec.ofChange progWordsWrong)

/-- 'plunderlaw5.ProgSpoilt': WHATEVER THE INPUT: true; the input reads as it did. -/
def progSpoiltSpec : ChangeSpec := { name := "progSpoilt", fn := fun _ => fun
  | [d1, d2, d3] => { results := [.lit (.bool true)], args := [d1, d2, d3] }
  | _ => none }
def progSpoiltRow : OpenClaim := { program := "yteidefhlflkaaaadoor", sum := "a5f5c2d21808228ada96a58fe8a1fe646c0db19e9c791b83e8a430cdc02eb7f7", func := "plunder/plunderlaw5.ProgSpoilt", spec := "progSpoilt", unfollowed := true, recurses := true, named := ["plunder/prog.forms", "plunder/prog.start"], apart := false, laid := [("plunder/prog.forms", laid_plunder_prog_forms), ("plunder/prog.start", laid_plunder_prog_start)] }
def ProgSpoiltSaid : Prop := progSpoiltRow.holds Tryd.pinned (OpenSpec.ofChange progSpoiltSpec)

/-- ITS FALSE NEIGHBOUR: 'it returns false'. Refute it at one input. -/
def progSpoiltWrong : ChangeSpec := { name := "progSpoilt", fn := fun _ => fun
  | [d1, d2, d3] => { results := [.lit (.bool false)], args := [d1, d2, d3] }
  | _ => none }
def ProgSpoiltWrongFalsely : Prop := progSpoiltRow.holds Tryd.pinned (OpenSpec.ofChange progSpoiltWrong)

/-- 'plunderlaw5.ProgShown': WHATEVER THE INPUT: true; the input reads as it did. -/
def progShownSpec : ChangeSpec := { name := "progShown", fn := fun _ => fun
  | [d1, d2, d3] => { results := [.lit (.bool true)], args := [d1, d2, d3] }
  | _ => none }
def progShownRow : OpenClaim := { program := "yteidefhlflkaaaadoor", sum := "a5f5c2d21808228ada96a58fe8a1fe646c0db19e9c791b83e8a430cdc02eb7f7", func := "plunder/plunderlaw5.ProgShown", spec := "progShown", unfollowed := true, recurses := true, named := ["plunder/prog.forms", "plunder/prog.start"], apart := false, laid := [("plunder/prog.forms", laid_plunder_prog_forms), ("plunder/prog.start", laid_plunder_prog_start)] }
def ProgShownSaid : Prop := progShownRow.holds Tryd.pinned (OpenSpec.ofChange progShownSpec)

/-- ITS FALSE NEIGHBOUR: 'it returns false'. Refute it at one input. -/
def progShownWrong : ChangeSpec := { name := "progShown", fn := fun _ => fun
  | [d1, d2, d3] => { results := [.lit (.bool false)], args := [d1, d2, d3] }
  | _ => none }
def ProgShownWrongFalsely : Prop := progShownRow.holds Tryd.pinned (OpenSpec.ofChange progShownWrong)

/- THE SECOND FORM. 'bulk': how many values and letters a reading holds, each counted each time it is reached (what is shared counts as often as it is met; a slice's spare places count too). A statement '..UptoSaid' is the law's where the arguments, and the package variables that the reading takes, are together of bulk at most 1048576: NARROWER than '..Said'. Prove '..Said' where nothing that the law and all that it calls make is longer than what came in: it says more and counts as full. Else prove '..UptoSaid'. A law counts once. -/
mutual
def uptoBulk {H : Type} : DataW H → Nat
  | .lit (.string bytes) => bytes.length + 1
  | .lit _ => 1
  | .nil => 1
  | .ptr d => uptoBulk d + 1
  | .slice elems spare => uptoBulkAll elems + uptoBulkAll spare + 1
  | .agg parts => uptoBulkAll parts + 1
  | .iface _ d => uptoBulk d + 1
  | .map entries => uptoBulkEntries entries + 1
  | .held _ => 1
def uptoBulkAll {H : Type} : List (DataW H) → Nat
  | [] => 0
  | d :: r => uptoBulk d + uptoBulkAll r
def uptoBulkEntries {H : Type} : List (Lit × DataW H) → Nat
  | [] => 0
  | x :: r => uptoBulkEntry x + uptoBulkEntries r
def uptoBulkEntry {H : Type} : Lit × DataW H → Nat
  | (.string bytes, d) => bytes.length + uptoBulk d + 1
  | (_, d) => uptoBulk d + 1
 end
def uptoSmall : (H : Type) → List (DataW H) → Bool := fun _ ds => decide (uptoBulkAll ds ≤ 1048576)
def OpenSpec.upto (s : _root_.Go.ChangeSpec) : _root_.Go.OpenSpec := { _root_.Go.OpenSpec.ofChange s with cond := some uptoSmall }

/-- 'plunderlaw5.ProgSafe', WHERE WHAT IT READS IS OF BULK AT MOST 1048576: true; the input reads as it did. -/
def progSafeUptoRow : OpenClaim := { program := "yteidefhlflkaaaadoor", sum := "a5f5c2d21808228ada96a58fe8a1fe646c0db19e9c791b83e8a430cdc02eb7f7", func := "plunder/plunderlaw5.ProgSafe", spec := "progSafe", unfollowed := true, recurses := true, named := ["plunder/prog.forms", "plunder/prog.start"], apart := false, laid := [("plunder/prog.forms", laid_plunder_prog_forms), ("plunder/prog.start", laid_plunder_prog_start)], narrowed := true }
def ProgSafeUptoSaid : Prop := progSafeUptoRow.holds Tryd.pinned (OpenSpec.upto progSafeSpec)

/-- 'plunderlaw5.ProgPaths', WHERE WHAT IT READS IS OF BULK AT MOST 1048576: true; the input reads as it did. -/
def progPathsUptoRow : OpenClaim := { program := "yteidefhlflkaaaadoor", sum := "a5f5c2d21808228ada96a58fe8a1fe646c0db19e9c791b83e8a430cdc02eb7f7", func := "plunder/plunderlaw5.ProgPaths", spec := "progPaths", unfollowed := true, recurses := true, named := ["plunder/prog.forms", "plunder/prog.start"], apart := false, laid := [("plunder/prog.forms", laid_plunder_prog_forms), ("plunder/prog.start", laid_plunder_prog_start)], narrowed := true }
def ProgPathsUptoSaid : Prop := progPathsUptoRow.holds Tryd.pinned (OpenSpec.upto progPathsSpec)

/-- 'plunderlaw5.ProgTold', WHERE WHAT IT READS IS OF BULK AT MOST 1048576: true; the input reads as it did. -/
def progToldUptoRow : OpenClaim := { program := "yteidefhlflkaaaadoor", sum := "a5f5c2d21808228ada96a58fe8a1fe646c0db19e9c791b83e8a430cdc02eb7f7", func := "plunder/plunderlaw5.ProgTold", spec := "progTold", unfollowed := true, recurses := true, named := ["plunder/prog.forms", "plunder/prog.start"], apart := false, laid := [("plunder/prog.forms", laid_plunder_prog_forms), ("plunder/prog.start", laid_plunder_prog_start)], narrowed := true }
def ProgToldUptoSaid : Prop := progToldUptoRow.holds Tryd.pinned (OpenSpec.upto progToldSpec)

/-- 'plunderlaw5.ProgWords', WHERE WHAT IT READS IS OF BULK AT MOST 1048576: true; the input reads as it did. -/
def progWordsUptoRow : OpenClaim := { program := "yteidefhlflkaaaadoor", sum := "a5f5c2d21808228ada96a58fe8a1fe646c0db19e9c791b83e8a430cdc02eb7f7", func := "plunder/plunderlaw5.ProgWords", spec := "progWords", unfollowed := true, recurses := true, named := ["plunder/prog.forms", "plunder/prog.start"], apart := false, laid := [("plunder/prog.forms", laid_plunder_prog_forms), ("plunder/prog.start", laid_plunder_prog_start)], narrowed := true }
def ProgWordsUptoSaid : Prop := progWordsUptoRow.holds Tryd.pinned (OpenSpec.upto progWordsSpec)

/-- 'plunderlaw5.ProgSpoilt', WHERE WHAT IT READS IS OF BULK AT MOST 1048576: true; the input reads as it did. -/
def progSpoiltUptoRow : OpenClaim := { program := "yteidefhlflkaaaadoor", sum := "a5f5c2d21808228ada96a58fe8a1fe646c0db19e9c791b83e8a430cdc02eb7f7", func := "plunder/plunderlaw5.ProgSpoilt", spec := "progSpoilt", unfollowed := true, recurses := true, named := ["plunder/prog.forms", "plunder/prog.start"], apart := false, laid := [("plunder/prog.forms", laid_plunder_prog_forms), ("plunder/prog.start", laid_plunder_prog_start)], narrowed := true }
def ProgSpoiltUptoSaid : Prop := progSpoiltUptoRow.holds Tryd.pinned (OpenSpec.upto progSpoiltSpec)

/-- 'plunderlaw5.ProgShown', WHERE WHAT IT READS IS OF BULK AT MOST 1048576: true; the input reads as it did. -/
def progShownUptoRow : OpenClaim := { program := "yteidefhlflkaaaadoor", sum := "a5f5c2d21808228ada96a58fe8a1fe646c0db19e9c791b83e8a430cdc02eb7f7", func := "plunder/plunderlaw5.ProgShown", spec := "progShown", unfollowed := true, recurses := true, named := ["plunder/prog.forms", "plunder/prog.start"], apart := false, laid := [("plunder/prog.forms", laid_plunder_prog_forms), ("plunder/prog.start", laid_plunder_prog_start)], narrowed := true }
def ProgShownUptoSaid : Prop := progShownUptoRow.holds Tryd.pinned (OpenSpec.upto progShownSpec)

end Rows
end Go.Proofs.YteidefhlflkaaaaDoor
