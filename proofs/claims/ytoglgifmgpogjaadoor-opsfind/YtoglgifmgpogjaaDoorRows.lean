/-
  NARROWER THAN 'FOR EVERY INPUT', by the rows' own cells (each row's printed sentence says how): OpsNamed: laid · OpsFind: laid · OpsTable: laid.
  DERIVED. THE GIVEN ROWS OF THIS SEAT. 3 by the template 'for every input the law returns true; each argument reads behind the call as it read before'; 0 by the template 'total and deterministic' (their statements: YtoglgifmgpogjaaDoorTotals.lean).
  GIVEN WITH THE SEED: the statements are not yours to turn. If you find one false, say at which input.
  Laid BY PROGRAM, IN A SANDBOX (cutbox-rows.mjs): the forced cells as the released guide's own fill.sh prints them over the translation 02c76107d66201a5… (all of the seat's roots in one cut). By AI agents, Wed Nov 11 2026. No macro, syntax, notation, axiom, sorry.
-/
import Derived.Test.YtoglgifmgpogjaaDoorChecked
import GoSem.Claim
import GoSem.ClaimJoined
import GoSem.ClaimMapViews
import Derived.JoinedTies
import Derived.KernelRfl
namespace Go.Proofs.YtoglgifmgpogjaaDoor
/- THE CELL 'sum', in the pinned program and in every row, IS THE sha256 OF THE DUMP (.gsa) THAT YtoglgifmgpogjaaDoorProg.lean LOADS. Nothing in Lean hashes anything: it is a label: what it is worth is what the hold of that sum in a sandbox is worth. -/
noncomputable def Tryd.pinned : Pinned := { name := "ytoglgifmgpogjaadoor", sum := "02c76107d66201a5913073876f9660f6d14e2851244bfa35411d0eea991a6ead", checked := Tryd.checked }
namespace Rows
def none {H : Type} : Left H := { results := [], args := [] }

/- WHAT THE LISTED PACKAGE-LEVEL VARIABLES READ AS WHEN THE CALL BEGINS. Each datum BY PROGRAM (the guide's laid-datum.mjs) off the statement by which the dump's own 'gosem.cut.vars' lays the variable. In a bare row this is a premise. The card (YtoglgifmgpogjaaDoorCards.lean) ties it to the program's text. -/
def laid_plunder_ops_names {H : Type} : DataW H := .agg [.lit (.string [43]), .lit (.string [45]), .lit (.string [42]), .lit (.string [47]), .lit (.string [37]), .lit (.string [38]), .lit (.string [124]), .lit (.string [94]), .lit (.string [60, 60]), .lit (.string [62, 62]), .lit (.string [109, 105, 110]), .lit (.string [109, 97, 120]), .lit (.string [60]), .lit (.string [60, 61]), .lit (.string [61, 61]), .lit (.string [33, 61])]

/-- 'plunderlaw1.OpsNamed': WHATEVER THE INPUT: true; the input reads as it did. -/
def opsNamedSpec : ChangeSpec := { name := "opsNamed", fn := fun _ => fun
  | [] => { results := [.lit (.bool true)], args := [] }
  | _ => none }
def opsNamedRow : OpenClaim := { program := "ytoglgifmgpogjaadoor", sum := "02c76107d66201a5913073876f9660f6d14e2851244bfa35411d0eea991a6ead", func := "plunder/plunderlaw1.OpsNamed", spec := "opsNamed", named := ["plunder/ops.names"], apart := false, laid := [("plunder/ops.names", laid_plunder_ops_names)] }
def OpsNamedSaid : Prop := opsNamedRow.holds Tryd.pinned (OpenSpec.ofChange opsNamedSpec)

/-- ITS FALSE NEIGHBOUR: 'it returns false'. Refute it at one input. -/
def opsNamedWrong : ChangeSpec := { name := "opsNamed", fn := fun _ => fun
  | [] => { results := [.lit (.bool false)], args := [] }
  | _ => none }
def OpsNamedWrongFalsely : Prop := opsNamedRow.holds Tryd.pinned (OpenSpec.ofChange opsNamedWrong)

/-- 'plunderlaw1.OpsFind': WHATEVER THE INPUT: true; the input reads as it did. -/
def opsFindSpec : ChangeSpec := { name := "opsFind", fn := fun _ => fun
  | [d] => { results := [.lit (.bool true)], args := [d] }
  | _ => none }
def opsFindRow : OpenClaim := { program := "ytoglgifmgpogjaadoor", sum := "02c76107d66201a5913073876f9660f6d14e2851244bfa35411d0eea991a6ead", func := "plunder/plunderlaw1.OpsFind", spec := "opsFind", named := ["plunder/ops.names"], apart := false, laid := [("plunder/ops.names", laid_plunder_ops_names)] }
def OpsFindSaid : Prop := opsFindRow.holds Tryd.pinned (OpenSpec.ofChange opsFindSpec)

/-- ITS FALSE NEIGHBOUR: 'it returns false'. Refute it at one input. -/
def opsFindWrong : ChangeSpec := { name := "opsFind", fn := fun _ => fun
  | [d] => { results := [.lit (.bool false)], args := [d] }
  | _ => none }
def OpsFindWrongFalsely : Prop := opsFindRow.holds Tryd.pinned (OpenSpec.ofChange opsFindWrong)

/-- 'plunderlaw1.OpsTable': WHATEVER THE INPUT: true; the input reads as it did. -/
def opsTableSpec : ChangeSpec := { name := "opsTable", fn := fun _ => fun
  | [d] => { results := [.lit (.bool true)], args := [d] }
  | _ => none }
def opsTableRow : OpenClaim := { program := "ytoglgifmgpogjaadoor", sum := "02c76107d66201a5913073876f9660f6d14e2851244bfa35411d0eea991a6ead", func := "plunder/plunderlaw1.OpsTable", spec := "opsTable", named := ["plunder/ops.names"], apart := false, laid := [("plunder/ops.names", laid_plunder_ops_names)] }
def OpsTableSaid : Prop := opsTableRow.holds Tryd.pinned (OpenSpec.ofChange opsTableSpec)

/-- ITS FALSE NEIGHBOUR: 'it returns false'. Refute it at one input. -/
def opsTableWrong : ChangeSpec := { name := "opsTable", fn := fun _ => fun
  | [d] => { results := [.lit (.bool false)], args := [d] }
  | _ => none }
def OpsTableWrongFalsely : Prop := opsTableRow.holds Tryd.pinned (OpenSpec.ofChange opsTableWrong)

/- THE SECOND FORM. 'bulk': how many values and letters a reading holds, each counted each time it is reached (what is shared counts as often as it is met; a slice's spare places count too). A statement '..UptoSaid' is the law's where the arguments, and the package variables that the reading takes, are together of bulk at most 1048576: NARROWER than '..Said'. Prove '..Said' where nothing that the law and all that it calls make is longer than what came in: it says more and counts as full. Else prove '..UptoSaid'. A law counts once. -/
mutual
def uptoBulk {H : Type} : DataW H → Nat
  | .lit (.string bytes) => bytes.length + 1
  | .lit _ => 1
  | .nil => 1
  | .ptr d => uptoBulk d + 1
  | .slice elems spare => uptoBulkAll elems + uptoBulkAll spare + 1
  | .agg parts => uptoBulkAll parts + 1
  | .iface _ d => uptoBulk d + 1
  | .map entries => uptoBulkEntries entries + 1
  | .held _ => 1
def uptoBulkAll {H : Type} : List (DataW H) → Nat
  | [] => 0
  | d :: r => uptoBulk d + uptoBulkAll r
def uptoBulkEntries {H : Type} : List (Lit × DataW H) → Nat
  | [] => 0
  | x :: r => uptoBulkEntry x + uptoBulkEntries r
def uptoBulkEntry {H : Type} : Lit × DataW H → Nat
  | (.string bytes, d) => bytes.length + uptoBulk d + 1
  | (_, d) => uptoBulk d + 1
 end
def uptoSmall : (H : Type) → List (DataW H) → Bool := fun _ ds => decide (uptoBulkAll ds ≤ 1048576)
def OpenSpec.upto (s : _root_.Go.ChangeSpec) : _root_.Go.OpenSpec := { _root_.Go.OpenSpec.ofChange s with cond := some uptoSmall }

/-- 'plunderlaw1.OpsNamed', WHERE WHAT IT READS IS OF BULK AT MOST 1048576: true; the input reads as it did. -/
def opsNamedUptoRow : OpenClaim := { program := "ytoglgifmgpogjaadoor", sum := "02c76107d66201a5913073876f9660f6d14e2851244bfa35411d0eea991a6ead", func := "plunder/plunderlaw1.OpsNamed", spec := "opsNamed", named := ["plunder/ops.names"], apart := false, laid := [("plunder/ops.names", laid_plunder_ops_names)], narrowed := true }
def OpsNamedUptoSaid : Prop := opsNamedUptoRow.holds Tryd.pinned (OpenSpec.upto opsNamedSpec)

/-- 'plunderlaw1.OpsFind', WHERE WHAT IT READS IS OF BULK AT MOST 1048576: true; the input reads as it did. -/
def opsFindUptoRow : OpenClaim := { program := "ytoglgifmgpogjaadoor", sum := "02c76107d66201a5913073876f9660f6d14e2851244bfa35411d0eea991a6ead", func := "plunder/plunderlaw1.OpsFind", spec := "opsFind", named := ["plunder/ops.names"], apart := false, laid := [("plunder/ops.names", laid_plunder_ops_names)], narrowed := true }
def OpsFindUptoSaid : Prop := opsFindUptoRow.holds Tryd.pinned (OpenSpec.upto opsFindSpec)

/-- 'plunderlaw1.OpsTable', WHERE WHAT IT READS IS OF BULK AT MOST 1048576: true; the input reads as it did. -/
def opsTableUptoRow : OpenClaim := { program := "ytoglgifmgpogjaadoor", sum := "02c76107d66201a5913073876f9660f6d14e2851244bfa35411d0eea991a6ead", func := "plunder/plunderlaw1.OpsTable", spec := "opsTable", named := ["plunder/ops.names"], apart := false, laid := [("plunder/ops.names", laid_plunder_ops_names)], narrowed := true }
def OpsTableUptoSaid : Prop := opsTableUptoRow.holds Tryd.pinned (OpenSpec.upto opsTableSpec)

end Rows
end Go.Proofs.YtoglgifmgpogjaaDoor
