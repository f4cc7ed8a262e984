/-
  NARROWER THAN 'FOR EVERY INPUT', by the rows' own cells (each row's printed sentence says how): TrimNeat: laid · TrimShape: laid · TrimLive: laid.
  DERIVED. THE GIVEN ROWS OF THIS SEAT. 3 by the template 'for every input the law returns true; each argument reads behind the call as it read before'; 0 by the template 'total and deterministic' (their statements: YtoehkjfdaolcnaaDoorTotals.lean).
  GIVEN WITH THE SEED: the statements are not yours to turn. If you find one false, say at which input.
  Laid BY PROGRAM, IN A SANDBOX (cutbox-rows.mjs): the forced cells as the released guide's own fill.sh prints them over the translation 0578a59009496141… (all of the seat's roots in one cut). By AI agents, Wed Nov 11 2026. No macro, syntax, notation, axiom, sorry.
-/
import Derived.Test.YtoehkjfdaolcnaaDoorChecked
import GoSem.Claim
import GoSem.ClaimJoined
import GoSem.ClaimMapViews
import Derived.JoinedTies
import Derived.KernelRfl
namespace Go.Proofs.YtoehkjfdaolcnaaDoor
/- THE CELL 'sum', in the pinned program and in every row, IS THE sha256 OF THE DUMP (.gsa) THAT YtoehkjfdaolcnaaDoorProg.lean LOADS. Nothing in Lean hashes anything: it is a label: what it is worth is what the hold of that sum in a sandbox is worth. -/
noncomputable def Tryd.pinned : Pinned := { name := "ytoehkjfdaolcnaadoor", sum := "0578a59009496141e753e975802270fe6e17ff18aafa9a63436c9e90e7f43598", checked := Tryd.checked }
namespace Rows
def none {H : Type} : Left H := { results := [], args := [] }

/- WHAT THE LISTED PACKAGE-LEVEL VARIABLES READ AS WHEN THE CALL BEGINS. Each datum BY PROGRAM (the guide's laid-datum.mjs) off the statement by which the dump's own 'gosem.cut.vars' lays the variable. In a bare row this is a premise. The card (YtoehkjfdaolcnaaDoorCards.lean) ties it to the program's text. -/
def laid_plunder_prog_forms {H : Type} : DataW H := .agg [.agg [.lit (.int .i64 1), .lit (.int .i64 0), .lit (.int .i64 0), .lit (.int .i64 0), .lit (.bool true)], .agg [.lit (.int .i64 1), .lit (.int .i64 1), .lit (.int .i64 0), .lit (.int .i64 0), .lit (.bool true)], .agg [.lit (.int .i64 1), .lit (.int .i64 1), .lit (.int .i64 1), .lit (.int .i64 6), .lit (.bool true)], .agg [.lit (.int .i64 3), .lit (.int .i64 0), .lit (.int .i64 0), .lit (.int .i64 0), .lit (.bool false)], .agg [.lit (.int .i64 1), .lit (.int .i64 3), .lit (.int .i64 0), .lit (.int .i64 0), .lit (.bool true)], .agg [.lit (.int .i64 2), .lit (.int .i64 4), .lit (.int .i64 5), .lit (.int .i64 0), .lit (.bool true)], .agg [.lit (.int .i64 0), .lit (.int .i64 0), .lit (.int .i64 0), .lit (.int .i64 0), .lit (.bool true)], .agg [.lit (.int .i64 1), .lit (.int .i64 2), .lit (.int .i64 0), .lit (.int .i64 0), .lit (.bool true)], .agg [.lit (.int .i64 1), .lit (.int .i64 0), .lit (.int .i64 0), .lit (.int .i64 0), .lit (.bool true)], .agg [.lit (.int .i64 1), .lit (.int .i64 0), .lit (.int .i64 0), .lit (.int .i64 0), .lit (.bool false)]]
def laid_plunder_prog_start {H : Type} : DataW H := .agg [.lit (.int .i64 0), .lit (.int .i64 1)]

/-- 'plunderlaw18.TrimNeat': WHATEVER THE INPUT: true; the input reads as it did. -/
def trimNeatSpec : ChangeSpec := { name := "trimNeat", fn := fun _ => fun
  | [d] => { results := [.lit (.bool true)], args := [d] }
  | _ => none }
def trimNeatRow : OpenClaim := { program := "ytoehkjfdaolcnaadoor", sum := "0578a59009496141e753e975802270fe6e17ff18aafa9a63436c9e90e7f43598", func := "plunder/plunderlaw18.TrimNeat", spec := "trimNeat", unfollowed := true, recurses := true, named := ["plunder/prog.forms", "plunder/prog.start"], apart := false, laid := [("plunder/prog.forms", laid_plunder_prog_forms), ("plunder/prog.start", laid_plunder_prog_start)] }
def TrimNeatSaid : Prop := trimNeatRow.holds Tryd.pinned (OpenSpec.ofChange trimNeatSpec)

/-- ITS FALSE NEIGHBOUR: 'it returns false'. Refute it at one input. -/
def trimNeatWrong : ChangeSpec := { name := "trimNeat", fn := fun _ => fun
  | [d] => { results := [.lit (.bool false)], args := [d] }
  | _ => none }
def TrimNeatWrongFalsely : Prop := trimNeatRow.holds Tryd.pinned (OpenSpec.ofChange trimNeatWrong)

/-- 'plunderlaw18.TrimShape': WHATEVER THE INPUT: true; the input reads as it did. -/
def trimShapeSpec : ChangeSpec := { name := "trimShape", fn := fun _ => fun
  | [d] => { results := [.lit (.bool true)], args := [d] }
  | _ => none }
def trimShapeRow : OpenClaim := { program := "ytoehkjfdaolcnaadoor", sum := "0578a59009496141e753e975802270fe6e17ff18aafa9a63436c9e90e7f43598", func := "plunder/plunderlaw18.TrimShape", spec := "trimShape", unfollowed := true, recurses := true, named := ["plunder/prog.forms", "plunder/prog.start"], apart := false, laid := [("plunder/prog.forms", laid_plunder_prog_forms), ("plunder/prog.start", laid_plunder_prog_start)] }
def TrimShapeSaid : Prop := trimShapeRow.holds Tryd.pinned (OpenSpec.ofChange trimShapeSpec)

/-- ITS FALSE NEIGHBOUR: 'it returns false'. Refute it at one input. -/
def trimShapeWrong : ChangeSpec := { name := "trimShape", fn := fun _ => fun
  | [d] => { results := [.lit (.bool false)], args := [d] }
  | _ => none }
def TrimShapeWrongFalsely : Prop := trimShapeRow.holds Tryd.pinned (OpenSpec.ofChange trimShapeWrong)

/-- 'plunderlaw18.TrimLive': WHATEVER THE INPUT: true; the input reads as it did. -/
def trimLiveSpec : ChangeSpec := { name := "trimLive", fn := fun _ => fun
  | [d1, d2] => { results := [.lit (.bool true)], args := [d1, d2] }
  | _ => none }
def trimLiveRow : OpenClaim := { program := "ytoehkjfdaolcnaadoor", sum := "0578a59009496141e753e975802270fe6e17ff18aafa9a63436c9e90e7f43598", func := "plunder/plunderlaw18.TrimLive", spec := "trimLive", unfollowed := true, recurses := true, named := ["plunder/prog.forms", "plunder/prog.start"], apart := false, laid := [("plunder/prog.forms", laid_plunder_prog_forms), ("plunder/prog.start", laid_plunder_prog_start)] }
def TrimLiveSaid : Prop := trimLiveRow.holds Tryd.pinned (OpenSpec.ofChange trimLiveSpec)

/-- ITS FALSE NEIGHBOUR: 'it returns false'. Refute it at one input. -/
def trimLiveWrong : ChangeSpec := { name := "trimLive", fn := fun _ => fun
  | [d1, d2] => { results := [.lit (.bool false)], args := [d1, d2] }
  | _ => none }
def TrimLiveWrongFalsely : Prop := trimLiveRow.holds Tryd.pinned (OpenSpec.ofChange trimLiveWrong)

/- THE SECOND FORM. 'bulk': how many values and letters a reading holds, each counted each time it is reached (what is shared counts as often as it is met; a slice's spare places count too). A statement '..UptoSaid' is the law's where the arguments, and the package variables that the reading takes, are together of bulk at most 1048576: NARROWER than '..Said'. Prove '..Said' where nothing that the law and all that it calls make is longer than what came in: it says more and counts as full. Else prove '..UptoSaid'. A law counts once. -/
mutual
def uptoBulk {H : Type} : DataW H → Nat
  | .lit (.string bytes) => bytes.length + 1
  | .lit _ => 1
  | .nil => 1
  | .ptr d => uptoBulk d + 1
  | .slice elems spare => uptoBulkAll elems + uptoBulkAll spare + 1
  | .agg parts => uptoBulkAll parts + 1
  | .iface _ d => uptoBulk d + 1
  | .map entries => uptoBulkEntries entries + 1
  | .held _ => 1
def uptoBulkAll {H : Type} : List (DataW H) → Nat
  | [] => 0
  | d :: r => uptoBulk d + uptoBulkAll r
def uptoBulkEntries {H : Type} : List (Lit × DataW H) → Nat
  | [] => 0
  | x :: r => uptoBulkEntry x + uptoBulkEntries r
def uptoBulkEntry {H : Type} : Lit × DataW H → Nat
  | (.string bytes, d) => bytes.length + uptoBulk d + 1
  | (_, d) => uptoBulk d + 1
 end
def uptoSmall : (H : Type) → List (DataW H) → Bool := fun _ ds => decide (uptoBulkAll ds ≤ 1048576)
def OpenSpec.upto (s : _root_.Go.ChangeSpec) : _root_.Go.OpenSpec := { _root_.Go.OpenSpec.ofChange s with cond := some uptoSmall }

/-- 'plunderlaw18.TrimNeat', WHERE WHAT IT READS IS OF BULK AT MOST 1048576: true; the input reads as it did. -/
def trimNeatUptoRow : OpenClaim := { program := "ytoehkjfdaolcnaadoor", sum := "0578a59009496141e753e975802270fe6e17ff18aafa9a63436c9e90e7f43598", func := "plunder/plunderlaw18.TrimNeat", spec := "trimNeat", unfollowed := true, recurses := true, named := ["plunder/prog.forms", "plunder/prog.start"], apart := false, laid := [("plunder/prog.forms", laid_plunder_prog_forms), ("plunder/prog.start", laid_plunder_prog_start)], narrowed := true }
def TrimNeatUptoSaid : Prop := trimNeatUptoRow.holds Tryd.pinned (OpenSpec.upto trimNeatSpec)

/-- 'plunderlaw18.TrimShape', WHERE WHAT IT READS IS OF BULK AT MOST 1048576: true; the input reads as it did. -/
def trimShapeUptoRow : OpenClaim := { program := "ytoehkjfdaolcnaadoor", sum := "0578a59009496141e753e975802270fe6e17ff18aafa9a63436c9e90e7f43598", func := "plunder/plunderlaw18.TrimShape", spec := "trimShape", unfollowed := true, recurses := true, named := ["plunder/prog.forms", "plunder/prog.start"], apart := false, laid := [("plunder/prog.forms", laid_plunder_prog_forms), ("plunder/prog.start", laid_plunder_prog_start)], narrowed := true }
def TrimShapeUptoSaid : Prop := trimShapeUptoRow.holds Tryd.pinned (OpenSpec.upto trimShapeSpec)

/-- 'plunderlaw18.TrimLive', WHERE WHAT IT READS IS OF BULK AT MOST 1048576: true; the input reads as it did. -/
def trimLiveUptoRow : OpenClaim := { program := "ytoehkjfdaolcnaadoor", sum := "0578a59009496141e753e975802270fe6e17ff18aafa9a63436c9e90e7f43598", func := "plunder/plunderlaw18.TrimLive", spec := "trimLive", unfollowed := true, recurses := true, named := ["plunder/prog.forms", "plunder/prog.start"], apart := false, laid := [("plunder/prog.forms", laid_plunder_prog_forms), ("plunder/prog.start", laid_plunder_prog_start)], narrowed := true }
def TrimLiveUptoSaid : Prop := trimLiveUptoRow.holds Tryd.pinned (OpenSpec.upto trimLiveSpec)

end Rows
end Go.Proofs.YtoehkjfdaolcnaaDoor
