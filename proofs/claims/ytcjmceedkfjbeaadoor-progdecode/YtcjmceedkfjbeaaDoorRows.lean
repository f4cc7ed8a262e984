/-
  NARROWER THAN 'FOR EVERY INPUT', by the rows' own cells (each row's printed sentence says how): ProgWords: laid · ProgDecode: laid · ProgEncode: laid.
  DERIVED. THE GIVEN ROWS OF THIS SEAT. 3 by the template 'for every input the law returns true; each argument reads behind the call as it read before'; 0 by the template 'total and deterministic' (their statements: YtcjmceedkfjbeaaDoorTotals.lean).
  GIVEN WITH THE SEED: the statements are not yours to turn. If you find one false, say at which input.
  Laid BY PROGRAM, IN A SANDBOX (cutbox-rows.mjs): the forced cells as the released guide's own fill.sh prints them over the translation 7e8c6611513b1b02… (all of the seat's roots in one cut). By AI agents, Wed Nov 11 2026. No macro, syntax, notation, axiom, sorry.
-/
import Derived.Test.YtcjmceedkfjbeaaDoorChecked
import GoSem.Claim
import GoSem.ClaimJoined
import GoSem.ClaimMapViews
import Derived.JoinedTies
import Derived.KernelRfl
namespace Go.Proofs.YtcjmceedkfjbeaaDoor
/- THE CELL 'sum', in the pinned program and in every row, IS THE sha256 OF THE DUMP (.gsa) THAT YtcjmceedkfjbeaaDoorProg.lean LOADS. Nothing in Lean hashes anything: it is a label: what it is worth is what the hold of that sum in a sandbox is worth. -/
noncomputable def Tryd.pinned : Pinned := { name := "ytcjmceedkfjbeaadoor", sum := "7e8c6611513b1b02b64d3fa670e6ec85927ce10653b126593c3a8c99593dfdfe", checked := Tryd.checked }
namespace Rows
def none {H : Type} : Left H := { results := [], args := [] }

/- WHAT THE LISTED PACKAGE-LEVEL VARIABLES READ AS WHEN THE CALL BEGINS. Each datum BY PROGRAM (the guide's laid-datum.mjs) off the statement by which the dump's own 'gosem.cut.vars' lays the variable. In a bare row this is a premise. The card (YtcjmceedkfjbeaaDoorCards.lean) ties it to the program's text. -/
def laid_plunder_prog_forms {H : Type} : DataW H := .agg [.agg [.lit (.int .i64 1), .lit (.int .i64 0), .lit (.int .i64 0), .lit (.int .i64 0), .lit (.bool true)], .agg [.lit (.int .i64 1), .lit (.int .i64 1), .lit (.int .i64 0), .lit (.int .i64 0), .lit (.bool true)], .agg [.lit (.int .i64 1), .lit (.int .i64 1), .lit (.int .i64 1), .lit (.int .i64 6), .lit (.bool true)], .agg [.lit (.int .i64 3), .lit (.int .i64 0), .lit (.int .i64 0), .lit (.int .i64 0), .lit (.bool false)], .agg [.lit (.int .i64 1), .lit (.int .i64 3), .lit (.int .i64 0), .lit (.int .i64 0), .lit (.bool true)], .agg [.lit (.int .i64 2), .lit (.int .i64 4), .lit (.int .i64 5), .lit (.int .i64 0), .lit (.bool true)], .agg [.lit (.int .i64 0), .lit (.int .i64 0), .lit (.int .i64 0), .lit (.int .i64 0), .lit (.bool true)], .agg [.lit (.int .i64 1), .lit (.int .i64 2), .lit (.int .i64 0), .lit (.int .i64 0), .lit (.bool true)], .agg [.lit (.int .i64 1), .lit (.int .i64 0), .lit (.int .i64 0), .lit (.int .i64 0), .lit (.bool true)], .agg [.lit (.int .i64 1), .lit (.int .i64 0), .lit (.int .i64 0), .lit (.int .i64 0), .lit (.bool false)]]
def laid_plunder_prog_start {H : Type} : DataW H := .agg [.lit (.int .i64 0), .lit (.int .i64 1)]

/-- 'plunderlaw5.ProgWords': WHATEVER THE INPUT: true; the input reads as it did. -/
def progWordsSpec : ChangeSpec := { name := "progWords", fn := fun _ => fun
  | [d] => { results := [.lit (.bool true)], args := [d] }
  | _ => none }
def progWordsRow : OpenClaim := { program := "ytcjmceedkfjbeaadoor", sum := "7e8c6611513b1b02b64d3fa670e6ec85927ce10653b126593c3a8c99593dfdfe", func := "plunder/plunderlaw5.ProgWords", spec := "progWords", unfollowed := true, recurses := true, named := ["plunder/prog.forms", "plunder/prog.start"], apart := false, laid := [("plunder/prog.forms", laid_plunder_prog_forms), ("plunder/prog.start", laid_plunder_prog_start)] }
def ProgWordsSaid : Prop := progWordsRow.holds Tryd.pinned (OpenSpec.ofChange progWordsSpec)

/-- ITS FALSE NEIGHBOUR: 'it returns false'. Refute it at one input. -/
def progWordsWrong : ChangeSpec := { name := "progWords", fn := fun _ => fun
  | [d] => { results := [.lit (.bool false)], args := [d] }
  | _ => none }
def ProgWordsWrongFalsely : Prop := progWordsRow.holds Tryd.pinned (OpenSpec.ofChange progWordsWrong)

/-- 'plunderlaw5.ProgDecode': WHATEVER THE INPUT: true; the input reads as it did. -/
def progDecodeSpec : ChangeSpec := { name := "progDecode", fn := fun _ => fun
  | [d] => { results := [.lit (.bool true)], args := [d] }
  | _ => none }
def progDecodeRow : OpenClaim := { program := "ytcjmceedkfjbeaadoor", sum := "7e8c6611513b1b02b64d3fa670e6ec85927ce10653b126593c3a8c99593dfdfe", func := "plunder/plunderlaw5.ProgDecode", spec := "progDecode", unfollowed := true, recurses := true, named := ["plunder/prog.forms", "plunder/prog.start"], apart := false, laid := [("plunder/prog.forms", laid_plunder_prog_forms), ("plunder/prog.start", laid_plunder_prog_start)] }
def ProgDecodeSaid : Prop := progDecodeRow.holds Tryd.pinned (OpenSpec.ofChange progDecodeSpec)

/-- ITS FALSE NEIGHBOUR: 'it returns false'. Refute it at one input. -/
def progDecodeWrong : ChangeSpec := { name := "progDecode", fn := fun _ => fun
  | [d] => { results := [.lit (.bool false)], args := [d] }
  | _ => none }
def ProgDecodeWrongFalsely : Prop := progDecodeRow.holds Tryd.pinned (OpenSpec.ofChange progDecodeWrong)

/-- 'plunderlaw5.ProgEncode': WHATEVER THE INPUT: true; the input reads as it did. -/
def progEncodeSpec : ChangeSpec := { name := "progEncode", fn := fun _ => fun
  | [d] => { results := [.lit (.bool true)], args := [d] }
  | _ => none }
def progEncodeRow : OpenClaim := { program := "ytcjmceedkfjbeaadoor", sum := "7e8c6611513b1b02b64d3fa670e6ec85927ce10653b126593c3a8c99593dfdfe", func := "plunder/plunderlaw5.ProgEncode", spec := "progEncode", unfollowed := true, recurses := true, named := ["plunder/prog.forms", "plunder/prog.start"], apart := false, laid := [("plunder/prog.forms", laid_plunder_prog_forms), ("plunder/prog.start", laid_plunder_prog_start)] }
def ProgEncodeSaid : Prop := progEncodeRow.holds Tryd.pinned (OpenSpec.ofChange progEncodeSpec)

/-- ITS FALSE NEIGHBOUR: 'it returns false'. Refute it at one input. -/
def progEncodeWrong : ChangeSpec := { name := "progEncode", fn := fun _ => fun
  | [d] => { results := [.lit (.bool false)], args := [d] }
  | _ => none }
def ProgEncodeWrongFalsely : Prop := progEncodeRow.holds Tryd.pinned (OpenSpec.ofChange progEncodeWrong)

/- THE SECOND FORM. 'bulk': how many values and letters a reading holds, each counted each time it is reached (what is shared counts as often as it is met; a slice's spare places count too). A statement '..UptoSaid' is the law's where the arguments, and the package variables that the reading takes, are together of bulk at most 1048576: NARROWER than '..Said'. Prove '..Said' where nothing that the law and all that it calls make is longer than what came in: it says more and counts as full. Else prove '..UptoSaid'. A law counts once. -/
mutual
def uptoBulk {H : Type} : DataW H → Nat
  | .lit (.string bytes) => bytes.length + 1
  | .lit _ => 1
  | .nil => 1
  | .ptr d => uptoBulk d + 1
  | .slice elems spare => uptoBulkAll elems + uptoBulkAll spare + 1
  | .agg parts => uptoBulkAll parts + 1
  | .iface _ d => uptoBulk d + 1
  | .map entries => uptoBulkEntries entries + 1
  | .held _ => 1
def uptoBulkAll {H : Type} : List (DataW H) → Nat
  | [] => 0
  | d :: r => uptoBulk d + uptoBulkAll r
def uptoBulkEntries {H : Type} : List (Lit × DataW H) → Nat
  | [] => 0
  | x :: r => uptoBulkEntry x + uptoBulkEntries r
def uptoBulkEntry {H : Type} : Lit × DataW H → Nat
  | (.string bytes, d) => bytes.length + uptoBulk d + 1
  | (_, d) => uptoBulk d + 1
 end
def uptoSmall : (H : Type) → List (DataW H) → Bool := fun _ ds => decide (uptoBulkAll ds ≤ 1048576)
def OpenSpec.upto (s : _root_.Go.ChangeSpec) : _root_.Go.OpenSpec := { _root_.Go.OpenSpec.ofChange s with cond := some uptoSmall }

/-- 'plunderlaw5.ProgWords', WHERE WHAT IT READS IS OF BULK AT MOST 1048576: true; the input reads as it did. -/
def progWordsUptoRow : OpenClaim := { program := "ytcjmceedkfjbeaadoor", sum := "7e8c6611513b1b02b64d3fa670e6ec85927ce10653b126593c3a8c99593dfdfe", func := "plunder/plunderlaw5.ProgWords", spec := "progWords", unfollowed := true, recurses := true, named := ["plunder/prog.forms", "plunder/prog.start"], apart := false, laid := [("plunder/prog.forms", laid_plunder_prog_forms), ("plunder/prog.start", laid_plunder_prog_start)], narrowed := true }
def ProgWordsUptoSaid : Prop := progWordsUptoRow.holds Tryd.pinned (OpenSpec.upto progWordsSpec)

/-- 'plunderlaw5.ProgDecode', WHERE WHAT IT READS IS OF BULK AT MOST 1048576: true; the input reads as it did. -/
def progDecodeUptoRow : OpenClaim := { program := "ytcjmceedkfjbeaadoor", sum := "7e8c6611513b1b02b64d3fa670e6ec85927ce10653b126593c3a8c99593dfdfe", func := "plunder/plunderlaw5.ProgDecode", spec := "progDecode", unfollowed := true, recurses := true, named := ["plunder/prog.forms", "plunder/prog.start"], apart := false, laid := [("plunder/prog.forms", laid_plunder_prog_forms), ("plunder/prog.start", laid_plunder_prog_start)], narrowed := true }
def ProgDecodeUptoSaid : Prop := progDecodeUptoRow.holds Tryd.pinned (OpenSpec.upto progDecodeSpec)

/-- 'plunderlaw5.ProgEncode', WHERE WHAT IT READS IS OF BULK AT MOST 1048576: true; the input reads as it did. -/
def progEncodeUptoRow : OpenClaim := { program := "ytcjmceedkfjbeaadoor", sum := "7e8c6611513b1b02b64d3fa670e6ec85927ce10653b126593c3a8c99593dfdfe", func := "plunder/plunderlaw5.ProgEncode", spec := "progEncode", unfollowed := true, recurses := true, named := ["plunder/prog.forms", "plunder/prog.start"], apart := false, laid := [("plunder/prog.forms", laid_plunder_prog_forms), ("plunder/prog.start", laid_plunder_prog_start)], narrowed := true }
def ProgEncodeUptoSaid : Prop := progEncodeUptoRow.holds Tryd.pinned (OpenSpec.upto progEncodeSpec)

end Rows
end Go.Proofs.YtcjmceedkfjbeaaDoor
