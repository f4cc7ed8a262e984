/-
  No cell of these rows narrows 'for every input' (looked for: loops, veiled, ifaces, maps, wideKeys, modest, calm, conditions, laid).
  DERIVED. THE GIVEN ROWS OF THIS SEAT. 4 by the template 'for every input the law returns true; each argument reads behind the call as it read before'; 0 by the template 'total and deterministic' (their statements: YtoglgifmgpogjabTotals.lean).
  GIVEN WITH THE SEED: the statements are not yours to turn. If you find one false, say at which input.
  Laid BY PROGRAM, IN A SANDBOX (cutbox-rows.mjs): the forced cells as the released guide's own fill.sh prints them over the translation bdd91fe803a90524… (all of the seat's roots in one cut). By AI agents, Wed Nov 11 2026. No macro, syntax, notation, axiom, sorry.
-/
import Derived.Test.YtoglgifmgpogjabChecked
import GoSem.Claim
import GoSem.ClaimJoined
import GoSem.ClaimMapViews
import Derived.JoinedTies
import Derived.KernelRfl
namespace Go.Proofs.Ytoglgifmgpogjab
/- THE CELL 'sum', in the pinned program and in every row, IS THE sha256 OF THE DUMP (.gsa) THAT YtoglgifmgpogjabProg.lean LOADS. Nothing in Lean hashes anything: it is a label: what it is worth is what the hold of that sum in a sandbox is worth. -/
noncomputable def Try.pinned : Pinned := { name := "ytoglgifmgpogjab", sum := "bdd91fe803a90524ce89dfc41fd44a03690bcb022d69cdd63ddc291a8ade1b71", checked := Try.checked }
namespace Rows
def none {H : Type} : Left H := { results := [], args := [] }

/-- 'plunderlaw1.OpsHalves': WHATEVER THE INPUT: true; the input reads as it did. -/
def opsHalvesSpec : ChangeSpec := { name := "opsHalves", fn := fun _ => fun
  | [d1, d2, d3] => { results := [.lit (.bool true)], args := [d1, d2, d3] }
  | _ => none }
def opsHalvesRow : OpenClaim := { program := "ytoglgifmgpogjab", sum := "bdd91fe803a90524ce89dfc41fd44a03690bcb022d69cdd63ddc291a8ade1b71", func := "plunder/plunderlaw1.OpsHalves", spec := "opsHalves", recurses := true, apart := false }
def OpsHalvesSaid : Prop := opsHalvesRow.holds Try.pinned (OpenSpec.ofChange opsHalvesSpec)

/-- ITS FALSE NEIGHBOUR: 'it returns false'. Refute it at one input. -/
def opsHalvesWrong : ChangeSpec := { name := "opsHalves", fn := fun _ => fun
  | [d1, d2, d3] => { results := [.lit (.bool false)], args := [d1, d2, d3] }
  | _ => none }
def OpsHalvesWrongFalsely : Prop := opsHalvesRow.holds Try.pinned (OpenSpec.ofChange opsHalvesWrong)

/-- 'plunderlaw1.OpsApply': WHATEVER THE INPUT: true; the input reads as it did. -/
def opsApplySpec : ChangeSpec := { name := "opsApply", fn := fun _ => fun
  | [d1, d2, d3] => { results := [.lit (.bool true)], args := [d1, d2, d3] }
  | _ => none }
def opsApplyRow : OpenClaim := { program := "ytoglgifmgpogjab", sum := "bdd91fe803a90524ce89dfc41fd44a03690bcb022d69cdd63ddc291a8ade1b71", func := "plunder/plunderlaw1.OpsApply", spec := "opsApply", apart := false }
def OpsApplySaid : Prop := opsApplyRow.holds Try.pinned (OpenSpec.ofChange opsApplySpec)

/-- ITS FALSE NEIGHBOUR: 'it returns false'. Refute it at one input. -/
def opsApplyWrong : ChangeSpec := { name := "opsApply", fn := fun _ => fun
  | [d1, d2, d3] => { results := [.lit (.bool false)], args := [d1, d2, d3] }
  | _ => none }
def OpsApplyWrongFalsely : Prop := opsApplyRow.holds Try.pinned (OpenSpec.ofChange opsApplyWrong)

/-- 'plunderlaw1.OpsFold': WHATEVER THE INPUT: true; the input reads as it did. -/
def opsFoldSpec : ChangeSpec := { name := "opsFold", fn := fun _ => fun
  | [d1, d2] => { results := [.lit (.bool true)], args := [d1, d2] }
  | _ => none }
def opsFoldRow : OpenClaim := { program := "ytoglgifmgpogjab", sum := "bdd91fe803a90524ce89dfc41fd44a03690bcb022d69cdd63ddc291a8ade1b71", func := "plunder/plunderlaw1.OpsFold", spec := "opsFold", apart := false }
def OpsFoldSaid : Prop := opsFoldRow.holds Try.pinned (OpenSpec.ofChange opsFoldSpec)

/-- ITS FALSE NEIGHBOUR: 'it returns false'. Refute it at one input. -/
def opsFoldWrong : ChangeSpec := { name := "opsFold", fn := fun _ => fun
  | [d1, d2] => { results := [.lit (.bool false)], args := [d1, d2] }
  | _ => none }
def OpsFoldWrongFalsely : Prop := opsFoldRow.holds Try.pinned (OpenSpec.ofChange opsFoldWrong)

/-- 'plunderlaw1.OpsTree': WHATEVER THE INPUT: true; the input reads as it did. -/
def opsTreeSpec : ChangeSpec := { name := "opsTree", fn := fun _ => fun
  | [d1, d2] => { results := [.lit (.bool true)], args := [d1, d2] }
  | _ => none }
def opsTreeRow : OpenClaim := { program := "ytoglgifmgpogjab", sum := "bdd91fe803a90524ce89dfc41fd44a03690bcb022d69cdd63ddc291a8ade1b71", func := "plunder/plunderlaw1.OpsTree", spec := "opsTree", recurses := true, apart := false }
def OpsTreeSaid : Prop := opsTreeRow.holds Try.pinned (OpenSpec.ofChange opsTreeSpec)

/-- ITS FALSE NEIGHBOUR: 'it returns false'. Refute it at one input. -/
def opsTreeWrong : ChangeSpec := { name := "opsTree", fn := fun _ => fun
  | [d1, d2] => { results := [.lit (.bool false)], args := [d1, d2] }
  | _ => none }
def OpsTreeWrongFalsely : Prop := opsTreeRow.holds Try.pinned (OpenSpec.ofChange opsTreeWrong)

/- THE SECOND FORM. 'bulk': how many values and letters a reading holds, each counted each time it is reached (what is shared counts as often as it is met; a slice's spare places count too). A statement '..UptoSaid' is the law's where the arguments, and the package variables that the reading takes, are together of bulk at most 1048576: NARROWER than '..Said'. Prove '..Said' where nothing that the law and all that it calls make is longer than what came in: it says more and counts as full. Else prove '..UptoSaid'. A law counts once. -/
mutual
def uptoBulk {H : Type} : DataW H → Nat
  | .lit (.string bytes) => bytes.length + 1
  | .lit _ => 1
  | .nil => 1
  | .ptr d => uptoBulk d + 1
  | .slice elems spare => uptoBulkAll elems + uptoBulkAll spare + 1
  | .agg parts => uptoBulkAll parts + 1
  | .iface _ d => uptoBulk d + 1
  | .map entries => uptoBulkEntries entries + 1
  | .held _ => 1
def uptoBulkAll {H : Type} : List (DataW H) → Nat
  | [] => 0
  | d :: r => uptoBulk d + uptoBulkAll r
def uptoBulkEntries {H : Type} : List (Lit × DataW H) → Nat
  | [] => 0
  | x :: r => uptoBulkEntry x + uptoBulkEntries r
def uptoBulkEntry {H : Type} : Lit × DataW H → Nat
  | (.string bytes, d) => bytes.length + uptoBulk d + 1
  | (_, d) => uptoBulk d + 1
 end
def uptoSmall : (H : Type) → List (DataW H) → Bool := fun _ ds => decide (uptoBulkAll ds ≤ 1048576)
def OpenSpec.upto (s : _root_.Go.ChangeSpec) : _root_.Go.OpenSpec := { _root_.Go.OpenSpec.ofChange s with cond := some uptoSmall }

/-- 'plunderlaw1.OpsHalves', WHERE WHAT IT READS IS OF BULK AT MOST 1048576: true; the input reads as it did. -/
def opsHalvesUptoRow : OpenClaim := { program := "ytoglgifmgpogjab", sum := "bdd91fe803a90524ce89dfc41fd44a03690bcb022d69cdd63ddc291a8ade1b71", func := "plunder/plunderlaw1.OpsHalves", spec := "opsHalves", recurses := true, apart := false, narrowed := true }
def OpsHalvesUptoSaid : Prop := opsHalvesUptoRow.holds Try.pinned (OpenSpec.upto opsHalvesSpec)

/-- 'plunderlaw1.OpsApply', WHERE WHAT IT READS IS OF BULK AT MOST 1048576: true; the input reads as it did. -/
def opsApplyUptoRow : OpenClaim := { program := "ytoglgifmgpogjab", sum := "bdd91fe803a90524ce89dfc41fd44a03690bcb022d69cdd63ddc291a8ade1b71", func := "plunder/plunderlaw1.OpsApply", spec := "opsApply", apart := false, narrowed := true }
def OpsApplyUptoSaid : Prop := opsApplyUptoRow.holds Try.pinned (OpenSpec.upto opsApplySpec)

/-- 'plunderlaw1.OpsFold', WHERE WHAT IT READS IS OF BULK AT MOST 1048576: true; the input reads as it did. -/
def opsFoldUptoRow : OpenClaim := { program := "ytoglgifmgpogjab", sum := "bdd91fe803a90524ce89dfc41fd44a03690bcb022d69cdd63ddc291a8ade1b71", func := "plunder/plunderlaw1.OpsFold", spec := "opsFold", apart := false, narrowed := true }
def OpsFoldUptoSaid : Prop := opsFoldUptoRow.holds Try.pinned (OpenSpec.upto opsFoldSpec)

/-- 'plunderlaw1.OpsTree', WHERE WHAT IT READS IS OF BULK AT MOST 1048576: true; the input reads as it did. -/
def opsTreeUptoRow : OpenClaim := { program := "ytoglgifmgpogjab", sum := "bdd91fe803a90524ce89dfc41fd44a03690bcb022d69cdd63ddc291a8ade1b71", func := "plunder/plunderlaw1.OpsTree", spec := "opsTree", recurses := true, apart := false, narrowed := true }
def OpsTreeUptoSaid : Prop := opsTreeUptoRow.holds Try.pinned (OpenSpec.upto opsTreeSpec)

end Rows
end Go.Proofs.Ytoglgifmgpogjab
