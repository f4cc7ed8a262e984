/-
  No cell of these rows narrows 'for every input' (looked for: loops, veiled, ifaces, maps, wideKeys, modest, calm, conditions, laid).
  DERIVED. THE GIVEN ROWS OF THIS SEAT. 3 by the template 'for every input the law returns true; each argument reads behind the call as it read before'; 0 by the template 'total and deterministic' (their statements: YtdiabpoafennlabTotals.lean).
  GIVEN WITH THE SEED: the statements are not yours to turn. If you find one false, say at which input.
  Laid BY PROGRAM, IN A SANDBOX (cutbox-rows.mjs): the forced cells as the released guide's own fill.sh prints them over the translation b2661476e48769ad… (all of the seat's roots in one cut). By AI agents, Wed Nov 11 2026. No macro, syntax, notation, axiom, sorry.
-/
import Derived.Test.YtdiabpoafennlabChecked
import GoSem.Claim
import GoSem.ClaimJoined
import GoSem.ClaimMapViews
import Derived.JoinedTies
import Derived.KernelRfl
namespace Go.Proofs.Ytdiabpoafennlab
/- THE CELL 'sum', in the pinned program and in every row, IS THE sha256 OF THE DUMP (.gsa) THAT YtdiabpoafennlabProg.lean LOADS. Nothing in Lean hashes anything: it is a label: what it is worth is what the hold of that sum in a sandbox is worth. -/
noncomputable def Try.pinned : Pinned := { name := "ytdiabpoafennlab", sum := "b2661476e48769adae45eac9f20e106d02afb34c0465526488aa00cf67b163d3", checked := Try.checked }
namespace Rows
def none {H : Type} : Left H := { results := [], args := [] }

/-- 'plunderlaw23.HyperPlay': WHATEVER THE INPUT: true; the input reads as it did. -/
def hyperPlaySpec : ChangeSpec := { name := "hyperPlay", fn := fun _ => fun
  | [d] => { results := [.lit (.bool true)], args := [d] }
  | _ => none }
def hyperPlayRow : OpenClaim := { program := "ytdiabpoafennlab", sum := "b2661476e48769adae45eac9f20e106d02afb34c0465526488aa00cf67b163d3", func := "plunder/plunderlaw23.HyperPlay", spec := "hyperPlay", unfollowed := true, recurses := true, apart := false }
def HyperPlaySaid : Prop := hyperPlayRow.holds Try.pinned (OpenSpec.ofChange hyperPlaySpec)

/-- ITS FALSE NEIGHBOUR: 'it returns false'. Refute it at one input. -/
def hyperPlayWrong : ChangeSpec := { name := "hyperPlay", fn := fun _ => fun
  | [d] => { results := [.lit (.bool false)], args := [d] }
  | _ => none }
def HyperPlayWrongFalsely : Prop := hyperPlayRow.holds Try.pinned (OpenSpec.ofChange hyperPlayWrong)

/-- 'plunderlaw23.HyperFold': WHATEVER THE INPUT: true; the input reads as it did. -/
def hyperFoldSpec : ChangeSpec := { name := "hyperFold", fn := fun _ => fun
  | [d1, d2] => { results := [.lit (.bool true)], args := [d1, d2] }
  | _ => none }
def hyperFoldRow : OpenClaim := { program := "ytdiabpoafennlab", sum := "b2661476e48769adae45eac9f20e106d02afb34c0465526488aa00cf67b163d3", func := "plunder/plunderlaw23.HyperFold", spec := "hyperFold", unfollowed := true, recurses := true, apart := false }
def HyperFoldSaid : Prop := hyperFoldRow.holds Try.pinned (OpenSpec.ofChange hyperFoldSpec)

/-- ITS FALSE NEIGHBOUR: 'it returns false'. Refute it at one input. -/
def hyperFoldWrong : ChangeSpec := { name := "hyperFold", fn := fun _ => fun
  | [d1, d2] => { results := [.lit (.bool false)], args := [d1, d2] }
  | _ => none }
def HyperFoldWrongFalsely : Prop := hyperFoldRow.holds Try.pinned (OpenSpec.ofChange hyperFoldWrong)

/-- 'plunderlaw23.HyperFresh': WHATEVER THE INPUT: true; the input reads as it did. -/
def hyperFreshSpec : ChangeSpec := { name := "hyperFresh", fn := fun _ => fun
  | [d] => { results := [.lit (.bool true)], args := [d] }
  | _ => none }
def hyperFreshRow : OpenClaim := { program := "ytdiabpoafennlab", sum := "b2661476e48769adae45eac9f20e106d02afb34c0465526488aa00cf67b163d3", func := "plunder/plunderlaw23.HyperFresh", spec := "hyperFresh", unfollowed := true, recurses := true, apart := false }
def HyperFreshSaid : Prop := hyperFreshRow.holds Try.pinned (OpenSpec.ofChange hyperFreshSpec)

/-- ITS FALSE NEIGHBOUR: 'it returns false'. Refute it at one input. -/
def hyperFreshWrong : ChangeSpec := { name := "hyperFresh", fn := fun _ => fun
  | [d] => { results := [.lit (.bool false)], args := [d] }
  | _ => none }
def HyperFreshWrongFalsely : Prop := hyperFreshRow.holds Try.pinned (OpenSpec.ofChange hyperFreshWrong)

/- THE SECOND FORM. 'bulk': how many values and letters a reading holds, each counted each time it is reached (what is shared counts as often as it is met; a slice's spare places count too). A statement '..UptoSaid' is the law's where the arguments, and the package variables that the reading takes, are together of bulk at most 1048576: NARROWER than '..Said'. Prove '..Said' where nothing that the law and all that it calls make is longer than what came in: it says more and counts as full. Else prove '..UptoSaid'. A law counts once. -/
mutual
def uptoBulk {H : Type} : DataW H → Nat
  | .lit (.string bytes) => bytes.length + 1
  | .lit _ => 1
  | .nil => 1
  | .ptr d => uptoBulk d + 1
  | .slice elems spare => uptoBulkAll elems + uptoBulkAll spare + 1
  | .agg parts => uptoBulkAll parts + 1
  | .iface _ d => uptoBulk d + 1
  | .map entries => uptoBulkEntries entries + 1
  | .held _ => 1
def uptoBulkAll {H : Type} : List (DataW H) → Nat
  | [] => 0
  | d :: r => uptoBulk d + uptoBulkAll r
def uptoBulkEntries {H : Type} : List (Lit × DataW H) → Nat
  | [] => 0
  | x :: r => uptoBulkEntry x + uptoBulkEntries r
def uptoBulkEntry {H : Type} : Lit × DataW H → Nat
  | (.string bytes, d) => bytes.length + uptoBulk d + 1
  | (_, d) => uptoBulk d + 1
 end
def uptoSmall : (H : Type) → List (DataW H) → Bool := fun _ ds => decide (uptoBulkAll ds ≤ 1048576)
def OpenSpec.upto (s : _root_.Go.ChangeSpec) : _root_.Go.OpenSpec := { _root_.Go.OpenSpec.ofChange s with cond := some uptoSmall }

/-- 'plunderlaw23.HyperPlay', WHERE WHAT IT READS IS OF BULK AT MOST 1048576: true; the input reads as it did. -/
def hyperPlayUptoRow : OpenClaim := { program := "ytdiabpoafennlab", sum := "b2661476e48769adae45eac9f20e106d02afb34c0465526488aa00cf67b163d3", func := "plunder/plunderlaw23.HyperPlay", spec := "hyperPlay", unfollowed := true, recurses := true, apart := false, narrowed := true }
def HyperPlayUptoSaid : Prop := hyperPlayUptoRow.holds Try.pinned (OpenSpec.upto hyperPlaySpec)

/-- 'plunderlaw23.HyperFold', WHERE WHAT IT READS IS OF BULK AT MOST 1048576: true; the input reads as it did. -/
def hyperFoldUptoRow : OpenClaim := { program := "ytdiabpoafennlab", sum := "b2661476e48769adae45eac9f20e106d02afb34c0465526488aa00cf67b163d3", func := "plunder/plunderlaw23.HyperFold", spec := "hyperFold", unfollowed := true, recurses := true, apart := false, narrowed := true }
def HyperFoldUptoSaid : Prop := hyperFoldUptoRow.holds Try.pinned (OpenSpec.upto hyperFoldSpec)

/-- 'plunderlaw23.HyperFresh', WHERE WHAT IT READS IS OF BULK AT MOST 1048576: true; the input reads as it did. -/
def hyperFreshUptoRow : OpenClaim := { program := "ytdiabpoafennlab", sum := "b2661476e48769adae45eac9f20e106d02afb34c0465526488aa00cf67b163d3", func := "plunder/plunderlaw23.HyperFresh", spec := "hyperFresh", unfollowed := true, recurses := true, apart := false, narrowed := true }
def HyperFreshUptoSaid : Prop := hyperFreshUptoRow.holds Try.pinned (OpenSpec.upto hyperFreshSpec)

end Rows
end Go.Proofs.Ytdiabpoafennlab
