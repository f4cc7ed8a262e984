/-
  No cell of these rows narrows 'for every input' (looked for: loops, veiled, ifaces, maps, wideKeys, modest, calm, conditions, laid).
  DERIVED. THE GIVEN ROWS OF THIS SEAT. 6 by the template 'for every input the law returns true; each argument reads behind the call as it read before'; 0 by the template 'total and deterministic' (their statements: YtloahjkndhcjfaaTotals.lean).
  GIVEN WITH THE SEED: the statements are not yours to turn. If you find one false, say at which input.
  Laid BY PROGRAM, IN A SANDBOX (cutbox-rows.mjs): the forced cells as the released guide's own fill.sh prints them over the translation 7f62663c5c7485ca… (all of the seat's roots in one cut). By AI agents, Wed Nov 11 2026. No macro, syntax, notation, axiom, sorry.
-/
import Derived.Test.YtloahjkndhcjfaaChecked
import GoSem.Claim
import GoSem.ClaimJoined
import GoSem.ClaimMapViews
import Derived.JoinedTies
import Derived.KernelRfl
namespace Go.Proofs.Ytloahjkndhcjfaa
/- THE CELL 'sum', in the pinned program and in every row, IS THE sha256 OF THE DUMP (.gsa) THAT YtloahjkndhcjfaaProg.lean LOADS. Nothing in Lean hashes anything: it is a label: what it is worth is what the hold of that sum in a sandbox is worth. -/
noncomputable def Try.pinned : Pinned := { name := "ytloahjkndhcjfaa", sum := "7f62663c5c7485ca858af688717f2d344649f8b35de7eeec99e4a9e661d86be1", checked := Try.checked }
namespace Rows
def none {H : Type} : Left H := { results := [], args := [] }

/-- 'plunderlaw2.CellsOnly': WHATEVER THE INPUT: true; the input reads as it did. -/
def cellsOnlySpec : ChangeSpec := { name := "cellsOnly", fn := fun _ => fun
  | [d1, d2] => { results := [.lit (.bool true)], args := [d1, d2] }
  | _ => none }
def cellsOnlyRow : OpenClaim := { program := "ytloahjkndhcjfaa", sum := "7f62663c5c7485ca858af688717f2d344649f8b35de7eeec99e4a9e661d86be1", func := "plunder/plunderlaw2.CellsOnly", spec := "cellsOnly", inPlace := ["sync/atomic.LoadInt64", "sync/atomic.StoreInt64"], apart := false }
def CellsOnlySaid : Prop := cellsOnlyRow.holds Try.pinned (OpenSpec.ofChange cellsOnlySpec)

/-- ITS FALSE NEIGHBOUR: 'it returns false'. Refute it at one input. -/
def cellsOnlyWrong : ChangeSpec := { name := "cellsOnly", fn := fun _ => fun
  | [d1, d2] => { results := [.lit (.bool false)], args := [d1, d2] }
  | _ => none }
def CellsOnlyWrongFalsely : Prop := cellsOnlyRow.holds Try.pinned (OpenSpec.ofChange cellsOnlyWrong)

/-- 'plunderlaw2.CellsMemory': WHATEVER THE INPUT: true; the input reads as it did. -/
def cellsMemorySpec : ChangeSpec := { name := "cellsMemory", fn := fun _ => fun
  | [d1, d2] => { results := [.lit (.bool true)], args := [d1, d2] }
  | _ => none }
def cellsMemoryRow : OpenClaim := { program := "ytloahjkndhcjfaa", sum := "7f62663c5c7485ca858af688717f2d344649f8b35de7eeec99e4a9e661d86be1", func := "plunder/plunderlaw2.CellsMemory", spec := "cellsMemory", unfollowed := true, recurses := true, apart := false }
def CellsMemorySaid : Prop := cellsMemoryRow.holds Try.pinned (OpenSpec.ofChange cellsMemorySpec)

/-- ITS FALSE NEIGHBOUR: 'it returns false'. Refute it at one input. -/
def cellsMemoryWrong : ChangeSpec := { name := "cellsMemory", fn := fun _ => fun
  | [d1, d2] => { results := [.lit (.bool false)], args := [d1, d2] }
  | _ => none }
def CellsMemoryWrongFalsely : Prop := cellsMemoryRow.holds Try.pinned (OpenSpec.ofChange cellsMemoryWrong)

/-- 'plunderlaw2.CellsFresh': WHATEVER THE INPUT: true; the input reads as it did. -/
def cellsFreshSpec : ChangeSpec := { name := "cellsFresh", fn := fun _ => fun
  | [d1, d2, d3] => { results := [.lit (.bool true)], args := [d1, d2, d3] }
  | _ => none }
def cellsFreshRow : OpenClaim := { program := "ytloahjkndhcjfaa", sum := "7f62663c5c7485ca858af688717f2d344649f8b35de7eeec99e4a9e661d86be1", func := "plunder/plunderlaw2.CellsFresh", spec := "cellsFresh", unfollowed := true, recurses := true, apart := false }
def CellsFreshSaid : Prop := cellsFreshRow.holds Try.pinned (OpenSpec.ofChange cellsFreshSpec)

/-- ITS FALSE NEIGHBOUR: 'it returns false'. Refute it at one input. -/
def cellsFreshWrong : ChangeSpec := { name := "cellsFresh", fn := fun _ => fun
  | [d1, d2, d3] => { results := [.lit (.bool false)], args := [d1, d2, d3] }
  | _ => none }
def CellsFreshWrongFalsely : Prop := cellsFreshRow.holds Try.pinned (OpenSpec.ofChange cellsFreshWrong)

/-- 'plunderlaw2.CellsMoves': WHATEVER THE INPUT: true; the input reads as it did. -/
def cellsMovesSpec : ChangeSpec := { name := "cellsMoves", fn := fun _ => fun
  | [d1, d2] => { results := [.lit (.bool true)], args := [d1, d2] }
  | _ => none }
def cellsMovesRow : OpenClaim := { program := "ytloahjkndhcjfaa", sum := "7f62663c5c7485ca858af688717f2d344649f8b35de7eeec99e4a9e661d86be1", func := "plunder/plunderlaw2.CellsMoves", spec := "cellsMoves", inPlace := ["sync/atomic.LoadInt64", "sync/atomic.StoreInt64"], apart := false }
def CellsMovesSaid : Prop := cellsMovesRow.holds Try.pinned (OpenSpec.ofChange cellsMovesSpec)

/-- ITS FALSE NEIGHBOUR: 'it returns false'. Refute it at one input. -/
def cellsMovesWrong : ChangeSpec := { name := "cellsMoves", fn := fun _ => fun
  | [d1, d2] => { results := [.lit (.bool false)], args := [d1, d2] }
  | _ => none }
def CellsMovesWrongFalsely : Prop := cellsMovesRow.holds Try.pinned (OpenSpec.ofChange cellsMovesWrong)

/-- 'plunderlaw2.CellsTurns': WHATEVER THE INPUT: true; the input reads as it did. -/
def cellsTurnsSpec : ChangeSpec := { name := "cellsTurns", fn := fun _ => fun
  | [d1, d2, d3] => { results := [.lit (.bool true)], args := [d1, d2, d3] }
  | _ => none }
def cellsTurnsRow : OpenClaim := { program := "ytloahjkndhcjfaa", sum := "7f62663c5c7485ca858af688717f2d344649f8b35de7eeec99e4a9e661d86be1", func := "plunder/plunderlaw2.CellsTurns", spec := "cellsTurns", inPlace := ["sync/atomic.LoadInt64", "sync/atomic.StoreInt64"], apart := false }
def CellsTurnsSaid : Prop := cellsTurnsRow.holds Try.pinned (OpenSpec.ofChange cellsTurnsSpec)

/-- ITS FALSE NEIGHBOUR: 'it returns false'. Refute it at one input. -/
def cellsTurnsWrong : ChangeSpec := { name := "cellsTurns", fn := fun _ => fun
  | [d1, d2, d3] => { results := [.lit (.bool false)], args := [d1, d2, d3] }
  | _ => none }
def CellsTurnsWrongFalsely : Prop := cellsTurnsRow.holds Try.pinned (OpenSpec.ofChange cellsTurnsWrong)

/-- 'plunderlaw2.CellsPlay': WHATEVER THE INPUT: true; the input reads as it did. -/
def cellsPlaySpec : ChangeSpec := { name := "cellsPlay", fn := fun _ => fun
  | [d1, d2] => { results := [.lit (.bool true)], args := [d1, d2] }
  | _ => none }
def cellsPlayRow : OpenClaim := { program := "ytloahjkndhcjfaa", sum := "7f62663c5c7485ca858af688717f2d344649f8b35de7eeec99e4a9e661d86be1", func := "plunder/plunderlaw2.CellsPlay", spec := "cellsPlay", unfollowed := true, recurses := true, apart := false }
def CellsPlaySaid : Prop := cellsPlayRow.holds Try.pinned (OpenSpec.ofChange cellsPlaySpec)

/-- ITS FALSE NEIGHBOUR: 'it returns false'. Refute it at one input. -/
def cellsPlayWrong : ChangeSpec := { name := "cellsPlay", fn := fun _ => fun
  | [d1, d2] => { results := [.lit (.bool false)], args := [d1, d2] }
  | _ => none }
def CellsPlayWrongFalsely : Prop := cellsPlayRow.holds Try.pinned (OpenSpec.ofChange cellsPlayWrong)

/- THE SECOND FORM. 'bulk': how many values and letters a reading holds, each counted each time it is reached (what is shared counts as often as it is met; a slice's spare places count too). A statement '..UptoSaid' is the law's where the arguments, and the package variables that the reading takes, are together of bulk at most 1048576: NARROWER than '..Said'. Prove '..Said' where nothing that the law and all that it calls make is longer than what came in: it says more and counts as full. Else prove '..UptoSaid'. A law counts once. -/
mutual
def uptoBulk {H : Type} : DataW H → Nat
  | .lit (.string bytes) => bytes.length + 1
  | .lit _ => 1
  | .nil => 1
  | .ptr d => uptoBulk d + 1
  | .slice elems spare => uptoBulkAll elems + uptoBulkAll spare + 1
  | .agg parts => uptoBulkAll parts + 1
  | .iface _ d => uptoBulk d + 1
  | .map entries => uptoBulkEntries entries + 1
  | .held _ => 1
def uptoBulkAll {H : Type} : List (DataW H) → Nat
  | [] => 0
  | d :: r => uptoBulk d + uptoBulkAll r
def uptoBulkEntries {H : Type} : List (Lit × DataW H) → Nat
  | [] => 0
  | x :: r => uptoBulkEntry x + uptoBulkEntries r
def uptoBulkEntry {H : Type} : Lit × DataW H → Nat
  | (.string bytes, d) => bytes.length + uptoBulk d + 1
  | (_, d) => uptoBulk d + 1
 end
def uptoSmall : (H : Type) → List (DataW H) → Bool := fun _ ds => decide (uptoBulkAll ds ≤ 1048576)
def OpenSpec.upto (s : _root_.Go.ChangeSpec) : _root_.Go.OpenSpec := { _root_.Go.OpenSpec.ofChange s with cond := some uptoSmall }

/-- 'plunderlaw2.CellsOnly', WHERE WHAT IT READS IS OF BULK AT MOST 1048576: true; the input reads as it did. -/
def cellsOnlyUptoRow : OpenClaim := { program := "ytloahjkndhcjfaa", sum := "7f62663c5c7485ca858af688717f2d344649f8b35de7eeec99e4a9e661d86be1", func := "plunder/plunderlaw2.CellsOnly", spec := "cellsOnly", inPlace := ["sync/atomic.LoadInt64", "sync/atomic.StoreInt64"], apart := false, narrowed := true }
def CellsOnlyUptoSaid : Prop := cellsOnlyUptoRow.holds Try.pinned (OpenSpec.upto cellsOnlySpec)

/-- 'plunderlaw2.CellsMemory', WHERE WHAT IT READS IS OF BULK AT MOST 1048576: true; the input reads as it did. -/
def cellsMemoryUptoRow : OpenClaim := { program := "ytloahjkndhcjfaa", sum := "7f62663c5c7485ca858af688717f2d344649f8b35de7eeec99e4a9e661d86be1", func := "plunder/plunderlaw2.CellsMemory", spec := "cellsMemory", unfollowed := true, recurses := true, apart := false, narrowed := true }
def CellsMemoryUptoSaid : Prop := cellsMemoryUptoRow.holds Try.pinned (OpenSpec.upto cellsMemorySpec)

/-- 'plunderlaw2.CellsFresh', WHERE WHAT IT READS IS OF BULK AT MOST 1048576: true; the input reads as it did. -/
def cellsFreshUptoRow : OpenClaim := { program := "ytloahjkndhcjfaa", sum := "7f62663c5c7485ca858af688717f2d344649f8b35de7eeec99e4a9e661d86be1", func := "plunder/plunderlaw2.CellsFresh", spec := "cellsFresh", unfollowed := true, recurses := true, apart := false, narrowed := true }
def CellsFreshUptoSaid : Prop := cellsFreshUptoRow.holds Try.pinned (OpenSpec.upto cellsFreshSpec)

/-- 'plunderlaw2.CellsMoves', WHERE WHAT IT READS IS OF BULK AT MOST 1048576: true; the input reads as it did. -/
def cellsMovesUptoRow : OpenClaim := { program := "ytloahjkndhcjfaa", sum := "7f62663c5c7485ca858af688717f2d344649f8b35de7eeec99e4a9e661d86be1", func := "plunder/plunderlaw2.CellsMoves", spec := "cellsMoves", inPlace := ["sync/atomic.LoadInt64", "sync/atomic.StoreInt64"], apart := false, narrowed := true }
def CellsMovesUptoSaid : Prop := cellsMovesUptoRow.holds Try.pinned (OpenSpec.upto cellsMovesSpec)

/-- 'plunderlaw2.CellsTurns', WHERE WHAT IT READS IS OF BULK AT MOST 1048576: true; the input reads as it did. -/
def cellsTurnsUptoRow : OpenClaim := { program := "ytloahjkndhcjfaa", sum := "7f62663c5c7485ca858af688717f2d344649f8b35de7eeec99e4a9e661d86be1", func := "plunder/plunderlaw2.CellsTurns", spec := "cellsTurns", inPlace := ["sync/atomic.LoadInt64", "sync/atomic.StoreInt64"], apart := false, narrowed := true }
def CellsTurnsUptoSaid : Prop := cellsTurnsUptoRow.holds Try.pinned (OpenSpec.upto cellsTurnsSpec)

/-- 'plunderlaw2.CellsPlay', WHERE WHAT IT READS IS OF BULK AT MOST 1048576: true; the input reads as it did. -/
def cellsPlayUptoRow : OpenClaim := { program := "ytloahjkndhcjfaa", sum := "7f62663c5c7485ca858af688717f2d344649f8b35de7eeec99e4a9e661d86be1", func := "plunder/plunderlaw2.CellsPlay", spec := "cellsPlay", unfollowed := true, recurses := true, apart := false, narrowed := true }
def CellsPlayUptoSaid : Prop := cellsPlayUptoRow.holds Try.pinned (OpenSpec.upto cellsPlaySpec)

end Rows
end Go.Proofs.Ytloahjkndhcjfaa
