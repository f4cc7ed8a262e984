/-
  No cell of these rows narrows 'for every input' (looked for: loops, veiled, ifaces, maps, wideKeys, modest, calm, conditions, laid).
  DERIVED. THE GIVEN ROWS OF THIS SEAT. 5 by the template 'for every input the law returns true; each argument reads behind the call as it read before'; 0 by the template 'total and deterministic' (their statements: YtpjmakbbakmhoaaTotals.lean).
  GIVEN WITH THE SEED: the statements are not yours to turn. If you find one false, say at which input.
  Laid BY PROGRAM, IN A SANDBOX (cutbox-rows.mjs): the forced cells as the released guide's own fill.sh prints them over the translation 8ba055ae2753cbc9… (all of the seat's roots in one cut). By AI agents, Wed Nov 11 2026. No macro, syntax, notation, axiom, sorry.
-/
import Derived.Test.YtpjmakbbakmhoaaChecked
import GoSem.Claim
import GoSem.ClaimJoined
import GoSem.ClaimMapViews
import Derived.JoinedTies
import Derived.KernelRfl
namespace Go.Proofs.Ytpjmakbbakmhoaa
/- THE CELL 'sum', in the pinned program and in every row, IS THE sha256 OF THE DUMP (.gsa) THAT YtpjmakbbakmhoaaProg.lean LOADS. Nothing in Lean hashes anything: it is a label: what it is worth is what the hold of that sum in a sandbox is worth. -/
noncomputable def Try.pinned : Pinned := { name := "ytpjmakbbakmhoaa", sum := "8ba055ae2753cbc9b7f68b0582d7efba65776b2b140c837e384016c118d62584", checked := Try.checked }
namespace Rows
def none {H : Type} : Left H := { results := [], args := [] }

/-- 'plunderlaw2.CellsMoves': WHATEVER THE INPUT: true; the input reads as it did. -/
def cellsMovesSpec : ChangeSpec := { name := "cellsMoves", fn := fun _ => fun
  | [d1, d2] => { results := [.lit (.bool true)], args := [d1, d2] }
  | _ => none }
def cellsMovesRow : OpenClaim := { program := "ytpjmakbbakmhoaa", sum := "8ba055ae2753cbc9b7f68b0582d7efba65776b2b140c837e384016c118d62584", func := "plunder/plunderlaw2.CellsMoves", spec := "cellsMoves", inPlace := ["sync/atomic.LoadInt64", "sync/atomic.StoreInt64"], apart := false }
def CellsMovesSaid : Prop := cellsMovesRow.holds Try.pinned (OpenSpec.ofChange cellsMovesSpec)

/-- ITS FALSE NEIGHBOUR: 'it returns false'. Refute it at one input. -/
def cellsMovesWrong : ChangeSpec := { name := "cellsMoves", fn := fun _ => fun
  | [d1, d2] => { results := [.lit (.bool false)], args := [d1, d2] }
  | _ => none }
def CellsMovesWrongFalsely : Prop := cellsMovesRow.holds Try.pinned (OpenSpec.ofChange cellsMovesWrong)

/-- 'plunderlaw2.CellsTurns': WHATEVER THE INPUT: true; the input reads as it did. -/
def cellsTurnsSpec : ChangeSpec := { name := "cellsTurns", fn := fun _ => fun
  | [d1, d2, d3] => { results := [.lit (.bool true)], args := [d1, d2, d3] }
  | _ => none }
def cellsTurnsRow : OpenClaim := { program := "ytpjmakbbakmhoaa", sum := "8ba055ae2753cbc9b7f68b0582d7efba65776b2b140c837e384016c118d62584", func := "plunder/plunderlaw2.CellsTurns", spec := "cellsTurns", inPlace := ["sync/atomic.LoadInt64", "sync/atomic.StoreInt64"], apart := false }
def CellsTurnsSaid : Prop := cellsTurnsRow.holds Try.pinned (OpenSpec.ofChange cellsTurnsSpec)

/-- ITS FALSE NEIGHBOUR: 'it returns false'. Refute it at one input. -/
def cellsTurnsWrong : ChangeSpec := { name := "cellsTurns", fn := fun _ => fun
  | [d1, d2, d3] => { results := [.lit (.bool false)], args := [d1, d2, d3] }
  | _ => none }
def CellsTurnsWrongFalsely : Prop := cellsTurnsRow.holds Try.pinned (OpenSpec.ofChange cellsTurnsWrong)

/-- 'plunderlaw2.CellsPlay': WHATEVER THE INPUT: true; the input reads as it did. -/
def cellsPlaySpec : ChangeSpec := { name := "cellsPlay", fn := fun _ => fun
  | [d1, d2] => { results := [.lit (.bool true)], args := [d1, d2] }
  | _ => none }
def cellsPlayRow : OpenClaim := { program := "ytpjmakbbakmhoaa", sum := "8ba055ae2753cbc9b7f68b0582d7efba65776b2b140c837e384016c118d62584", func := "plunder/plunderlaw2.CellsPlay", spec := "cellsPlay", unfollowed := true, recurses := true, apart := false }
def CellsPlaySaid : Prop := cellsPlayRow.holds Try.pinned (OpenSpec.ofChange cellsPlaySpec)

/-- ITS FALSE NEIGHBOUR: 'it returns false'. Refute it at one input. -/
def cellsPlayWrong : ChangeSpec := { name := "cellsPlay", fn := fun _ => fun
  | [d1, d2] => { results := [.lit (.bool false)], args := [d1, d2] }
  | _ => none }
def CellsPlayWrongFalsely : Prop := cellsPlayRow.holds Try.pinned (OpenSpec.ofChange cellsPlayWrong)

/-- 'plunderlaw2.CellsLists': WHATEVER THE INPUT: true; the input reads as it did. -/
def cellsListsSpec : ChangeSpec := { name := "cellsLists", fn := fun _ => fun
  | [d1, d2, d3] => { results := [.lit (.bool true)], args := [d1, d2, d3] }
  | _ => none }
def cellsListsRow : OpenClaim := { program := "ytpjmakbbakmhoaa", sum := "8ba055ae2753cbc9b7f68b0582d7efba65776b2b140c837e384016c118d62584", func := "plunder/plunderlaw2.CellsLists", spec := "cellsLists", inPlace := ["sync/atomic.LoadInt64", "sync/atomic.StoreInt64"], apart := false }
def CellsListsSaid : Prop := cellsListsRow.holds Try.pinned (OpenSpec.ofChange cellsListsSpec)

/-- ITS FALSE NEIGHBOUR: 'it returns false'. Refute it at one input. -/
def cellsListsWrong : ChangeSpec := { name := "cellsLists", fn := fun _ => fun
  | [d1, d2, d3] => { results := [.lit (.bool false)], args := [d1, d2, d3] }
  | _ => none }
def CellsListsWrongFalsely : Prop := cellsListsRow.holds Try.pinned (OpenSpec.ofChange cellsListsWrong)

/-- 'plunderlaw2.CellsCrowd': WHATEVER THE INPUT: true; the input reads as it did. -/
def cellsCrowdSpec : ChangeSpec := { name := "cellsCrowd", fn := fun _ => fun
  | [d1, d2] => { results := [.lit (.bool true)], args := [d1, d2] }
  | _ => none }
def cellsCrowdRow : OpenClaim := { program := "ytpjmakbbakmhoaa", sum := "8ba055ae2753cbc9b7f68b0582d7efba65776b2b140c837e384016c118d62584", func := "plunder/plunderlaw2.CellsCrowd", spec := "cellsCrowd", inPlace := ["sync/atomic.LoadInt64", "sync/atomic.StoreInt64", "(*internal/sync.Mutex).Lock", "internal/race.Disable", "sync/atomic.CompareAndSwapInt32", "internal/race.Enable", "internal/race.Acquire", "(*internal/sync.Mutex).lockSlow", "internal/sync.runtime_canSpin", "internal/sync.runtime_doSpin", "internal/sync.throw", "internal/sync.runtime_nanotime", "internal/sync.runtime_SemacquireMutex", "sync/atomic.AddInt32", "(*internal/sync.Mutex).Unlock", "internal/race.ReleaseMerge", "(*internal/sync.Mutex).unlockSlow", "internal/sync.fatal", "internal/sync.runtime_Semrelease", "(*sync.WaitGroup).Add", "internal/synctest.IsInBubble", "internal/synctest.Associate[sync.WaitGroup]", "sync.fatal", "sync/atomic.OrUint64", "sync/atomic.AddUint64", "internal/race.Read", "sync/atomic.LoadUint64", "sync/atomic.StoreUint64", "internal/synctest.Disassociate[sync.WaitGroup]", "sync.runtime_Semrelease", "(*sync.WaitGroup).Done", "(*sync.WaitGroup).Wait", "internal/synctest.IsAssociated[sync.WaitGroup]", "sync/atomic.CompareAndSwapUint64", "internal/race.Write", "sync.runtime_SemacquireWaitGroup"], unfollowed := true, recurses := true, apart := false }
def CellsCrowdSaid : Prop := cellsCrowdRow.holds Try.pinned (OpenSpec.ofChange cellsCrowdSpec)

/-- ITS FALSE NEIGHBOUR: 'it returns false'. Refute it at one input. -/
def cellsCrowdWrong : ChangeSpec := { name := "cellsCrowd", fn := fun _ => fun
  | [d1, d2] => { results := [.lit (.bool false)], args := [d1, d2] }
  | _ => none }
def CellsCrowdWrongFalsely : Prop := cellsCrowdRow.holds Try.pinned (OpenSpec.ofChange cellsCrowdWrong)

/- THE SECOND FORM. 'bulk': how many values and letters a reading holds, each counted each time it is reached (what is shared counts as often as it is met; a slice's spare places count too). A statement '..UptoSaid' is the law's where the arguments, and the package variables that the reading takes, are together of bulk at most 1048576: NARROWER than '..Said'. Prove '..Said' where nothing that the law and all that it calls make is longer than what came in: it says more and counts as full. Else prove '..UptoSaid'. A law counts once. -/
mutual
def uptoBulk {H : Type} : DataW H → Nat
  | .lit (.string bytes) => bytes.length + 1
  | .lit _ => 1
  | .nil => 1
  | .ptr d => uptoBulk d + 1
  | .slice elems spare => uptoBulkAll elems + uptoBulkAll spare + 1
  | .agg parts => uptoBulkAll parts + 1
  | .iface _ d => uptoBulk d + 1
  | .map entries => uptoBulkEntries entries + 1
  | .held _ => 1
def uptoBulkAll {H : Type} : List (DataW H) → Nat
  | [] => 0
  | d :: r => uptoBulk d + uptoBulkAll r
def uptoBulkEntries {H : Type} : List (Lit × DataW H) → Nat
  | [] => 0
  | x :: r => uptoBulkEntry x + uptoBulkEntries r
def uptoBulkEntry {H : Type} : Lit × DataW H → Nat
  | (.string bytes, d) => bytes.length + uptoBulk d + 1
  | (_, d) => uptoBulk d + 1
 end
def uptoSmall : (H : Type) → List (DataW H) → Bool := fun _ ds => decide (uptoBulkAll ds ≤ 1048576)
def OpenSpec.upto (s : _root_.Go.ChangeSpec) : _root_.Go.OpenSpec := { _root_.Go.OpenSpec.ofChange s with cond := some uptoSmall }

/-- 'plunderlaw2.CellsMoves', WHERE WHAT IT READS IS OF BULK AT MOST 1048576: true; the input reads as it did. -/
def cellsMovesUptoRow : OpenClaim := { program := "ytpjmakbbakmhoaa", sum := "8ba055ae2753cbc9b7f68b0582d7efba65776b2b140c837e384016c118d62584", func := "plunder/plunderlaw2.CellsMoves", spec := "cellsMoves", inPlace := ["sync/atomic.LoadInt64", "sync/atomic.StoreInt64"], apart := false, narrowed := true }
def CellsMovesUptoSaid : Prop := cellsMovesUptoRow.holds Try.pinned (OpenSpec.upto cellsMovesSpec)

/-- 'plunderlaw2.CellsTurns', WHERE WHAT IT READS IS OF BULK AT MOST 1048576: true; the input reads as it did. -/
def cellsTurnsUptoRow : OpenClaim := { program := "ytpjmakbbakmhoaa", sum := "8ba055ae2753cbc9b7f68b0582d7efba65776b2b140c837e384016c118d62584", func := "plunder/plunderlaw2.CellsTurns", spec := "cellsTurns", inPlace := ["sync/atomic.LoadInt64", "sync/atomic.StoreInt64"], apart := false, narrowed := true }
def CellsTurnsUptoSaid : Prop := cellsTurnsUptoRow.holds Try.pinned (OpenSpec.upto cellsTurnsSpec)

/-- 'plunderlaw2.CellsPlay', WHERE WHAT IT READS IS OF BULK AT MOST 1048576: true; the input reads as it did. -/
def cellsPlayUptoRow : OpenClaim := { program := "ytpjmakbbakmhoaa", sum := "8ba055ae2753cbc9b7f68b0582d7efba65776b2b140c837e384016c118d62584", func := "plunder/plunderlaw2.CellsPlay", spec := "cellsPlay", unfollowed := true, recurses := true, apart := false, narrowed := true }
def CellsPlayUptoSaid : Prop := cellsPlayUptoRow.holds Try.pinned (OpenSpec.upto cellsPlaySpec)

/-- 'plunderlaw2.CellsLists', WHERE WHAT IT READS IS OF BULK AT MOST 1048576: true; the input reads as it did. -/
def cellsListsUptoRow : OpenClaim := { program := "ytpjmakbbakmhoaa", sum := "8ba055ae2753cbc9b7f68b0582d7efba65776b2b140c837e384016c118d62584", func := "plunder/plunderlaw2.CellsLists", spec := "cellsLists", inPlace := ["sync/atomic.LoadInt64", "sync/atomic.StoreInt64"], apart := false, narrowed := true }
def CellsListsUptoSaid : Prop := cellsListsUptoRow.holds Try.pinned (OpenSpec.upto cellsListsSpec)

/-- 'plunderlaw2.CellsCrowd', WHERE WHAT IT READS IS OF BULK AT MOST 1048576: true; the input reads as it did. -/
def cellsCrowdUptoRow : OpenClaim := { program := "ytpjmakbbakmhoaa", sum := "8ba055ae2753cbc9b7f68b0582d7efba65776b2b140c837e384016c118d62584", func := "plunder/plunderlaw2.CellsCrowd", spec := "cellsCrowd", inPlace := ["sync/atomic.LoadInt64", "sync/atomic.StoreInt64", "(*internal/sync.Mutex).Lock", "internal/race.Disable", "sync/atomic.CompareAndSwapInt32", "internal/race.Enable", "internal/race.Acquire", "(*internal/sync.Mutex).lockSlow", "internal/sync.runtime_canSpin", "internal/sync.runtime_doSpin", "internal/sync.throw", "internal/sync.runtime_nanotime", "internal/sync.runtime_SemacquireMutex", "sync/atomic.AddInt32", "(*internal/sync.Mutex).Unlock", "internal/race.ReleaseMerge", "(*internal/sync.Mutex).unlockSlow", "internal/sync.fatal", "internal/sync.runtime_Semrelease", "(*sync.WaitGroup).Add", "internal/synctest.IsInBubble", "internal/synctest.Associate[sync.WaitGroup]", "sync.fatal", "sync/atomic.OrUint64", "sync/atomic.AddUint64", "internal/race.Read", "sync/atomic.LoadUint64", "sync/atomic.StoreUint64", "internal/synctest.Disassociate[sync.WaitGroup]", "sync.runtime_Semrelease", "(*sync.WaitGroup).Done", "(*sync.WaitGroup).Wait", "internal/synctest.IsAssociated[sync.WaitGroup]", "sync/atomic.CompareAndSwapUint64", "internal/race.Write", "sync.runtime_SemacquireWaitGroup"], unfollowed := true, recurses := true, apart := false, narrowed := true }
def CellsCrowdUptoSaid : Prop := cellsCrowdUptoRow.holds Try.pinned (OpenSpec.upto cellsCrowdSpec)

end Rows
end Go.Proofs.Ytpjmakbbakmhoaa
