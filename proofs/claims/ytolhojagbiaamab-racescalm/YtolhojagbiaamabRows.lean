/-
  No cell of these rows narrows 'for every input' (looked for: loops, veiled, ifaces, maps, wideKeys, modest, calm, conditions, laid).
  DERIVED. THE GIVEN ROWS OF THIS SEAT. 4 by the template 'for every input the law returns true; each argument reads behind the call as it read before'; 0 by the template 'total and deterministic' (their statements: YtolhojagbiaamabTotals.lean).
  GIVEN WITH THE SEED: the statements are not yours to turn. If you find one false, say at which input.
  Laid BY PROGRAM, IN A SANDBOX (cutbox-rows.mjs): the forced cells as the released guide's own fill.sh prints them over the translation e9239f5db98b3e68… (all of the seat's roots in one cut). By AI agents, Wed Nov 11 2026. No macro, syntax, notation, axiom, sorry.
-/
import Derived.Test.YtolhojagbiaamabChecked
import GoSem.Claim
import GoSem.ClaimJoined
import GoSem.ClaimMapViews
import Derived.JoinedTies
import Derived.KernelRfl
namespace Go.Proofs.Ytolhojagbiaamab
/- THE CELL 'sum', in the pinned program and in every row, IS THE sha256 OF THE DUMP (.gsa) THAT YtolhojagbiaamabProg.lean LOADS. Nothing in Lean hashes anything: it is a label: what it is worth is what the hold of that sum in a sandbox is worth. -/
noncomputable def Try.pinned : Pinned := { name := "ytolhojagbiaamab", sum := "e9239f5db98b3e68fb38f983f7da0f0f3617b868a2cfd915f8596ba401998cbd", checked := Try.checked }
namespace Rows
def none {H : Type} : Left H := { results := [], args := [] }

/-- 'plunderlaw19.RacesSerial': WHATEVER THE INPUT: true; the input reads as it did. -/
def racesSerialSpec : ChangeSpec := { name := "racesSerial", fn := fun _ => fun
  | [d1, d2, d3] => { results := [.lit (.bool true)], args := [d1, d2, d3] }
  | _ => none }
def racesSerialRow : OpenClaim := { program := "ytolhojagbiaamab", sum := "e9239f5db98b3e68fb38f983f7da0f0f3617b868a2cfd915f8596ba401998cbd", func := "plunder/plunderlaw19.RacesSerial", spec := "racesSerial", unfollowed := true, recurses := true, apart := false }
def RacesSerialSaid : Prop := racesSerialRow.holds Try.pinned (OpenSpec.ofChange racesSerialSpec)

/-- ITS FALSE NEIGHBOUR: 'it returns false'. Refute it at one input. -/
def racesSerialWrong : ChangeSpec := { name := "racesSerial", fn := fun _ => fun
  | [d1, d2, d3] => { results := [.lit (.bool false)], args := [d1, d2, d3] }
  | _ => none }
def RacesSerialWrongFalsely : Prop := racesSerialRow.holds Try.pinned (OpenSpec.ofChange racesSerialWrong)

/-- 'plunderlaw19.RacesTwo': WHATEVER THE INPUT: true; the input reads as it did. -/
def racesTwoSpec : ChangeSpec := { name := "racesTwo", fn := fun _ => fun
  | [d1, d2, d3] => { results := [.lit (.bool true)], args := [d1, d2, d3] }
  | _ => none }
def racesTwoRow : OpenClaim := { program := "ytolhojagbiaamab", sum := "e9239f5db98b3e68fb38f983f7da0f0f3617b868a2cfd915f8596ba401998cbd", func := "plunder/plunderlaw19.RacesTwo", spec := "racesTwo", unfollowed := true, recurses := true, apart := false }
def RacesTwoSaid : Prop := racesTwoRow.holds Try.pinned (OpenSpec.ofChange racesTwoSpec)

/-- ITS FALSE NEIGHBOUR: 'it returns false'. Refute it at one input. -/
def racesTwoWrong : ChangeSpec := { name := "racesTwo", fn := fun _ => fun
  | [d1, d2, d3] => { results := [.lit (.bool false)], args := [d1, d2, d3] }
  | _ => none }
def RacesTwoWrongFalsely : Prop := racesTwoRow.holds Try.pinned (OpenSpec.ofChange racesTwoWrong)

/-- 'plunderlaw19.RacesCalm': WHATEVER THE INPUT: true; the input reads as it did. -/
def racesCalmSpec : ChangeSpec := { name := "racesCalm", fn := fun _ => fun
  | [d1, d2] => { results := [.lit (.bool true)], args := [d1, d2] }
  | _ => none }
def racesCalmRow : OpenClaim := { program := "ytolhojagbiaamab", sum := "e9239f5db98b3e68fb38f983f7da0f0f3617b868a2cfd915f8596ba401998cbd", func := "plunder/plunderlaw19.RacesCalm", spec := "racesCalm", unfollowed := true, recurses := true, apart := false }
def RacesCalmSaid : Prop := racesCalmRow.holds Try.pinned (OpenSpec.ofChange racesCalmSpec)

/-- ITS FALSE NEIGHBOUR: 'it returns false'. Refute it at one input. -/
def racesCalmWrong : ChangeSpec := { name := "racesCalm", fn := fun _ => fun
  | [d1, d2] => { results := [.lit (.bool false)], args := [d1, d2] }
  | _ => none }
def RacesCalmWrongFalsely : Prop := racesCalmRow.holds Try.pinned (OpenSpec.ofChange racesCalmWrong)

/-- 'plunderlaw19.RacesDetect': WHATEVER THE INPUT: true; the input reads as it did. -/
def racesDetectSpec : ChangeSpec := { name := "racesDetect", fn := fun _ => fun
  | [d] => { results := [.lit (.bool true)], args := [d] }
  | _ => none }
def racesDetectRow : OpenClaim := { program := "ytolhojagbiaamab", sum := "e9239f5db98b3e68fb38f983f7da0f0f3617b868a2cfd915f8596ba401998cbd", func := "plunder/plunderlaw19.RacesDetect", spec := "racesDetect", unfollowed := true, recurses := true, apart := false }
def RacesDetectSaid : Prop := racesDetectRow.holds Try.pinned (OpenSpec.ofChange racesDetectSpec)

/-- ITS FALSE NEIGHBOUR: 'it returns false'. Refute it at one input. -/
def racesDetectWrong : ChangeSpec := { name := "racesDetect", fn := fun _ => fun
  | [d] => { results := [.lit (.bool false)], args := [d] }
  | _ => none }
def RacesDetectWrongFalsely : Prop := racesDetectRow.holds Try.pinned (OpenSpec.ofChange racesDetectWrong)

/- THE SECOND FORM. 'bulk': how many values and letters a reading holds, each counted each time it is reached (what is shared counts as often as it is met; a slice's spare places count too). A statement '..UptoSaid' is the law's where the arguments, and the package variables that the reading takes, are together of bulk at most 1048576: NARROWER than '..Said'. Prove '..Said' where nothing that the law and all that it calls make is longer than what came in: it says more and counts as full. Else prove '..UptoSaid'. A law counts once. -/
mutual
def uptoBulk {H : Type} : DataW H → Nat
  | .lit (.string bytes) => bytes.length + 1
  | .lit _ => 1
  | .nil => 1
  | .ptr d => uptoBulk d + 1
  | .slice elems spare => uptoBulkAll elems + uptoBulkAll spare + 1
  | .agg parts => uptoBulkAll parts + 1
  | .iface _ d => uptoBulk d + 1
  | .map entries => uptoBulkEntries entries + 1
  | .held _ => 1
def uptoBulkAll {H : Type} : List (DataW H) → Nat
  | [] => 0
  | d :: r => uptoBulk d + uptoBulkAll r
def uptoBulkEntries {H : Type} : List (Lit × DataW H) → Nat
  | [] => 0
  | x :: r => uptoBulkEntry x + uptoBulkEntries r
def uptoBulkEntry {H : Type} : Lit × DataW H → Nat
  | (.string bytes, d) => bytes.length + uptoBulk d + 1
  | (_, d) => uptoBulk d + 1
 end
def uptoSmall : (H : Type) → List (DataW H) → Bool := fun _ ds => decide (uptoBulkAll ds ≤ 1048576)
def OpenSpec.upto (s : _root_.Go.ChangeSpec) : _root_.Go.OpenSpec := { _root_.Go.OpenSpec.ofChange s with cond := some uptoSmall }

/-- 'plunderlaw19.RacesSerial', WHERE WHAT IT READS IS OF BULK AT MOST 1048576: true; the input reads as it did. -/
def racesSerialUptoRow : OpenClaim := { program := "ytolhojagbiaamab", sum := "e9239f5db98b3e68fb38f983f7da0f0f3617b868a2cfd915f8596ba401998cbd", func := "plunder/plunderlaw19.RacesSerial", spec := "racesSerial", unfollowed := true, recurses := true, apart := false, narrowed := true }
def RacesSerialUptoSaid : Prop := racesSerialUptoRow.holds Try.pinned (OpenSpec.upto racesSerialSpec)

/-- 'plunderlaw19.RacesTwo', WHERE WHAT IT READS IS OF BULK AT MOST 1048576: true; the input reads as it did. -/
def racesTwoUptoRow : OpenClaim := { program := "ytolhojagbiaamab", sum := "e9239f5db98b3e68fb38f983f7da0f0f3617b868a2cfd915f8596ba401998cbd", func := "plunder/plunderlaw19.RacesTwo", spec := "racesTwo", unfollowed := true, recurses := true, apart := false, narrowed := true }
def RacesTwoUptoSaid : Prop := racesTwoUptoRow.holds Try.pinned (OpenSpec.upto racesTwoSpec)

/-- 'plunderlaw19.RacesCalm', WHERE WHAT IT READS IS OF BULK AT MOST 1048576: true; the input reads as it did. -/
def racesCalmUptoRow : OpenClaim := { program := "ytolhojagbiaamab", sum := "e9239f5db98b3e68fb38f983f7da0f0f3617b868a2cfd915f8596ba401998cbd", func := "plunder/plunderlaw19.RacesCalm", spec := "racesCalm", unfollowed := true, recurses := true, apart := false, narrowed := true }
def RacesCalmUptoSaid : Prop := racesCalmUptoRow.holds Try.pinned (OpenSpec.upto racesCalmSpec)

/-- 'plunderlaw19.RacesDetect', WHERE WHAT IT READS IS OF BULK AT MOST 1048576: true; the input reads as it did. -/
def racesDetectUptoRow : OpenClaim := { program := "ytolhojagbiaamab", sum := "e9239f5db98b3e68fb38f983f7da0f0f3617b868a2cfd915f8596ba401998cbd", func := "plunder/plunderlaw19.RacesDetect", spec := "racesDetect", unfollowed := true, recurses := true, apart := false, narrowed := true }
def RacesDetectUptoSaid : Prop := racesDetectUptoRow.holds Try.pinned (OpenSpec.upto racesDetectSpec)

end Rows
end Go.Proofs.Ytolhojagbiaamab
