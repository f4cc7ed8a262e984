import Derived.Test.YtokfbagacehbgaaDoorPgValid
import Derived.Test.YtokfbagacehbgaaDoorPlain
/-! What package serial answers, plainly. -/
namespace Go.Proofs.YtokfbagacehbgaaDoor
set_option linter.unusedVariables false
set_option maxRecDepth 20000
open Go.RowKit Go.PlainOps

structure Nd where
  parent : Int
  idx : Int
  func : Int
  work : Int
  ped : Int
  arg : Int
  v : Int
structure Tk where
  regs : List Int
  slots : List Int
  node : Nd
  number : Int
  depth : Int
  spawned : Int
  span : Int
  due : Int
structure Rn where
  fuel : Nat
  tasks : Nat
  depth : Int
  nodes : List Nd
inductive Res where
  | gave (e : Int)
  | done (v span : Int) (s : Rn)

def pedV (p k : Int) : Int := wrap64 (wrap64 (wrap64 (p * 1000003) + k) + 1)
def imax (a b : Int) : Int := if a < b then b else a
def enterT (s : Rn) (t : Tk) : Tk := { t with number := s.tasks, node := { t.node with arg := t.regs.getD 0 0 } }
def enterS (L : Bool) (s : Rn) (t : Tk) : Rn := { s with tasks := s.tasks + 1, depth := imax s.depth t.depth, nodes := if L then s.nodes ++ [(enterT s t).node] else s.nodes }
def payS (s : Rn) : Rn := { s with fuel := s.fuel - 1 }
def payT (t : Tk) : Tk := { t with node := { t.node with work := t.node.work + 1 }, span := t.span + 1 }
def leaveS (L : Bool) (s : Rn) (t : Tk) : Rn := { s with nodes := if L then s.nodes.set t.number.toNat t.node else s.nodes }
def endT (t : Tk) (x : Int) : Tk := { t with node := { t.node with v := x } }
def argsV (l : List Int) (from_ n : Nat) : List Int := (List.range 16).map fun k => if k < n then l.getD (from_ + k) 0 else 0
def childV (fs : List Fn) (t : Tk) (i : Ins) : Tk :=
  { regs := argsV t.regs i.c.toNat (parV fs i.b).toNat, slots := List.replicate 8 0, node := ⟨t.number, t.spawned, i.b, 0, pedV t.node.ped t.spawned, 0, 0⟩, number := 0, depth := t.depth + 1, spawned := 0, span := 0, due := 0 }
def spawnT (t : Tk) : Tk := { t with spawned := t.spawned + 1 }
def gotT (t : Tk) (a : Nat) (v span : Int) : Tk := { t with slots := t.slots.set a v, due := imax t.due (t.span + span) }
def waitT (t : Tk) : Tk := { t with span := imax t.span (t.due + 1) }
def setR (t : Tk) (a : Nat) (x : Int) : Tk := { t with regs := t.regs.set a x }
def computeT (t : Tk) (i : Ins) : Tk :=
  if i.kind = 0 then setR t i.a.toNat i.k
  else if i.kind = 1 then setR t i.a.toNat (t.regs.getD i.b.toNat 0)
  else if i.kind = 2 then setR t i.a.toNat (workV i.k (t.regs.getD i.b.toNat 0) (t.regs.getD i.c.toNat 0))
  else if i.kind = 7 then setR t i.a.toNat (t.slots.getD i.b.toNat 0)
  else if i.kind = 8 then setR t i.a.toNat t.node.ped
  else t
def rootT (args : List Int) : Tk :=
  { regs := argsV args 0 args.length, slots := List.replicate 8 0, node := ⟨-1, 0, 0, 0, 1, 0, 0⟩, number := 0, depth := 1, spawned := 0, span := 0, due := 0 }
def codeOf (fs : List Fn) (f : Int) : List Ins := ((fs[f.toNat]?).map Fn.code).getD []

/-- A task from instruction 'at_' on. -/
def loopV (fs : List Fn) (L : Bool) : Nat → Rn → Tk → Nat → Res
  | 0, _, _, _ => .gave 62
  | g + 1, s, t, at_ =>
    if s.fuel = 0 then .gave 62
    else match (codeOf fs t.node.func)[at_]? with
      | none => .gave 0
      | some i =>
        if i.kind = 3 then loopV fs L g (payS s) (payT t) i.a.toNat
        else if i.kind = 4 then loopV fs L g (payS s) (payT t) (if t.regs.getD i.a.toNat 0 = 0 then at_ + 1 else i.b.toNat)
        else if i.kind = 5 then
          if 4096 < (childV fs (payT t) i).depth then .gave 63
          else match loopV fs L g (enterS L (payS s) (childV fs (payT t) i)) (enterT (payS s) (childV fs (payT t) i)) 0 with
            | .gave e => .gave e
            | .done v sp s2 => loopV fs L g s2 (gotT (spawnT (payT t)) i.a.toNat v sp) (at_ + 1)
        else if i.kind = 6 then loopV fs L g (payS s) (waitT (payT t)) (at_ + 1)
        else if i.kind = 9 then .done (t.regs.getD i.a.toNat 0) (t.span + 1) (leaveS L (payS s) (endT (payT t) (t.regs.getD i.a.toNat 0)))
        else loopV fs L g (payS s) (computeT (payT t) i) (at_ + 1)
/-- A task from its beginning on. -/
def playV (fs : List Fn) (L : Bool) (g : Nat) (s : Rn) (t : Tk) : Res :=
  if 4096 < t.depth then .gave 63 else loopV fs L g (enterS L s t) (enterT s t) 0
def startS (fuel : Nat) : Rn := ⟨fuel, 0, 0, []⟩
/-- What comes ahead of a run. -/
def refusedV (fs : List Fn) (args : List Int) (fuel : Int) : Int :=
  if (checkV fs).1 ≠ 0 then 60 else if ((args.length : Int)) ≠ parV fs 0 then 61 else if fuel < 0 ∨ 4194304 < fuel then 3 else 0
def runV (fs : List Fn) (L : Bool) (args : List Int) (fuel : Nat) : Res := playV fs L (fuel + 1) (startS fuel) (rootT args)
/-- Eval: the value, the work, the tasks, the depth, the span; the error. -/
structure Val where
  v : Int
  work : Int
  tasks : Int
  depth : Int
  span : Int
def zeroVal : Val := ⟨0, 0, 0, 0, 0⟩
def evalV (fs : List Fn) (args : List Int) (fuel : Int) : Val × Int :=
  if refusedV fs args fuel ≠ 0 then (zeroVal, refusedV fs args fuel)
  else match runV fs false args fuel.toNat with
    | .gave e => (zeroVal, e)
    | .done v sp s => (⟨v, fuel - s.fuel, s.tasks, s.depth, sp⟩, 0)

/-! ### What stays in its bounds -/
structure Tk.In (fs : List Fn) (t : Tk) (fuel : Nat) : Prop where
  regs : t.regs.length = 16
  slots : t.slots.length = 8
  okr : ∀ x ∈ t.regs, okI x
  oks : ∀ x ∈ t.slots, okI x
  func : 0 ≤ t.node.func ∧ t.node.func < fs.length
  work : 0 ≤ t.node.work ∧ t.node.work + fuel ≤ 8388608
  ped : okI t.node.ped
  depth : 1 ≤ t.depth ∧ t.depth ≤ 4096
  spawned : 0 ≤ t.spawned ∧ t.spawned + fuel ≤ 8388608
  span : 0 ≤ t.span ∧ t.span + fuel ≤ 8388608
  due : 0 ≤ t.due ∧ t.due + fuel ≤ 8388608
  number : 0 ≤ t.number ∧ t.number ≤ 8388608
structure Rn.In (L : Bool) (s : Rn) : Prop where
  tasks : s.tasks + s.fuel ≤ 8388608
  depth : 0 ≤ s.depth ∧ s.depth ≤ 4096
  nodes : s.nodes.length = if L then s.tasks else 0
end Go.Proofs.YtokfbagacehbgaaDoor
