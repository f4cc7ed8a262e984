import Derived.Test.YtbdpdojeaahpjaaGreatDoorPkAB
import Derived.Test.YtbdpdojeaahpjaaGreatDoorProg
import Derived.WalkKit
import Derived.WalkSpells
import Derived.WalkLawsBesides
import Derived.Deep.RegionHeld3
import Derived.Deep.RegionLaw
/-! What package serial answers, plainly. -/
namespace Go.Proofs.YtbdpdojeaahpjaaGreatDoor
set_option linter.unusedVariables false
set_option maxRecDepth 20000
open Go.RowKit Go.PlainOps

structure Nd where
  parent : Int
  idx : Int
  func : Int
  work : Int
  ped : Int
  arg : Int
  v : Int
structure Tk where
  regs : List Int
  slots : List Int
  node : Nd
  number : Int
  depth : Int
  spawned : Int
  span : Int
  due : Int
structure Rn where
  fuel : Nat
  tasks : Nat
  depth : Int
  nodes : List Nd
inductive Res where
  | gave (e : Int)
  | done (v span : Int) (s : Rn)

def pedV (p k : Int) : Int := wrap64 (wrap64 (wrap64 (p * 1000003) + k) + 1)
def imax (a b : Int) : Int := if a < b then b else a
def enterT (s : Rn) (t : Tk) : Tk := { t with number := s.tasks, node := { t.node with arg := t.regs.getD 0 0 } }
def enterS (L : Bool) (s : Rn) (t : Tk) : Rn := { s with tasks := s.tasks + 1, depth := imax s.depth t.depth, nodes := if L then s.nodes ++ [(enterT s t).node] else s.nodes }
def payS (s : Rn) : Rn := { s with fuel := s.fuel - 1 }
def payT (t : Tk) : Tk := { t with node := { t.node with work := t.node.work + 1 }, span := t.span + 1 }
def leaveS (L : Bool) (s : Rn) (t : Tk) : Rn := { s with nodes := if L then s.nodes.set t.number.toNat t.node else s.nodes }
def endT (t : Tk) (x : Int) : Tk := { t with node := { t.node with v := x } }
def argsV (l : List Int) (from_ n : Nat) : List Int := (List.range 16).map fun k => if k < n then l.getD (from_ + k) 0 else 0
def childV (fs : List Fn) (t : Tk) (i : Ins) : Tk :=
  { regs := argsV t.regs i.c.toNat (parV fs i.b).toNat, slots := List.replicate 8 0, node := ⟨t.number, t.spawned, i.b, 0, pedV t.node.ped t.spawned, 0, 0⟩, number := 0, depth := t.depth + 1, spawned := 0, span := 0, due := 0 }
def spawnT (t : Tk) : Tk := { t with spawned := t.spawned + 1 }
def gotT (t : Tk) (a : Nat) (v span : Int) : Tk := { t with slots := t.slots.set a v, due := imax t.due (t.span + span) }
def waitT (t : Tk) : Tk := { t with span := imax t.span (t.due + 1) }
def setR (t : Tk) (a : Nat) (x : Int) : Tk := { t with regs := t.regs.set a x }
def computeT (t : Tk) (i : Ins) : Tk :=
  if i.kind = 0 then setR t i.a.toNat i.k
  else if i.kind = 1 then setR t i.a.toNat (t.regs.getD i.b.toNat 0)
  else if i.kind = 2 then setR t i.a.toNat (workV i.k (t.regs.getD i.b.toNat 0) (t.regs.getD i.c.toNat 0))
  else if i.kind = 7 then setR t i.a.toNat (t.slots.getD i.b.toNat 0)
  else if i.kind = 8 then setR t i.a.toNat t.node.ped
  else t
def rootT (args : List Int) : Tk :=
  { regs := argsV args 0 args.length, slots := List.replicate 8 0, node := ⟨-1, 0, 0, 0, 1, 0, 0⟩, number := 0, depth := 1, spawned := 0, span := 0, due := 0 }
def codeOf (fs : List Fn) (f : Int) : List Ins := ((fs[f.toNat]?).map Fn.code).getD []

/-- A task from instruction 'at_' on. -/
def loopV (fs : List Fn) (L : Bool) : Nat → Rn → Tk → Nat → Res
  | 0, _, _, _ => .gave 62
  | g + 1, s, t, at_ =>
    if s.fuel = 0 then .gave 62
    else match (codeOf fs t.node.func)[at_]? with
      | none => .gave 0
      | some i =>
        if i.kind = 3 then loopV fs L g (payS s) (payT t) i.a.toNat
        else if i.kind = 4 then loopV fs L g (payS s) (payT t) (if t.regs.getD i.a.toNat 0 = 0 then at_ + 1 else i.b.toNat)
        else if i.kind = 5 then
          if 4096 < (childV fs (payT t) i).depth then .gave 63
          else match loopV fs L g (enterS L (payS s) (childV fs (payT t) i)) (enterT (payS s) (childV fs (payT t) i)) 0 with
            | .gave e => .gave e
            | .done v sp s2 => loopV fs L g s2 (gotT (spawnT (payT t)) i.a.toNat v sp) (at_ + 1)
        else if i.kind = 6 then loopV fs L g (payS s) (waitT (payT t)) (at_ + 1)
        else if i.kind = 9 then .done (t.regs.getD i.a.toNat 0) (t.span + 1) (leaveS L (payS s) (endT (payT t) (t.regs.getD i.a.toNat 0)))
        else loopV fs L g (payS s) (computeT (payT t) i) (at_ + 1)
/-- A task from its beginning on. -/
def playV (fs : List Fn) (L : Bool) (g : Nat) (s : Rn) (t : Tk) : Res :=
  if 4096 < t.depth then .gave 63 else loopV fs L g (enterS L s t) (enterT s t) 0
def startS (fuel : Nat) : Rn := ⟨fuel, 0, 0, []⟩
/-- What comes ahead of a run. -/
def refusedV (fs : List Fn) (args : List Int) (fuel : Int) : Int :=
  if (checkV fs).1 ≠ 0 then 60 else if ((args.length : Int)) ≠ parV fs 0 then 61 else if fuel < 0 ∨ 4194304 < fuel then 3 else 0
def runV (fs : List Fn) (L : Bool) (args : List Int) (fuel : Nat) : Res := playV fs L (fuel + 1) (startS fuel) (rootT args)
/-- Eval: the value, the work, the tasks, the depth, the span; the error. -/
structure Val where
  v : Int
  work : Int
  tasks : Int
  depth : Int
  span : Int
def zeroVal : Val := ⟨0, 0, 0, 0, 0⟩
def evalV (fs : List Fn) (args : List Int) (fuel : Int) : Val × Int :=
  if refusedV fs args fuel ≠ 0 then (zeroVal, refusedV fs args fuel)
  else match runV fs false args fuel.toNat with
    | .gave e => (zeroVal, e)
    | .done v sp s => (⟨v, fuel - s.fuel, s.tasks, s.depth, sp⟩, 0)

/-! ### What stays in its bounds -/
structure Tk.In (fs : List Fn) (t : Tk) (fuel : Nat) : Prop where
  regs : t.regs.length = 16
  slots : t.slots.length = 8
  okr : ∀ x ∈ t.regs, okI x
  oks : ∀ x ∈ t.slots, okI x
  func : 0 ≤ t.node.func ∧ t.node.func < fs.length
  work : 0 ≤ t.node.work ∧ t.node.work + fuel ≤ 8388608
  ped : okI t.node.ped
  depth : 1 ≤ t.depth ∧ t.depth ≤ 4096
  spawned : 0 ≤ t.spawned ∧ t.spawned + fuel ≤ 8388608
  span : 0 ≤ t.span ∧ t.span + fuel ≤ 8388608
  due : 0 ≤ t.due ∧ t.due + fuel ≤ 8388608
  number : 0 ≤ t.number ∧ t.number ≤ 8388608
structure Rn.In (L : Bool) (s : Rn) : Prop where
  tasks : s.tasks + s.fuel ≤ 8388608
  depth : 0 ≤ s.depth ∧ s.depth ≤ 4096
  nodes : s.nodes.length = if L then s.tasks else 0
end Go.Proofs.YtbdpdojeaahpjaaGreatDoor
/-! A verified program's run stays in its bounds. -/
namespace Go.Proofs.YtbdpdojeaahpjaaGreatDoor
set_option linter.unusedVariables false
set_option maxRecDepth 20000
open Go.RowKit Go.PlainOps

/-- What is known of an instruction of a valid function. -/
structure StepOk (fs : List Fn) (n : Nat) (at_ : Nat) (i : Ins) : Prop where
  kind : 0 ≤ i.kind ∧ i.kind < 10
  jump : i.kind = 3 → 0 ≤ i.a ∧ i.a < n
  branch : i.kind = 4 → 0 ≤ i.b ∧ i.b < n
  next : i.kind ≠ 3 → i.kind ≠ 9 → at_ + 1 < n
  reg : i.kind ≠ 3 → i.kind ≠ 5 → i.kind ≠ 6 → 0 ≤ i.a ∧ i.a < 16
  regb : i.kind = 1 ∨ i.kind = 2 → 0 ≤ i.b ∧ i.b < 16
  regc : i.kind = 2 → 0 ≤ i.c ∧ i.c < 16
  op : i.kind = 2 → 0 ≤ i.k ∧ i.k < 16
  slot : i.kind = 5 → 0 ≤ i.a ∧ i.a < 8
  load : i.kind = 7 → 0 ≤ i.b ∧ i.b < 8
  fn : i.kind = 5 → 0 ≤ i.b ∧ i.b < fs.length
  args : i.kind = 5 → parV fs i.b = 0 ∨ (0 ≤ i.c ∧ i.c + parV fs i.b ≤ 16)
theorem step_ok {fs : List Fn} {f : Fn} {at_ : Nat} {i : Ins} (hV : Valid fs f) (hi : f.code[at_]? = some i) : StepOk fs f.code.length at_ i := by
  have hG := good_of hV.shape hV.code
  have hf := (code_parts hV.code).1 _ _ hi
  obtain ⟨w1, w2, w3⟩ := fits_ways hf
  have hk := fits_kind hf
  obtain ⟨_, ⟨_, _, hr⟩, ⟨_, hs⟩, _, _⟩ := valid_bounds hV
  have hw := hG.ways _ _ hi
  have h6 : i.kind = 2 → 0 ≤ i.k ∧ i.k < 16 := by
    intro e
    unfold fitsV at hf
    rw [e] at hf
    simp [fK, belowV] at hf
    omega
  obtain ⟨k, a, b, c, K⟩ := i
  simp only at hk w1 w2 w3 h6 ⊢
  rcases kinds (i := ⟨k, a, b, c, K⟩) hk.1 hk.2 with e | e | e | e | e | e | e | e | e | e
  all_goals
    simp only at e
    subst e
    simp [fA, fB, fC, allowsV, belowV, holdsV] at w1 w2 w3
    simp [exitsV, fN, fA, fB] at hw
    refine ⟨by simp, ?_, ?_, ?_, ?_, ?_, ?_, ?_, ?_, ?_, ?_, ?_⟩ <;> simp <;> first | done | omega

theorem getD_ok {l : List Int} (h : ∀ x ∈ l, okI x) (k : Nat) : okI (l.getD k 0) := by
  rw [List.getD_eq_getElem?_getD]
  cases hq : l[k]? with
  | none => simp [okI]
  | some x => exact h x (List.mem_of_getElem? hq)
theorem set_ok {l : List Int} (h : ∀ x ∈ l, okI x) (k : Nat) {x : Int} (hx : okI x) : ∀ y ∈ l.set k x, okI y := by
  intro y hy
  rcases List.mem_or_eq_of_mem_set hy with h1 | h1
  · exact h y h1
  · subst h1; exact hx
theorem wrap_ok (x : Int) : okI (wrap64 x) := by unfold okI wrap64; omega
theorem bvOk (v : BitVec 64) : okI v.toInt := by have := bv_bounds v; exact ⟨by omega, by omega⟩
theorem ite_ok {p : Prop} [Decidable p] {a b : Int} (ha : okI a) (hb : okI b) : okI (if p then a else b) := by by_cases h : p <;> simp [h, ha, hb]
theorem zero_ok : okI 0 := by simp [okI]
theorem truth_ok (x : Bool) : okI (truthV x) := by cases x <;> simp [truthV, okI]
theorem rem_ok (a b : Int) (ha : okI a) : okI (remV a b) := by
  unfold remV
  refine ite_ok ha ?_
  have : (a.tmod b).natAbs ≤ a.natAbs := by rw [Int.natAbs_tmod]; exact Nat.mod_le _ _
  unfold okI at ha ⊢
  by_cases h0 : 0 ≤ a
  · have := Int.tmod_nonneg b h0
    omega
  · have h2 := Int.tmod_nonneg b (show 0 ≤ -a by omega)
    rw [Int.neg_tmod] at h2
    omega
theorem shr_ok (a b : Int) (ha : okI a) : okI (shrV a b) := by
  unfold shrV
  have hp : (0 : Int) < 2 ^ (b % 64).toNat := Int.pow_pos (by decide)
  generalize (2 : Int) ^ (b % 64).toNat = p at hp
  have h1 : (1 : Int) ≤ p := by omega
  unfold okI at ha ⊢
  by_cases h0 : 0 ≤ a
  · have h2 := Int.ediv_le_self p h0
    have h3 := Int.ediv_nonneg h0 (show 0 ≤ p by omega)
    omega
  · have h2 : -9223372036854775808 ≤ a / p := by
      apply Int.le_ediv_of_mul_le hp
      have : (-9223372036854775808 : Int) * p ≤ -9223372036854775808 * 1 := Int.mul_le_mul_of_nonpos_left (by decide) h1
      omega
    have h3 : a / p < 1 := by
      apply Int.ediv_lt_of_lt_mul hp
      omega
    omega
theorem work_ok (op a b : Int) (ha : okI a) (hb : okI b) : okI (workV op a b) := by
  unfold workV
  refine ite_ok (wrap_ok _) (ite_ok (wrap_ok _) (ite_ok (wrap_ok _) (ite_ok (ite_ok zero_ok (wrap_ok _)) (ite_ok (rem_ok _ _ ha) (ite_ok (by rw [bits_and]; exact bvOk _) (ite_ok (by rw [bits_or]; exact bvOk _) (ite_ok (by rw [bits_xor]; exact bvOk _) (ite_ok (wrap_ok _) (ite_ok (shr_ok _ _ ha) (ite_ok (ite_ok hb ha) (ite_ok (ite_ok hb ha) (ite_ok (truth_ok _) (ite_ok (truth_ok _) (ite_ok (truth_ok _) (truth_ok _)))))))))))))))
theorem args_ok {l : List Int} (h : ∀ x ∈ l, okI x) (a n : Nat) : ∀ x ∈ argsV l a n, okI x := by
  intro x hx
  unfold argsV at hx
  obtain ⟨k, _, rfl⟩ := List.mem_map.1 hx
  split
  · exact getD_ok h _
  · simp [okI]
theorem args_len (l : List Int) (a n : Nat) : (argsV l a n).length = 16 := by simp [argsV]
end Go.Proofs.YtbdpdojeaahpjaaGreatDoor
/-! A verified program's run stays in its bounds: the steps, the whole. -/
namespace Go.Proofs.YtbdpdojeaahpjaaGreatDoor
set_option linter.unusedVariables false
set_option maxRecDepth 20000
open Go.RowKit Go.PlainOps

theorem imax_le {a b c : Int} (h : a ≤ c) (k : b ≤ c) : imax a b ≤ c := by unfold imax; split <;> omega
theorem le_imax (a b : Int) : a ≤ imax a b ∧ b ≤ imax a b := by unfold imax; split <;> omega
theorem Tk.In.pay {fs : List Fn} {t : Tk} {m : Nat} (h : t.In fs (m + 1)) : (payT t).In fs m := by
  obtain ⟨h1, h2, h3, h4, h5, h6, h7, h8, h9, h10, h11, h12⟩ := h
  exact ⟨h1, h2, h3, h4, h5, by simp only [payT]; omega, h7, h8, by simp only [payT]; omega, by simp only [payT]; omega, by simp only [payT]; omega, h12⟩
theorem Tk.In.set {fs : List Fn} {t : Tk} {m : Nat} (h : t.In fs m) (a : Nat) {x : Int} (hx : okI x) : (setR t a x).In fs m :=
  ⟨by simpa [setR] using h.regs, h.slots, set_ok h.okr a hx, h.oks, h.func, h.work, h.ped, h.depth, h.spawned, h.span, h.due, h.number⟩
theorem Tk.In.compute {fs : List Fn} {t : Tk} {m : Nat} (h : t.In fs m) (i : Ins) (hi : okI i.k) : (computeT t i).In fs m := by
  unfold computeT
  split; · exact h.set _ hi
  split; · exact h.set _ (getD_ok h.okr _)
  split; · exact h.set _ (work_ok _ _ _ (getD_ok h.okr _) (getD_ok h.okr _))
  split; · exact h.set _ (getD_ok h.oks _)
  split; · exact h.set _ h.ped
  exact h
theorem Tk.In.wait {fs : List Fn} {t : Tk} {m : Nat} (h : t.In fs (m + 1)) : (waitT (payT t)).In fs m := by
  obtain ⟨h1, h2, h3, h4, h5, h6, h7, h8, h9, h10, h11, h12⟩ := h.pay
  have hd := h.due
  refine ⟨h1, h2, h3, h4, h5, h6, h7, h8, h9, ?_, h11, h12⟩
  simp only [waitT]
  have := le_imax (payT t).span ((payT t).due + 1)
  have h3 : imax (payT t).span ((payT t).due + 1) ≤ 8388608 - m := imax_le (by omega) (by simp only [payT]; omega)
  omega
theorem ped_ok (p k : Int) : okI (pedV p k) := wrap_ok _
theorem Tk.In.child {fs : List Fn} {t : Tk} {m : Nat} {s : Rn} {n at_ : Nat} {i : Ins} (h : t.In fs (m + 1)) (hs : StepOk fs n at_ i) (h5 : i.kind = 5) (hd : ¬ 4096 < (childV fs (payT t) i).depth) (hm : m ≤ 8388608) (ht : s.tasks ≤ 8388608) :
    (enterT s (childV fs (payT t) i)).In fs m := by
  have hdp := h.depth
  refine ⟨args_len _ _ _, by simp [enterT, childV], args_ok h.okr _ _, ?_, hs.fn h5, ?_, ped_ok _ _, ?_, ?_, ?_, ?_, ?_⟩
  · intro x hx
    simp [enterT, childV] at hx
    subst hx
    simp [okI]
  · simp [enterT, childV]; omega
  · simp only [childV, payT] at hd
    simp only [enterT, childV, payT]
    omega
  · simp [enterT, childV]; omega
  · simp [enterT, childV]; omega
  · simp [enterT, childV]; omega
  · simp only [enterT]; omega
theorem Tk.In.got {fs : List Fn} {t : Tk} {m m' a : Nat} {v sp : Int} (h : t.In fs (m + 1)) (hv : okI v) (h0 : 0 ≤ sp) (h1 : sp + m' ≤ m) : (gotT (spawnT (payT t)) a v sp).In fs m' := by
  obtain ⟨g1, g2, g3, g4, g5, g6, g7, g8, g9, g10, g11, g12⟩ := h
  refine ⟨g1, by simpa [gotT, spawnT, payT] using g2, g3, ?_, g5, by simp only [gotT, spawnT, payT]; omega, g7, g8, by simp only [gotT, spawnT, payT]; omega, by simp only [gotT, spawnT, payT]; omega, ?_, g12⟩
  · exact set_ok g4 _ hv
  · simp only [gotT, spawnT, payT]
    have := le_imax t.due (t.span + 1 + sp)
    have h3 : imax t.due (t.span + 1 + sp) ≤ 8388608 - m' := imax_le (by omega) (by omega)
    omega
theorem Rn.In.pay {L : Bool} {s : Rn} (h : s.In L) : (payS s).In L := ⟨by have := h.tasks; simp only [payS]; omega, h.depth, h.nodes⟩
theorem Rn.In.enter {L : Bool} {s : Rn} {t : Tk} (h : s.In L) (h0 : s.fuel ≠ 0) (hd : 1 ≤ t.depth ∧ t.depth ≤ 4096) : (enterS L (payS s) t).In L := by
  obtain ⟨h1, h2, h3⟩ := h
  refine ⟨by simp only [enterS, payS]; omega, ?_, ?_⟩
  · simp only [enterS, payS]
    have := le_imax s.depth t.depth
    have := imax_le (show s.depth ≤ 4096 by omega) hd.2
    omega
  · cases L
    · simpa [enterS, payS] using h3
    · simp [enterS, payS, h3]
theorem Rn.In.leave {L : Bool} {s : Rn} {t : Tk} (h : s.In L) : (leaveS L s t).In L := by
  obtain ⟨h1, h2, h3⟩ := h
  refine ⟨h1, h2, ?_⟩
  cases L
  · simpa [leaveS] using h3
  · simp [leaveS, h3]
/-- All functions are valid. -/
structure AllV (fs : List Fn) : Prop where
  len : 1 ≤ fs.length ∧ fs.length ≤ 32
  all : ∀ f ∈ fs, Valid fs f
  ok : ∀ f ∈ fs, f.Ok
theorem code_of {fs : List Fn} (f : Fn) {k : Int} (h : fs[k.toNat]? = some f) : codeOf fs k = f.code := by simp [codeOf, h]
theorem AllV.fn {fs : List Fn} (h : AllV fs) {k : Int} (hk : 0 ≤ k ∧ k < fs.length) : ∃ f, fs[k.toNat]? = some f ∧ f ∈ fs ∧ codeOf fs k = f.code ∧ Valid fs f ∧ f.Ok := by
  have e : fs[k.toNat]? = some (fs[k.toNat]'(by omega)) := by simp
  have hm : fs[k.toNat]'(by omega) ∈ fs := List.getElem_mem _
  exact ⟨_, e, hm, code_of _ e, h.all _ hm, h.ok _ hm⟩
structure DoneOk (L : Bool) (s : Rn) (t : Tk) (v sp : Int) (s' : Rn) : Prop where
  okv : okI v
  nonneg : 0 ≤ sp
  span : sp + s'.fuel ≤ imax t.span t.due + s.fuel
  fuel : s'.fuel ≤ s.fuel
  run : s'.In L
  tasks : s.tasks ≤ s'.tasks
theorem loop_in {fs : List Fn} (hA : AllV fs) (L : Bool) : ∀ (g : Nat) (s : Rn) (t : Tk) (at_ : Nat), s.In L → t.In fs s.fuel → at_ < (codeOf fs t.node.func).length → ∀ v sp s', loopV fs L g s t at_ = .done v sp s' → DoneOk L s t v sp s'
  | 0, s, t, at_, hs, ht, hat, v, sp, s', h => by simp [loopV] at h
  | g + 1, s, t, at_, hs, ht, hat, v, sp, s', h => by
    unfold loopV at h
    split at h
    · cases h
    · rename_i h0
      obtain ⟨m, hm⟩ : ∃ m, s.fuel = m + 1 := ⟨s.fuel - 1, by omega⟩
      have hpf : (payS s).fuel = m := by simp [payS, hm]
      obtain ⟨f, hf, _, hcf, hV, hok⟩ := hA.fn ht.func
      rw [hcf] at hat
      obtain ⟨i, hi⟩ : ∃ i, f.code[at_]? = some i := ⟨f.code[at_]'hat, by simp⟩
      rw [hcf, hi] at h
      simp only at h
      have so := step_ok hV hi
      have hik := (hok.code i (List.mem_of_getElem? hi)).k
      rw [hm] at ht
      have hmm : m ≤ 8388608 := by have := hs.tasks; omega
      have low : ∀ {t' : Tk} {s1 : Rn} {v sp s'}, s1.fuel ≤ m → s.tasks ≤ s1.tasks → (imax t'.span t'.due + s1.fuel ≤ imax t.span t.due + s.fuel) → DoneOk L s1 t' v sp s' → DoneOk L s t v sp s' := by
        intro t' s1 v sp s' e1 e2 e3 d
        obtain ⟨d1, d2, d3, d4, d5, d6⟩ := d
        exact ⟨d1, d2, by omega, by omega, d5, by omega⟩
      have hp : imax (payT t).span (payT t).due + (payS s).fuel ≤ imax t.span t.due + s.fuel := by
        have h1 := le_imax t.span t.due
        have h2 : imax (payT t).span (payT t).due ≤ imax t.span t.due + 1 := imax_le (by simp only [payT]; omega) (by simp only [payT]; omega)
        rw [hpf, hm]
        omega
      split at h
      · rename_i k3
        refine low (s1 := payS s) (by omega) (Nat.le_refl _) hp (loop_in hA L g _ _ _ hs.pay (by rw [hpf]; exact ht.pay) ?_ _ _ _ h)
        show _ < (codeOf fs t.node.func).length
        rw [hcf]; have := so.jump k3; omega
      · split at h
        · rename_i k3 k4
          refine low (s1 := payS s) (by omega) (Nat.le_refl _) hp (loop_in hA L g _ _ _ hs.pay (by rw [hpf]; exact ht.pay) ?_ _ _ _ h)
          show _ < (codeOf fs t.node.func).length
          rw [hcf]; have := so.branch k4; have := so.next k3 (by omega); split <;> omega
        · split at h
          · rename_i k3 k4 k5
            split at h
            · cases h
            · rename_i hd
              split at h
              · cases h
              · rename_i v1 sp1 s2 hr
                have hdp := ht.depth
                obtain ⟨d1, d2, d3, d4, d5, d6⟩ := loop_in hA L g _ _ _ (hs.enter h0 (by simp only [childV, payT] at hd ⊢; omega)) (by
                  show Tk.In fs _ (payS s).fuel
                  rw [hpf]; exact ht.child so k5 hd hmm (by have := hs.tasks; simp only [payS]; omega)) (by
                    show 0 < (codeOf fs i.b).length
                    obtain ⟨f2, _, _, hc2, hV2, _⟩ := hA.fn (so.fn k5)
                    rw [hc2]
                    have := (valid_bounds hV2).2.2.2.1
                    omega) _ _ _ hr
                have hz : imax (enterT (payS s) (childV fs (payT t) i)).span (enterT (payS s) (childV fs (payT t) i)).due = 0 := rfl
                have hz2 : (enterS L (payS s) (childV fs (payT t) i)).fuel = m := hpf
                have hz3 : (enterS L (payS s) (childV fs (payT t) i)).tasks = s.tasks + 1 := rfl
                rw [hz, hz2] at d3
                rw [hz2] at d4
                rw [hz3] at d6
                refine low (by omega) (by omega) ?_ (loop_in hA L g _ _ _ d5 (ht.got d1 d2 (by omega)) ?_ _ _ _ h)
                · have h1 := le_imax t.span t.due
                  have h2 : imax (gotT (spawnT (payT t)) i.a.toNat v1 sp1).span (gotT (spawnT (payT t)) i.a.toNat v1 sp1).due ≤ imax t.span t.due + m + 1 - s2.fuel := imax_le (by simp only [gotT, spawnT, payT]; omega) (imax_le (by simp only [spawnT, payT]; omega) (by simp only [spawnT, payT]; omega))
                  rw [hm]
                  omega
                · show _ < (codeOf fs t.node.func).length
                  rw [hcf]; exact so.next k3 (by omega)
          · split at h
            · rename_i k3 k4 k5 k6
              refine low (s1 := payS s) (by omega) (Nat.le_refl _) ?_ (loop_in hA L g _ _ _ hs.pay (by rw [hpf]; exact ht.wait) ?_ _ _ _ h)
              · have h1 := le_imax t.span t.due
                have h2 : imax (waitT (payT t)).span (waitT (payT t)).due ≤ imax t.span t.due + 1 := imax_le (imax_le (by simp only [payT]; omega) (by simp only [payT]; omega)) (by simp only [waitT, payT]; omega)
                rw [hpf, hm]
                omega
              · show _ < (codeOf fs t.node.func).length
                rw [hcf]; exact so.next k3 (by omega)
            · split at h
              · rename_i k3 k4 k5 k6 k9
                injection h with h1 h2 h3
                subst h1 h2 h3
                refine ⟨getD_ok ht.okr _, by have := ht.span; omega, ?_, ?_, hs.pay.leave, Nat.le_refl _⟩
                · show t.span + 1 + ((payS s).fuel : Int) ≤ _
                  rw [hpf, hm]
                  have := le_imax t.span t.due
                  omega
                · show (payS s).fuel ≤ _
                  omega
              · rename_i k3 k4 k5 k6 k9
                refine low (s1 := payS s) (by omega) (Nat.le_refl _) ?_ (loop_in hA L g _ _ _ hs.pay (by rw [hpf]; exact ht.pay.compute i hik) ?_ _ _ _ h)
                · have : (computeT (payT t) i).span = (payT t).span ∧ (computeT (payT t) i).due = (payT t).due := by
                    unfold computeT setR
                    repeat' split
                    all_goals exact ⟨rfl, rfl⟩
                  rw [this.1, this.2]
                  exact hp
                · have : (computeT (payT t) i).node = (payT t).node := by
                    unfold computeT setR
                    repeat' split
                    all_goals rfl
                  rw [this]
                  show _ < (codeOf fs t.node.func).length
                  rw [hcf]; exact so.next k3 k9
end Go.Proofs.YtbdpdojeaahpjaaGreatDoor
/-! A run and a task in memory. -/
namespace Go.Proofs.YtbdpdojeaahpjaaGreatDoor
set_option linter.unusedVariables false
set_option maxRecDepth 20000
open Go.RowKit Go.HeapKit Go.PlainOps

def ints (l : List Int) : List Value := l.map (Value.int .i64)
theorem ints_set (l : List Int) (k : Nat) (x : Int) : (ints l).set k (.int .i64 x) = ints (l.set k x) := by simp [ints]
theorem ints_at (l : List Int) (k : Nat) (x : Int) (h : l[k]? = some x) : (ints l)[k]? = some (.int .i64 x) := by simp [ints, h]
def Nd.l (n : Nd) : List Int := [n.parent, n.idx, n.func, n.work, n.ped, n.arg, n.v]
/-- What package tasks keeps of a task. -/
structure Tsk where
  func : Int
  at_ : Int
  regs : List Int
  ped : Int
  spawned : Int
def Tsk.l (t : Tsk) : List Int := t.func :: t.at_ :: (t.regs ++ [t.ped, t.spawned])
def Tsk.set (t : Tsk) (a : Nat) (x : Int) : Tsk := { t with regs := t.regs.set a x }
/-- A task's first part in a block, with whatever lies behind it. -/
structure IsTsk (w : World) (X ty : Nat) (t : Tsk) (rest : List Value) : Prop where
  blk : w.heap[X]? = some (.cells (ints t.l ++ rest).toArray ty (0, 0))
  regs : t.regs.length = 16
theorem Tsk.len {t : Tsk} (h : t.regs.length = 16) : t.l.length = 20 := by simp [Tsk.l, h]
theorem ints_len (l : List Int) : (ints l).length = l.length := by simp [ints]
theorem IsTsk.kept {w w' : World} {X ty : Nat} {t : Tsk} {rest : List Value} {S : Nat → Prop} (h : IsTsk w X ty t rest) (hk : Keeps S w w') (hS : ¬ S X) : IsTsk w' X ty t rest := ⟨blk_kept h.blk hk hS, h.regs⟩
theorem IsTsk.cl {w : World} {X ty : Nat} {t : Tsk} {rest : List Value} (h : IsTsk w X ty t rest) {k : Nat} {x : Int} (hx : t.l[k]? = some x) : w.cell? ⟨X, k, none⟩ = some (.int .i64 x) := by
  have hk : k < t.l.length := (List.getElem?_eq_some_iff.1 hx).1
  rw [blk_cell h.blk]
  simp only [List.getElem?_toArray]
  rw [List.getElem?_append_left (by rw [ints_len]; exact hk)]
  exact ints_at _ _ _ hx
theorem IsTsk.beh {w : World} {X ty : Nat} {t : Tsk} {rest : List Value} (h : IsTsk w X ty t rest) {j : Nat} {v : Value} (hv : rest[j]? = some v) : w.cell? ⟨X, 20 + j, none⟩ = some v := by
  have hl := Tsk.len h.regs
  rw [blk_cell h.blk]
  simp only [List.getElem?_toArray]
  rw [List.getElem?_append_right (by rw [ints_len]; omega), ints_len, hl, show 20 + j - 20 = j by omega]
  exact hv
theorem IsTsk.func {w : World} {X ty : Nat} {t : Tsk} {rest : List Value} (h : IsTsk w X ty t rest) : w.cell? ⟨X, 0, none⟩ = some (.int .i64 t.func) := h.cl rfl
theorem IsTsk.at {w : World} {X ty : Nat} {t : Tsk} {rest : List Value} (h : IsTsk w X ty t rest) : w.cell? ⟨X, 1, none⟩ = some (.int .i64 t.at_) := h.cl rfl
theorem IsTsk.reg {w : World} {X ty : Nat} {t : Tsk} {rest : List Value} (h : IsTsk w X ty t rest) {k : Nat} (hk : k < 16) : w.cell? ⟨X, 2 + k, none⟩ = some (.int .i64 (t.regs.getD k 0)) := by
  have h1 := h.regs
  refine h.cl ?_
  unfold Tsk.l
  rw [show 2 + k = k + 2 by omega]
  simp only [List.getElem?_cons_succ]
  rw [List.getElem?_append_left (by omega), List.getD_eq_getElem?_getD, List.getElem?_eq_getElem (by omega)]
  rfl
theorem IsTsk.ped {w : World} {X ty : Nat} {t : Tsk} {rest : List Value} (h : IsTsk w X ty t rest) : w.cell? ⟨X, 18, none⟩ = some (.int .i64 t.ped) := by
  have h1 := h.regs
  refine h.cl ?_
  unfold Tsk.l
  simp only [List.getElem?_cons_succ]
  rw [List.getElem?_append_right (by omega), h1]
  rfl
theorem IsTsk.spawned {w : World} {X ty : Nat} {t : Tsk} {rest : List Value} (h : IsTsk w X ty t rest) : w.cell? ⟨X, 19, none⟩ = some (.int .i64 t.spawned) := by
  have h1 := h.regs
  refine h.cl ?_
  unfold Tsk.l
  simp only [List.getElem?_cons_succ]
  rw [List.getElem?_append_right (by omega), h1]
  rfl
theorem IsTsk.free {w : World} {X ty : Nat} {t : Tsk} {rest : List Value} (h : IsTsk w X ty t rest) (k : Nat) : w.frozen? ⟨X, k, none⟩ = false := blk_free h.blk k
theorem IsTsk.put {w : World} {X ty : Nat} {t t' : Tsk} {rest : List Value} (h : IsTsk w X ty t rest) {k : Nat} {x : Int} (hk : k < 20) (ht : t'.l = t.l.set k x) (hr : t'.regs.length = 16) : IsTsk (w.setCell ⟨X, k, none⟩ (.int .i64 x)) X ty t' rest := by
  refine ⟨?_, hr⟩
  rw [blk_set h.blk, ht, ← ints_set]
  simp only [List.setIfInBounds_toArray]
  rw [List.set_append_left _ _ (by rw [ints_len, Tsk.len h.regs]; exact hk)]
theorem IsTsk.putBeh {w : World} {X ty : Nat} {t : Tsk} {rest : List Value} (h : IsTsk w X ty t rest) {j : Nat} {v : Value} : IsTsk (w.setCell ⟨X, 20 + j, none⟩ v) X ty t (rest.set j v) := by
  refine ⟨?_, h.regs⟩
  rw [blk_set h.blk]
  simp only [List.setIfInBounds_toArray]
  rw [List.set_append_right _ _ (by rw [ints_len, Tsk.len h.regs]; omega), ints_len, Tsk.len h.regs, show 20 + j - 20 = j by omega]
theorem IsTsk.putAt {w : World} {X ty : Nat} {t : Tsk} {rest : List Value} (h : IsTsk w X ty t rest) {x : Int} : IsTsk (w.setCell ⟨X, 1, none⟩ (.int .i64 x)) X ty { t with at_ := x } rest := h.put (by omega) rfl h.regs
theorem IsTsk.putReg {w : World} {X ty : Nat} {t : Tsk} {rest : List Value} (h : IsTsk w X ty t rest) {k : Nat} (hk : k < 16) {x : Int} : IsTsk (w.setCell ⟨X, 2 + k, none⟩ (.int .i64 x)) X ty (t.set k x) rest := by
  have h1 := h.regs
  refine h.put (by omega) ?_ (by simpa [Tsk.set] using h1)
  unfold Tsk.l Tsk.set
  rw [show 2 + k = k + 2 by omega]
  simp only [List.set_cons_succ]
  rw [List.set_append_left _ _ (by omega)]
theorem IsTsk.putSpawned {w : World} {X ty : Nat} {t : Tsk} {rest : List Value} (h : IsTsk w X ty t rest) {x : Int} : IsTsk (w.setCell ⟨X, 19, none⟩ (.int .i64 x)) X ty { t with spawned := x } rest := by
  have h1 := h.regs
  refine h.put (by omega) ?_ h1
  unfold Tsk.l
  simp only [List.set_cons_succ]
  rw [List.set_append_right _ _ (by omega), h1]
  rfl

/-! ### A task of package serial -/
def Tk.tk (t : Tk) (at_ : Int) : Tsk := ⟨t.node.func, at_, t.regs, t.node.ped, t.spawned⟩
def Tk.tl (t : Tk) (nf np : Int) : List Int := [t.node.parent, t.node.idx, nf, t.node.work, np, t.node.arg, t.node.v, t.number, t.depth, t.span, t.due]
/-- With its place, and what stands in the node for the function and the pedigree. -/
def Tk.l (t : Tk) (at_ nf np : Int) : List Int := (t.tk at_).l ++ (t.slots ++ t.tl nf np)
/-- Ahead of 'enter'. -/
def tkV (t : Tk) : Value := .agg (ints (t.l 0 0 0)).toArray
structure IsTkN (w : World) (X : Nat) (at_ nf np : Int) (t : Tk) : Prop where
  tsk : IsTsk w X 67 (t.tk at_) (ints (t.slots ++ t.tl nf np))
  slots : t.slots.length = 8
abbrev IsTk (w : World) (X : Nat) (at_ : Int) (t : Tk) : Prop := IsTkN w X at_ t.node.func t.node.ped t
theorem ints_app (a b : List Int) : ints (a ++ b) = ints a ++ ints b := by simp [ints]
theorem IsTkN.of {w : World} {X : Nat} {at_ nf np : Int} {t : Tk} (h : w.heap[X]? = some (.cells (ints (t.l at_ nf np)).toArray 67 (0, 0))) (hr : t.regs.length = 16) (hs : t.slots.length = 8) : IsTkN w X at_ nf np t :=
  ⟨⟨by rw [h]; unfold Tk.l; rw [ints_app], hr⟩, hs⟩
theorem IsTkN.blk {w : World} {X : Nat} {at_ nf np : Int} {t : Tk} (h : IsTkN w X at_ nf np t) : w.heap[X]? = some (.cells (ints (t.l at_ nf np)).toArray 67 (0, 0)) := by
  rw [h.tsk.blk, ← ints_app]; rfl
theorem IsTkN.regs {w : World} {X : Nat} {at_ nf np : Int} {t : Tk} (h : IsTkN w X at_ nf np t) : t.regs.length = 16 := h.tsk.regs
theorem IsTkN.kept {w w' : World} {X : Nat} {at_ nf np : Int} {t : Tk} {S : Nat → Prop} (h : IsTkN w X at_ nf np t) (hk : Keeps S w w') (hS : ¬ S X) : IsTkN w' X at_ nf np t := ⟨h.tsk.kept hk hS, h.slots⟩
theorem IsTkN.tail {w : World} {X : Nat} {at_ nf np : Int} {t : Tk} (h : IsTkN w X at_ nf np t) (j : Nat) {x : Int} (hx : (t.tl nf np)[j]? = some x) : w.cell? ⟨X, 28 + j, none⟩ = some (.int .i64 x) := by
  have h2 := h.slots
  rw [show 28 + j = 20 + (8 + j) by omega]
  refine h.tsk.beh (ints_at _ _ _ ?_)
  rw [List.getElem?_append_right (by omega), h2, show 8 + j - 8 = j by omega]
  exact hx
theorem IsTkN.reg {w : World} {X : Nat} {at_ nf np : Int} {t : Tk} (h : IsTkN w X at_ nf np t) {k : Nat} (hk : k < 16) : w.cell? ⟨X, 2 + k, none⟩ = some (.int .i64 (t.regs.getD k 0)) := h.tsk.reg hk
theorem IsTkN.slot {w : World} {X : Nat} {at_ nf np : Int} {t : Tk} (h : IsTkN w X at_ nf np t) {k : Nat} (hk : k < 8) : w.cell? ⟨X, 20 + k, none⟩ = some (.int .i64 (t.slots.getD k 0)) := by
  have h2 := h.slots
  refine h.tsk.beh (ints_at _ _ _ ?_)
  rw [List.getElem?_append_left (by omega), List.getD_eq_getElem?_getD, List.getElem?_eq_getElem (by omega)]
  rfl
theorem IsTkN.free {w : World} {X : Nat} {at_ nf np : Int} {t : Tk} (h : IsTkN w X at_ nf np t) (k : Nat) : w.frozen? ⟨X, k, none⟩ = false := h.tsk.free k
theorem IsTkN.putTail {w : World} {X : Nat} {at_ nf np nf' np' : Int} {t t' : Tk} (h : IsTkN w X at_ nf np t) {j : Nat} {x : Int} (hr : t'.tk at_ = t.tk at_) (hs : t'.slots = t.slots) (ht : t'.tl nf' np' = (t.tl nf np).set j x) : IsTkN (w.setCell ⟨X, 28 + j, none⟩ (.int .i64 x)) X at_ nf' np' t' := by
  have h2 := h.slots
  refine ⟨?_, by rw [hs]; exact h2⟩
  rw [hr, hs, ht, show 28 + j = 20 + (8 + j) by omega]
  have q := h.tsk.putBeh (j := 8 + j) (v := .int .i64 x)
  rw [ints_set, List.set_append_right _ _ (by omega), h2, show 8 + j - 8 = j by omega] at q
  exact q
theorem IsTkN.putReg {w : World} {X : Nat} {at_ nf np : Int} {t : Tk} (h : IsTkN w X at_ nf np t) {j : Nat} (hj : j < 16) {x : Int} : IsTkN (w.setCell ⟨X, 2 + j, none⟩ (.int .i64 x)) X at_ nf np (setR t j x) := ⟨h.tsk.putReg hj, h.slots⟩
theorem IsTkN.putAt {w : World} {X : Nat} {at_ nf np : Int} {t : Tk} (h : IsTkN w X at_ nf np t) {x : Int} : IsTkN (w.setCell ⟨X, 1, none⟩ (.int .i64 x)) X x nf np t := ⟨h.tsk.putAt, h.slots⟩
theorem IsTkN.putSlot {w : World} {X : Nat} {at_ nf np : Int} {t : Tk} (h : IsTkN w X at_ nf np t) {j : Nat} (hj : j < 8) {x : Int} : IsTkN (w.setCell ⟨X, 20 + j, none⟩ (.int .i64 x)) X at_ nf np { t with slots := t.slots.set j x } := by
  have h2 := h.slots
  refine ⟨?_, by simpa using h2⟩
  have q := h.tsk.putBeh (j := j) (v := .int .i64 x)
  rw [ints_set, List.set_append_left _ _ (by omega)] at q
  exact q

def ndVals (l : List Nd) : List Value := l.flatMap fun n => ints n.l
theorem ndVals_length (l : List Nd) : (ndVals l).length = l.length * 7 := by
  induction l with
  | nil => rfl
  | cons x l ih => simp only [ndVals, List.flatMap_cons, List.length_append, List.length_cons] at ih ⊢; rw [ih]; simp [ints, Nd.l]; omega
theorem ndVals_at (l : List Nd) (k : Nat) (x : Nd) (h : l[k]? = some x) (j : Nat) (y : Int) (hj : x.l[j]? = some y) : (ndVals l)[k * 7 + j]? = some (.int .i64 y) := by
  have hj7 : j < 7 := (List.getElem?_eq_some_iff.1 hj).1
  induction l generalizing k with
  | nil => simp at h
  | cons z l ih =>
    have e : ndVals (z :: l) = ints z.l ++ ndVals l := rfl
    have hz : (ints z.l).length = 7 := rfl
    rw [e]
    cases k with
    | zero =>
      simp at h
      subst h
      rw [List.getElem?_append_left (by omega), Nat.zero_mul, Nat.zero_add]
      exact ints_at _ _ _ hj
    | succ k =>
      rw [List.getElem?_append_right (by omega), show (k + 1) * 7 + j - (ints z.l).length = k * 7 + j by omega]
      exact ih k (by simpa using h)
theorem ndVals_set (l : List Nd) (k : Nat) (x : Nd) (hk : k < l.length) :
    (((((((ndVals l).set (k * 7) (.int .i64 x.parent)).set (k * 7 + 1) (.int .i64 x.idx)).set (k * 7 + 2) (.int .i64 x.func)).set (k * 7 + 3) (.int .i64 x.work)).set (k * 7 + 4) (.int .i64 x.ped)).set (k * 7 + 5) (.int .i64 x.arg)).set (k * 7 + 6) (.int .i64 x.v) = ndVals (l.set k x) := by
  induction l generalizing k with
  | nil => simp at hk
  | cons y l ih =>
    have e : ndVals (y :: l) = [Value.int .i64 y.parent, .int .i64 y.idx, .int .i64 y.func, .int .i64 y.work, .int .i64 y.ped, .int .i64 y.arg, .int .i64 y.v] ++ ndVals l := rfl
    cases k with
    | zero => rfl
    | succ k =>
      have h1 := ih k (by simpa using hk)
      have e2 : ndVals ((y :: l).set (k + 1) x) = [Value.int .i64 y.parent, .int .i64 y.idx, .int .i64 y.func, .int .i64 y.work, .int .i64 y.ped, .int .i64 y.arg, .int .i64 y.v] ++ ndVals (l.set k x) := rfl
      rw [e, e2, ← h1, show (k + 1) * 7 = k * 7 + 7 by omega]
      rfl
/-- A run: the functions, the fuel, the tasks, the depth, whether nodes are kept, the nodes. -/
structure IsRn (w : World) (R : Nat) (fv : Value) (L : Bool) (s : Rn) (nv : Value) : Prop where
  blk : w.heap[R]? = some (.cells #[fv, .int .i64 s.fuel, .int .i64 s.tasks, .int .i64 s.depth, .bool L, nv] 57 (0, 0))
  row : w.ownsRow 0 65 7 nv s.nodes.length (ndVals s.nodes)
theorem IsRn.nR {w : World} {R : Nat} {fv : Value} {L : Bool} {s : Rn} {nv : Value} (h : IsRn w R fv L s nv) : nv.ownBlock ≠ some R := fun e => by
  have := own_type h.row e h.blk
  exact absurd this (by decide)
theorem IsRn.nX {w : World} {R : Nat} {fv : Value} {L : Bool} {s : Rn} {nv : Value} (h : IsRn w R fv L s nv) {X : Nat} {at_ nf np : Int} {t : Tk} (hx : IsTkN w X at_ nf np t) : nv.ownBlock ≠ some X := fun e => by
  have := own_type h.row e hx.blk
  exact absurd this (by decide)
theorem IsRn.ne {w : World} {R : Nat} {fv : Value} {L : Bool} {s : Rn} {nv : Value} (h : IsRn w R fv L s nv) {X : Nat} {at_ nf np : Int} {t : Tk} (hx : IsTkN w X at_ nf np t) : R ≠ X := blk_ne h.blk hx.blk (by decide)
def RFoot (R : Nat) (nv : Value) : Nat → Prop := fun k => k = R ∨ nv.ownBlock = some k
theorem IsRn.kept {w w' : World} {R : Nat} {fv : Value} {L : Bool} {s : Rn} {nv : Value} {S : Nat → Prop} (h : IsRn w R fv L s nv) (hk : Keeps S w w') (hS : ∀ k, RFoot R nv k → ¬ S k) : IsRn w' R fv L s nv :=
  ⟨blk_kept h.blk hk (hS R (.inl rfl)), hk.own h.row (fun k e => hS k (.inr e))⟩
/-- A number of the run is stored. -/
theorem IsRn.put {w : World} {R : Nat} {fv : Value} {L : Bool} {s : Rn} {nv : Value} (h : IsRn w R fv L s nv) {k : Nat} {x : Int} {s' : Rn} (hn : s'.nodes = s.nodes)
    (hc : (#[fv, .int .i64 s.fuel, .int .i64 s.tasks, .int .i64 s.depth, .bool L, nv] : Array Value).setIfInBounds k (.int .i64 x) = #[fv, .int .i64 s'.fuel, .int .i64 s'.tasks, .int .i64 s'.depth, .bool L, nv]) :
    IsRn (w.setCell ⟨R, k, none⟩ (.int .i64 x)) R fv L s' nv :=
  ⟨by rw [blk_set h.blk, hc], by
    rw [hn]
    exact (Keeps.setCell (S := (· = R)) w (a := ⟨R, k, none⟩) rfl _).own h.row (fun q e hq => h.nR (hq ▸ e))⟩
/-- What a give-up throws. -/
def thrownE (e : Int) : List PanicEntry := [{ v := .iface 30 (.int .i64 e), recovered := false }]
theorem sgiveUp_any (e : Int) (w : World) : Calls Tryz.prog 25 #[.int .i64 e] w fun e' w' => e' = .panicked (thrownE e) ∧ w' = w := by
  go_enter Tryz.func25, Tryz.ntmps25
  go_wp2
  exact ⟨rfl, rfl, rfl⟩
end Go.Proofs.YtbdpdojeaahpjaaGreatDoor
/-! The contracts of package ops' functions without memory: each returns what its plain function says, and the world stands. -/
namespace Go.Proofs.YtbdpdojeaahpjaaGreatDoor
open Go.RowKit Go.PlainOps

set_option maxHeartbeats 400000 in
theorem isOp_any (op : Int) (w : World) : Calls Tryz.prog 56 #[.int .i64 op] w fun e w' => e = .returned (.bool (isOpV op)) ∧ w' = w := by
  by_cases h1 : 0 ≤ op
  · by_cases h2 : op < 16
    · go_enter Tryz.func56, Tryz.ntmps56
      go_wp2
      go_ret
      exact ⟨by simp [isOpV, h1, h2], rfl⟩
    · go_enter Tryz.func56, Tryz.ntmps56
      go_wp2
      go_ret
      exact ⟨by simp [isOpV, h2], rfl⟩
  · go_enter Tryz.func56, Tryz.ntmps56
    go_wp2
    go_ret
    exact ⟨by simp [isOpV]; omega, rfl⟩

theorem shift_any (x : Int) (w : World) : Calls Tryz.prog 76 #[.int .i64 x] w fun e w' => e = .returned (.int .u64 (x % 64)) ∧ w' = w := by
  have h0 : 0 ≤ x % 64 := by omega
  have h1 : x % 64 < 64 := by omega
  have hb := and63 x
  go_enter Tryz.func76, Tryz.ntmps76
  go_wp2
  go_ret
  exact ⟨rfl, rfl⟩

set_option maxHeartbeats 400000 in
theorem number_any (x : Bool) (w : World) : Calls Tryz.prog 77 #[.bool x] w fun e w' => e = .returned (.int .i64 (truthV x)) ∧ w' = w := by
  cases x
  all_goals
    go_enter Tryz.func77, Tryz.ntmps77
    go_wp2
    go_ret
    exact ⟨rfl, rfl⟩
set_option maxHeartbeats 400000 in
theorem quotient_any (a b : Int) (w : World) : Calls Tryz.prog 74 #[.int .i64 a, .int .i64 b] w fun e w' => e = .returned (.int .i64 (quotV a b)) ∧ w' = w := by
  by_cases h : b = 0
  · subst h
    go_enter Tryz.func74, Tryz.ntmps74
    go_wp2
    go_ret
    exact ⟨rfl, rfl⟩
  · have h' : (b == 0) = false := by simpa using h
    have H : Hid (¬ b = 0) := h; clear h
    go_enter Tryz.func74, Tryz.ntmps74
    go_wp2
    go_ret
    exact ⟨by simp [quotV, H.out], rfl⟩
set_option maxHeartbeats 400000 in
theorem remainder_any (a b : Int) (w : World) : Calls Tryz.prog 75 #[.int .i64 a, .int .i64 b] w fun e w' => e = .returned (.int .i64 (remV a b)) ∧ w' = w := by
  by_cases h : b = 0
  · subst h
    go_enter Tryz.func75, Tryz.ntmps75
    go_wp2
    go_ret
    exact ⟨rfl, rfl⟩
  · have h' : (b == 0) = false := by simpa using h
    have H : Hid (¬ b = 0) := h; clear h
    go_enter Tryz.func75, Tryz.ntmps75
    go_wp2
    go_ret
    exact ⟨by simp [remV, H.out], rfl⟩

section
set_option maxHeartbeats 400000
theorem work0 (a b : Int) (w : World) : Calls Tryz.prog 57 #[.int .i64 0, .int .i64 a, .int .i64 b] w fun e w' => e = .returned (.int .i64 (wrap64 (a + b))) ∧ w' = w := by
  go_enter Tryz.func57, Tryz.ntmps57
  go_wp2
  go_ret
  exact ⟨rfl, rfl⟩
theorem work1 (a b : Int) (w : World) : Calls Tryz.prog 57 #[.int .i64 1, .int .i64 a, .int .i64 b] w fun e w' => e = .returned (.int .i64 (wrap64 (a - b))) ∧ w' = w := by
  go_enter Tryz.func57, Tryz.ntmps57
  go_wp2
  go_ret
  exact ⟨rfl, rfl⟩
theorem work2 (a b : Int) (w : World) : Calls Tryz.prog 57 #[.int .i64 2, .int .i64 a, .int .i64 b] w fun e w' => e = .returned (.int .i64 (wrap64 (a * b))) ∧ w' = w := by
  go_enter Tryz.func57, Tryz.ntmps57
  go_wp2
  go_ret
  exact ⟨rfl, rfl⟩
theorem work3 (a b : Int) (w : World) : Calls Tryz.prog 57 #[.int .i64 3, .int .i64 a, .int .i64 b] w fun e w' => e = .returned (.int .i64 (quotV a b)) ∧ w' = w := by
  go_enter Tryz.func57, Tryz.ntmps57
  go_wp2_with (go_at_call 74; refine (quotient_any _ _ _).mono ?_; rintro e w' ⟨rfl, rfl⟩)
  go_ret
  exact ⟨rfl, rfl⟩
theorem work4 (a b : Int) (w : World) : Calls Tryz.prog 57 #[.int .i64 4, .int .i64 a, .int .i64 b] w fun e w' => e = .returned (.int .i64 (remV a b)) ∧ w' = w := by
  go_enter Tryz.func57, Tryz.ntmps57
  go_wp2_with (go_at_call 75; refine (remainder_any _ _ _).mono ?_; rintro e w' ⟨rfl, rfl⟩)
  go_ret
  exact ⟨rfl, rfl⟩
theorem work5 (a b : Int) (w : World) : Calls Tryz.prog 57 #[.int .i64 5, .int .i64 a, .int .i64 b] w fun e w' => e = .returned (.int .i64 (bits .and .i64 a b)) ∧ w' = w := by
  go_enter Tryz.func57, Tryz.ntmps57
  go_wp2
  go_ret
  exact ⟨rfl, rfl⟩
theorem work6 (a b : Int) (w : World) : Calls Tryz.prog 57 #[.int .i64 6, .int .i64 a, .int .i64 b] w fun e w' => e = .returned (.int .i64 (bits .or .i64 a b)) ∧ w' = w := by
  go_enter Tryz.func57, Tryz.ntmps57
  go_wp2
  go_ret
  exact ⟨rfl, rfl⟩
theorem work7 (a b : Int) (w : World) : Calls Tryz.prog 57 #[.int .i64 7, .int .i64 a, .int .i64 b] w fun e w' => e = .returned (.int .i64 (bits .xor .i64 a b)) ∧ w' = w := by
  go_enter Tryz.func57, Tryz.ntmps57
  go_wp2
  go_ret
  exact ⟨rfl, rfl⟩
theorem work8 (a b : Int) (w : World) : Calls Tryz.prog 57 #[.int .i64 8, .int .i64 a, .int .i64 b] w fun e w' => e = .returned (.int .i64 (shlV a b)) ∧ w' = w := by
  have h0 : 0 ≤ b % 64 := by omega
  have h1 : b % 64 < 64 := by omega
  go_enter Tryz.func57, Tryz.ntmps57
  go_wp2_with (go_at_call 76; refine (shift_any _ _).mono ?_; rintro e w' ⟨rfl, rfl⟩)
  go_ret
  exact ⟨rfl, rfl⟩
theorem work9 (a b : Int) (w : World) : Calls Tryz.prog 57 #[.int .i64 9, .int .i64 a, .int .i64 b] w fun e w' => e = .returned (.int .i64 (shrV a b)) ∧ w' = w := by
  have h0 : 0 ≤ b % 64 := by omega
  have h1 : b % 64 < 64 := by omega
  go_enter Tryz.func57, Tryz.ntmps57
  go_wp2_with (go_at_call 76; refine (shift_any _ _).mono ?_; rintro e w' ⟨rfl, rfl⟩)
  go_ret
  exact ⟨rfl, rfl⟩
theorem work10 (a b : Int) (w : World) : Calls Tryz.prog 57 #[.int .i64 10, .int .i64 a, .int .i64 b] w fun e w' => e = .returned (.int .i64 (minV a b)) ∧ w' = w := by
  unfold minV
  by_cases h : b < a
  · rw [if_pos h]
    go_enter Tryz.func57, Tryz.ntmps57
    go_wp2
    go_ret
    exact ⟨rfl, rfl⟩
  · rw [if_neg h]
    go_enter Tryz.func57, Tryz.ntmps57
    go_wp2
    go_ret
    exact ⟨rfl, rfl⟩
theorem work11 (a b : Int) (w : World) : Calls Tryz.prog 57 #[.int .i64 11, .int .i64 a, .int .i64 b] w fun e w' => e = .returned (.int .i64 (maxV a b)) ∧ w' = w := by
  unfold maxV
  by_cases h : a < b
  · rw [if_pos h]
    go_enter Tryz.func57, Tryz.ntmps57
    go_wp2
    go_ret
    exact ⟨rfl, rfl⟩
  · rw [if_neg h]
    go_enter Tryz.func57, Tryz.ntmps57
    go_wp2
    go_ret
    exact ⟨rfl, rfl⟩
theorem work12 (a b : Int) (w : World) : Calls Tryz.prog 57 #[.int .i64 12, .int .i64 a, .int .i64 b] w fun e w' => e = .returned (.int .i64 (truthV (decide (a < b)))) ∧ w' = w := by
  go_enter Tryz.func57, Tryz.ntmps57
  go_wp2_with (go_at_call 77; refine (number_any _ _).mono ?_; rintro e w' ⟨rfl, rfl⟩)
  go_ret
  exact ⟨rfl, rfl⟩
theorem work13 (a b : Int) (w : World) : Calls Tryz.prog 57 #[.int .i64 13, .int .i64 a, .int .i64 b] w fun e w' => e = .returned (.int .i64 (truthV (decide (a ≤ b)))) ∧ w' = w := by
  go_enter Tryz.func57, Tryz.ntmps57
  go_wp2_with (go_at_call 77; refine (number_any _ _).mono ?_; rintro e w' ⟨rfl, rfl⟩)
  go_ret
  exact ⟨rfl, rfl⟩
theorem work14 (a b : Int) (w : World) : Calls Tryz.prog 57 #[.int .i64 14, .int .i64 a, .int .i64 b] w fun e w' => e = .returned (.int .i64 (truthV (a == b))) ∧ w' = w := by
  go_enter Tryz.func57, Tryz.ntmps57
  go_wp2_with (go_at_call 77; refine (number_any _ _).mono ?_; rintro e w' ⟨rfl, rfl⟩)
  go_ret
  exact ⟨rfl, rfl⟩
theorem work15 (a b : Int) (w : World) : Calls Tryz.prog 57 #[.int .i64 15, .int .i64 a, .int .i64 b] w fun e w' => e = .returned (.int .i64 (truthV (a != b))) ∧ w' = w := by
  go_enter Tryz.func57, Tryz.ntmps57
  go_wp2_with (go_at_call 77; refine (number_any _ _).mono ?_; rintro e w' ⟨rfl, rfl⟩)
  go_ret
  exact ⟨rfl, rfl⟩
theorem work_any (op a b : Int) (w : World) (h : isOpV op = true) : Calls Tryz.prog 57 #[.int .i64 op, .int .i64 a, .int .i64 b] w fun e w' => e = .returned (.int .i64 (workV op a b)) ∧ w' = w := by
  have h : 0 ≤ op ∧ op < 16 := by simpa [isOpV] using h
  have hc : op = 0 ∨ op = 1 ∨ op = 2 ∨ op = 3 ∨ op = 4 ∨ op = 5 ∨ op = 6 ∨ op = 7 ∨ op = 8 ∨ op = 9 ∨ op = 10 ∨ op = 11 ∨ op = 12 ∨ op = 13 ∨ op = 14 ∨ op = 15 := by omega
  rcases hc with rfl | rfl | rfl | rfl | rfl | rfl | rfl | rfl | rfl | rfl | rfl | rfl | rfl | rfl | rfl | rfl
  · exact work0 a b w
  · exact work1 a b w
  · exact work2 a b w
  · exact work3 a b w
  · exact work4 a b w
  · exact work5 a b w
  · exact work6 a b w
  · exact work7 a b w
  · exact work8 a b w
  · exact work9 a b w
  · exact work10 a b w
  · exact work11 a b w
  · exact work12 a b w
  · exact work13 a b w
  · exact work14 a b w
  · exact work15 a b w

/-- Apply: an operation's value and OK; else 0 and ErrOp (10). -/
theorem apply_any (op a b : Int) (w : World) (h : isOpV op = true) : Calls Tryz.prog 44 #[.int .i64 op, .int .i64 a, .int .i64 b] w fun e w' => e = .returned (.tuple #[.int .i64 (workV op a b), .int .i64 0]) ∧ w' = w := by
  have H : Hid (isOpV op = true) := h
  go_enter Tryz.func44, Tryz.ntmps44
  go_wp2_with (first | (go_at_call 56; refine (isOp_any _ _).mono ?_; rintro e w' ⟨rfl, rfl⟩) | (go_at_call 57; refine (work_any _ _ _ _ H.out).mono ?_; rintro e w' ⟨rfl, rfl⟩))
  go_ret2
  exact ⟨rfl, rfl⟩
end
end Go.Proofs.YtbdpdojeaahpjaaGreatDoor
/-! Do, of package tasks. -/
namespace Go.Proofs.YtbdpdojeaahpjaaGreatDoor
set_option linter.unusedVariables false
set_option maxRecDepth 20000
open Go.RowKit Go.HeapKit Go.PlainOps

def doT (t : Tsk) (i : Ins) : Tsk :=
  if i.kind = 0 then t.set i.a.toNat i.k
  else if i.kind = 1 then t.set i.a.toNat (t.regs.getD i.b.toNat 0)
  else if i.kind = 2 then t.set i.a.toNat (workV i.k (t.regs.getD i.b.toNat 0) (t.regs.getD i.c.toNat 0))
  else if i.kind = 3 then { t with at_ := i.a }
  else if i.kind = 4 then (if t.regs.getD i.a.toNat 0 = 0 then t else { t with at_ := i.b })
  else if i.kind = 8 then t.set i.a.toNat t.ped
  else t
theorem do0 (X ty : Nat) (t : Tsk) (rest : List Value) (a : Nat) (b c k : Int) (w : World) (ht : IsTsk w X ty t rest) (ha : a < 16) :
    Calls Tryz.prog 31 #[.pointer (some ⟨X, 0, none⟩), .agg #[.int .i64 0, .int .i64 a, .int .i64 b, .int .i64 c, .int .i64 k]] w fun e w' => e = .returned (.tuple #[]) ∧ IsTsk w' X ty (t.set a k) rest ∧ Keeps (· = X) w w' := by
  have hal := Keeps.alloc None w (.cells #[.int .i64 0, .int .i64 a, .int .i64 b, .int .i64 c, .int .i64 k] 37)
  have h1 := ht.kept hal (fun f => f)
  have c1 := h1.reg ha
  have z1 := h1.free (2 + a)
  have HH : Hid _ := And.intro ((h1.putReg (x := k) ha).kept (Keeps.drew None _) (fun f => f)) ((hal.mono (T := (· = X)) (fun _ f _ => f.elim)).andSet (x := ⟨X, 2 + a, none⟩) (.inl rfl) (.int .i64 (k))).andDrew
  have i1 : (a : Int) < 16 := by omega
  clear ht hal h1
  obtain ⟨x, hx⟩ : ∃ x, x = t.regs.getD a 0 := ⟨_, rfl⟩
  rw [← hx] at c1
  clear hx
  go_enter Tryz.func31, Tryz.ntmps31
  go_wp2_with fail
  go_region
  all_goals go_wp2_with fail
  all_goals go_end0
  all_goals exact ⟨rfl, HH.out⟩
theorem do1 (X ty : Nat) (t : Tsk) (rest : List Value) (a : Nat) (b : Nat) (c k : Int) (w : World) (ht : IsTsk w X ty t rest) (ha : a < 16) (hb : b < 16) :
    Calls Tryz.prog 31 #[.pointer (some ⟨X, 0, none⟩), .agg #[.int .i64 1, .int .i64 a, .int .i64 b, .int .i64 c, .int .i64 k]] w fun e w' => e = .returned (.tuple #[]) ∧ IsTsk w' X ty (t.set a (t.regs.getD b 0)) rest ∧ Keeps (· = X) w w' := by
  have hal := Keeps.alloc None w (.cells #[.int .i64 1, .int .i64 a, .int .i64 b, .int .i64 c, .int .i64 k] 37)
  have h1 := ht.kept hal (fun f => f)
  have c1 := h1.reg ha
  have z1 := h1.free (2 + a)
  have c2 := h1.reg hb
  have i2 : (b : Int) < 16 := by omega
  have HH : Hid _ := And.intro ((h1.putReg (x := t.regs.getD b 0) ha).kept (Keeps.drew None _) (fun f => f)) ((hal.mono (T := (· = X)) (fun _ f _ => f.elim)).andSet (x := ⟨X, 2 + a, none⟩) (.inl rfl) (.int .i64 (t.regs.getD b 0))).andDrew
  have i1 : (a : Int) < 16 := by omega
  clear ht hal h1
  obtain ⟨y, hy⟩ : ∃ y, y = t.regs.getD b 0 := ⟨_, rfl⟩
  obtain ⟨x, hx⟩ : ∃ x, x = t.regs.getD a 0 := ⟨_, rfl⟩
  rw [← hx] at c1
  rw [← hy] at HH c2 ⊢
  clear hx hy
  go_enter Tryz.func31, Tryz.ntmps31
  go_wp2_with fail
  go_region
  all_goals go_wp2_with fail
  all_goals go_end0
  all_goals exact ⟨rfl, HH.out⟩
theorem do8 (X ty : Nat) (t : Tsk) (rest : List Value) (a : Nat) (b c k : Int) (w : World) (ht : IsTsk w X ty t rest) (ha : a < 16) :
    Calls Tryz.prog 31 #[.pointer (some ⟨X, 0, none⟩), .agg #[.int .i64 8, .int .i64 a, .int .i64 b, .int .i64 c, .int .i64 k]] w fun e w' => e = .returned (.tuple #[]) ∧ IsTsk w' X ty (t.set a t.ped) rest ∧ Keeps (· = X) w w' := by
  have hal := Keeps.alloc None w (.cells #[.int .i64 8, .int .i64 a, .int .i64 b, .int .i64 c, .int .i64 k] 37)
  have h1 := ht.kept hal (fun f => f)
  have c1 := h1.reg ha
  have z1 := h1.free (2 + a)
  have c2 := h1.ped
  have HH : Hid _ := And.intro ((h1.putReg (x := t.ped) ha).kept (Keeps.drew None _) (fun f => f)) ((hal.mono (T := (· = X)) (fun _ f _ => f.elim)).andSet (x := ⟨X, 2 + a, none⟩) (.inl rfl) (.int .i64 t.ped)).andDrew
  have i1 : (a : Int) < 16 := by omega
  clear ht hal h1
  obtain ⟨x, hx⟩ : ∃ x, x = t.regs.getD a 0 := ⟨_, rfl⟩
  rw [← hx] at c1
  clear hx
  go_enter Tryz.func31, Tryz.ntmps31
  go_wp2_with fail
  go_region
  all_goals go_wp2_with fail
  all_goals go_end0
  all_goals exact ⟨rfl, HH.out⟩
theorem do3 (X ty : Nat) (t : Tsk) (rest : List Value) (a b c k : Int) (w : World) (ht : IsTsk w X ty t rest) :
    Calls Tryz.prog 31 #[.pointer (some ⟨X, 0, none⟩), .agg #[.int .i64 3, .int .i64 a, .int .i64 b, .int .i64 c, .int .i64 k]] w fun e w' => e = .returned (.tuple #[]) ∧ IsTsk w' X ty { t with at_ := a } rest ∧ Keeps (· = X) w w' := by
  have hal := Keeps.alloc None w (.cells #[.int .i64 3, .int .i64 a, .int .i64 b, .int .i64 c, .int .i64 k] 37)
  have h1 := ht.kept hal (fun f => f)
  have c1 := h1.at
  have z1 := h1.free 1
  have HH : Hid _ := And.intro (h1.putAt (x := a)) ((hal.mono (T := (· = X)) (fun _ f _ => f.elim)).andSet (x := ⟨X, 1, none⟩) (.inl rfl) (.int .i64 a))
  clear ht hal h1
  go_enter Tryz.func31, Tryz.ntmps31
  go_wp2_with fail
  go_end0
  exact ⟨rfl, HH.out⟩
theorem do4 (X ty : Nat) (t : Tsk) (rest : List Value) (a : Nat) (b c k : Int) (w : World) (ht : IsTsk w X ty t rest) (ha : a < 16) :
    Calls Tryz.prog 31 #[.pointer (some ⟨X, 0, none⟩), .agg #[.int .i64 4, .int .i64 a, .int .i64 b, .int .i64 c, .int .i64 k]] w fun e w' => e = .returned (.tuple #[]) ∧ IsTsk w' X ty (if t.regs.getD a 0 = 0 then t else { t with at_ := b }) rest ∧ Keeps (· = X) w w' := by
  have hal := Keeps.alloc None w (.cells #[.int .i64 4, .int .i64 a, .int .i64 b, .int .i64 c, .int .i64 k] 37)
  have h1 := ht.kept hal (fun f => f)
  have c1 := h1.at
  have c2 := h1.reg ha
  have z1 := h1.free 1
  have i1 : (a : Int) < 16 := by omega
  obtain ⟨x, hx⟩ : ∃ x, x = t.regs.getD a 0 := ⟨_, rfl⟩
  rw [← hx] at c2 ⊢
  clear hx
  by_cases h0 : x = 0
  · subst h0
    have HH : Hid _ := And.intro (h1.kept (Keeps.drew None _) (fun f => f)) (hal.mono (T := (· = X)) (fun _ f _ => f.elim)).andDrew
    rw [if_pos rfl]
    clear ht hal h1
    go_enter Tryz.func31, Tryz.ntmps31
    go_wp2_with fail
    go_region
    all_goals go_wp2_with fail
    all_goals go_end0
    all_goals exact ⟨rfl, HH.out⟩
  · have HH : Hid _ := And.intro ((h1.kept (Keeps.drew None _) (fun f => f)).putAt (x := b)) ((hal.mono (T := (· = X)) (fun _ f _ => f.elim)).andDrew.andSet (x := ⟨X, 1, none⟩) (.inl rfl) (.int .i64 b))
    have h0' : (x != 0) = true := by simpa using h0
    rw [if_neg h0]
    clear ht hal h1 h0
    go_enter Tryz.func31, Tryz.ntmps31
    go_wp2_with fail
    go_region
    all_goals go_wp2_with fail
    all_goals go_end0
    all_goals exact ⟨rfl, HH.out⟩
end Go.Proofs.YtbdpdojeaahpjaaGreatDoor
