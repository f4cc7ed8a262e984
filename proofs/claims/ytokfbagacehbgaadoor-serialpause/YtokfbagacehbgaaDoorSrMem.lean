import Derived.Test.YtokfbagacehbgaaDoorSrIn
import Derived.Test.YtokfbagacehbgaaDoorPgMem
/-! A run and a task in memory. -/
namespace Go.Proofs.YtokfbagacehbgaaDoor
set_option linter.unusedVariables false
set_option maxRecDepth 20000
open Go.RowKit Go.HeapKit Go.PlainOps

def ints (l : List Int) : List Value := l.map (Value.int .i64)
theorem ints_set (l : List Int) (k : Nat) (x : Int) : (ints l).set k (.int .i64 x) = ints (l.set k x) := by simp [ints]
theorem ints_at (l : List Int) (k : Nat) (x : Int) (h : l[k]? = some x) : (ints l)[k]? = some (.int .i64 x) := by simp [ints, h]
def Nd.l (n : Nd) : List Int := [n.parent, n.idx, n.func, n.work, n.ped, n.arg, n.v]
/-- What package tasks keeps of a task. -/
structure Tsk where
  func : Int
  at_ : Int
  regs : List Int
  ped : Int
  spawned : Int
def Tsk.l (t : Tsk) : List Int := t.func :: t.at_ :: (t.regs ++ [t.ped, t.spawned])
def Tsk.set (t : Tsk) (a : Nat) (x : Int) : Tsk := { t with regs := t.regs.set a x }
/-- A task's first part in a block, with whatever lies behind it. -/
structure IsTsk (w : World) (X ty : Nat) (t : Tsk) (rest : List Value) : Prop where
  blk : w.heap[X]? = some (.cells (ints t.l ++ rest).toArray ty (0, 0))
  regs : t.regs.length = 16
theorem Tsk.len {t : Tsk} (h : t.regs.length = 16) : t.l.length = 20 := by simp [Tsk.l, h]
theorem ints_len (l : List Int) : (ints l).length = l.length := by simp [ints]
theorem IsTsk.kept {w w' : World} {X ty : Nat} {t : Tsk} {rest : List Value} {S : Nat → Prop} (h : IsTsk w X ty t rest) (hk : Keeps S w w') (hS : ¬ S X) : IsTsk w' X ty t rest := ⟨blk_kept h.blk hk hS, h.regs⟩
theorem IsTsk.cl {w : World} {X ty : Nat} {t : Tsk} {rest : List Value} (h : IsTsk w X ty t rest) {k : Nat} {x : Int} (hx : t.l[k]? = some x) : w.cell? ⟨X, k, none⟩ = some (.int .i64 x) := by
  have hk : k < t.l.length := (List.getElem?_eq_some_iff.1 hx).1
  rw [blk_cell h.blk]
  simp only [List.getElem?_toArray]
  rw [List.getElem?_append_left (by rw [ints_len]; exact hk)]
  exact ints_at _ _ _ hx
theorem IsTsk.beh {w : World} {X ty : Nat} {t : Tsk} {rest : List Value} (h : IsTsk w X ty t rest) {j : Nat} {v : Value} (hv : rest[j]? = some v) : w.cell? ⟨X, 20 + j, none⟩ = some v := by
  have hl := Tsk.len h.regs
  rw [blk_cell h.blk]
  simp only [List.getElem?_toArray]
  rw [List.getElem?_append_right (by rw [ints_len]; omega), ints_len, hl, show 20 + j - 20 = j by omega]
  exact hv
theorem IsTsk.func {w : World} {X ty : Nat} {t : Tsk} {rest : List Value} (h : IsTsk w X ty t rest) : w.cell? ⟨X, 0, none⟩ = some (.int .i64 t.func) := h.cl rfl
theorem IsTsk.at {w : World} {X ty : Nat} {t : Tsk} {rest : List Value} (h : IsTsk w X ty t rest) : w.cell? ⟨X, 1, none⟩ = some (.int .i64 t.at_) := h.cl rfl
theorem IsTsk.reg {w : World} {X ty : Nat} {t : Tsk} {rest : List Value} (h : IsTsk w X ty t rest) {k : Nat} (hk : k < 16) : w.cell? ⟨X, 2 + k, none⟩ = some (.int .i64 (t.regs.getD k 0)) := by
  have h1 := h.regs
  refine h.cl ?_
  unfold Tsk.l
  rw [show 2 + k = k + 2 by omega]
  simp only [List.getElem?_cons_succ]
  rw [List.getElem?_append_left (by omega), List.getD_eq_getElem?_getD, List.getElem?_eq_getElem (by omega)]
  rfl
theorem IsTsk.ped {w : World} {X ty : Nat} {t : Tsk} {rest : List Value} (h : IsTsk w X ty t rest) : w.cell? ⟨X, 18, none⟩ = some (.int .i64 t.ped) := by
  have h1 := h.regs
  refine h.cl ?_
  unfold Tsk.l
  simp only [List.getElem?_cons_succ]
  rw [List.getElem?_append_right (by omega), h1]
  rfl
theorem IsTsk.spawned {w : World} {X ty : Nat} {t : Tsk} {rest : List Value} (h : IsTsk w X ty t rest) : w.cell? ⟨X, 19, none⟩ = some (.int .i64 t.spawned) := by
  have h1 := h.regs
  refine h.cl ?_
  unfold Tsk.l
  simp only [List.getElem?_cons_succ]
  rw [List.getElem?_append_right (by omega), h1]
  rfl
theorem IsTsk.free {w : World} {X ty : Nat} {t : Tsk} {rest : List Value} (h : IsTsk w X ty t rest) (k : Nat) : w.frozen? ⟨X, k, none⟩ = false := blk_free h.blk k
theorem IsTsk.put {w : World} {X ty : Nat} {t t' : Tsk} {rest : List Value} (h : IsTsk w X ty t rest) {k : Nat} {x : Int} (hk : k < 20) (ht : t'.l = t.l.set k x) (hr : t'.regs.length = 16) : IsTsk (w.setCell ⟨X, k, none⟩ (.int .i64 x)) X ty t' rest := by
  refine ⟨?_, hr⟩
  rw [blk_set h.blk, ht, ← ints_set]
  simp only [List.setIfInBounds_toArray]
  rw [List.set_append_left _ _ (by rw [ints_len, Tsk.len h.regs]; exact hk)]
theorem IsTsk.putBeh {w : World} {X ty : Nat} {t : Tsk} {rest : List Value} (h : IsTsk w X ty t rest) {j : Nat} {v : Value} : IsTsk (w.setCell ⟨X, 20 + j, none⟩ v) X ty t (rest.set j v) := by
  refine ⟨?_, h.regs⟩
  rw [blk_set h.blk]
  simp only [List.setIfInBounds_toArray]
  rw [List.set_append_right _ _ (by rw [ints_len, Tsk.len h.regs]; omega), ints_len, Tsk.len h.regs, show 20 + j - 20 = j by omega]
theorem IsTsk.putAt {w : World} {X ty : Nat} {t : Tsk} {rest : List Value} (h : IsTsk w X ty t rest) {x : Int} : IsTsk (w.setCell ⟨X, 1, none⟩ (.int .i64 x)) X ty { t with at_ := x } rest := h.put (by omega) rfl h.regs
theorem IsTsk.putReg {w : World} {X ty : Nat} {t : Tsk} {rest : List Value} (h : IsTsk w X ty t rest) {k : Nat} (hk : k < 16) {x : Int} : IsTsk (w.setCell ⟨X, 2 + k, none⟩ (.int .i64 x)) X ty (t.set k x) rest := by
  have h1 := h.regs
  refine h.put (by omega) ?_ (by simpa [Tsk.set] using h1)
  unfold Tsk.l Tsk.set
  rw [show 2 + k = k + 2 by omega]
  simp only [List.set_cons_succ]
  rw [List.set_append_left _ _ (by omega)]
theorem IsTsk.putSpawned {w : World} {X ty : Nat} {t : Tsk} {rest : List Value} (h : IsTsk w X ty t rest) {x : Int} : IsTsk (w.setCell ⟨X, 19, none⟩ (.int .i64 x)) X ty { t with spawned := x } rest := by
  have h1 := h.regs
  refine h.put (by omega) ?_ h1
  unfold Tsk.l
  simp only [List.set_cons_succ]
  rw [List.set_append_right _ _ (by omega), h1]
  rfl

/-! ### A task of package serial -/
def Tk.tk (t : Tk) (at_ : Int) : Tsk := ⟨t.node.func, at_, t.regs, t.node.ped, t.spawned⟩
def Tk.tl (t : Tk) (nf np : Int) : List Int := [t.node.parent, t.node.idx, nf, t.node.work, np, t.node.arg, t.node.v, t.number, t.depth, t.span, t.due]
/-- With its place, and what stands in the node for the function and the pedigree. -/
def Tk.l (t : Tk) (at_ nf np : Int) : List Int := (t.tk at_).l ++ (t.slots ++ t.tl nf np)
/-- Ahead of 'enter'. -/
def tkV (t : Tk) : Value := .agg (ints (t.l 0 0 0)).toArray
def ndV (n : Nd) : Value := .agg #[.int .i64 n.parent, .int .i64 n.idx, .int .i64 n.func, .int .i64 n.work, .int .i64 n.ped, .int .i64 n.arg, .int .i64 n.v]
structure IsTkN (w : World) (X : Nat) (at_ nf np : Int) (t : Tk) : Prop where
  tsk : IsTsk w X 53 (t.tk at_) (ints (t.slots ++ t.tl nf np))
  slots : t.slots.length = 8
abbrev IsTk (w : World) (X : Nat) (at_ : Int) (t : Tk) : Prop := IsTkN w X at_ t.node.func t.node.ped t
theorem ints_app (a b : List Int) : ints (a ++ b) = ints a ++ ints b := by simp [ints]
theorem IsTkN.of {w : World} {X : Nat} {at_ nf np : Int} {t : Tk} (h : w.heap[X]? = some (.cells (ints (t.l at_ nf np)).toArray 53 (0, 0))) (hr : t.regs.length = 16) (hs : t.slots.length = 8) : IsTkN w X at_ nf np t :=
  ⟨⟨by rw [h]; unfold Tk.l; rw [ints_app], hr⟩, hs⟩
theorem IsTkN.blk {w : World} {X : Nat} {at_ nf np : Int} {t : Tk} (h : IsTkN w X at_ nf np t) : w.heap[X]? = some (.cells (ints (t.l at_ nf np)).toArray 53 (0, 0)) := by
  rw [h.tsk.blk, ← ints_app]; rfl
theorem IsTkN.regs {w : World} {X : Nat} {at_ nf np : Int} {t : Tk} (h : IsTkN w X at_ nf np t) : t.regs.length = 16 := h.tsk.regs
theorem IsTkN.kept {w w' : World} {X : Nat} {at_ nf np : Int} {t : Tk} {S : Nat → Prop} (h : IsTkN w X at_ nf np t) (hk : Keeps S w w') (hS : ¬ S X) : IsTkN w' X at_ nf np t := ⟨h.tsk.kept hk hS, h.slots⟩
theorem IsTkN.tail {w : World} {X : Nat} {at_ nf np : Int} {t : Tk} (h : IsTkN w X at_ nf np t) (j : Nat) {x : Int} (hx : (t.tl nf np)[j]? = some x) : w.cell? ⟨X, 28 + j, none⟩ = some (.int .i64 x) := by
  have h2 := h.slots
  rw [show 28 + j = 20 + (8 + j) by omega]
  refine h.tsk.beh (ints_at _ _ _ ?_)
  rw [List.getElem?_append_right (by omega), h2, show 8 + j - 8 = j by omega]
  exact hx
theorem IsTkN.reg {w : World} {X : Nat} {at_ nf np : Int} {t : Tk} (h : IsTkN w X at_ nf np t) {k : Nat} (hk : k < 16) : w.cell? ⟨X, 2 + k, none⟩ = some (.int .i64 (t.regs.getD k 0)) := h.tsk.reg hk
theorem IsTkN.slot {w : World} {X : Nat} {at_ nf np : Int} {t : Tk} (h : IsTkN w X at_ nf np t) {k : Nat} (hk : k < 8) : w.cell? ⟨X, 20 + k, none⟩ = some (.int .i64 (t.slots.getD k 0)) := by
  have h2 := h.slots
  refine h.tsk.beh (ints_at _ _ _ ?_)
  rw [List.getElem?_append_left (by omega), List.getD_eq_getElem?_getD, List.getElem?_eq_getElem (by omega)]
  rfl
theorem IsTkN.free {w : World} {X : Nat} {at_ nf np : Int} {t : Tk} (h : IsTkN w X at_ nf np t) (k : Nat) : w.frozen? ⟨X, k, none⟩ = false := h.tsk.free k
theorem IsTkN.putTail {w : World} {X : Nat} {at_ nf np nf' np' : Int} {t t' : Tk} (h : IsTkN w X at_ nf np t) {j : Nat} {x : Int} (hr : t'.tk at_ = t.tk at_) (hs : t'.slots = t.slots) (ht : t'.tl nf' np' = (t.tl nf np).set j x) : IsTkN (w.setCell ⟨X, 28 + j, none⟩ (.int .i64 x)) X at_ nf' np' t' := by
  have h2 := h.slots
  refine ⟨?_, by rw [hs]; exact h2⟩
  rw [hr, hs, ht, show 28 + j = 20 + (8 + j) by omega]
  have q := h.tsk.putBeh (j := 8 + j) (v := .int .i64 x)
  rw [ints_set, List.set_append_right _ _ (by omega), h2, show 8 + j - 8 = j by omega] at q
  exact q
theorem IsTkN.putReg {w : World} {X : Nat} {at_ nf np : Int} {t : Tk} (h : IsTkN w X at_ nf np t) {j : Nat} (hj : j < 16) {x : Int} : IsTkN (w.setCell ⟨X, 2 + j, none⟩ (.int .i64 x)) X at_ nf np (setR t j x) := ⟨h.tsk.putReg hj, h.slots⟩
theorem IsTkN.putAt {w : World} {X : Nat} {at_ nf np : Int} {t : Tk} (h : IsTkN w X at_ nf np t) {x : Int} : IsTkN (w.setCell ⟨X, 1, none⟩ (.int .i64 x)) X x nf np t := ⟨h.tsk.putAt, h.slots⟩
theorem IsTkN.putSlot {w : World} {X : Nat} {at_ nf np : Int} {t : Tk} (h : IsTkN w X at_ nf np t) {j : Nat} (hj : j < 8) {x : Int} : IsTkN (w.setCell ⟨X, 20 + j, none⟩ (.int .i64 x)) X at_ nf np { t with slots := t.slots.set j x } := by
  have h2 := h.slots
  refine ⟨?_, by simpa using h2⟩
  have q := h.tsk.putBeh (j := j) (v := .int .i64 x)
  rw [ints_set, List.set_append_left _ _ (by omega)] at q
  exact q

def ndVals (l : List Nd) : List Value := l.flatMap fun n => ints n.l
theorem ndVals_length (l : List Nd) : (ndVals l).length = l.length * 7 := by
  induction l with
  | nil => rfl
  | cons x l ih => simp only [ndVals, List.flatMap_cons, List.length_append, List.length_cons] at ih ⊢; rw [ih]; simp [ints, Nd.l]; omega
theorem ndVals_at (l : List Nd) (k : Nat) (x : Nd) (h : l[k]? = some x) (j : Nat) (y : Int) (hj : x.l[j]? = some y) : (ndVals l)[k * 7 + j]? = some (.int .i64 y) := by
  have hj7 : j < 7 := (List.getElem?_eq_some_iff.1 hj).1
  induction l generalizing k with
  | nil => simp at h
  | cons z l ih =>
    have e : ndVals (z :: l) = ints z.l ++ ndVals l := rfl
    have hz : (ints z.l).length = 7 := rfl
    rw [e]
    cases k with
    | zero =>
      simp at h
      subst h
      rw [List.getElem?_append_left (by omega), Nat.zero_mul, Nat.zero_add]
      exact ints_at _ _ _ hj
    | succ k =>
      rw [List.getElem?_append_right (by omega), show (k + 1) * 7 + j - (ints z.l).length = k * 7 + j by omega]
      exact ih k (by simpa using h)
theorem ndVals_set (l : List Nd) (k : Nat) (x : Nd) (hk : k < l.length) :
    (((((((ndVals l).set (k * 7) (.int .i64 x.parent)).set (k * 7 + 1) (.int .i64 x.idx)).set (k * 7 + 2) (.int .i64 x.func)).set (k * 7 + 3) (.int .i64 x.work)).set (k * 7 + 4) (.int .i64 x.ped)).set (k * 7 + 5) (.int .i64 x.arg)).set (k * 7 + 6) (.int .i64 x.v) = ndVals (l.set k x) := by
  induction l generalizing k with
  | nil => simp at hk
  | cons y l ih =>
    have e : ndVals (y :: l) = [Value.int .i64 y.parent, .int .i64 y.idx, .int .i64 y.func, .int .i64 y.work, .int .i64 y.ped, .int .i64 y.arg, .int .i64 y.v] ++ ndVals l := rfl
    cases k with
    | zero => rfl
    | succ k =>
      have h1 := ih k (by simpa using hk)
      have e2 : ndVals ((y :: l).set (k + 1) x) = [Value.int .i64 y.parent, .int .i64 y.idx, .int .i64 y.func, .int .i64 y.work, .int .i64 y.ped, .int .i64 y.arg, .int .i64 y.v] ++ ndVals (l.set k x) := rfl
      rw [e, e2, ← h1, show (k + 1) * 7 = k * 7 + 7 by omega]
      rfl
/-- A run: the functions, the fuel, the tasks, the depth, whether nodes are kept, the nodes. -/
structure IsRn (w : World) (R : Nat) (fv : Value) (L : Bool) (s : Rn) (nv : Value) : Prop where
  blk : w.heap[R]? = some (.cells #[fv, .int .i64 s.fuel, .int .i64 s.tasks, .int .i64 s.depth, .bool L, nv] 43 (0, 0))
  row : w.ownsRow 0 51 7 nv s.nodes.length (ndVals s.nodes)
theorem IsRn.nR {w : World} {R : Nat} {fv : Value} {L : Bool} {s : Rn} {nv : Value} (h : IsRn w R fv L s nv) : nv.ownBlock ≠ some R := fun e => by
  have := own_type h.row e h.blk
  exact absurd this (by decide)
theorem IsRn.nX {w : World} {R : Nat} {fv : Value} {L : Bool} {s : Rn} {nv : Value} (h : IsRn w R fv L s nv) {X : Nat} {at_ nf np : Int} {t : Tk} (hx : IsTkN w X at_ nf np t) : nv.ownBlock ≠ some X := fun e => by
  have := own_type h.row e hx.blk
  exact absurd this (by decide)
theorem IsRn.ne {w : World} {R : Nat} {fv : Value} {L : Bool} {s : Rn} {nv : Value} (h : IsRn w R fv L s nv) {X : Nat} {at_ nf np : Int} {t : Tk} (hx : IsTkN w X at_ nf np t) : R ≠ X := blk_ne h.blk hx.blk (by decide)
def RFoot (R : Nat) (nv : Value) : Nat → Prop := fun k => k = R ∨ nv.ownBlock = some k
theorem IsRn.kept {w w' : World} {R : Nat} {fv : Value} {L : Bool} {s : Rn} {nv : Value} {S : Nat → Prop} (h : IsRn w R fv L s nv) (hk : Keeps S w w') (hS : ∀ k, RFoot R nv k → ¬ S k) : IsRn w' R fv L s nv :=
  ⟨blk_kept h.blk hk (hS R (.inl rfl)), hk.own h.row (fun k e => hS k (.inr e))⟩
/-- A number of the run is stored. -/
theorem IsRn.put {w : World} {R : Nat} {fv : Value} {L : Bool} {s : Rn} {nv : Value} (h : IsRn w R fv L s nv) {k : Nat} {x : Int} {s' : Rn} (hn : s'.nodes = s.nodes)
    (hc : (#[fv, .int .i64 s.fuel, .int .i64 s.tasks, .int .i64 s.depth, .bool L, nv] : Array Value).setIfInBounds k (.int .i64 x) = #[fv, .int .i64 s'.fuel, .int .i64 s'.tasks, .int .i64 s'.depth, .bool L, nv]) :
    IsRn (w.setCell ⟨R, k, none⟩ (.int .i64 x)) R fv L s' nv :=
  ⟨by rw [blk_set h.blk, hc], by
    rw [hn]
    exact (Keeps.setCell (S := (· = R)) w (a := ⟨R, k, none⟩) rfl _).own h.row (fun q e hq => h.nR (hq ▸ e))⟩
/-- What a give-up throws. -/
def thrownE (e : Int) : List PanicEntry := [{ v := .iface 28 (.int .i64 e), recovered := false }]
theorem sgiveUp_any (e : Int) (w : World) : Calls Tryd.prog 14 #[.int .i64 e] w fun e' w' => e' = .panicked (thrownE e) ∧ w' = w := by
  go_enter Tryd.func14, Tryd.ntmps14
  go_wp2
  exact ⟨rfl, rfl, rfl⟩
end Go.Proofs.YtokfbagacehbgaaDoor
