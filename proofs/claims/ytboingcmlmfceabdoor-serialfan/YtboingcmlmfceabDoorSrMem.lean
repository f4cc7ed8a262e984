import Derived.Test.YtboingcmlmfceabDoorSrIn
import Derived.Test.YtboingcmlmfceabDoorPgMem
/-! A run and a task in memory. -/
namespace Go.Proofs.YtboingcmlmfceabDoor
set_option linter.unusedVariables false
set_option maxRecDepth 20000
open Go.RowKit Go.HeapKit Go.PlainOps

def ints (l : List Int) : List Value := l.map (Value.int .i64)
theorem ints_set (l : List Int) (k : Nat) (x : Int) : (ints l).set k (.int .i64 x) = ints (l.set k x) := by simp [ints]
theorem ints_at (l : List Int) (k : Nat) (x : Int) (h : l[k]? = some x) : (ints l)[k]? = some (.int .i64 x) := by simp [ints, h]
def Nd.l (n : Nd) : List Int := [n.parent, n.idx, n.func, n.work, n.ped, n.arg, n.v]
def Tk.tl (t : Tk) : List Int := [t.node.parent, t.node.idx, t.node.func, t.node.work, t.node.ped, t.node.arg, t.node.v, t.number, t.depth, t.spawned, t.span, t.due]
def Tk.l (t : Tk) : List Int := t.regs ++ (t.slots ++ t.tl)
def tkV (t : Tk) : Value := .agg (ints t.l).toArray
def ndV (n : Nd) : Value := .agg #[.int .i64 n.parent, .int .i64 n.idx, .int .i64 n.func, .int .i64 n.work, .int .i64 n.ped, .int .i64 n.arg, .int .i64 n.v]
structure IsTk (w : World) (X : Nat) (t : Tk) : Prop where
  blk : w.heap[X]? = some (.cells (ints t.l).toArray 64 (0, 0))
  regs : t.regs.length = 16
  slots : t.slots.length = 8
theorem l_tail {r s : List Int} (hr : r.length = 16) (hs : s.length = 8) (tl : List Int) (j : Nat) (x : Int) : (r ++ (s ++ tl)).set (24 + j) x = r ++ (s ++ tl.set j x) := by
  rw [List.set_append_right _ _ (by omega), List.set_append_right _ _ (by omega), hr, hs, show 24 + j - 16 - 8 = j by omega]
theorem l_slot {r s : List Int} (hr : r.length = 16) (hs : s.length = 8) (tl : List Int) (j : Nat) (hj : j < 8) (x : Int) : (r ++ (s ++ tl)).set (16 + j) x = r ++ (s.set j x ++ tl) := by
  rw [List.set_append_right _ _ (by omega), List.set_append_left _ _ (by omega), hr, show 16 + j - 16 = j by omega]
theorem l_reg {r s : List Int} (hr : r.length = 16) (tl : List Int) (j : Nat) (hj : j < 16) (x : Int) : (r ++ (s ++ tl)).set j x = r.set j x ++ (s ++ tl) := by
  rw [List.set_append_left _ _ (by omega)]
theorem IsTk.kept {w w' : World} {X : Nat} {t : Tk} {S : Nat → Prop} (h : IsTk w X t) (hk : Keeps S w w') (hS : ¬ S X) : IsTk w' X t := ⟨blk_kept h.blk hk hS, h.regs, h.slots⟩
theorem IsTk.cl {w : World} {X : Nat} {t : Tk} (h : IsTk w X t) (k : Nat) {x : Int} (hx : t.l[k]? = some x) : w.cell? ⟨X, k, none⟩ = some (.int .i64 x) := by
  rw [blk_cell h.blk]
  simpa using ints_at _ _ _ hx
theorem IsTk.tail {w : World} {X : Nat} {t : Tk} (h : IsTk w X t) (j : Nat) {x : Int} (hx : t.tl[j]? = some x) : w.cell? ⟨X, 24 + j, none⟩ = some (.int .i64 x) := by
  have h1 := h.regs
  have h2 := h.slots
  refine h.cl _ ?_
  unfold Tk.l
  rw [List.getElem?_append_right (by omega), List.getElem?_append_right (by omega), h1, h2, show 24 + j - 16 - 8 = j by omega]
  exact hx
theorem IsTk.reg {w : World} {X : Nat} {t : Tk} (h : IsTk w X t) {k : Nat} (hk : k < 16) : w.cell? ⟨X, k, none⟩ = some (.int .i64 (t.regs.getD k 0)) := by
  have h1 := h.regs
  refine h.cl _ ?_
  unfold Tk.l
  rw [List.getElem?_append_left (by omega), List.getD_eq_getElem?_getD, List.getElem?_eq_getElem (by omega)]
  rfl
theorem IsTk.slot {w : World} {X : Nat} {t : Tk} (h : IsTk w X t) {k : Nat} (hk : k < 8) : w.cell? ⟨X, 16 + k, none⟩ = some (.int .i64 (t.slots.getD k 0)) := by
  have h1 := h.regs
  have h2 := h.slots
  refine h.cl _ ?_
  unfold Tk.l
  rw [List.getElem?_append_right (by omega), List.getElem?_append_left (by omega), h1, show 16 + k - 16 = k by omega, List.getD_eq_getElem?_getD, List.getElem?_eq_getElem (by omega)]
  rfl
theorem IsTk.free {w : World} {X : Nat} {t : Tk} (h : IsTk w X t) (k : Nat) : w.frozen? ⟨X, k, none⟩ = false := blk_free h.blk k
theorem IsTk.put {w : World} {X : Nat} {t t' : Tk} (h : IsTk w X t) {k : Nat} {x : Int} (ht : t'.l = t.l.set k x) (hr : t'.regs.length = 16) (hs : t'.slots.length = 8) : IsTk (w.setCell ⟨X, k, none⟩ (.int .i64 x)) X t' :=
  ⟨by rw [blk_set h.blk, ht, ← ints_set]; simp, hr, hs⟩
theorem IsTk.putTail {w : World} {X : Nat} {t t' : Tk} (h : IsTk w X t) {j : Nat} {x : Int} (hr : t'.regs = t.regs) (hs : t'.slots = t.slots) (ht : t'.tl = t.tl.set j x) : IsTk (w.setCell ⟨X, 24 + j, none⟩ (.int .i64 x)) X t' :=
  h.put (by unfold Tk.l; rw [l_tail h.regs h.slots, hr, hs, ht]) (by rw [hr]; exact h.regs) (by rw [hs]; exact h.slots)
theorem IsTk.putReg {w : World} {X : Nat} {t : Tk} (h : IsTk w X t) {j : Nat} (hj : j < 16) {x : Int} : IsTk (w.setCell ⟨X, j, none⟩ (.int .i64 x)) X (setR t j x) :=
  h.put (by unfold Tk.l; rw [l_reg h.regs _ _ hj]; rfl) (by simpa [setR] using h.regs) h.slots
theorem IsTk.putSlot {w : World} {X : Nat} {t : Tk} (h : IsTk w X t) {j : Nat} (hj : j < 8) {x : Int} : IsTk (w.setCell ⟨X, 16 + j, none⟩ (.int .i64 x)) X { t with slots := t.slots.set j x } :=
  h.put (by unfold Tk.l; rw [l_slot h.regs h.slots _ _ hj]; rfl) h.regs (by simpa using h.slots)

def ndVals (l : List Nd) : List Value := l.flatMap fun n => ints n.l
theorem ndVals_length (l : List Nd) : (ndVals l).length = l.length * 7 := by
  induction l with
  | nil => rfl
  | cons x l ih => simp only [ndVals, List.flatMap_cons, List.length_append, List.length_cons] at ih ⊢; rw [ih]; simp [ints, Nd.l]; omega
theorem ndVals_at (l : List Nd) (k : Nat) (x : Nd) (h : l[k]? = some x) (j : Nat) (y : Int) (hj : x.l[j]? = some y) : (ndVals l)[k * 7 + j]? = some (.int .i64 y) := by
  have hj7 : j < 7 := (List.getElem?_eq_some_iff.1 hj).1
  induction l generalizing k with
  | nil => simp at h
  | cons z l ih =>
    have e : ndVals (z :: l) = ints z.l ++ ndVals l := rfl
    have hz : (ints z.l).length = 7 := rfl
    rw [e]
    cases k with
    | zero =>
      simp at h
      subst h
      rw [List.getElem?_append_left (by omega), Nat.zero_mul, Nat.zero_add]
      exact ints_at _ _ _ hj
    | succ k =>
      rw [List.getElem?_append_right (by omega), show (k + 1) * 7 + j - (ints z.l).length = k * 7 + j by omega]
      exact ih k (by simpa using h)
theorem ndVals_set (l : List Nd) (k : Nat) (x : Nd) (hk : k < l.length) :
    (((((((ndVals l).set (k * 7) (.int .i64 x.parent)).set (k * 7 + 1) (.int .i64 x.idx)).set (k * 7 + 2) (.int .i64 x.func)).set (k * 7 + 3) (.int .i64 x.work)).set (k * 7 + 4) (.int .i64 x.ped)).set (k * 7 + 5) (.int .i64 x.arg)).set (k * 7 + 6) (.int .i64 x.v) = ndVals (l.set k x) := by
  induction l generalizing k with
  | nil => simp at hk
  | cons y l ih =>
    have e : ndVals (y :: l) = [Value.int .i64 y.parent, .int .i64 y.idx, .int .i64 y.func, .int .i64 y.work, .int .i64 y.ped, .int .i64 y.arg, .int .i64 y.v] ++ ndVals l := rfl
    cases k with
    | zero => rfl
    | succ k =>
      have h1 := ih k (by simpa using hk)
      have e2 : ndVals ((y :: l).set (k + 1) x) = [Value.int .i64 y.parent, .int .i64 y.idx, .int .i64 y.func, .int .i64 y.work, .int .i64 y.ped, .int .i64 y.arg, .int .i64 y.v] ++ ndVals (l.set k x) := rfl
      rw [e, e2, ← h1, show (k + 1) * 7 = k * 7 + 7 by omega]
      rfl
/-- A run: the functions, the fuel, the tasks, the depth, whether nodes are kept, the nodes. -/
structure IsRn (w : World) (R : Nat) (fv : Value) (L : Bool) (s : Rn) (nv : Value) : Prop where
  blk : w.heap[R]? = some (.cells #[fv, .int .i64 s.fuel, .int .i64 s.tasks, .int .i64 s.depth, .bool L, nv] 58 (0, 0))
  row : w.ownsRow 0 38 7 nv s.nodes.length (ndVals s.nodes)
theorem IsRn.nR {w : World} {R : Nat} {fv : Value} {L : Bool} {s : Rn} {nv : Value} (h : IsRn w R fv L s nv) : nv.ownBlock ≠ some R := fun e => by
  have := own_type h.row e h.blk
  exact absurd this (by decide)
theorem IsRn.nX {w : World} {R : Nat} {fv : Value} {L : Bool} {s : Rn} {nv : Value} (h : IsRn w R fv L s nv) {X : Nat} {t : Tk} (hx : IsTk w X t) : nv.ownBlock ≠ some X := fun e => by
  have := own_type h.row e hx.blk
  exact absurd this (by decide)
theorem IsRn.ne {w : World} {R : Nat} {fv : Value} {L : Bool} {s : Rn} {nv : Value} (h : IsRn w R fv L s nv) {X : Nat} {t : Tk} (hx : IsTk w X t) : R ≠ X := blk_ne h.blk hx.blk (by decide)
def RFoot (R : Nat) (nv : Value) : Nat → Prop := fun k => k = R ∨ nv.ownBlock = some k
theorem IsRn.kept {w w' : World} {R : Nat} {fv : Value} {L : Bool} {s : Rn} {nv : Value} {S : Nat → Prop} (h : IsRn w R fv L s nv) (hk : Keeps S w w') (hS : ∀ k, RFoot R nv k → ¬ S k) : IsRn w' R fv L s nv :=
  ⟨blk_kept h.blk hk (hS R (.inl rfl)), hk.own h.row (fun k e => hS k (.inr e))⟩
/-- A number of the run is stored. -/
theorem IsRn.put {w : World} {R : Nat} {fv : Value} {L : Bool} {s : Rn} {nv : Value} (h : IsRn w R fv L s nv) {k : Nat} {x : Int} {s' : Rn} (hn : s'.nodes = s.nodes)
    (hc : (#[fv, .int .i64 s.fuel, .int .i64 s.tasks, .int .i64 s.depth, .bool L, nv] : Array Value).setIfInBounds k (.int .i64 x) = #[fv, .int .i64 s'.fuel, .int .i64 s'.tasks, .int .i64 s'.depth, .bool L, nv]) :
    IsRn (w.setCell ⟨R, k, none⟩ (.int .i64 x)) R fv L s' nv :=
  ⟨by rw [blk_set h.blk, hc], by
    rw [hn]
    exact (Keeps.setCell (S := (· = R)) w (a := ⟨R, k, none⟩) rfl _).own h.row (fun q e hq => h.nR (hq ▸ e))⟩
/-- What a give-up throws. -/
def thrownE (e : Int) : List PanicEntry := [{ v := .iface 25 (.int .i64 e), recovered := false }]
theorem sgiveUp_any (e : Int) (w : World) : Calls Tryd.prog 32 #[.int .i64 e] w fun e' w' => e' = .panicked (thrownE e) ∧ w' = w := by
  go_enter Tryd.func32, Tryd.ntmps32
  go_wp2
  exact ⟨rfl, rfl, rfl⟩
end Go.Proofs.YtboingcmlmfceabDoor
