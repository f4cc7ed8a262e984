import Derived.Test.YthignlailbekmaaDoorRdPlain
import Derived.Test.YthignlailbekmaaDoorSrSpawn
/-! The document's run and its tasks in memory. -/
namespace Go.Proofs.YthignlailbekmaaDoor
set_option linter.unusedVariables false
set_option maxRecDepth 20000
open Go.RowKit Go.HeapKit Go.PlainOps

def Tk.rt (t : Tk) (at_ e : Int) : List Int := [at_, t.span, e, t.spawned]
def Tk.rl (t : Tk) (at_ e : Int) : List Int := t.number :: t.depth :: (t.regs ++ (t.slots ++ t.rt at_ e))
structure IsRT (w : World) (X : Nat) (at_ e : Int) (t : Tk) : Prop where
  blk : w.heap[X]? = some (.cells (ints (t.rl at_ e)).toArray 89 (0, 0))
  regs : t.regs.length = 16
  slots : t.slots.length = 8
theorem IsRT.kept {w w' : World} {X : Nat} {at_ e : Int} {t : Tk} {S : Nat → Prop} (h : IsRT w X at_ e t) (hk : Keeps S w w') (hS : ¬ S X) : IsRT w' X at_ e t := ⟨blk_kept h.blk hk hS, h.regs, h.slots⟩
theorem IsRT.cl {w : World} {X : Nat} {at_ e : Int} {t : Tk} (h : IsRT w X at_ e t) {k : Nat} {x : Int} (hx : (t.rl at_ e)[k]? = some x) : w.cell? ⟨X, k, none⟩ = some (.int .i64 x) := by
  rw [blk_cell h.blk]
  simpa using ints_at _ _ _ hx
theorem IsRT.num {w : World} {X : Nat} {at_ e : Int} {t : Tk} (h : IsRT w X at_ e t) : w.cell? ⟨X, 0, none⟩ = some (.int .i64 t.number) := h.cl rfl
theorem IsRT.dep {w : World} {X : Nat} {at_ e : Int} {t : Tk} (h : IsRT w X at_ e t) : w.cell? ⟨X, 1, none⟩ = some (.int .i64 t.depth) := h.cl rfl
theorem IsRT.reg {w : World} {X : Nat} {at_ e : Int} {t : Tk} (h : IsRT w X at_ e t) {k : Nat} (hk : k < 16) : w.cell? ⟨X, 2 + k, none⟩ = some (.int .i64 (t.regs.getD k 0)) := by
  have h1 := h.regs
  refine h.cl ?_
  unfold Tk.rl
  rw [show 2 + k = k + 2 by omega]
  simp only [List.getElem?_cons_succ]
  rw [List.getElem?_append_left (by omega), List.getD_eq_getElem?_getD, List.getElem?_eq_getElem (by omega)]
  rfl
theorem IsRT.slot {w : World} {X : Nat} {at_ e : Int} {t : Tk} (h : IsRT w X at_ e t) {k : Nat} (hk : k < 8) : w.cell? ⟨X, 18 + k, none⟩ = some (.int .i64 (t.slots.getD k 0)) := by
  have h1 := h.regs
  have h2 := h.slots
  refine h.cl ?_
  unfold Tk.rl
  rw [show 18 + k = (16 + k) + 2 by omega]
  simp only [List.getElem?_cons_succ]
  rw [List.getElem?_append_right (by omega), List.getElem?_append_left (by omega), h1, show 16 + k - 16 = k by omega, List.getD_eq_getElem?_getD, List.getElem?_eq_getElem (by omega)]
  rfl
theorem IsRT.tail {w : World} {X : Nat} {at_ e : Int} {t : Tk} (h : IsRT w X at_ e t) (j : Nat) {x : Int} (hx : (t.rt at_ e)[j]? = some x) : w.cell? ⟨X, 26 + j, none⟩ = some (.int .i64 x) := by
  have h1 := h.regs
  have h2 := h.slots
  refine h.cl ?_
  unfold Tk.rl
  rw [show 26 + j = (24 + j) + 2 by omega]
  simp only [List.getElem?_cons_succ]
  rw [List.getElem?_append_right (by omega), List.getElem?_append_right (by omega), h1, h2, show 24 + j - 16 - 8 = j by omega]
  exact hx
theorem IsRT.free {w : World} {X : Nat} {at_ e : Int} {t : Tk} (h : IsRT w X at_ e t) (k : Nat) : w.frozen? ⟨X, k, none⟩ = false := blk_free h.blk k
theorem IsRT.put {w : World} {X : Nat} {at_ e at' e' : Int} {t t' : Tk} (h : IsRT w X at_ e t) {k : Nat} {x : Int} (ht : t'.rl at' e' = (t.rl at_ e).set k x) (hr : t'.regs.length = 16) (hs : t'.slots.length = 8) : IsRT (w.setCell ⟨X, k, none⟩ (.int .i64 x)) X at' e' t' :=
  ⟨by rw [blk_set h.blk, ht, ← ints_set]; simp, hr, hs⟩
theorem IsRT.putTail {w : World} {X : Nat} {at_ e at' e' : Int} {t t' : Tk} (h : IsRT w X at_ e t) {j : Nat} {x : Int} (hn : t'.number = t.number) (hd : t'.depth = t.depth) (hr : t'.regs = t.regs) (hs : t'.slots = t.slots) (ht : t'.rt at' e' = (t.rt at_ e).set j x) : IsRT (w.setCell ⟨X, 26 + j, none⟩ (.int .i64 x)) X at' e' t' := by
  have h1 := h.regs
  have h2 := h.slots
  refine h.put ?_ (by rw [hr]; exact h1) (by rw [hs]; exact h2)
  unfold Tk.rl
  rw [show 26 + j = (24 + j) + 2 by omega, hn, hd, hr, hs, ht]
  simp only [List.set_cons_succ]
  rw [List.set_append_right _ _ (by omega), List.set_append_right _ _ (by omega), h1, h2, show 24 + j - 16 - 8 = j by omega]
theorem IsRT.putReg {w : World} {X : Nat} {at_ e : Int} {t : Tk} (h : IsRT w X at_ e t) {j : Nat} (hj : j < 16) {x : Int} : IsRT (w.setCell ⟨X, 2 + j, none⟩ (.int .i64 x)) X at_ e (setR t j x) := by
  have h1 := h.regs
  refine h.put ?_ (by simpa [setR] using h1) h.slots
  unfold Tk.rl setR
  rw [show 2 + j = j + 2 by omega]
  simp only [List.set_cons_succ]
  rw [List.set_append_left _ _ (by omega)]
  rfl
theorem IsRT.putSlot {w : World} {X : Nat} {at_ e : Int} {t : Tk} (h : IsRT w X at_ e t) {j : Nat} (hj : j < 8) {x : Int} : IsRT (w.setCell ⟨X, 18 + j, none⟩ (.int .i64 x)) X at_ e { t with slots := t.slots.set j x } := by
  have h1 := h.regs
  have h2 := h.slots
  refine h.put ?_ h1 (by simpa using h2)
  unfold Tk.rl
  rw [show 18 + j = (16 + j) + 2 by omega]
  simp only [List.set_cons_succ]
  rw [List.set_append_right _ _ (by omega), List.set_append_left _ _ (by omega), h1, show 16 + j - 16 = j by omega]
  rfl

/-! ### The nodes -/
theorem ndVals_put (M : List Nd) (k j : Nat) (nd nd' : Nd) (x : Int) (hk : M[k]? = some nd) (hj : j < 7) (he : nd'.l = nd.l.set j x) : (ndVals M).set (k * 7 + j) (.int .i64 x) = ndVals (M.set k nd') := by
  induction M generalizing k with
  | nil => simp at hk
  | cons y l ih =>
    have e : ndVals (y :: l) = ints y.l ++ ndVals l := rfl
    have hy : (ints y.l).length = 7 := rfl
    cases k with
    | zero =>
      simp at hk
      subst hk
      have e2 : ndVals ((y :: l).set 0 nd') = ints nd'.l ++ ndVals l := rfl
      rw [e, e2, he, ← ints_set, Nat.zero_mul, Nat.zero_add, List.set_append_left _ _ (by omega)]
    | succ k =>
      have e2 : ndVals ((y :: l).set (k + 1) nd') = ints y.l ++ ndVals (l.set k nd') := rfl
      rw [e, e2, ← ih k (by simpa using hk), List.set_append_right _ _ (by omega), hy, show (k + 1) * 7 + j - 7 = k * 7 + j by omega]
/-- A run of the document's: the functions, the fuel, the error, the nodes, the depth. -/
structure IsRR (w : World) (R : Nat) (fv : Value) (fuel : Nat) (er depth : Int) (M : List Nd) (nv : Value) : Prop where
  blk : w.heap[R]? = some (.cells #[fv, .int .i64 fuel, .int .i64 er, nv, .int .i64 depth] 76 (0, 0))
  row : w.ownsRow 0 41 7 nv M.length (ndVals M)
section
variable {w w' : World} {R : Nat} {fv nv : Value} {fuel : Nat} {er depth : Int} {M : List Nd}
theorem IsRR.nR (h : IsRR w R fv fuel er depth M nv) : nv.ownBlock ≠ some R := fun e => by
  have := own_type h.row e h.blk
  exact absurd this (by decide)
theorem IsRR.nX (h : IsRR w R fv fuel er depth M nv) {X : Nat} {at_ e : Int} {t : Tk} (hx : IsRT w X at_ e t) : nv.ownBlock ≠ some X := fun e => by
  have := own_type h.row e hx.blk
  exact absurd this (by decide)
theorem IsRR.ne (h : IsRR w R fv fuel er depth M nv) {X : Nat} {at_ e : Int} {t : Tk} (hx : IsRT w X at_ e t) : R ≠ X := blk_ne h.blk hx.blk (by decide)
theorem IsRR.off (h : IsRR w R fv fuel er depth M nv) {X : Nat} {at_ e : Int} {t : Tk} (hx : IsRT w X at_ e t) : ∀ k, RFoot R nv k → ¬ k = X := fun k hk e => by
  subst e
  rcases hk with hk | hk
  · exact (h.ne hx) hk.symm
  · exact h.nX hx hk
theorem IsRR.kept {S : Nat → Prop} (h : IsRR w R fv fuel er depth M nv) (hk : Keeps S w w') (hS : ∀ k, RFoot R nv k → ¬ S k) : IsRR w' R fv fuel er depth M nv :=
  ⟨blk_kept h.blk hk (hS R (.inl rfl)), hk.own h.row (fun k e => hS k (.inr e))⟩
theorem IsRR.put (h : IsRR w R fv fuel er depth M nv) {k : Nat} {x : Int} {fuel' : Nat} {er' depth' : Int}
    (hc : (#[fv, .int .i64 fuel, .int .i64 er, nv, .int .i64 depth] : Array Value).setIfInBounds k (.int .i64 x) = #[fv, .int .i64 fuel', .int .i64 er', nv, .int .i64 depth']) :
    IsRR (w.setCell ⟨R, k, none⟩ (.int .i64 x)) R fv fuel' er' depth' M nv :=
  ⟨by rw [blk_set h.blk, hc], (Keeps.setCell (S := (· = R)) w (a := ⟨R, k, none⟩) rfl _).own h.row (fun q e hq => h.nR (hq ▸ e))⟩
/-- A node of it, where it lies. -/
theorem IsRR.node (h : IsRR w R fv fuel er depth M nv) {k : Nat} {nd : Nd} (hk : M[k]? = some nd) :
    ∃ g cap, nv = .slice (some ⟨g, 0, none⟩) M.length cap ∧ k < M.length ∧ (∀ j x, nd.l[j]? = some x → w.cell? ⟨g, k * 7 + j, none⟩ = some (.int .i64 x)) ∧ (∀ j, w.frozen? ⟨g, j, none⟩ = false) ∧
      ∀ j x nd', j < 7 → nd'.l = nd.l.set j x → IsRR (w.setCell ⟨g, k * 7 + j, none⟩ (.int .i64 x)) R fv fuel er depth (M.set k nd') nv ∧ Keeps (fun i => nv.ownBlock = some i) w (w.setCell ⟨g, k * 7 + j, none⟩ (.int .i64 x)) := by
  have hkl : k < M.length := (List.getElem?_eq_some_iff.1 hk).1
  have nR := h.nR
  obtain ⟨hb, hrow⟩ := h
  rcases hrow.2 with ⟨_, h0⟩ | ⟨g, cap, cur, rfl, hb0, hg, hnc, hcm, hcs, htk⟩
  · omega
  · have hL := ndVals_length M
    refine ⟨g, cap, rfl, hkl, ?_, fun j => blk_free hg j, ?_⟩
    · intro j x hx
      have hj : j < 7 := (List.getElem?_eq_some_iff.1 hx).1
      have h1 := ndVals_at M k nd hk j x hx
      rw [← htk, List.getElem?_take] at h1
      rw [if_pos (by omega)] at h1
      rw [blk_cell hg, ← Array.getElem?_toList]
      exact h1
    · intro j x nd' hj he
      have kS : Keeps (fun i => (Value.slice (some ⟨g, 0, none⟩) M.length cap).ownBlock = some i) w (w.setCell ⟨g, k * 7 + j, none⟩ (.int .i64 x)) := Keeps.setCell (S := fun i => (Value.slice (some ⟨g, 0, none⟩) M.length cap).ownBlock = some i) w (a := ⟨g, k * 7 + j, none⟩) rfl _
      have ngR : g ≠ R := fun e => nR (by rw [← e]; rfl)
      refine ⟨⟨blk_kept hb kS (fun e => ngR (by simpa [Value.ownBlock] using e)), ?_⟩, kS⟩
      have hlen : (M.set k nd').length = M.length := by simp
      rw [hlen]
      refine ⟨by rw [ndVals_length, hlen], .inr ⟨g, cap, _, rfl, hb0, blk_set hg _, hnc, hcm, by simpa using hcs, ?_⟩⟩
      rw [← ndVals_put M k j nd nd' x hk hj he, Array.toList_setIfInBounds, List.take_set, htk]
end
end Go.Proofs.YthignlailbekmaaDoor
