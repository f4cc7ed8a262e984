import Derived.Test.YtemmkgnbngeiaaaDqAcc
/-! Within a step: the machine's box, the block for the result, the arena. -/
namespace Go.Proofs.Ytemmkgnbngeiaaa
open Go.RowKit Go.HeapKit Go.IntWalk

structure Mid (w wx : World) (o : OpS) (p : Nat) (F F1 : Nat → Prop) (B : Ar) : Prop where
  box : wx.heap[w.heap.size]? = some (.cells o.vals 53 (0, 0))
  res : wx.heap[w.heap.size + 1]? = some (.cells OpS.zero.vals 53 (0, 0))
  ar : ArF wx p F1 B
  kp : Keeps F w wx
  fo : ∀ k, F1 k → F k ∨ w.heap.size + 2 ≤ k
  lo : ∀ k, F k → k < w.heap.size
section
variable {w wx wy : World} {o : OpS} {p : Nat} {F F1 : Nat → Prop} {A B : Ar}
theorem Mid.start (h : ArF w p F A) (o : OpS) : Mid w ((w.alloc (.cells o.vals 53)).alloc (.cells OpS.zero.vals 53)) o p F F A :=
  ⟨(Below.heap_alloc _ _ _ (by simp)).trans (new_at w _ _ rfl), new_at _ _ _ (by simp), (h.kept (Keeps.alloc None w _) (fun _ _ f => f)).kept (Keeps.alloc None _ _) (fun _ _ f => f),
   ((Keeps.refl F w).andAlloc _).andAlloc _, fun _ f => .inl f, fun _ f => h.lt f⟩
theorem Mid.lt (h : Mid w wx o p F F1 B) : w.heap.size + 1 < wx.heap.size := (Array.getElem?_eq_some_iff.1 h.res).1
theorem Mid.off (h : Mid w wx o p F F1 B) : ¬ F1 w.heap.size ∧ ¬ F1 (w.heap.size + 1) :=
  ⟨fun f => by rcases h.fo _ f with f | f; have := h.lo _ f; omega; omega, fun f => by rcases h.fo _ f with f | f; have := h.lo _ f; omega; omega⟩
theorem Mid.kept (h : Mid w wx o p F F1 B) (hk : Keeps None wx wy) : Mid w wy o p F F1 B := by
  have := h.lt
  exact ⟨(hk.block _ (by omega) (fun f => f)).trans h.box, (hk.block _ (by omega) (fun f => f)).trans h.res, h.ar.kept hk (fun _ _ f => f), h.kp.trans hk (fun _ f _ => f.elim), h.fo, h.lo⟩
theorem Mid.acc (h : Mid w wx o p F F1 A) (h2 : AA wx wy p F1 B) : ∃ F2, Mid w wy o p F F2 B := by
  obtain ⟨F2, g, hk, hf⟩ := h2
  have := h.lt
  refine ⟨F2, (hk.block _ (by omega) h.off.1).trans h.box, (hk.block _ (by omega) h.off.2).trans h.res, g, h.kp.trans hk (fun i f hi => ?_), fun k f => ?_, h.lo⟩
  · rcases h.fo i f with f | f
    · exact f
    · omega
  · rcases hf k f with f | f
    · exact h.fo k f
    · exact .inr (by omega)
theorem Mid.put (h : Mid w wx o p F F1 B) (i : Nat) (v : Value) (o' : OpS) (ho : o'.vals = o.vals.setIfInBounds i v) : Mid w (wx.setCell ⟨w.heap.size, i, none⟩ v) o' p F F1 B := by
  have hk := Keeps.setCell (S := (· = w.heap.size)) wx (a := ⟨w.heap.size, i, none⟩) rfl v
  refine ⟨?_, (hk.block _ h.lt (by omega)).trans h.res, h.ar.kept hk (fun k f e => h.off.1 (e ▸ f)), h.kp.trans hk (fun i e hi => by omega), h.fo, h.lo⟩
  rw [setCell_block h.box v, ho]
theorem Mid.cell (h : Mid w wx o p F F1 B) (i : Nat) : wx.cell? ⟨w.heap.size, i, none⟩ = o.vals[i]? := cell_of_block h.box i
theorem Mid.free (h : Mid w wx o p F F1 B) (i : Nat) : wx.frozen? ⟨w.heap.size, i, none⟩ = false := free_of_block h.box i
theorem Mid.cells {x0 x1 x2 x3 x4 x5 x6 x7 x8 x9 x10 x11 x12 : Int} (h : Mid w wx (OpS.mk x0 x1 x2 x3 x4 x5 x6 x7 x8 x9 x10 x11 x12) p F F1 B) : wx.cell? ⟨w.heap.size, 0, none⟩ = some (.int .i64 x0) ∧ wx.cell? ⟨w.heap.size, 1, none⟩ = some (.int .i64 x1) ∧ wx.cell? ⟨w.heap.size, 2, none⟩ = some (.int .i64 x2) ∧ wx.cell? ⟨w.heap.size, 3, none⟩ = some (.int .i64 x3) ∧ wx.cell? ⟨w.heap.size, 4, none⟩ = some (.int .i64 x4) ∧ wx.cell? ⟨w.heap.size, 5, none⟩ = some (.int .i64 x5) ∧ wx.cell? ⟨w.heap.size, 6, none⟩ = some (.int .i64 x6) ∧ wx.cell? ⟨w.heap.size, 7, none⟩ = some (.int .i64 x7) ∧ wx.cell? ⟨w.heap.size, 8, none⟩ = some (.int .i64 x8) ∧ wx.cell? ⟨w.heap.size, 9, none⟩ = some (.int .i64 x9) ∧ wx.cell? ⟨w.heap.size, 10, none⟩ = some (.int .i64 x10) ∧ wx.cell? ⟨w.heap.size, 11, none⟩ = some (.int .i64 x11) ∧ wx.cell? ⟨w.heap.size, 12, none⟩ = some (.int .i64 x12) :=
  ⟨h.cell 0, h.cell 1, h.cell 2, h.cell 3, h.cell 4, h.cell 5, h.cell 6, h.cell 7, h.cell 8, h.cell 9, h.cell 10, h.cell 11, h.cell 12⟩
theorem Mid.rcells (h : Mid w wx o p F F1 B) : wx.cell? ⟨w.heap.size + 1, 0, none⟩ = some (.int .i64 0) ∧ wx.cell? ⟨w.heap.size + 1, 1, none⟩ = some (.int .i64 0) ∧ wx.cell? ⟨w.heap.size + 1, 2, none⟩ = some (.int .i64 0) ∧ wx.cell? ⟨w.heap.size + 1, 3, none⟩ = some (.int .i64 0) ∧ wx.cell? ⟨w.heap.size + 1, 4, none⟩ = some (.int .i64 0) ∧ wx.cell? ⟨w.heap.size + 1, 5, none⟩ = some (.int .i64 0) ∧ wx.cell? ⟨w.heap.size + 1, 6, none⟩ = some (.int .i64 0) ∧ wx.cell? ⟨w.heap.size + 1, 7, none⟩ = some (.int .i64 0) ∧ wx.cell? ⟨w.heap.size + 1, 8, none⟩ = some (.int .i64 0) ∧ wx.cell? ⟨w.heap.size + 1, 9, none⟩ = some (.int .i64 0) ∧ wx.cell? ⟨w.heap.size + 1, 10, none⟩ = some (.int .i64 0) ∧ wx.cell? ⟨w.heap.size + 1, 11, none⟩ = some (.int .i64 0) ∧ wx.cell? ⟨w.heap.size + 1, 12, none⟩ = some (.int .i64 0) :=
  ⟨cell_of_block h.res 0, cell_of_block h.res 1, cell_of_block h.res 2, cell_of_block h.res 3, cell_of_block h.res 4, cell_of_block h.res 5, cell_of_block h.res 6, cell_of_block h.res 7, cell_of_block h.res 8, cell_of_block h.res 9, cell_of_block h.res 10, cell_of_block h.res 11, cell_of_block h.res 12⟩
theorem Mid.rfree (h : Mid w wx o p F F1 B) (i : Nat) : wx.frozen? ⟨w.heap.size + 1, i, none⟩ = false := free_of_block h.res i
theorem Mid.box13 (h : Mid w wx o p F F1 B) (x0 x1 x2 x3 x4 x5 x6 x7 x8 x9 x10 x11 x12 : Int) : Mid w (((((((((((((wx.setCell ⟨w.heap.size, 0, none⟩ (.int .i64 x0)).setCell ⟨w.heap.size, 1, none⟩ (.int .i64 x1)).setCell ⟨w.heap.size, 2, none⟩ (.int .i64 x2)).setCell ⟨w.heap.size, 3, none⟩ (.int .i64 x3)).setCell ⟨w.heap.size, 4, none⟩ (.int .i64 x4)).setCell ⟨w.heap.size, 5, none⟩ (.int .i64 x5)).setCell ⟨w.heap.size, 6, none⟩ (.int .i64 x6)).setCell ⟨w.heap.size, 7, none⟩ (.int .i64 x7)).setCell ⟨w.heap.size, 8, none⟩ (.int .i64 x8)).setCell ⟨w.heap.size, 9, none⟩ (.int .i64 x9)).setCell ⟨w.heap.size, 10, none⟩ (.int .i64 x10)).setCell ⟨w.heap.size, 11, none⟩ (.int .i64 x11)).setCell ⟨w.heap.size, 12, none⟩ (.int .i64 x12)) (OpS.mk x0 x1 x2 x3 x4 x5 x6 x7 x8 x9 x10 x11 x12) p F F1 B := by
  obtain ⟨h1, h2⟩ := op_set (w1 := wx) (g := w.heap.size) (c := o.vals) rfl h.box (.int .i64 x0) (.int .i64 x1) (.int .i64 x2) (.int .i64 x3) (.int .i64 x4) (.int .i64 x5) (.int .i64 x6) (.int .i64 x7) (.int .i64 x8) (.int .i64 x9) (.int .i64 x10) (.int .i64 x11) (.int .i64 x12)
  exact ⟨h1, (h2.block _ h.lt (by omega)).trans h.res, h.ar.kept h2 (fun k f e => h.off.1 (e ▸ f)), h.kp.trans h2 (fun i e hi => by omega), h.fo, h.lo⟩
theorem Mid.fin (h : Mid w wx o p F F1 B) (hk : Keeps (· = w.heap.size + 1) wx wy) : AA w wy p F B :=
  ⟨F1, h.ar.kept hk (fun k f e => h.off.2 (e ▸ f)), h.kp.trans hk (fun i e hi => by omega), fun k f => by
    rcases h.fo k f with f | f
    · exact .inl f
    · exact .inr (by omega)⟩
end
end Go.Proofs.Ytemmkgnbngeiaaa
