import Derived.Test.YtaeooljfilkaeaaPkAB
import Derived.Deep.RegionHeld3
/-! Within a step: the machine's box, the block for the result, the arena. -/
namespace Go.Proofs.Ytaeooljfilkaeaa
open Go.RowKit Go.HeapKit Go.IntWalk

structure Mid (w wx : World) (o : OpS) (p : Nat) (F F1 : Nat → Prop) (B : Ar) : Prop where
  box : wx.heap[w.heap.size]? = some (.cells o.vals 119 (0, 0))
  res : wx.heap[w.heap.size + 1]? = some (.cells OpS.zero.vals 119 (0, 0))
  ar : ArF wx p F1 B
  kp : Keeps F w wx
  fo : ∀ k, F1 k → F k ∨ w.heap.size + 2 ≤ k
  lo : ∀ k, F k → k < w.heap.size
section
variable {w wx wy : World} {o : OpS} {p : Nat} {F F1 : Nat → Prop} {A B : Ar}
theorem Mid.start (h : ArF w p F A) (o : OpS) : Mid w ((w.alloc (.cells o.vals 119)).alloc (.cells OpS.zero.vals 119)) o p F F A :=
  ⟨(Below.heap_alloc _ _ _ (by simp)).trans (new_at w _ _ rfl), new_at _ _ _ (by simp), (h.kept (Keeps.alloc None w _) (fun _ _ f => f)).kept (Keeps.alloc None _ _) (fun _ _ f => f),
   ((Keeps.refl F w).andAlloc _).andAlloc _, fun _ f => .inl f, fun _ f => h.lt f⟩
theorem Mid.lt (h : Mid w wx o p F F1 B) : w.heap.size + 1 < wx.heap.size := (Array.getElem?_eq_some_iff.1 h.res).1
theorem Mid.off (h : Mid w wx o p F F1 B) : ¬ F1 w.heap.size ∧ ¬ F1 (w.heap.size + 1) :=
  ⟨fun f => by rcases h.fo _ f with f | f; have := h.lo _ f; omega; omega, fun f => by rcases h.fo _ f with f | f; have := h.lo _ f; omega; omega⟩
theorem Mid.kept (h : Mid w wx o p F F1 B) (hk : Keeps None wx wy) : Mid w wy o p F F1 B := by
  have := h.lt
  exact ⟨(hk.block _ (by omega) (fun f => f)).trans h.box, (hk.block _ (by omega) (fun f => f)).trans h.res, h.ar.kept hk (fun _ _ f => f), h.kp.trans hk (fun _ f _ => f.elim), h.fo, h.lo⟩
theorem Mid.acc (h : Mid w wx o p F F1 A) (h2 : AA wx wy p F1 B) : ∃ F2, Mid w wy o p F F2 B := by
  obtain ⟨F2, g, hk, hf⟩ := h2
  have := h.lt
  refine ⟨F2, (hk.block _ (by omega) h.off.1).trans h.box, (hk.block _ (by omega) h.off.2).trans h.res, g, h.kp.trans hk (fun i f hi => ?_), fun k f => ?_, h.lo⟩
  · rcases h.fo i f with f | f
    · exact f
    · omega
  · rcases hf k f with f | f
    · exact h.fo k f
    · exact .inr (by omega)
theorem Mid.put (h : Mid w wx o p F F1 B) (i : Nat) (v : Value) (o' : OpS) (ho : o'.vals = o.vals.setIfInBounds i v) : Mid w (wx.setCell ⟨w.heap.size, i, none⟩ v) o' p F F1 B := by
  have hk := Keeps.setCell (S := (· = w.heap.size)) wx (a := ⟨w.heap.size, i, none⟩) rfl v
  refine ⟨?_, (hk.block _ h.lt (by omega)).trans h.res, h.ar.kept hk (fun k f e => h.off.1 (e ▸ f)), h.kp.trans hk (fun i e hi => by omega), h.fo, h.lo⟩
  rw [setCell_block h.box v, ho]
theorem Mid.cell (h : Mid w wx o p F F1 B) (i : Nat) : wx.cell? ⟨w.heap.size, i, none⟩ = o.vals[i]? := cell_of_block h.box i
theorem Mid.free (h : Mid w wx o p F F1 B) (i : Nat) : wx.frozen? ⟨w.heap.size, i, none⟩ = false := free_of_block h.box i
theorem Mid.cells {x0 x1 x2 x3 x4 x5 x6 x7 x8 x9 x10 x11 x12 : Int} (h : Mid w wx (OpS.mk x0 x1 x2 x3 x4 x5 x6 x7 x8 x9 x10 x11 x12) p F F1 B) : wx.cell? ⟨w.heap.size, 0, none⟩ = some (.int .i64 x0) ∧ wx.cell? ⟨w.heap.size, 1, none⟩ = some (.int .i64 x1) ∧ wx.cell? ⟨w.heap.size, 2, none⟩ = some (.int .i64 x2) ∧ wx.cell? ⟨w.heap.size, 3, none⟩ = some (.int .i64 x3) ∧ wx.cell? ⟨w.heap.size, 4, none⟩ = some (.int .i64 x4) ∧ wx.cell? ⟨w.heap.size, 5, none⟩ = some (.int .i64 x5) ∧ wx.cell? ⟨w.heap.size, 6, none⟩ = some (.int .i64 x6) ∧ wx.cell? ⟨w.heap.size, 7, none⟩ = some (.int .i64 x7) ∧ wx.cell? ⟨w.heap.size, 8, none⟩ = some (.int .i64 x8) ∧ wx.cell? ⟨w.heap.size, 9, none⟩ = some (.int .i64 x9) ∧ wx.cell? ⟨w.heap.size, 10, none⟩ = some (.int .i64 x10) ∧ wx.cell? ⟨w.heap.size, 11, none⟩ = some (.int .i64 x11) ∧ wx.cell? ⟨w.heap.size, 12, none⟩ = some (.int .i64 x12) :=
  ⟨h.cell 0, h.cell 1, h.cell 2, h.cell 3, h.cell 4, h.cell 5, h.cell 6, h.cell 7, h.cell 8, h.cell 9, h.cell 10, h.cell 11, h.cell 12⟩
theorem Mid.rcells (h : Mid w wx o p F F1 B) : wx.cell? ⟨w.heap.size + 1, 0, none⟩ = some (.int .i64 0) ∧ wx.cell? ⟨w.heap.size + 1, 1, none⟩ = some (.int .i64 0) ∧ wx.cell? ⟨w.heap.size + 1, 2, none⟩ = some (.int .i64 0) ∧ wx.cell? ⟨w.heap.size + 1, 3, none⟩ = some (.int .i64 0) ∧ wx.cell? ⟨w.heap.size + 1, 4, none⟩ = some (.int .i64 0) ∧ wx.cell? ⟨w.heap.size + 1, 5, none⟩ = some (.int .i64 0) ∧ wx.cell? ⟨w.heap.size + 1, 6, none⟩ = some (.int .i64 0) ∧ wx.cell? ⟨w.heap.size + 1, 7, none⟩ = some (.int .i64 0) ∧ wx.cell? ⟨w.heap.size + 1, 8, none⟩ = some (.int .i64 0) ∧ wx.cell? ⟨w.heap.size + 1, 9, none⟩ = some (.int .i64 0) ∧ wx.cell? ⟨w.heap.size + 1, 10, none⟩ = some (.int .i64 0) ∧ wx.cell? ⟨w.heap.size + 1, 11, none⟩ = some (.int .i64 0) ∧ wx.cell? ⟨w.heap.size + 1, 12, none⟩ = some (.int .i64 0) :=
  ⟨cell_of_block h.res 0, cell_of_block h.res 1, cell_of_block h.res 2, cell_of_block h.res 3, cell_of_block h.res 4, cell_of_block h.res 5, cell_of_block h.res 6, cell_of_block h.res 7, cell_of_block h.res 8, cell_of_block h.res 9, cell_of_block h.res 10, cell_of_block h.res 11, cell_of_block h.res 12⟩
theorem Mid.rfree (h : Mid w wx o p F F1 B) (i : Nat) : wx.frozen? ⟨w.heap.size + 1, i, none⟩ = false := free_of_block h.res i
theorem Mid.box13 (h : Mid w wx o p F F1 B) (x0 x1 x2 x3 x4 x5 x6 x7 x8 x9 x10 x11 x12 : Int) : Mid w (((((((((((((wx.setCell ⟨w.heap.size, 0, none⟩ (.int .i64 x0)).setCell ⟨w.heap.size, 1, none⟩ (.int .i64 x1)).setCell ⟨w.heap.size, 2, none⟩ (.int .i64 x2)).setCell ⟨w.heap.size, 3, none⟩ (.int .i64 x3)).setCell ⟨w.heap.size, 4, none⟩ (.int .i64 x4)).setCell ⟨w.heap.size, 5, none⟩ (.int .i64 x5)).setCell ⟨w.heap.size, 6, none⟩ (.int .i64 x6)).setCell ⟨w.heap.size, 7, none⟩ (.int .i64 x7)).setCell ⟨w.heap.size, 8, none⟩ (.int .i64 x8)).setCell ⟨w.heap.size, 9, none⟩ (.int .i64 x9)).setCell ⟨w.heap.size, 10, none⟩ (.int .i64 x10)).setCell ⟨w.heap.size, 11, none⟩ (.int .i64 x11)).setCell ⟨w.heap.size, 12, none⟩ (.int .i64 x12)) (OpS.mk x0 x1 x2 x3 x4 x5 x6 x7 x8 x9 x10 x11 x12) p F F1 B := by
  obtain ⟨h1, h2⟩ := op_set (w1 := wx) (g := w.heap.size) (c := o.vals) rfl h.box (.int .i64 x0) (.int .i64 x1) (.int .i64 x2) (.int .i64 x3) (.int .i64 x4) (.int .i64 x5) (.int .i64 x6) (.int .i64 x7) (.int .i64 x8) (.int .i64 x9) (.int .i64 x10) (.int .i64 x11) (.int .i64 x12)
  exact ⟨h1, (h2.block _ h.lt (by omega)).trans h.res, h.ar.kept h2 (fun k f e => h.off.1 (e ▸ f)), h.kp.trans h2 (fun i e hi => by omega), h.fo, h.lo⟩
theorem Mid.fin (h : Mid w wx o p F F1 B) (hk : Keeps (· = w.heap.size + 1) wx wy) : AA w wy p F B :=
  ⟨F1, h.ar.kept hk (fun k f e => h.off.2 (e ▸ f)), h.kp.trans hk (fun i e hi => by omega), fun k f => by
    rcases h.fo k f with f | f
    · exact .inl f
    · exact .inr (by omega)⟩
end
end Go.Proofs.Ytaeooljfilkaeaa
/-! The machine's own functions on itself. -/
namespace Go.Proofs.Ytaeooljfilkaeaa
open Go.RowKit Go.HeapKit Go.IntWalk

def grownV (c m : Int) : Int := if m < wrap64 (2 * c) then m else wrap64 (2 * c)
theorem grownw_any (c m : Int) (w : World) : Calls Try.prog 44 #[.int .i64 c, .int .i64 m] w fun e w' => e = .returned (.int .i64 (grownV c m)) ∧ w' = w := by
  by_cases h : m < wrap64 (2 * c)
  · go_enter Try.func44, Try.ntmps44
    go_wp2
    go_ret
    exact ⟨by rw [grownV, if_pos h]; rfl, rfl⟩
  · have h' : wrap64 (2 * c) ≤ m := by omega
    go_enter Try.func44, Try.ntmps44
    go_wp2
    go_ret
    exact ⟨by rw [grownV, if_neg (by omega)]; rfl, rfl⟩
theorem bufferw_any (n : Int) (w : World) : Calls Try.prog 43 #[.int .i64 n] w fun e w' => e = .returned (.int .i64 (wrap64 (1 + n))) ∧ w' = w := by
  go_enter Try.func43, Try.ntmps43
  go_wp2
  go_ret
  exact ⟨rfl, rfl⟩
theorem zcells {w1 : World} {g : Nat} {t : TypeId} (hb : w1.heap[g]? = some (.cells OpS.zero.vals t (0, 0))) : w1.cell? ⟨g, 0, none⟩ = some (.int .i64 0) ∧ w1.cell? ⟨g, 1, none⟩ = some (.int .i64 0) ∧ w1.cell? ⟨g, 2, none⟩ = some (.int .i64 0) ∧ w1.cell? ⟨g, 3, none⟩ = some (.int .i64 0) ∧ w1.cell? ⟨g, 4, none⟩ = some (.int .i64 0) ∧ w1.cell? ⟨g, 5, none⟩ = some (.int .i64 0) ∧ w1.cell? ⟨g, 6, none⟩ = some (.int .i64 0) ∧ w1.cell? ⟨g, 7, none⟩ = some (.int .i64 0) ∧ w1.cell? ⟨g, 8, none⟩ = some (.int .i64 0) ∧ w1.cell? ⟨g, 9, none⟩ = some (.int .i64 0) ∧ w1.cell? ⟨g, 10, none⟩ = some (.int .i64 0) ∧ w1.cell? ⟨g, 11, none⟩ = some (.int .i64 0) ∧ w1.cell? ⟨g, 12, none⟩ = some (.int .i64 0) :=
  ⟨cell_of_block hb 0, cell_of_block hb 1, cell_of_block hb 2, cell_of_block hb 3, cell_of_block hb 4, cell_of_block hb 5, cell_of_block hb 6, cell_of_block hb 7, cell_of_block hb 8, cell_of_block hb 9, cell_of_block hb 10, cell_of_block hb 11, cell_of_block hb 12⟩
def flatS (o : OpS) (next : Int) : OpS := if o.c < 1 then OpS.zero else { o with at_ := next }
def decidedS (o : OpS) (won : Bool) (other : Int) : OpS := if won then { o with code := 4 } else { o with code := other, v := 0 }
def measuredS (o : OpS) : OpS := if o.c < 1 then OpS.zero else if wrap64 (o.b - o.t) < o.c then { o with at_ := 6 } else if o.most ≤ o.c then OpS.ended 3 0 else { o with nc := grownV o.c o.most, at_ := 8 }
set_option maxHeartbeats 4000000 in
theorem flat_any (o : OpS) (next : Int) (w : World) : Calls Try.prog 81 #[o.value, .int .i64 next] w fun e w' => e = .returned (flatS o next).value ∧ Keeps None w w' := by
  obtain ⟨base, most, at_, code, v, t, b, a, c, na, nc, ix, mv⟩ := o
  by_cases h : c < 1
  · rw [show flatS _ next = OpS.zero by simp [flatS, h]]
    simp only [OpS.value, OpS.vals, OpS.zero]
    go_enter Try.func81, Try.ntmps81
    go_wp2
    exact op_ret1 4 rfl (new_at _ _ _ (by simp)) rfl rfl ⟨rfl, ((Keeps.refl None w).andAlloc _).andAlloc _⟩
  · rw [show flatS _ next = _ by simp only [flatS, if_neg h]; rfl]
    simp only [OpS.value, OpS.vals]
    go_enter Try.func81, Try.ntmps81
    go_wp2
    exact op_ret1 4 rfl (new_at _ _ _ (by simp)) rfl rfl ⟨rfl, ((Keeps.refl None w).andAlloc _).andAlloc _⟩
set_option maxHeartbeats 4000000 in
theorem decided_any (o : OpS) (won : Bool) (other : Int) (w : World) : Calls Try.prog 82 #[o.value, .bool won, .int .i64 other] w fun e w' => e = .returned (decidedS o won other).value ∧ Keeps None w w' := by
  obtain ⟨base, most, at_, code, v, t, b, a, c, na, nc, ix, mv⟩ := o
  cases won with
  | true =>
    simp only [decidedS, if_true, OpS.value, OpS.vals]
    go_enter Try.func82, Try.ntmps82
    go_wp2
    exact op_ret1 6 rfl (new_at _ _ _ (by simp)) rfl rfl ⟨rfl, ((Keeps.refl None w).andAlloc _).andAlloc _⟩
  | false =>
    simp only [decidedS, OpS.value, OpS.vals]
    go_enter Try.func82, Try.ntmps82
    go_wp2
    exact op_ret1 6 rfl (new_at _ _ _ (by simp)) rfl rfl ⟨rfl, ((Keeps.refl None w).andAlloc _).andAlloc _⟩
set_option maxHeartbeats 4000000 in
theorem measured_any (o : OpS) (w : World) : Calls Try.prog 79 #[o.value] w fun e w' => e = .returned (measuredS o).value ∧ Keeps None w w' := by
  obtain ⟨base, most, at_, code, v, t, b, a, c, na, nc, ix, mv⟩ := o
  by_cases h : c < 1
  · rw [show measuredS _ = OpS.zero by simp [measuredS, h]]
    simp only [OpS.value, OpS.vals, OpS.zero]
    go_enter Try.func79, Try.ntmps79
    go_wp2
    exact op_ret1 2 rfl (new_at _ _ _ (by simp)) rfl rfl ⟨rfl, ((Keeps.refl None w).andAlloc _).andAlloc _⟩
  by_cases h2 : wrap64 (b - t) < c
  · rw [show measuredS _ = _ by simp only [measuredS, if_neg h, if_pos h2]; rfl]
    simp only [OpS.value, OpS.vals]
    go_enter Try.func79, Try.ntmps79
    go_wp2
    exact op_ret1 2 rfl (new_at _ _ _ (by simp)) rfl rfl ⟨rfl, ((Keeps.refl None w).andAlloc _).andAlloc _⟩
  by_cases h3 : most ≤ c
  · rw [show measuredS _ = OpS.ended 3 0 by simp only [measuredS, if_neg h, if_neg h2, if_pos h3]]
    have hend := opend_any 3 0
    simp only [OpS.value, OpS.vals, OpS.ended] at hend ⊢
    go_enter Try.func79, Try.ntmps79
    go_wp2_with fail
    refine (hend _).mono ?_
    rintro e w2 ⟨rfl, hk⟩
    have hb := (hk.block (w.heap.size + 1) (by simp) (fun f => f)).trans (new_at _ _ _ (by simp))
    have HK : Hid _ := hk
    obtain ⟨r0, r1, r2, r3, r4, r5, r6, r7, r8, r9, r10, r11, r12⟩ := zcells hb
    have s0 := free_of_block hb 0
    have s1 := free_of_block hb 1
    have s2 := free_of_block hb 2
    have s3 := free_of_block hb 3
    have s4 := free_of_block hb 4
    have s5 := free_of_block hb 5
    have s6 := free_of_block hb 6
    have s7 := free_of_block hb 7
    have s8 := free_of_block hb 8
    have s9 := free_of_block hb 9
    have s10 := free_of_block hb 10
    have s11 := free_of_block hb 11
    have s12 := free_of_block hb 12
    clear hk hend
    go_wp2
    exact op_end1 2 rfl rfl hb rfl rfl _ _ _ _ _ _ _ _ _ _ _ _ _ (fun w' hk2 => ⟨rfl, (((Keeps.refl None w).andAlloc _).andAlloc _ |>.trans HK.out (fun _ f _ => f)).trans hk2 (fun i e hi => by omega)⟩)
  · rw [show measuredS _ = _ by simp only [measuredS, if_neg h, if_neg h2, if_neg h3]; rfl]
    have hg := grownw_any c most
    generalize grownV c most = gr at hg ⊢
    simp only [OpS.value, OpS.vals]
    go_enter Try.func79, Try.ntmps79
    go_wp2_with fail
    refine (hg _).mono ?_
    rintro e w' ⟨rfl, hw⟩
    have hw2 := hw.symm
    subst hw2
    clear hw hg
    go_wp2
    exact op_ret1 2 rfl (new_at _ _ _ (by simp)) rfl rfl ⟨rfl, ((Keeps.refl None w).andAlloc _).andAlloc _⟩
end Go.Proofs.Ytaeooljfilkaeaa
/-! A step, plainly: which access a machine makes, what it is behind it. -/
namespace Go.Proofs.Ytaeooljfilkaeaa
open Go.RowKit Go.HeapKit Go.IntWalk

/-- The access of a machine that stands at a point from 2 on: kind, address, the two numbers. -/
def OpS.want (o : OpS) : Int × Int × Int × Int :=
  if o.at_ = 2 then (0, wrap64 (o.base + 1), 0, 0)
  else if o.at_ = 3 then (0, wrap64 o.base, 0, 0)
  else if o.at_ = 4 then (0, wrap64 (o.base + 2), 0, 0)
  else if o.at_ = 5 then (0, o.a, 0, 0)
  else if o.at_ = 6 then (1, placeV o.a o.c o.b, o.v, 0)
  else if o.at_ = 7 then (1, wrap64 (o.base + 1), wrap64 (o.b + 1), 0)
  else if o.at_ = 8 then (4, 0, wrap64 (1 + o.nc), 0)
  else if o.at_ = 9 then (1, o.na, o.nc, 0)
  else if o.at_ = 10 then (0, placeV o.a o.c o.ix, 0, 0)
  else if o.at_ = 11 then (1, placeV o.na o.nc o.ix, o.mv, 0)
  else if o.at_ = 12 then (1, wrap64 (o.base + 2), o.na, 0)
  else if o.at_ = 13 then (0, wrap64 (o.base + 1), 0, 0)
  else if o.at_ = 14 then (0, wrap64 (o.base + 2), 0, 0)
  else if o.at_ = 15 then (1, wrap64 (o.base + 1), o.b, 0)
  else if o.at_ = 16 then (0, wrap64 o.base, 0, 0)
  else if o.at_ = 17 then (1, wrap64 (o.base + 1), o.t, 0)
  else if o.at_ = 18 then (0, o.a, 0, 0)
  else if o.at_ = 19 then (0, placeV o.a o.c o.b, 0, 0)
  else if o.at_ = 20 then (2, wrap64 o.base, o.t, wrap64 (o.t + 1))
  else if o.at_ = 21 then (1, wrap64 (o.base + 1), wrap64 (o.t + 1), 0)
  else if o.at_ = 22 then (0, wrap64 o.base, 0, 0)
  else if o.at_ = 23 then (0, wrap64 (o.base + 1), 0, 0)
  else if o.at_ = 24 then (0, wrap64 (o.base + 2), 0, 0)
  else if o.at_ = 25 then (0, o.a, 0, 0)
  else if o.at_ = 26 then (0, placeV o.a o.c o.t, 0, 0)
  else if o.at_ = 27 then (2, wrap64 o.base, o.t, wrap64 (o.t + 1))
  else if o.at_ = 28 then (0, wrap64 o.base, 0, 0)
  else (0, wrap64 (o.base + 1), 0, 0)
/-- What the machine is behind an access that was let, by its answer. -/
def OpS.went (o : OpS) (x : Int) (ok : Bool) : OpS :=
  if o.at_ = 2 then { o with b := x, at_ := 3 }
  else if o.at_ = 3 then { o with t := x, at_ := 4 }
  else if o.at_ = 4 then { o with a := x, at_ := 5 }
  else if o.at_ = 5 then measuredS { o with c := x }
  else if o.at_ = 6 then { o with at_ := 7 }
  else if o.at_ = 7 then OpS.ended 2 0
  else if o.at_ = 8 then { o with na := x, at_ := 9 }
  else if o.at_ = 9 then { o with ix := o.t, at_ := 10 }
  else if o.at_ = 10 then { o with mv := x, at_ := 11 }
  else if o.at_ = 11 then if wrap64 (o.ix + 1) = o.b then { o with ix := wrap64 (o.ix + 1), at_ := 12 } else { o with ix := wrap64 (o.ix + 1), at_ := 10 }
  else if o.at_ = 12 then { o with a := o.na, c := o.nc, at_ := 6 }
  else if o.at_ = 13 then { o with b := wrap64 (x - 1), at_ := 14 }
  else if o.at_ = 14 then { o with a := x, at_ := 15 }
  else if o.at_ = 15 then { o with at_ := 16 }
  else if o.at_ = 16 then if o.b < x then { o with t := x, at_ := 17 } else { o with t := x, at_ := 18 }
  else if o.at_ = 17 then OpS.ended 5 0
  else if o.at_ = 18 then flatS { o with c := x } 19
  else if o.at_ = 19 then if o.t < o.b then OpS.ended 4 x else { o with v := x, at_ := 20 }
  else if o.at_ = 20 then { decidedS o ok 5 with at_ := 21 }
  else if o.at_ = 21 then OpS.ended o.code o.v
  else if o.at_ = 22 then { o with t := x, at_ := 23 }
  else if o.at_ = 23 then if x ≤ o.t then OpS.ended 5 0 else { o with b := x, at_ := 24 }
  else if o.at_ = 24 then { o with a := x, at_ := 25 }
  else if o.at_ = 25 then flatS { o with c := x } 26
  else if o.at_ = 26 then { o with v := x, at_ := 27 }
  else if o.at_ = 27 then OpS.ended (decidedS o ok 6).code (decidedS o ok 6).v
  else if o.at_ = 28 then { o with t := x, at_ := 29 }
  else if o.t < x then OpS.ended 7 0 else OpS.ended 8 0
def OpS.acc (o : OpS) (A : Ar) : Eff × Ar := A.did o.want.1 o.want.2.1 o.want.2.2.1 o.want.2.2.2
open Classical in
/-- A step. -/
noncomputable def OpS.step (o : OpS) (A : Ar) : OpS × Ar :=
  if o = OpS.zero ∨ o.at_ = 1 then (o, A)
  else if (o.acc A).1.err = 0 then (o.went (o.acc A).1.v (o.acc A).1.ok, (o.acc A).2) else (OpS.zero, (o.acc A).2)
end Go.Proofs.Ytaeooljfilkaeaa
namespace Go.Proofs.Ytaeooljfilkaeaa
open Go.RowKit Go.HeapKit Go.IntWalk

set_option maxHeartbeats 1600000 in
set_option maxRecDepth 100000 in
theorem step_push (p : Nat) (F : Nat → Prop) (A B : Ar) (base most at_ code v t b a c na nc ix mv : Int) (o' : OpS) (err : Int) (w : World) (h : ArF w p F A) (h0 : (at_ == 0) = false) (h1 : (at_ == 1) = false) (h8 : at_ < 8)
    (hmet : ∀ w F, ArF w p F A → Calls Try.prog 70 #[(OpS.mk base most at_ code v t b a c na nc ix mv).value, .iface 58 (.pointer (some ⟨p, 0, none⟩))] w fun e w' => e = .returned (.tuple #[o'.value, .int .i64 err]) ∧ AA w w' p F B) :
    Calls Try.prog 49 #[.iface 58 (.pointer (some ⟨p, 0, none⟩)), (OpS.mk base most at_ code v t b a c na nc ix mv).value] w fun e w' => e = .returned (if err = 0 then o' else OpS.zero).value ∧ AA w w' p F B := by
  have h0' : ¬ at_ = 0 := by simpa using h0
  have HM : Hid _ := Mid.start h (OpS.mk base most at_ code v t b a c na nc ix mv)
  have hmm := hmet _ F HM.out.ar
  clear hmet h
  obtain ⟨m0, m1, m2, m3, m4, m5, m6, m7, m8, m9, m10, m11, m12⟩ := o'
  by_cases he : err = 0
  · subst he
    simp only [if_true, OpS.value, OpS.vals, OpS.zero] at hmm ⊢
    go_enter Try.func49, Try.ntmps49
    go_wp2_with fail
    refine hmm.mono ?_
    rintro e w3 ⟨rfl, hA3⟩
    obtain ⟨F3, hM3⟩ := HM.out.acc hA3
    obtain ⟨c0, c1, c2, c3, c4, c5, c6, c7, c8, c9, c10, c11, c12⟩ := hM3.cells
    obtain ⟨r0, r1, r2, r3, r4, r5, r6, r7, r8, r9, r10, r11, r12⟩ := hM3.rcells
    have s0 := hM3.rfree 0
    have s1 := hM3.rfree 1
    have s2 := hM3.rfree 2
    have s3 := hM3.rfree 3
    have s4 := hM3.rfree 4
    have s5 := hM3.rfree 5
    have s6 := hM3.rfree 6
    have s7 := hM3.rfree 7
    have s8 := hM3.rfree 8
    have s9 := hM3.rfree 9
    have s10 := hM3.rfree 10
    have s11 := hM3.rfree 11
    have s12 := hM3.rfree 12
    have q0 := hM3.free 0
    have q1 := hM3.free 1
    have q2 := hM3.free 2
    have q3 := hM3.free 3
    have q4 := hM3.free 4
    have q5 := hM3.free 5
    have q6 := hM3.free 6
    have q7 := hM3.free 7
    have q8 := hM3.free 8
    have q9 := hM3.free 9
    have q10 := hM3.free 10
    have q11 := hM3.free 11
    have q12 := hM3.free 12
    have HN : Hid _ := hM3.box13 m0 m1 m2 m3 m4 m5 m6 m7 m8 m9 m10 m11 m12
    clear hM3 hA3 hmm HM
    go_wp2_with fail
    exact op_end1 4 rfl rfl HN.out.res rfl rfl _ _ _ _ _ _ _ _ _ _ _ _ _ (fun w' hk => ⟨rfl, HN.out.fin hk⟩)
  · have he' : (err != 0) = true := by simpa using he
    rw [if_neg he]
    simp only [OpS.value, OpS.vals, OpS.zero] at hmm ⊢
    go_enter Try.func49, Try.ntmps49
    go_wp2_with fail
    refine hmm.mono ?_
    rintro e w3 ⟨rfl, hA3⟩
    obtain ⟨F3, hM3⟩ := HM.out.acc hA3
    obtain ⟨c0, c1, c2, c3, c4, c5, c6, c7, c8, c9, c10, c11, c12⟩ := hM3.cells
    obtain ⟨r0, r1, r2, r3, r4, r5, r6, r7, r8, r9, r10, r11, r12⟩ := hM3.rcells
    have s0 := hM3.rfree 0
    have s1 := hM3.rfree 1
    have s2 := hM3.rfree 2
    have s3 := hM3.rfree 3
    have s4 := hM3.rfree 4
    have s5 := hM3.rfree 5
    have s6 := hM3.rfree 6
    have s7 := hM3.rfree 7
    have s8 := hM3.rfree 8
    have s9 := hM3.rfree 9
    have s10 := hM3.rfree 10
    have s11 := hM3.rfree 11
    have s12 := hM3.rfree 12
    have q0 := hM3.free 0
    have q1 := hM3.free 1
    have q2 := hM3.free 2
    have q3 := hM3.free 3
    have q4 := hM3.free 4
    have q5 := hM3.free 5
    have q6 := hM3.free 6
    have q7 := hM3.free 7
    have q8 := hM3.free 8
    have q9 := hM3.free 9
    have q10 := hM3.free 10
    have q11 := hM3.free 11
    have q12 := hM3.free 12
    have HN : Hid _ := hM3.box13 m0 m1 m2 m3 m4 m5 m6 m7 m8 m9 m10 m11 m12
    clear hM3 hA3 hmm HM
    go_wp2_with fail
    exact op_end1 4 rfl rfl HN.out.res rfl rfl _ _ _ _ _ _ _ _ _ _ _ _ _ (fun w' hk => ⟨rfl, HN.out.fin hk⟩)
end Go.Proofs.Ytaeooljfilkaeaa
namespace Go.Proofs.Ytaeooljfilkaeaa
open Go.RowKit Go.HeapKit Go.IntWalk

set_option maxHeartbeats 1600000 in
set_option maxRecDepth 100000 in
theorem step_grow (p : Nat) (F : Nat → Prop) (A B : Ar) (base most at_ code v t b a c na nc ix mv : Int) (o' : OpS) (err : Int) (w : World) (h : ArF w p F A) (h0 : (at_ == 0) = false) (h1 : (at_ == 1) = false) (h8 : ¬ at_ < 8) (h13 : at_ < 13)
    (hmet : ∀ w F, ArF w p F A → Calls Try.prog 71 #[(OpS.mk base most at_ code v t b a c na nc ix mv).value, .iface 58 (.pointer (some ⟨p, 0, none⟩))] w fun e w' => e = .returned (.tuple #[o'.value, .int .i64 err]) ∧ AA w w' p F B) :
    Calls Try.prog 49 #[.iface 58 (.pointer (some ⟨p, 0, none⟩)), (OpS.mk base most at_ code v t b a c na nc ix mv).value] w fun e w' => e = .returned (if err = 0 then o' else OpS.zero).value ∧ AA w w' p F B := by
  have h0' : ¬ at_ = 0 := by simpa using h0
  have HM : Hid _ := Mid.start h (OpS.mk base most at_ code v t b a c na nc ix mv)
  have hmm := hmet _ F HM.out.ar
  clear hmet h
  obtain ⟨m0, m1, m2, m3, m4, m5, m6, m7, m8, m9, m10, m11, m12⟩ := o'
  by_cases he : err = 0
  · subst he
    simp only [if_true, OpS.value, OpS.vals, OpS.zero] at hmm ⊢
    go_enter Try.func49, Try.ntmps49
    go_wp2_with fail
    refine hmm.mono ?_
    rintro e w3 ⟨rfl, hA3⟩
    obtain ⟨F3, hM3⟩ := HM.out.acc hA3
    obtain ⟨c0, c1, c2, c3, c4, c5, c6, c7, c8, c9, c10, c11, c12⟩ := hM3.cells
    obtain ⟨r0, r1, r2, r3, r4, r5, r6, r7, r8, r9, r10, r11, r12⟩ := hM3.rcells
    have s0 := hM3.rfree 0
    have s1 := hM3.rfree 1
    have s2 := hM3.rfree 2
    have s3 := hM3.rfree 3
    have s4 := hM3.rfree 4
    have s5 := hM3.rfree 5
    have s6 := hM3.rfree 6
    have s7 := hM3.rfree 7
    have s8 := hM3.rfree 8
    have s9 := hM3.rfree 9
    have s10 := hM3.rfree 10
    have s11 := hM3.rfree 11
    have s12 := hM3.rfree 12
    have q0 := hM3.free 0
    have q1 := hM3.free 1
    have q2 := hM3.free 2
    have q3 := hM3.free 3
    have q4 := hM3.free 4
    have q5 := hM3.free 5
    have q6 := hM3.free 6
    have q7 := hM3.free 7
    have q8 := hM3.free 8
    have q9 := hM3.free 9
    have q10 := hM3.free 10
    have q11 := hM3.free 11
    have q12 := hM3.free 12
    have HN : Hid _ := hM3.box13 m0 m1 m2 m3 m4 m5 m6 m7 m8 m9 m10 m11 m12
    clear hM3 hA3 hmm HM
    go_wp2_with fail
    exact op_end1 4 rfl rfl HN.out.res rfl rfl _ _ _ _ _ _ _ _ _ _ _ _ _ (fun w' hk => ⟨rfl, HN.out.fin hk⟩)
  · have he' : (err != 0) = true := by simpa using he
    rw [if_neg he]
    simp only [OpS.value, OpS.vals, OpS.zero] at hmm ⊢
    go_enter Try.func49, Try.ntmps49
    go_wp2_with fail
    refine hmm.mono ?_
    rintro e w3 ⟨rfl, hA3⟩
    obtain ⟨F3, hM3⟩ := HM.out.acc hA3
    obtain ⟨c0, c1, c2, c3, c4, c5, c6, c7, c8, c9, c10, c11, c12⟩ := hM3.cells
    obtain ⟨r0, r1, r2, r3, r4, r5, r6, r7, r8, r9, r10, r11, r12⟩ := hM3.rcells
    have s0 := hM3.rfree 0
    have s1 := hM3.rfree 1
    have s2 := hM3.rfree 2
    have s3 := hM3.rfree 3
    have s4 := hM3.rfree 4
    have s5 := hM3.rfree 5
    have s6 := hM3.rfree 6
    have s7 := hM3.rfree 7
    have s8 := hM3.rfree 8
    have s9 := hM3.rfree 9
    have s10 := hM3.rfree 10
    have s11 := hM3.rfree 11
    have s12 := hM3.rfree 12
    have q0 := hM3.free 0
    have q1 := hM3.free 1
    have q2 := hM3.free 2
    have q3 := hM3.free 3
    have q4 := hM3.free 4
    have q5 := hM3.free 5
    have q6 := hM3.free 6
    have q7 := hM3.free 7
    have q8 := hM3.free 8
    have q9 := hM3.free 9
    have q10 := hM3.free 10
    have q11 := hM3.free 11
    have q12 := hM3.free 12
    have HN : Hid _ := hM3.box13 m0 m1 m2 m3 m4 m5 m6 m7 m8 m9 m10 m11 m12
    clear hM3 hA3 hmm HM
    go_wp2_with fail
    exact op_end1 4 rfl rfl HN.out.res rfl rfl _ _ _ _ _ _ _ _ _ _ _ _ _ (fun w' hk => ⟨rfl, HN.out.fin hk⟩)
end Go.Proofs.Ytaeooljfilkaeaa
namespace Go.Proofs.Ytaeooljfilkaeaa
open Go.RowKit Go.HeapKit Go.IntWalk

set_option maxHeartbeats 1600000 in
set_option maxRecDepth 100000 in
theorem step_pop (p : Nat) (F : Nat → Prop) (A B : Ar) (base most at_ code v t b a c na nc ix mv : Int) (o' : OpS) (err : Int) (w : World) (h : ArF w p F A) (h0 : (at_ == 0) = false) (h1 : (at_ == 1) = false) (h8 : ¬ at_ < 8) (h13 : ¬ at_ < 13) (h22 : at_ < 22)
    (hmet : ∀ w F, ArF w p F A → Calls Try.prog 72 #[(OpS.mk base most at_ code v t b a c na nc ix mv).value, .iface 58 (.pointer (some ⟨p, 0, none⟩))] w fun e w' => e = .returned (.tuple #[o'.value, .int .i64 err]) ∧ AA w w' p F B) :
    Calls Try.prog 49 #[.iface 58 (.pointer (some ⟨p, 0, none⟩)), (OpS.mk base most at_ code v t b a c na nc ix mv).value] w fun e w' => e = .returned (if err = 0 then o' else OpS.zero).value ∧ AA w w' p F B := by
  have h0' : ¬ at_ = 0 := by simpa using h0
  have HM : Hid _ := Mid.start h (OpS.mk base most at_ code v t b a c na nc ix mv)
  have hmm := hmet _ F HM.out.ar
  clear hmet h
  obtain ⟨m0, m1, m2, m3, m4, m5, m6, m7, m8, m9, m10, m11, m12⟩ := o'
  by_cases he : err = 0
  · subst he
    simp only [if_true, OpS.value, OpS.vals, OpS.zero] at hmm ⊢
    go_enter Try.func49, Try.ntmps49
    go_wp2_with fail
    refine hmm.mono ?_
    rintro e w3 ⟨rfl, hA3⟩
    obtain ⟨F3, hM3⟩ := HM.out.acc hA3
    obtain ⟨c0, c1, c2, c3, c4, c5, c6, c7, c8, c9, c10, c11, c12⟩ := hM3.cells
    obtain ⟨r0, r1, r2, r3, r4, r5, r6, r7, r8, r9, r10, r11, r12⟩ := hM3.rcells
    have s0 := hM3.rfree 0
    have s1 := hM3.rfree 1
    have s2 := hM3.rfree 2
    have s3 := hM3.rfree 3
    have s4 := hM3.rfree 4
    have s5 := hM3.rfree 5
    have s6 := hM3.rfree 6
    have s7 := hM3.rfree 7
    have s8 := hM3.rfree 8
    have s9 := hM3.rfree 9
    have s10 := hM3.rfree 10
    have s11 := hM3.rfree 11
    have s12 := hM3.rfree 12
    have q0 := hM3.free 0
    have q1 := hM3.free 1
    have q2 := hM3.free 2
    have q3 := hM3.free 3
    have q4 := hM3.free 4
    have q5 := hM3.free 5
    have q6 := hM3.free 6
    have q7 := hM3.free 7
    have q8 := hM3.free 8
    have q9 := hM3.free 9
    have q10 := hM3.free 10
    have q11 := hM3.free 11
    have q12 := hM3.free 12
    have HN : Hid _ := hM3.box13 m0 m1 m2 m3 m4 m5 m6 m7 m8 m9 m10 m11 m12
    clear hM3 hA3 hmm HM
    go_wp2_with fail
    exact op_end1 4 rfl rfl HN.out.res rfl rfl _ _ _ _ _ _ _ _ _ _ _ _ _ (fun w' hk => ⟨rfl, HN.out.fin hk⟩)
  · have he' : (err != 0) = true := by simpa using he
    rw [if_neg he]
    simp only [OpS.value, OpS.vals, OpS.zero] at hmm ⊢
    go_enter Try.func49, Try.ntmps49
    go_wp2_with fail
    refine hmm.mono ?_
    rintro e w3 ⟨rfl, hA3⟩
    obtain ⟨F3, hM3⟩ := HM.out.acc hA3
    obtain ⟨c0, c1, c2, c3, c4, c5, c6, c7, c8, c9, c10, c11, c12⟩ := hM3.cells
    obtain ⟨r0, r1, r2, r3, r4, r5, r6, r7, r8, r9, r10, r11, r12⟩ := hM3.rcells
    have s0 := hM3.rfree 0
    have s1 := hM3.rfree 1
    have s2 := hM3.rfree 2
    have s3 := hM3.rfree 3
    have s4 := hM3.rfree 4
    have s5 := hM3.rfree 5
    have s6 := hM3.rfree 6
    have s7 := hM3.rfree 7
    have s8 := hM3.rfree 8
    have s9 := hM3.rfree 9
    have s10 := hM3.rfree 10
    have s11 := hM3.rfree 11
    have s12 := hM3.rfree 12
    have q0 := hM3.free 0
    have q1 := hM3.free 1
    have q2 := hM3.free 2
    have q3 := hM3.free 3
    have q4 := hM3.free 4
    have q5 := hM3.free 5
    have q6 := hM3.free 6
    have q7 := hM3.free 7
    have q8 := hM3.free 8
    have q9 := hM3.free 9
    have q10 := hM3.free 10
    have q11 := hM3.free 11
    have q12 := hM3.free 12
    have HN : Hid _ := hM3.box13 m0 m1 m2 m3 m4 m5 m6 m7 m8 m9 m10 m11 m12
    clear hM3 hA3 hmm HM
    go_wp2_with fail
    exact op_end1 4 rfl rfl HN.out.res rfl rfl _ _ _ _ _ _ _ _ _ _ _ _ _ (fun w' hk => ⟨rfl, HN.out.fin hk⟩)
end Go.Proofs.Ytaeooljfilkaeaa
namespace Go.Proofs.Ytaeooljfilkaeaa
open Go.RowKit Go.HeapKit Go.IntWalk

set_option maxHeartbeats 1600000 in
set_option maxRecDepth 100000 in
theorem step_steal (p : Nat) (F : Nat → Prop) (A B : Ar) (base most at_ code v t b a c na nc ix mv : Int) (o' : OpS) (err : Int) (w : World) (h : ArF w p F A) (h0 : (at_ == 0) = false) (h1 : (at_ == 1) = false) (h8 : ¬ at_ < 8) (h13 : ¬ at_ < 13) (h22 : ¬ at_ < 22) (h28 : at_ < 28)
    (hmet : ∀ w F, ArF w p F A → Calls Try.prog 73 #[(OpS.mk base most at_ code v t b a c na nc ix mv).value, .iface 58 (.pointer (some ⟨p, 0, none⟩))] w fun e w' => e = .returned (.tuple #[o'.value, .int .i64 err]) ∧ AA w w' p F B) :
    Calls Try.prog 49 #[.iface 58 (.pointer (some ⟨p, 0, none⟩)), (OpS.mk base most at_ code v t b a c na nc ix mv).value] w fun e w' => e = .returned (if err = 0 then o' else OpS.zero).value ∧ AA w w' p F B := by
  have h0' : ¬ at_ = 0 := by simpa using h0
  have HM : Hid _ := Mid.start h (OpS.mk base most at_ code v t b a c na nc ix mv)
  have hmm := hmet _ F HM.out.ar
  clear hmet h
  obtain ⟨m0, m1, m2, m3, m4, m5, m6, m7, m8, m9, m10, m11, m12⟩ := o'
  by_cases he : err = 0
  · subst he
    simp only [if_true, OpS.value, OpS.vals, OpS.zero] at hmm ⊢
    go_enter Try.func49, Try.ntmps49
    go_wp2_with fail
    refine hmm.mono ?_
    rintro e w3 ⟨rfl, hA3⟩
    obtain ⟨F3, hM3⟩ := HM.out.acc hA3
    obtain ⟨c0, c1, c2, c3, c4, c5, c6, c7, c8, c9, c10, c11, c12⟩ := hM3.cells
    obtain ⟨r0, r1, r2, r3, r4, r5, r6, r7, r8, r9, r10, r11, r12⟩ := hM3.rcells
    have s0 := hM3.rfree 0
    have s1 := hM3.rfree 1
    have s2 := hM3.rfree 2
    have s3 := hM3.rfree 3
    have s4 := hM3.rfree 4
    have s5 := hM3.rfree 5
    have s6 := hM3.rfree 6
    have s7 := hM3.rfree 7
    have s8 := hM3.rfree 8
    have s9 := hM3.rfree 9
    have s10 := hM3.rfree 10
    have s11 := hM3.rfree 11
    have s12 := hM3.rfree 12
    have q0 := hM3.free 0
    have q1 := hM3.free 1
    have q2 := hM3.free 2
    have q3 := hM3.free 3
    have q4 := hM3.free 4
    have q5 := hM3.free 5
    have q6 := hM3.free 6
    have q7 := hM3.free 7
    have q8 := hM3.free 8
    have q9 := hM3.free 9
    have q10 := hM3.free 10
    have q11 := hM3.free 11
    have q12 := hM3.free 12
    have HN : Hid _ := hM3.box13 m0 m1 m2 m3 m4 m5 m6 m7 m8 m9 m10 m11 m12
    clear hM3 hA3 hmm HM
    go_wp2_with fail
    exact op_end1 4 rfl rfl HN.out.res rfl rfl _ _ _ _ _ _ _ _ _ _ _ _ _ (fun w' hk => ⟨rfl, HN.out.fin hk⟩)
  · have he' : (err != 0) = true := by simpa using he
    rw [if_neg he]
    simp only [OpS.value, OpS.vals, OpS.zero] at hmm ⊢
    go_enter Try.func49, Try.ntmps49
    go_wp2_with fail
    refine hmm.mono ?_
    rintro e w3 ⟨rfl, hA3⟩
    obtain ⟨F3, hM3⟩ := HM.out.acc hA3
    obtain ⟨c0, c1, c2, c3, c4, c5, c6, c7, c8, c9, c10, c11, c12⟩ := hM3.cells
    obtain ⟨r0, r1, r2, r3, r4, r5, r6, r7, r8, r9, r10, r11, r12⟩ := hM3.rcells
    have s0 := hM3.rfree 0
    have s1 := hM3.rfree 1
    have s2 := hM3.rfree 2
    have s3 := hM3.rfree 3
    have s4 := hM3.rfree 4
    have s5 := hM3.rfree 5
    have s6 := hM3.rfree 6
    have s7 := hM3.rfree 7
    have s8 := hM3.rfree 8
    have s9 := hM3.rfree 9
    have s10 := hM3.rfree 10
    have s11 := hM3.rfree 11
    have s12 := hM3.rfree 12
    have q0 := hM3.free 0
    have q1 := hM3.free 1
    have q2 := hM3.free 2
    have q3 := hM3.free 3
    have q4 := hM3.free 4
    have q5 := hM3.free 5
    have q6 := hM3.free 6
    have q7 := hM3.free 7
    have q8 := hM3.free 8
    have q9 := hM3.free 9
    have q10 := hM3.free 10
    have q11 := hM3.free 11
    have q12 := hM3.free 12
    have HN : Hid _ := hM3.box13 m0 m1 m2 m3 m4 m5 m6 m7 m8 m9 m10 m11 m12
    clear hM3 hA3 hmm HM
    go_wp2_with fail
    exact op_end1 4 rfl rfl HN.out.res rfl rfl _ _ _ _ _ _ _ _ _ _ _ _ _ (fun w' hk => ⟨rfl, HN.out.fin hk⟩)
end Go.Proofs.Ytaeooljfilkaeaa
namespace Go.Proofs.Ytaeooljfilkaeaa
open Go.RowKit Go.HeapKit Go.IntWalk

set_option maxHeartbeats 1600000 in
set_option maxRecDepth 100000 in
theorem step_look (p : Nat) (F : Nat → Prop) (A B : Ar) (base most at_ code v t b a c na nc ix mv : Int) (o' : OpS) (err : Int) (w : World) (h : ArF w p F A) (h0 : (at_ == 0) = false) (h1 : (at_ == 1) = false) (h8 : ¬ at_ < 8) (h13 : ¬ at_ < 13) (h22 : ¬ at_ < 22) (h28 : ¬ at_ < 28)
    (hmet : ∀ w F, ArF w p F A → Calls Try.prog 74 #[(OpS.mk base most at_ code v t b a c na nc ix mv).value, .iface 58 (.pointer (some ⟨p, 0, none⟩))] w fun e w' => e = .returned (.tuple #[o'.value, .int .i64 err]) ∧ AA w w' p F B) :
    Calls Try.prog 49 #[.iface 58 (.pointer (some ⟨p, 0, none⟩)), (OpS.mk base most at_ code v t b a c na nc ix mv).value] w fun e w' => e = .returned (if err = 0 then o' else OpS.zero).value ∧ AA w w' p F B := by
  have h0' : ¬ at_ = 0 := by simpa using h0
  have HM : Hid _ := Mid.start h (OpS.mk base most at_ code v t b a c na nc ix mv)
  have hmm := hmet _ F HM.out.ar
  clear hmet h
  obtain ⟨m0, m1, m2, m3, m4, m5, m6, m7, m8, m9, m10, m11, m12⟩ := o'
  by_cases he : err = 0
  · subst he
    simp only [if_true, OpS.value, OpS.vals, OpS.zero] at hmm ⊢
    go_enter Try.func49, Try.ntmps49
    go_wp2_with fail
    refine hmm.mono ?_
    rintro e w3 ⟨rfl, hA3⟩
    obtain ⟨F3, hM3⟩ := HM.out.acc hA3
    obtain ⟨c0, c1, c2, c3, c4, c5, c6, c7, c8, c9, c10, c11, c12⟩ := hM3.cells
    obtain ⟨r0, r1, r2, r3, r4, r5, r6, r7, r8, r9, r10, r11, r12⟩ := hM3.rcells
    have s0 := hM3.rfree 0
    have s1 := hM3.rfree 1
    have s2 := hM3.rfree 2
    have s3 := hM3.rfree 3
    have s4 := hM3.rfree 4
    have s5 := hM3.rfree 5
    have s6 := hM3.rfree 6
    have s7 := hM3.rfree 7
    have s8 := hM3.rfree 8
    have s9 := hM3.rfree 9
    have s10 := hM3.rfree 10
    have s11 := hM3.rfree 11
    have s12 := hM3.rfree 12
    have q0 := hM3.free 0
    have q1 := hM3.free 1
    have q2 := hM3.free 2
    have q3 := hM3.free 3
    have q4 := hM3.free 4
    have q5 := hM3.free 5
    have q6 := hM3.free 6
    have q7 := hM3.free 7
    have q8 := hM3.free 8
    have q9 := hM3.free 9
    have q10 := hM3.free 10
    have q11 := hM3.free 11
    have q12 := hM3.free 12
    have HN : Hid _ := hM3.box13 m0 m1 m2 m3 m4 m5 m6 m7 m8 m9 m10 m11 m12
    clear hM3 hA3 hmm HM
    go_wp2_with fail
    exact op_end1 4 rfl rfl HN.out.res rfl rfl _ _ _ _ _ _ _ _ _ _ _ _ _ (fun w' hk => ⟨rfl, HN.out.fin hk⟩)
  · have he' : (err != 0) = true := by simpa using he
    rw [if_neg he]
    simp only [OpS.value, OpS.vals, OpS.zero] at hmm ⊢
    go_enter Try.func49, Try.ntmps49
    go_wp2_with fail
    refine hmm.mono ?_
    rintro e w3 ⟨rfl, hA3⟩
    obtain ⟨F3, hM3⟩ := HM.out.acc hA3
    obtain ⟨c0, c1, c2, c3, c4, c5, c6, c7, c8, c9, c10, c11, c12⟩ := hM3.cells
    obtain ⟨r0, r1, r2, r3, r4, r5, r6, r7, r8, r9, r10, r11, r12⟩ := hM3.rcells
    have s0 := hM3.rfree 0
    have s1 := hM3.rfree 1
    have s2 := hM3.rfree 2
    have s3 := hM3.rfree 3
    have s4 := hM3.rfree 4
    have s5 := hM3.rfree 5
    have s6 := hM3.rfree 6
    have s7 := hM3.rfree 7
    have s8 := hM3.rfree 8
    have s9 := hM3.rfree 9
    have s10 := hM3.rfree 10
    have s11 := hM3.rfree 11
    have s12 := hM3.rfree 12
    have q0 := hM3.free 0
    have q1 := hM3.free 1
    have q2 := hM3.free 2
    have q3 := hM3.free 3
    have q4 := hM3.free 4
    have q5 := hM3.free 5
    have q6 := hM3.free 6
    have q7 := hM3.free 7
    have q8 := hM3.free 8
    have q9 := hM3.free 9
    have q10 := hM3.free 10
    have q11 := hM3.free 11
    have q12 := hM3.free 12
    have HN : Hid _ := hM3.box13 m0 m1 m2 m3 m4 m5 m6 m7 m8 m9 m10 m11 m12
    clear hM3 hA3 hmm HM
    go_wp2_with fail
    exact op_end1 4 rfl rfl HN.out.res rfl rfl _ _ _ _ _ _ _ _ _ _ _ _ _ (fun w' hk => ⟨rfl, HN.out.fin hk⟩)
end Go.Proofs.Ytaeooljfilkaeaa
/-! The points of the machine, one access each. -/
namespace Go.Proofs.Ytaeooljfilkaeaa
open Go.RowKit Go.HeapKit Go.IntWalk

set_option maxHeartbeats 1600000 in
set_option maxRecDepth 100000 in
theorem point_2 (p : Nat) (F : Nat → Prop) (A : Ar) (base most code v t b a c na nc ix mv : Int) (w : World) (h : ArF w p F A) (hlog : A.log.length < 1000000000000) :
    Calls Try.prog 70 #[(OpS.mk base most 2 code v t b a c na nc ix mv).value, .iface 58 (.pointer (some ⟨p, 0, none⟩))] w fun e w' =>
      e = .returned (.tuple #[(OpS.mk base most 3 code v t (A.did 0 (wrap64 (base + 1)) 0 0).1.v a c na nc ix mv).value, .int .i64 (A.did 0 (wrap64 (base + 1)) 0 0).1.err]) ∧ AA w w' p F (A.did 0 (wrap64 (base + 1)) 0 0).2 := by
  have hm1 := meth3_load p
  have hn1 := nil3_load p
  have hcall := bottom_any base most
  have hld := fun w' F' (h : ArF w' p F' A) => arf_load p F' A (wrap64 (base + 1)) w' h hlog
  generalize A.did 0 (wrap64 (base + 1)) 0 0 = D at hld ⊢
  obtain ⟨⟨x, ok, err⟩, B⟩ := D
  simp only at hld ⊢
  generalize wrap64 (base + 1) = ad at hcall hld
  have HM : Hid _ := Mid.start h (OpS.mk base most 2 code v t b a c na nc ix mv)
  clear h
  simp only [OpS.value, OpS.vals]
  go_enter Try.func70, Try.ntmps70
  go_upto_region 4 with fail
  go_cut [6] (fun s6 wx => s6 = .int .i64 err ∧ ∃ F', Mid w wx (OpS.mk base most 2 code v t x a c na nc ix mv) p F F' B)
  case first =>
    have hM1 := HM.out.kept (Keeps.drew None _)
    go_region_held3 (fun w' => w'.cell? ⟨w.heap.size, 0, none⟩ = some (.int .i64 base) ∧ w'.cell? ⟨w.heap.size, 1, none⟩ = some (.int .i64 most)) (first | exact hs4 | exact hs3 | exact hs2 | go_keep) (first
      | (go_at_call 52; refine (hcall _).mono ?_; rintro e w2 ⟨rfl, hk2⟩; have hM2 := hM1.kept hk2; have hs2 : w2.cell? ⟨w.heap.size, 0, none⟩ = some (.int .i64 base) ∧ w2.cell? ⟨w.heap.size, 1, none⟩ = some (.int .i64 most) := ⟨hM2.cell 0, hM2.cell 1⟩)
      | (go_at_call 100; refine (hld _ F hM2.ar).mono ?_; rintro e w3 ⟨rfl, hA3⟩; obtain ⟨F3, hM3⟩ := hM2.acc hA3; have hs3 : w3.cell? ⟨w.heap.size, 0, none⟩ = some (.int .i64 base) ∧ w3.cell? ⟨w.heap.size, 1, none⟩ = some (.int .i64 most) := ⟨hM3.cell 0, hM3.cell 1⟩; have cx : w3.cell? ⟨w.heap.size, 6, none⟩ = some (.int .i64 b) := hM3.cell 6; have qx := hM3.free 6; have hM3' := hM3.put 6 (.int .i64 x) (OpS.mk base most 2 code v t x a c na nc ix mv) rfl; have hs4 : (w3.setCell ⟨w.heap.size, 6, none⟩ (.int .i64 x)).cell? ⟨w.heap.size, 0, none⟩ = some (.int .i64 base) ∧ (w3.setCell ⟨w.heap.size, 6, none⟩ (.int .i64 x)).cell? ⟨w.heap.size, 1, none⟩ = some (.int .i64 most) := ⟨hM3'.cell 0, hM3'.cell 1⟩))
    all_goals (go_wp2_with fail; go_meet)
    all_goals exact ⟨rfl, F3, hM3'⟩
  case rest =>
    obtain ⟨rfl, F4, hM4⟩ := hcut
    clear hcall hld hm1 hn1
    obtain ⟨c0, c1, c2, c3, c4, c5, c6, c7, c8, c9, c10, c11, c12⟩ := hM4.cells
    obtain ⟨r0, r1, r2, r3, r4, r5, r6, r7, r8, r9, r10, r11, r12⟩ := hM4.rcells
    have s0 := hM4.rfree 0
    have s1 := hM4.rfree 1
    have s2 := hM4.rfree 2
    have s3 := hM4.rfree 3
    have s4 := hM4.rfree 4
    have s5 := hM4.rfree 5
    have s6 := hM4.rfree 6
    have s7 := hM4.rfree 7
    have s8 := hM4.rfree 8
    have s9 := hM4.rfree 9
    have s10 := hM4.rfree 10
    have s11 := hM4.rfree 11
    have s12 := hM4.rfree 12
    have q2 := hM4.free 2
    have hM5 := (hM4.put 2 (.int .i64 3) (OpS.mk base most 3 code v t x a c na nc ix mv) rfl)
    have H5 : Hid _ := hM5
    clear hM4 hM5
    go_wp2_with fail
    exact op_end2 rfl rfl H5.out.res rfl rfl _ _ _ _ _ _ _ _ _ _ _ _ _ (fun w' hk => ⟨rfl, H5.out.fin hk⟩)
set_option maxHeartbeats 1600000 in
set_option maxRecDepth 100000 in
theorem point_3 (p : Nat) (F : Nat → Prop) (A : Ar) (base most code v t b a c na nc ix mv : Int) (w : World) (h : ArF w p F A) (hlog : A.log.length < 1000000000000) :
    Calls Try.prog 70 #[(OpS.mk base most 3 code v t b a c na nc ix mv).value, .iface 58 (.pointer (some ⟨p, 0, none⟩))] w fun e w' =>
      e = .returned (.tuple #[(OpS.mk base most 4 code v (A.did 0 (wrap64 base) 0 0).1.v b a c na nc ix mv).value, .int .i64 (A.did 0 (wrap64 base) 0 0).1.err]) ∧ AA w w' p F (A.did 0 (wrap64 base) 0 0).2 := by
  have hm1 := meth3_load p
  have hn1 := nil3_load p
  have hcall := top_any base most
  have hld := fun w' F' (h : ArF w' p F' A) => arf_load p F' A (wrap64 base) w' h hlog
  generalize A.did 0 (wrap64 base) 0 0 = D at hld ⊢
  obtain ⟨⟨x, ok, err⟩, B⟩ := D
  simp only at hld ⊢
  generalize wrap64 base = ad at hcall hld
  have HM : Hid _ := Mid.start h (OpS.mk base most 3 code v t b a c na nc ix mv)
  clear h
  simp only [OpS.value, OpS.vals]
  go_enter Try.func70, Try.ntmps70
  go_upto_region 7 with fail
  go_cut [6] (fun s6 wx => s6 = .int .i64 err ∧ ∃ F', Mid w wx (OpS.mk base most 3 code v x b a c na nc ix mv) p F F' B)
  case first =>
    have hM1 := HM.out.kept (Keeps.drew None _)
    go_region_held3 (fun w' => w'.cell? ⟨w.heap.size, 0, none⟩ = some (.int .i64 base) ∧ w'.cell? ⟨w.heap.size, 1, none⟩ = some (.int .i64 most)) (first | exact hs4 | exact hs3 | exact hs2 | go_keep) (first
      | (go_at_call 51; refine (hcall _).mono ?_; rintro e w2 ⟨rfl, hk2⟩; have hM2 := hM1.kept hk2; have hs2 : w2.cell? ⟨w.heap.size, 0, none⟩ = some (.int .i64 base) ∧ w2.cell? ⟨w.heap.size, 1, none⟩ = some (.int .i64 most) := ⟨hM2.cell 0, hM2.cell 1⟩)
      | (go_at_call 100; refine (hld _ F hM2.ar).mono ?_; rintro e w3 ⟨rfl, hA3⟩; obtain ⟨F3, hM3⟩ := hM2.acc hA3; have hs3 : w3.cell? ⟨w.heap.size, 0, none⟩ = some (.int .i64 base) ∧ w3.cell? ⟨w.heap.size, 1, none⟩ = some (.int .i64 most) := ⟨hM3.cell 0, hM3.cell 1⟩; have cx : w3.cell? ⟨w.heap.size, 5, none⟩ = some (.int .i64 t) := hM3.cell 5; have qx := hM3.free 5; have hM3' := hM3.put 5 (.int .i64 x) (OpS.mk base most 3 code v x b a c na nc ix mv) rfl; have hs4 : (w3.setCell ⟨w.heap.size, 5, none⟩ (.int .i64 x)).cell? ⟨w.heap.size, 0, none⟩ = some (.int .i64 base) ∧ (w3.setCell ⟨w.heap.size, 5, none⟩ (.int .i64 x)).cell? ⟨w.heap.size, 1, none⟩ = some (.int .i64 most) := ⟨hM3'.cell 0, hM3'.cell 1⟩))
    all_goals (go_wp2_with fail; go_meet)
    all_goals exact ⟨rfl, F3, hM3'⟩
  case rest =>
    obtain ⟨rfl, F4, hM4⟩ := hcut
    clear hcall hld hm1 hn1
    obtain ⟨c0, c1, c2, c3, c4, c5, c6, c7, c8, c9, c10, c11, c12⟩ := hM4.cells
    obtain ⟨r0, r1, r2, r3, r4, r5, r6, r7, r8, r9, r10, r11, r12⟩ := hM4.rcells
    have s0 := hM4.rfree 0
    have s1 := hM4.rfree 1
    have s2 := hM4.rfree 2
    have s3 := hM4.rfree 3
    have s4 := hM4.rfree 4
    have s5 := hM4.rfree 5
    have s6 := hM4.rfree 6
    have s7 := hM4.rfree 7
    have s8 := hM4.rfree 8
    have s9 := hM4.rfree 9
    have s10 := hM4.rfree 10
    have s11 := hM4.rfree 11
    have s12 := hM4.rfree 12
    have q2 := hM4.free 2
    have hM5 := (hM4.put 2 (.int .i64 4) (OpS.mk base most 4 code v x b a c na nc ix mv) rfl)
    have H5 : Hid _ := hM5
    clear hM4 hM5
    go_wp2_with fail
    exact op_end2 rfl rfl H5.out.res rfl rfl _ _ _ _ _ _ _ _ _ _ _ _ _ (fun w' hk => ⟨rfl, H5.out.fin hk⟩)
set_option maxHeartbeats 1600000 in
set_option maxRecDepth 100000 in
theorem point_4 (p : Nat) (F : Nat → Prop) (A : Ar) (base most code v t b a c na nc ix mv : Int) (w : World) (h : ArF w p F A) (hlog : A.log.length < 1000000000000) :
    Calls Try.prog 70 #[(OpS.mk base most 4 code v t b a c na nc ix mv).value, .iface 58 (.pointer (some ⟨p, 0, none⟩))] w fun e w' =>
      e = .returned (.tuple #[(OpS.mk base most 5 code v t b (A.did 0 (wrap64 (base + 2)) 0 0).1.v c na nc ix mv).value, .int .i64 (A.did 0 (wrap64 (base + 2)) 0 0).1.err]) ∧ AA w w' p F (A.did 0 (wrap64 (base + 2)) 0 0).2 := by
  have hm1 := meth3_load p
  have hn1 := nil3_load p
  have hcall := bufw_any base most
  have hld := fun w' F' (h : ArF w' p F' A) => arf_load p F' A (wrap64 (base + 2)) w' h hlog
  generalize A.did 0 (wrap64 (base + 2)) 0 0 = D at hld ⊢
  obtain ⟨⟨x, ok, err⟩, B⟩ := D
  simp only at hld ⊢
  generalize wrap64 (base + 2) = ad at hcall hld
  have HM : Hid _ := Mid.start h (OpS.mk base most 4 code v t b a c na nc ix mv)
  clear h
  simp only [OpS.value, OpS.vals]
  go_enter Try.func70, Try.ntmps70
  go_upto_region 10 with fail
  go_cut [6] (fun s6 wx => s6 = .int .i64 err ∧ ∃ F', Mid w wx (OpS.mk base most 4 code v t b x c na nc ix mv) p F F' B)
  case first =>
    have hM1 := HM.out.kept (Keeps.drew None _)
    go_region_held3 (fun w' => w'.cell? ⟨w.heap.size, 0, none⟩ = some (.int .i64 base) ∧ w'.cell? ⟨w.heap.size, 1, none⟩ = some (.int .i64 most)) (first | exact hs4 | exact hs3 | exact hs2 | go_keep) (first
      | (go_at_call 45; refine (hcall _).mono ?_; rintro e w2 ⟨rfl, hk2⟩; have hM2 := hM1.kept hk2; have hs2 : w2.cell? ⟨w.heap.size, 0, none⟩ = some (.int .i64 base) ∧ w2.cell? ⟨w.heap.size, 1, none⟩ = some (.int .i64 most) := ⟨hM2.cell 0, hM2.cell 1⟩)
      | (go_at_call 100; refine (hld _ F hM2.ar).mono ?_; rintro e w3 ⟨rfl, hA3⟩; obtain ⟨F3, hM3⟩ := hM2.acc hA3; have hs3 : w3.cell? ⟨w.heap.size, 0, none⟩ = some (.int .i64 base) ∧ w3.cell? ⟨w.heap.size, 1, none⟩ = some (.int .i64 most) := ⟨hM3.cell 0, hM3.cell 1⟩; have cx : w3.cell? ⟨w.heap.size, 7, none⟩ = some (.int .i64 a) := hM3.cell 7; have qx := hM3.free 7; have hM3' := hM3.put 7 (.int .i64 x) (OpS.mk base most 4 code v t b x c na nc ix mv) rfl; have hs4 : (w3.setCell ⟨w.heap.size, 7, none⟩ (.int .i64 x)).cell? ⟨w.heap.size, 0, none⟩ = some (.int .i64 base) ∧ (w3.setCell ⟨w.heap.size, 7, none⟩ (.int .i64 x)).cell? ⟨w.heap.size, 1, none⟩ = some (.int .i64 most) := ⟨hM3'.cell 0, hM3'.cell 1⟩))
    all_goals (go_wp2_with fail; go_meet)
    all_goals exact ⟨rfl, F3, hM3'⟩
  case rest =>
    obtain ⟨rfl, F4, hM4⟩ := hcut
    clear hcall hld hm1 hn1
    obtain ⟨c0, c1, c2, c3, c4, c5, c6, c7, c8, c9, c10, c11, c12⟩ := hM4.cells
    obtain ⟨r0, r1, r2, r3, r4, r5, r6, r7, r8, r9, r10, r11, r12⟩ := hM4.rcells
    have s0 := hM4.rfree 0
    have s1 := hM4.rfree 1
    have s2 := hM4.rfree 2
    have s3 := hM4.rfree 3
    have s4 := hM4.rfree 4
    have s5 := hM4.rfree 5
    have s6 := hM4.rfree 6
    have s7 := hM4.rfree 7
    have s8 := hM4.rfree 8
    have s9 := hM4.rfree 9
    have s10 := hM4.rfree 10
    have s11 := hM4.rfree 11
    have s12 := hM4.rfree 12
    have q2 := hM4.free 2
    have hM5 := (hM4.put 2 (.int .i64 5) (OpS.mk base most 5 code v t b x c na nc ix mv) rfl)
    have H5 : Hid _ := hM5
    clear hM4 hM5
    go_wp2_with fail
    exact op_end2 rfl rfl H5.out.res rfl rfl _ _ _ _ _ _ _ _ _ _ _ _ _ (fun w' hk => ⟨rfl, H5.out.fin hk⟩)
set_option maxHeartbeats 1600000 in
set_option maxRecDepth 100000 in
theorem point_5 (p : Nat) (F : Nat → Prop) (A : Ar) (base most code v t b a c na nc ix mv : Int) (w : World) (h : ArF w p F A) (hlog : A.log.length < 1000000000000) :
    Calls Try.prog 70 #[(OpS.mk base most 5 code v t b a c na nc ix mv).value, .iface 58 (.pointer (some ⟨p, 0, none⟩))] w fun e w' =>
      e = .returned (.tuple #[(measuredS (OpS.mk base most 5 code v t b a (A.did 0 (a) 0 0).1.v na nc ix mv)).value, .int .i64 (A.did 0 (a) 0 0).1.err]) ∧ AA w w' p F (A.did 0 (a) 0 0).2 := by
  have hm1 := meth3_load p
  have hn1 := nil3_load p
  have hld := fun w' F' (h : ArF w' p F' A) => arf_load p F' A (a) w' h hlog
  generalize A.did 0 (a) 0 0 = D at hld ⊢
  obtain ⟨⟨x, ok, err⟩, B⟩ := D
  simp only at hld ⊢
  have HM : Hid _ := Mid.start h (OpS.mk base most 5 code v t b a c na nc ix mv)
  clear h
  have hcl := measured_any (OpS.mk base most 5 code v t b a x na nc ix mv)
  generalize measuredS (OpS.mk base most 5 code v t b a x na nc ix mv) = M at hcl ⊢
  obtain ⟨m0, m1, m2, m3, m4, m5, m6, m7, m8, m9, m10, m11, m12⟩ := M
  simp only [OpS.value, OpS.vals] at hcl ⊢
  go_enter Try.func70, Try.ntmps70
  go_wp2_with fail
  refine (hld _ F HM.out.ar).mono ?_
  rintro e wc ⟨rfl, hA3⟩
  obtain ⟨F4, hM4⟩ := HM.out.acc hA3
  clear hA3 hld hm1 hn1 HM
  obtain ⟨c0, c1, c2, c3, c4, c5, c6, c7, c8, c9, c10, c11, c12⟩ := hM4.cells
  obtain ⟨r0, r1, r2, r3, r4, r5, r6, r7, r8, r9, r10, r11, r12⟩ := hM4.rcells
  have s0 := hM4.rfree 0
  have s1 := hM4.rfree 1
  have s2 := hM4.rfree 2
  have s3 := hM4.rfree 3
  have s4 := hM4.rfree 4
  have s5 := hM4.rfree 5
  have s6 := hM4.rfree 6
  have s7 := hM4.rfree 7
  have s8 := hM4.rfree 8
  have s9 := hM4.rfree 9
  have s10 := hM4.rfree 10
  have s11 := hM4.rfree 11
  have s12 := hM4.rfree 12
  have q8 := hM4.free 8
  have hM4p := (hM4.put 8 (.int .i64 (x)) (OpS.mk base most 5 code v t b a x na nc ix mv) rfl)
  have H4 : Hid _ := hM4p
  clear hM4p hM4
  go_wp2_with fail
  refine (hcl _).mono ?_
  rintro e w5 ⟨rfl, hk5⟩
  clear c0 r0 s0 c1 r1 s1 c2 r2 s2 c3 r3 s3 c4 r4 s4 c5 r5 s5 c6 r6 s6 c7 r7 s7 c8 r8 s8 c9 r9 s9 c10 r10 s10 c11 r11 s11 c12 r12 s12
  clear q8
  have hM5 := H4.out.kept hk5
  obtain ⟨c0, c1, c2, c3, c4, c5, c6, c7, c8, c9, c10, c11, c12⟩ := hM5.cells
  obtain ⟨r0, r1, r2, r3, r4, r5, r6, r7, r8, r9, r10, r11, r12⟩ := hM5.rcells
  have s0 := hM5.rfree 0
  have s1 := hM5.rfree 1
  have s2 := hM5.rfree 2
  have s3 := hM5.rfree 3
  have s4 := hM5.rfree 4
  have s5 := hM5.rfree 5
  have s6 := hM5.rfree 6
  have s7 := hM5.rfree 7
  have s8 := hM5.rfree 8
  have s9 := hM5.rfree 9
  have s10 := hM5.rfree 10
  have s11 := hM5.rfree 11
  have s12 := hM5.rfree 12
  have q0 := hM5.free 0
  have q1 := hM5.free 1
  have q2 := hM5.free 2
  have q3 := hM5.free 3
  have q4 := hM5.free 4
  have q5 := hM5.free 5
  have q6 := hM5.free 6
  have q7 := hM5.free 7
  have q8 := hM5.free 8
  have q9 := hM5.free 9
  have q10 := hM5.free 10
  have q11 := hM5.free 11
  have q12 := hM5.free 12
  have hN5 := (hM5.box13 m0 m1 m2 m3 m4 m5 m6 m7 m8 m9 m10 m11 m12)
  clear hM5 hk5 H4 hcl
  have HZ : Hid _ := hN5
  clear hN5
  go_wp2_with fail
  exact op_end2 rfl rfl HZ.out.res rfl rfl _ _ _ _ _ _ _ _ _ _ _ _ _ (fun w' hk => ⟨rfl, HZ.out.fin hk⟩)
set_option maxHeartbeats 1600000 in
set_option maxRecDepth 100000 in
theorem point_6 (p : Nat) (F : Nat → Prop) (A : Ar) (base most code v t b a c na nc ix mv : Int) (w : World) (h : ArF w p F A) (hlog : A.log.length < 1000000000000) (hcap : c ≤ 9223372036854775807) :
    Calls Try.prog 70 #[(OpS.mk base most 6 code v t b a c na nc ix mv).value, .iface 58 (.pointer (some ⟨p, 0, none⟩))] w fun e w' =>
      e = .returned (.tuple #[(OpS.mk base most 7 code v t b a c na nc ix mv).value, .int .i64 (A.did 1 (placeV a c b) (v) 0).1.err]) ∧ AA w w' p F (A.did 1 (placeV a c b) (v) 0).2 := by
  have hm1 := meth3_store p
  have hn1 := nil3_store p
  have hcall := place_any a c b hcap
  have hld := fun w' F' (h : ArF w' p F' A) => arf_put p F' A (placeV a c b) (v) w' h hlog
  generalize A.did 1 (placeV a c b) (v) 0 = D at hld ⊢
  obtain ⟨⟨x, ok, err⟩, B⟩ := D
  simp only at hld ⊢
  generalize placeV a c b = ad at hcall hld
  have HM : Hid _ := Mid.start h (OpS.mk base most 6 code v t b a c na nc ix mv)
  clear h
  simp only [OpS.value, OpS.vals]
  go_enter Try.func70, Try.ntmps70
  go_upto_region 16 with fail
  go_cut [6] (fun s6 wx => s6 = .int .i64 err ∧ ∃ F', Mid w wx (OpS.mk base most 6 code v t b a c na nc ix mv) p F F' B)
  case first =>
    have hM1 := HM.out.kept (Keeps.drew None _)
    go_region_held3 (fun w' => w'.cell? ⟨w.heap.size, 7, none⟩ = some (.int .i64 a) ∧ w'.cell? ⟨w.heap.size, 8, none⟩ = some (.int .i64 c) ∧ w'.cell? ⟨w.heap.size, 6, none⟩ = some (.int .i64 b) ∧ w'.cell? ⟨w.heap.size, 4, none⟩ = some (.int .i64 v)) (first | exact hs4 | exact hs3 | go_keep) (first
      | (go_at_call 53; refine (hcall _).mono ?_; rintro e w2 ⟨rfl, hw⟩; have hw2 := hw.symm; subst hw2; clear hw)
      | (go_at_call 103; refine (hld _ F hM1.ar).mono ?_; rintro e w3 ⟨rfl, hA3⟩; obtain ⟨F3, hM3⟩ := hM1.acc hA3; have hs3 : w3.cell? ⟨w.heap.size, 7, none⟩ = some (.int .i64 a) ∧ w3.cell? ⟨w.heap.size, 8, none⟩ = some (.int .i64 c) ∧ w3.cell? ⟨w.heap.size, 6, none⟩ = some (.int .i64 b) ∧ w3.cell? ⟨w.heap.size, 4, none⟩ = some (.int .i64 v) := ⟨hM3.cell 7, hM3.cell 8, hM3.cell 6, hM3.cell 4⟩; have hM3' := hM3; have hs4 := hs3))
    all_goals (go_wp2_with fail; go_meet)
    all_goals exact ⟨rfl, F3, hM3'⟩
  case rest =>
    obtain ⟨rfl, F4, hM4⟩ := hcut
    clear hcall hld hm1 hn1
    obtain ⟨c0, c1, c2, c3, c4, c5, c6, c7, c8, c9, c10, c11, c12⟩ := hM4.cells
    obtain ⟨r0, r1, r2, r3, r4, r5, r6, r7, r8, r9, r10, r11, r12⟩ := hM4.rcells
    have s0 := hM4.rfree 0
    have s1 := hM4.rfree 1
    have s2 := hM4.rfree 2
    have s3 := hM4.rfree 3
    have s4 := hM4.rfree 4
    have s5 := hM4.rfree 5
    have s6 := hM4.rfree 6
    have s7 := hM4.rfree 7
    have s8 := hM4.rfree 8
    have s9 := hM4.rfree 9
    have s10 := hM4.rfree 10
    have s11 := hM4.rfree 11
    have s12 := hM4.rfree 12
    have q2 := hM4.free 2
    have hM5 := (hM4.put 2 (.int .i64 7) (OpS.mk base most 7 code v t b a c na nc ix mv) rfl)
    have H5 : Hid _ := hM5
    clear hM4 hM5
    go_wp2_with fail
    exact op_end2 rfl rfl H5.out.res rfl rfl _ _ _ _ _ _ _ _ _ _ _ _ _ (fun w' hk => ⟨rfl, H5.out.fin hk⟩)
set_option maxHeartbeats 1600000 in
set_option maxRecDepth 100000 in
theorem point_7 (p : Nat) (F : Nat → Prop) (A : Ar) (base most code v t b a c na nc ix mv : Int) (w : World) (h : ArF w p F A) (hlog : A.log.length < 1000000000000) :
    Calls Try.prog 70 #[(OpS.mk base most 7 code v t b a c na nc ix mv).value, .iface 58 (.pointer (some ⟨p, 0, none⟩))] w fun e w' =>
      e = .returned (.tuple #[(OpS.ended 2 0).value, .int .i64 (A.did 1 (wrap64 (base + 1)) (wrap64 (b + 1)) 0).1.err]) ∧ AA w w' p F (A.did 1 (wrap64 (base + 1)) (wrap64 (b + 1)) 0).2 := by
  have hm1 := meth3_store p
  have hn1 := nil3_store p
  have hcall := bottom_any base most
  have hld := fun w' F' (h : ArF w' p F' A) => arf_put p F' A (wrap64 (base + 1)) (wrap64 (b + 1)) w' h hlog
  generalize A.did 1 (wrap64 (base + 1)) (wrap64 (b + 1)) 0 = D at hld ⊢
  obtain ⟨⟨x, ok, err⟩, B⟩ := D
  simp only at hld ⊢
  generalize wrap64 (base + 1) = ad at hcall hld
  have hwv : IntKind.i64.wrap (b + 1) = wrap64 (b + 1) := i64_left _
  generalize wrap64 (b + 1) = vv at hld hwv
  have HM : Hid _ := Mid.start h (OpS.mk base most 7 code v t b a c na nc ix mv)
  clear h
  simp only [OpS.value, OpS.vals]
  go_enter Try.func70, Try.ntmps70
  go_upto_region 19 with fail
  go_cut [6] (fun s6 wx => s6 = .int .i64 err ∧ ∃ F', Mid w wx (OpS.mk base most 7 code v t b a c na nc ix mv) p F F' B)
  case first =>
    have hM1 := HM.out.kept (Keeps.drew None _)
    go_region_held3 (fun w' => w'.cell? ⟨w.heap.size, 0, none⟩ = some (.int .i64 base) ∧ w'.cell? ⟨w.heap.size, 1, none⟩ = some (.int .i64 most) ∧ w'.cell? ⟨w.heap.size, 6, none⟩ = some (.int .i64 b)) (first | exact hs4 | exact hs3 | exact hs2 | go_keep) (first
      | (go_at_call 52; refine (hcall _).mono ?_; rintro e w2 ⟨rfl, hk2⟩; have hM2 := hM1.kept hk2; have hs2 : w2.cell? ⟨w.heap.size, 0, none⟩ = some (.int .i64 base) ∧ w2.cell? ⟨w.heap.size, 1, none⟩ = some (.int .i64 most) ∧ w2.cell? ⟨w.heap.size, 6, none⟩ = some (.int .i64 b) := ⟨hM2.cell 0, hM2.cell 1, hM2.cell 6⟩)
      | (go_at_call 103; refine (hld _ F hM2.ar).mono ?_; rintro e w3 ⟨rfl, hA3⟩; obtain ⟨F3, hM3⟩ := hM2.acc hA3; have hs3 : w3.cell? ⟨w.heap.size, 0, none⟩ = some (.int .i64 base) ∧ w3.cell? ⟨w.heap.size, 1, none⟩ = some (.int .i64 most) ∧ w3.cell? ⟨w.heap.size, 6, none⟩ = some (.int .i64 b) := ⟨hM3.cell 0, hM3.cell 1, hM3.cell 6⟩; have hM3' := hM3; have hs4 := hs3))
    all_goals (go_wp2_with fail; go_meet)
    all_goals exact ⟨rfl, F3, hM3'⟩
  case rest =>
    obtain ⟨rfl, F4, hM4⟩ := hcut
    clear hcall hld hm1 hn1
    obtain ⟨c0, c1, c2, c3, c4, c5, c6, c7, c8, c9, c10, c11, c12⟩ := hM4.cells
    obtain ⟨r0, r1, r2, r3, r4, r5, r6, r7, r8, r9, r10, r11, r12⟩ := hM4.rcells
    have s0 := hM4.rfree 0
    have s1 := hM4.rfree 1
    have s2 := hM4.rfree 2
    have s3 := hM4.rfree 3
    have s4 := hM4.rfree 4
    have s5 := hM4.rfree 5
    have s6 := hM4.rfree 6
    have s7 := hM4.rfree 7
    have s8 := hM4.rfree 8
    have s9 := hM4.rfree 9
    have s10 := hM4.rfree 10
    have s11 := hM4.rfree 11
    have s12 := hM4.rfree 12
    have hM4p := hM4
    have hcl := opend_any (2) (0)
    simp only [OpS.value, OpS.vals, OpS.ended] at hcl
    have H4 : Hid _ := hM4p
    clear hM4p hM4
    go_wp2_with fail
    refine (hcl _).mono ?_
    rintro e w5 ⟨rfl, hk5⟩
    clear c0 r0 s0 c1 r1 s1 c2 r2 s2 c3 r3 s3 c4 r4 s4 c5 r5 s5 c6 r6 s6 c7 r7 s7 c8 r8 s8 c9 r9 s9 c10 r10 s10 c11 r11 s11 c12 r12 s12
    have hM5 := H4.out.kept hk5
    obtain ⟨c0, c1, c2, c3, c4, c5, c6, c7, c8, c9, c10, c11, c12⟩ := hM5.cells
    obtain ⟨r0, r1, r2, r3, r4, r5, r6, r7, r8, r9, r10, r11, r12⟩ := hM5.rcells
    have s0 := hM5.rfree 0
    have s1 := hM5.rfree 1
    have s2 := hM5.rfree 2
    have s3 := hM5.rfree 3
    have s4 := hM5.rfree 4
    have s5 := hM5.rfree 5
    have s6 := hM5.rfree 6
    have s7 := hM5.rfree 7
    have s8 := hM5.rfree 8
    have s9 := hM5.rfree 9
    have s10 := hM5.rfree 10
    have s11 := hM5.rfree 11
    have s12 := hM5.rfree 12
    have q0 := hM5.free 0
    have q1 := hM5.free 1
    have q2 := hM5.free 2
    have q3 := hM5.free 3
    have q4 := hM5.free 4
    have q5 := hM5.free 5
    have q6 := hM5.free 6
    have q7 := hM5.free 7
    have q8 := hM5.free 8
    have q9 := hM5.free 9
    have q10 := hM5.free 10
    have q11 := hM5.free 11
    have q12 := hM5.free 12
    have hN5 := (hM5.box13 0 0 1 (2) (0) 0 0 0 0 0 0 0 0)
    clear hM5 hk5 H4 hcl
    have HZ : Hid _ := hN5
    clear hN5
    go_wp2_with fail
    exact op_end2 rfl rfl HZ.out.res rfl rfl _ _ _ _ _ _ _ _ _ _ _ _ _ (fun w' hk => ⟨rfl, HZ.out.fin hk⟩)
end Go.Proofs.Ytaeooljfilkaeaa
