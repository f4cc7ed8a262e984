import Derived.Test.YtemmkgnbngeiaaaDqDo
/-! The document's memory of the deque: a store into a cell in use. -/
namespace Go.Proofs.Ytemmkgnbngeiaaa
open Go.RowKit Go.HeapKit

set_option maxHeartbeats 4000000 in
set_option maxRecDepth 100000 in
theorem mdo_store (p : Nat) (vc vl : Value) (A : Ar) (j : Nat) (v : Int) (w : World) (h : IsMem w p vc vl A) (hj : j < A.cells.length) (hlog : A.log.length < 1000000000000) :
    Calls Try.prog 41 #[.pointer (some ⟨p, 0, none⟩), .agg #[.int .i64 1, .int .i64 j, .int .i64 v, .int .i64 0, .int .i64 0, .int .i64 0]] w fun e w' => e = .returned (.tuple #[.int .i64 0, .bool true]) ∧ MAfter w w' p vc vl ((A.put j v).noted ⟨0, 1, j, v, 0, true⟩) := by
  have hf := h.fit
  have d0 : decide ((j : Int) < 0) = false := by simp
  have d1 : decide ((j : Int) ≥ A.cells.length) = false := by simp; omega
  have d2 : (j : Int) < (A.cells.length : Int) := by omega
  have d3 : (0 : Int) ≤ (j : Int) := by omega
  have h1 := h.alloc (.cells #[.int .i64 1, .int .i64 j, .int .i64 v, .int .i64 0, .int .i64 0, .int .i64 0] 93)
  have c2 := h1.c2
  have HH : Hid (IsMem w p vc vl A) := h
  have hlt := h.lt
  have ne1 : ¬ p = w.heap.size := by omega
  have ne2 : ¬ p = w.heap.size + 1 := by omega
  obtain ⟨g, cap, rfl, hcap, hgp, -, -⟩ := h.at j hj
  clear h h1
  go_enter Try.func41, Try.ntmps41
  go_upto_region 1 with fail
  go_cut [6] (fun s6 wx => s6 = .pointer (some ⟨w.heap.size + 1, 0, none⟩) ∧ ∃ m, wx = ((w.drewN m).alloc (.cells #[.int .i64 1, .int .i64 j, .int .i64 v, .int .i64 0, .int .i64 0, .int .i64 0] 93)).alloc (.cells #[.int .i64 A.actor, .int .i64 1, .int .i64 j, .int .i64 v, .int .i64 0, .bool true] 78))
  case first =>
    go_region_held3 (fun w' => w'.cell? ⟨p, 2, none⟩ = some (.int .i64 A.actor) ∧ w'.cell? ⟨w.heap.size, 0, none⟩ = some (.int .i64 1) ∧ w'.cell? ⟨w.heap.size, 1, none⟩ = some (.int .i64 j) ∧ w'.cell? ⟨w.heap.size, 2, none⟩ = some (.int .i64 v) ∧ w'.cell? ⟨w.heap.size, 3, none⟩ = some (.int .i64 0)) (go_keep) (fail)
    all_goals (go_wp2_with fail; go_meet)
    all_goals exact ⟨rfl, _, rfl⟩
  case rest =>
    obtain ⟨rfl, m, rfl⟩ := hcut
    have f1 := (HH.out.kept (Keeps.drewN None w m) (fun _ _ f => f))
    have HK : Hid (Keeps None w (w.drewN m)) := Keeps.drewN None w m
    obtain ⟨w0, hw0, hs0⟩ : ∃ w0, w0 = w.drewN m ∧ w.heap.size = w0.heap.size := ⟨_, rfl, rfl⟩
    rw [← hw0] at f1 HK ⊢
    rw [hs0] at *
    clear hs0 hw0 c2
    have f2 := (f1.alloc (.cells #[.int .i64 1, .int .i64 j, .int .i64 v, .int .i64 0, .int .i64 0, .int .i64 0] 93)).alloc (.cells #[.int .i64 A.actor, .int .i64 1, .int .i64 j, .int .i64 v, .int .i64 0, .bool true] 78)
    have c0 := f2.c0
    obtain ⟨g', cap', hg', -, -, x2, x3⟩ := f2.at j hj
    obtain ⟨rfl, rfl⟩ : g' = g ∧ cap' = cap := by injection hg' with e1 e2 e3; injection e1 with e1; injection e1 with e1; exact ⟨e1.symm, e3.symm⟩
    clear hg'
    have ng0 := own_lt f1.cells (g := g') rfl
    have ng1 : ¬ g' = w0.heap.size := by omega
    have ng2 : ¬ w0.heap.size = g' := by omega
    have ng3 : ¬ p = g' := fun e => hgp e.symm
    have ng4 : ¬ g' = w0.heap.size + 1 := by omega
    have ng5 : ¬ w0.heap.size + 1 = g' := by omega
    have F2 : Hid _ := f2
    have W0 : Hid (p < w0.heap.size) := f1.lt
    clear f1 f2
    go_wp2_with fail
    go_quiet (fail)
    go_upto_region 20 with fail
    go_region_held3 (fun w' => w'.cell? ⟨p, 0, none⟩ = some (.slice (some ⟨g', 0, none⟩) A.cells.length cap') ∧ w'.cell? ⟨w0.heap.size, 1, none⟩ = some (.int .i64 j) ∧ w'.cell? ⟨w0.heap.size, 2, none⟩ = some (.int .i64 v)) (go_keep) (fail)
    go_wp2_with fail
    have hw0 := W0.out
    have hsz := HK.out.size
    have f3 := F2.out.kept (Keeps.drewN None _ (nq + 1)) (fun _ _ f => f)
    have hb3 : (((w0.alloc (.cells #[.int .i64 1, .int .i64 j, .int .i64 v, .int .i64 0, .int .i64 0, .int .i64 0] 93)).alloc (.cells #[.int .i64 A.actor, .int .i64 1, .int .i64 j, .int .i64 v, .int .i64 0, .bool true] 78)).drewN (nq + 1)).heap[w0.heap.size + 1]? = some (.cells #[.int .i64 A.actor, .int .i64 1, .int .i64 j, .int .i64 v, .int .i64 0, .bool true] 78 (0, 0)) := ((Keeps.drewN None _ (nq + 1)).block _ (by simp) (fun f => f)).trans (new_at _ _ _ (by simp))
    have kX := ((HK.out.andAlloc (.cells #[.int .i64 1, .int .i64 j, .int .i64 v, .int .i64 0, .int .i64 0, .int .i64 0] 93)).andAlloc (.cells #[.int .i64 A.actor, .int .i64 1, .int .i64 j, .int .i64 v, .int .i64 0, .bool true] 78)).trans (Keeps.drewN None _ (nq + 1)) (fun _ f _ => f)
    generalize (((w0.alloc (.cells #[.int .i64 1, .int .i64 j, .int .i64 v, .int .i64 0, .int .i64 0, .int .i64 0] 93)).alloc (.cells #[.int .i64 A.actor, .int .i64 1, .int .i64 j, .int .i64 v, .int .i64 0, .bool true] 78)).drewN (nq + 1)) = X0 at f3 hb3 kX ⊢
    have mY := f3.put j rfl v
    have bY := (Below.heap_setCell X0 ⟨g', j, none⟩ (.int .i64 v) (w0.heap.size + 1) (by simp; omega)).trans hb3
    have kY : Keeps (Foot p (.slice (some ⟨g', 0, none⟩) A.cells.length cap') vl) w (X0.setCell ⟨g', j, none⟩ (.int .i64 v)) := (kX.mono (fun _ f _ => f.elim)).andSet (x := ⟨g', j, none⟩) (.inl (.inr (.inl rfl))) _
    generalize X0.setCell ⟨g', j, none⟩ (.int .i64 v) = Y at mY bY kY ⊢
    have c3 := mY.c3
    have c4 := (mY.alloc (.cells #[.int .i64 A.actor, .int .i64 1, .int .i64 j, .int .i64 v, .int .i64 0, .bool true] 78)).c3
    obtain ⟨gl, cp, w1, hr, e3, f4, hL, hkL, hmL⟩ := mem_log p _ vl (A.put j v) ⟨A.actor, 1, j, v, 0, true⟩ Y mY hlog
    have s0 := (cell_of_block bY 0).trans rfl
    have s1 := (cell_of_block bY 1).trans rfl
    have s2 := (cell_of_block bY 2).trans rfl
    have s3 := (cell_of_block bY 3).trans rfl
    have s4 := (cell_of_block bY 4).trans rfl
    have s5 := (cell_of_block bY 5).trans rfl
    have n1 : ¬ p = w0.heap.size + 1 := by omega
    have n2 : ¬ w0.heap.size + 1 = p := by omega
    have hE : MAfter w (w1.setCell ⟨p, 3, none⟩ (.slice (some ⟨gl, 0, none⟩) (A.log.length + 1) cp)) p (.slice (some ⟨g', 0, none⟩) A.cells.length cap') vl ((A.put j v).noted ⟨0, 1, j, v, 0, true⟩) := by
      rw [Ar.noted_on _ _ mY.on]
      have hY : MAfter Y (w1.setCell ⟨p, 3, none⟩ (.slice (some ⟨gl, 0, none⟩) (A.log.length + 1) cp)) p (.slice (some ⟨g', 0, none⟩) A.cells.length cap') vl { A.put j v with log := A.log ++ [⟨A.actor, 1, j, v, 0, true⟩] } := ⟨_, _, hL, hkL.andSet (x := ⟨p, 3, none⟩) (.inl (.inl rfl)) _, .refl _ _, hmL⟩
      exact MAfter.trans kY (.refl _ _) (.refl _ _) hY
    have HE : Hid _ := hE
    have a3 : (A.put j v).log.length = A.log.length := rfl
    rw [a3] at hr
    obtain ⟨lo, lc, hlo⟩ := own_shape mY.log
    rw [a3] at hlo
    subst hlo
    clear mY bY kY f3 hb3 kX hL hkL hmL hE a3 F2
    go_region_law (refine step_append_run rfl (.tmp 173) (.tmp 175) 28 28 rfl (by simp [Act.eval]) (by simp [Act.eval]) hr ?_)
    all_goals go_wp2_with fail
    all_goals go_ret2
    all_goals exact ⟨rfl, HE.out⟩
end Go.Proofs.Ytemmkgnbngeiaaa
