import Derived.Test.YtboingcmlmfceabDoorSrEnter2
/-! enter, where nodes are kept. -/
namespace Go.Proofs.YtboingcmlmfceabDoor
set_option linter.unusedVariables false
set_option maxRecDepth 20000
open Go.RowKit Go.HeapKit Go.PlainOps

theorem Tryd.infoNd : (Tryd.prog.info? 38).map (fun i => (i.zero, i.size, i.bytes)) = some (some (.agg #[.int .i64 0, .int .i64 0, .int .i64 0, .int .i64 0, .int .i64 0, .int .i64 0, .int .i64 0]), 7, 56) := by kernel_rfl
theorem nd_append (nv : Value) (l : List Nd) (x : Nd) (g ty : Nat) (w : World) (h : w.ownsRow 0 38 7 nv l.length (ndVals l)) (hlen : l.length ≤ 8388608)
    (hg : w.heap[g]? = some (.cells #[.int .i64 x.parent, .int .i64 x.idx, .int .i64 x.func, .int .i64 x.work, .int .i64 x.ped, .int .i64 x.arg, .int .i64 x.v] 38 (0, 0))) :
    ∃ b cap w', (Builtin.append_ #[34, 34] ty #[nv, .slice (some ⟨g, 0, none⟩) 1 1]).run Tryd.prog w = .ok (.slice (some ⟨b, 0, none⟩) (l.length + 1) cap) w' ∧
      w'.ownsRow 0 38 7 (.slice (some ⟨b, 0, none⟩) (l.length + 1) cap) (l.length + 1) (ndVals (l ++ [x])) ∧ w.grownBy w' nv.ownBlock ∧ Moved w nv (.slice (some ⟨b, 0, none⟩) (l.length + 1) cap) := by
  obtain ⟨i0, hi, hz0, hz1, hz2⟩ := info_parts Tryd.infoNd
  obtain ⟨v', w', hr, ho, hgr, hm, -⟩ := run_append_moved (P := Tryd.prog) w 0 34 ty 38 i0 _ 7 56 Tryd.underlying34 hi hz0 hz1 hz2 rfl (by decide) nv l.length (ndVals l) h
    ⟨g, 0, none⟩ 1 1 (ints x.l) rfl (by
      intro j u hu
      rw [show (⟨g, 0, none⟩ : Addr).add j = ⟨g, j, none⟩ by unfold Addr.add; split <;> simp_all, blk_cell hg]
      simpa [ints, Nd.l] using hu) (by
      intro u hu
      simp [ints, Nd.l] at hu
      rcases hu with rfl | rfl | rfl | rfl | rfl | rfl | rfl <;> rfl) (by unfold maxLen; omega) (by omega) (Nat.zero_le _)
  have e : ndVals (l ++ [x]) = ndVals l ++ ints x.l := by simp [ndVals]
  rw [e]
  rcases ho.2 with ⟨_, h0⟩ | ⟨b, cap, cur, rfl, _⟩
  · omega
  · exact ⟨b, cap, w', hr, ho, hgr, hm⟩
def ndCells (n : Nd) : Array Value := #[.int .i64 n.parent, .int .i64 n.idx, .int .i64 n.func, .int .i64 n.work, .int .i64 n.ped, .int .i64 n.arg, .int .i64 n.v]
/-- The nodes behind 'enter'. -/
theorem noded {R X : Nat} {fv nv : Value} {s : Rn} {t : Tk} {w : World} (h : IsRn w R fv true s nv) (ht : IsTk w X t) (hl : s.nodes.length ≤ 8388608) :
    ∃ b cap w1, (Builtin.append_ #[34, 34] 34 #[nv, .slice (some ⟨w.heap.size, 0, none⟩) 1 1]).run Tryd.prog (w.alloc (.cells #[.int .i64 t.node.parent, .int .i64 t.node.idx, .int .i64 t.node.func, .int .i64 t.node.work, .int .i64 t.node.ped, .int .i64 t.node.arg, .int .i64 t.node.v] 38)) = .ok (.slice (some ⟨b, 0, none⟩) (s.nodes.length + 1) cap) w1 ∧
      w1.cell? ⟨R, 5, none⟩ = some nv ∧ w1.frozen? ⟨R, 5, none⟩ = false ∧
      IsRn (w1.setCell ⟨R, 5, none⟩ (.slice (some ⟨b, 0, none⟩) (s.nodes.length + 1) cap)) R fv true { s with nodes := s.nodes ++ [t.node] } (.slice (some ⟨b, 0, none⟩) (s.nodes.length + 1) cap) ∧
      IsTk (w1.setCell ⟨R, 5, none⟩ (.slice (some ⟨b, 0, none⟩) (s.nodes.length + 1) cap)) X t ∧
      Keeps (RFoot R nv) w (w1.setCell ⟨R, 5, none⟩ (.slice (some ⟨b, 0, none⟩) (s.nodes.length + 1) cap)) ∧ Moved w nv (.slice (some ⟨b, 0, none⟩) (s.nodes.length + 1) cap) := by
  have hal := Keeps.alloc None w (.cells #[.int .i64 t.node.parent, .int .i64 t.node.idx, .int .i64 t.node.func, .int .i64 t.node.work, .int .i64 t.node.ped, .int .i64 t.node.arg, .int .i64 t.node.v] 38)
  have h1 := h.kept hal (fun _ _ f => f)
  have t1 := ht.kept hal (fun f => f)
  have hg := heap_alloc_new w (.cells #[.int .i64 t.node.parent, .int .i64 t.node.idx, .int .i64 t.node.func, .int .i64 t.node.work, .int .i64 t.node.ped, .int .i64 t.node.arg, .int .i64 t.node.v] 38)
  obtain ⟨b, cap, w1, hr, ho, hgr, hm⟩ := nd_append nv s.nodes t.node w.heap.size 34 _ h1.row hl hg
  have hk1 : Keeps (fun i => nv.ownBlock = some i) w w1 := ((Keeps.refl _ w).andAlloc _).andGrown hgr (fun k e => .inl e)
  have bR := blk_kept h.blk hk1 h.nR
  have tX := ht.kept hk1 (h.nX ht)
  have hkS := Keeps.setCell (S := (· = R)) w1 (a := ⟨R, 5, none⟩) rfl (.slice (some ⟨b, 0, none⟩) (s.nodes.length + 1) cap)
  refine ⟨b, cap, w1, hr, (blk_cell bR 5).trans rfl, blk_free bR 5, ⟨?_, ?_⟩, tX.kept hkS (h.ne ht).symm, ?_, ?_⟩
  · rw [blk_set bR]; rfl
  · have hne : b ≠ R := fun e => by
      have := own_type ho (g := b) rfl (e ▸ bR)
      exact absurd this (by decide)
    have := hkS.own ho (fun k e q => by simp [Value.ownBlock] at e; exact hne (e.trans q))
    simpa using this
  · exact (hk1.mono (fun _ e _ => Or.inr e)).trans hkS (fun _ e _ => Or.inl e)
  · rcases hm with hm | ⟨g', e, hg'⟩
    · exact .inl hm
    · exact .inr ⟨g', e, by simp at hg'; omega⟩
set_option maxHeartbeats 2000000 in
theorem enter_on (R X : Nat) (fv nv : Value) (s : Rn) (t : Tk) (w : World) (h : IsRn w R fv true s nv) (ht : IsTk w X t) (hd : ¬ 4096 < t.depth) (b1 : s.tasks ≤ 8388608) (hl : s.nodes.length ≤ 8388608) :
    Calls Tryd.prog 33 #[.pointer (some ⟨R, 0, none⟩), .pointer (some ⟨X, 0, none⟩)] w fun e w' => e = .returned (.tuple #[]) ∧ ∃ nv', IsRn w' R fv true (enterS true s t) nv' ∧ IsTk w' X (enterT s t) ∧ Keeps (fun k => RFoot R nv k ∨ k = X) w w' ∧ Moved w nv nv' := by
  have c1 := ht.tail 8 rfl
  have c2 : w.cell? ⟨R, 2, none⟩ = some (.int .i64 s.tasks) := (blk_cell h.blk 2).trans rfl
  have c3 : w.cell? ⟨R, 3, none⟩ = some (.int .i64 s.depth) := (blk_cell h.blk 3).trans rfl
  have c4 : w.cell? ⟨R, 4, none⟩ = some (.bool true) := (blk_cell h.blk 4).trans rfl
  have c5 := ht.reg (k := 0) (by omega)
  have c7 := ht.tail 7 rfl
  have c8 := ht.tail 5 rfl
  have z1 := ht.free 31
  have z2 := ht.free 29
  have z3 := blk_free h.blk 2
  have z4 := blk_free h.blk 3
  have n1 := h.ne ht
  have n2 := n1.symm
  obtain ⟨h2, t2, k2⟩ := entered h ht
  have hsz : w.heap.size ≤ (entW w R X s.tasks (imax s.depth t.depth) (t.regs.getD 0 0)).heap.size := k2.size
  have fin : ∀ w' nv', IsRn w' R fv true { s with tasks := s.tasks + 1, depth := imax s.depth t.depth, nodes := s.nodes ++ [(enterT s t).node] } nv' → IsTk w' X (enterT s t) → Keeps (RFoot R nv) (entW w R X s.tasks (imax s.depth t.depth) (t.regs.getD 0 0)).drew w' → Moved (entW w R X s.tasks (imax s.depth t.depth) (t.regs.getD 0 0)).drew nv nv' →
      ∃ nv', IsRn w' R fv true (enterS true s t) nv' ∧ IsTk w' X (enterT s t) ∧ Keeps (fun k => RFoot R nv k ∨ k = X) w w' ∧ Moved w nv nv' := by
    intro w' nv' q1 q2 q3 q4
    refine ⟨nv', q1, q2, (k2.andDrew.mono (fun i e _ => by rcases e with e | e; exact .inl (.inl e); exact .inr e)).trans q3 (fun i e _ => .inl e), ?_⟩
    exact (Moved.refl w nv).trans q4 hsz
  obtain ⟨b, cap, w1, hr0, d5, f5, q1, q2, q3, q4⟩ := noded (h2.kept (Keeps.drew None _) (fun _ _ f => f)) (t2.kept (Keeps.drew None _) (fun f => f)) hl
  have hr : (Builtin.append_ #[34, 34] 34 #[nv, .slice (some ⟨(entW w R X s.tasks (imax s.depth t.depth) (t.regs.getD 0 0)).heap.size, 0, none⟩) 1 1]).run Tryd.prog ((entW w R X s.tasks (imax s.depth t.depth) (t.regs.getD 0 0)).drew.alloc (.cells #[.int .i64 (enterT s t).node.parent, .int .i64 (enterT s t).node.idx, .int .i64 (enterT s t).node.func, .int .i64 (enterT s t).node.work, .int .i64 (enterT s t).node.ped, .int .i64 (enterT s t).node.arg, .int .i64 (enterT s t).node.v] 38)) = .ok (.slice (some ⟨b, 0, none⟩) (s.nodes.length + 1) cap) w1 := hr0
  clear hr0
  have FF : Hid _ := fin _ _ q1 q2 q3 q4
  have e5 : (entW w R X s.tasks (imax s.depth t.depth) (t.regs.getD 0 0)).cell? ⟨R, 5, none⟩ = some nv := (blk_cell h2.blk 5).trans rfl
  have g0 := t2.tail 0 rfl
  have g1 := t2.tail 1 rfl
  have g2 := t2.tail 2 rfl
  have g3 := t2.tail 3 rfl
  have g4 := t2.tail 4 rfl
  have g5 := t2.tail 5 rfl
  have g6 := t2.tail 6 rfl
  obtain ⟨W, hW⟩ : ∃ W, W = entW w R X s.tasks (imax s.depth t.depth) (t.regs.getD 0 0) := ⟨_, rfl⟩
  rw [← hW] at e5 g0 g1 g2 g3 g4 g5 g6 hr
  obtain ⟨N, hN⟩ : ∃ N, N = (enterT s t).node := ⟨_, rfl⟩
  rw [← hN] at g0 g1 g2 g3 g4 g5 g6 hr
  have e6 := (Keeps.alloc None W (.cells #[.int .i64 N.parent, .int .i64 N.idx, .int .i64 N.func, .int .i64 N.work, .int .i64 N.ped, .int .i64 N.arg, .int .i64 N.v] 38)).cell e5 (fun f => f)
  clear h ht h2 t2 k2 fin q1 q2 q3 q4 hsz hN
  unfold entW at hW
  obtain ⟨A0, hA0⟩ : ∃ A0 : Int, A0 = t.regs.getD 0 0 := ⟨_, rfl⟩
  obtain ⟨T0, hT0⟩ : ∃ T0 : Int, T0 = s.tasks := ⟨_, rfl⟩
  rw [← hT0] at c2
  rw [← hA0] at c5
  rw [← hT0, ← hA0] at hW
  have b2 : 0 ≤ T0 ∧ T0 ≤ 8388608 := by omega
  clear hT0 hA0
  have HW : Hid _ := hW
  clear hW
  by_cases hlt : s.depth < t.depth
  · have e : imax s.depth t.depth = t.depth := if_pos hlt
    rw [e] at HW
    clear e
    go_enter Tryd.func33, Tryd.ntmps33
    go_wp2_with fail
    go_region
    all_goals go_wp2_with fail
    all_goals rw [← HW.out]
    all_goals clear c1 c2 c3 c4 c5 c7 c8 z1 z2 z3 z4 n1 n2 hlt
    all_goals go_region_law (refine step_append_run rfl (.tmp 53) (.tmp 58) 34 34 rfl (by simp [Act.eval]) (by simp [Act.eval]) hr ?_)
    all_goals go_end0
    all_goals exact ⟨rfl, FF.out⟩
  · have e : imax s.depth t.depth = s.depth := if_neg hlt
    rw [e] at HW
    clear e
    go_enter Tryd.func33, Tryd.ntmps33
    go_wp2_with fail
    go_region
    all_goals go_wp2_with fail
    all_goals rw [← HW.out]
    all_goals clear c1 c2 c3 c4 c5 c7 c8 z1 z2 z3 z4 n1 n2 hlt
    all_goals go_region_law (refine step_append_run rfl (.tmp 53) (.tmp 58) 34 34 rfl (by simp [Act.eval]) (by simp [Act.eval]) hr ?_)
    all_goals go_end0
    all_goals exact ⟨rfl, FF.out⟩
end Go.Proofs.YtboingcmlmfceabDoor
