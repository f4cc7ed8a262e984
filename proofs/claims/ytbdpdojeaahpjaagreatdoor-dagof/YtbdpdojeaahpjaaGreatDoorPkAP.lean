import Derived.Test.YtbdpdojeaahpjaaGreatDoorPkAO
/-! enter, where nodes are kept. -/
namespace Go.Proofs.YtbdpdojeaahpjaaGreatDoor
set_option linter.unusedVariables false
set_option maxRecDepth 20000
set_option linter.unusedSimpArgs false
open Go.RowKit Go.HeapKit Go.PlainOps

theorem Tryz.infoNd : (Tryz.prog.info? 65).map (fun i => (i.zero, i.size, i.bytes)) = some (some (.agg #[.int .i64 0, .int .i64 0, .int .i64 0, .int .i64 0, .int .i64 0, .int .i64 0, .int .i64 0]), 7, 56) := by kernel_rfl
theorem nd_append (nv : Value) (l : List Nd) (x : Nd) (g ty : Nat) (w : World) (h : w.ownsRow 0 65 7 nv l.length (ndVals l)) (hlen : l.length ≤ 8388608)
    (hg : w.heap[g]? = some (.cells #[.int .i64 x.parent, .int .i64 x.idx, .int .i64 x.func, .int .i64 x.work, .int .i64 x.ped, .int .i64 x.arg, .int .i64 x.v] 65 (0, 0))) :
    ∃ b cap w', (Builtin.append_ #[55, 55] ty #[nv, .slice (some ⟨g, 0, none⟩) 1 1]).run Tryz.prog w = .ok (.slice (some ⟨b, 0, none⟩) (l.length + 1) cap) w' ∧
      w'.ownsRow 0 65 7 (.slice (some ⟨b, 0, none⟩) (l.length + 1) cap) (l.length + 1) (ndVals (l ++ [x])) ∧ w.grownBy w' nv.ownBlock ∧ Moved w nv (.slice (some ⟨b, 0, none⟩) (l.length + 1) cap) := by
  obtain ⟨i0, hi, hz0, hz1, hz2⟩ := info_parts Tryz.infoNd
  obtain ⟨v', w', hr, ho, hgr, hm, -⟩ := run_append_moved (P := Tryz.prog) w 0 55 ty 65 i0 _ 7 56 Tryz.underlying55 hi hz0 hz1 hz2 rfl (by decide) nv l.length (ndVals l) h
    ⟨g, 0, none⟩ 1 1 (ints x.l) rfl (by
      intro j u hu
      rw [show (⟨g, 0, none⟩ : Addr).add j = ⟨g, j, none⟩ by unfold Addr.add; split <;> simp_all, blk_cell hg]
      simpa [ints, Nd.l] using hu) (by
      intro u hu
      simp [ints, Nd.l] at hu
      rcases hu with rfl | rfl | rfl | rfl | rfl | rfl | rfl <;> rfl) (by unfold maxLen; omega) (by omega) (Nat.zero_le _)
  have e : ndVals (l ++ [x]) = ndVals l ++ ints x.l := by simp [ndVals]
  rw [e]
  rcases ho.2 with ⟨_, h0⟩ | ⟨b, cap, cur, rfl, _⟩
  · omega
  · exact ⟨b, cap, w', hr, ho, hgr, hm⟩
/-- The nodes behind 'enter'. -/
theorem noded {R X : Nat} {fv nv : Value} {s : Rn} {at_ : Int} {t : Tk} {w : World} (h : IsRn w R fv true s nv) (ht : IsTk w X at_ t) (hl : s.nodes.length ≤ 8388608) :
    ∃ b cap w1, (Builtin.append_ #[55, 55] 55 #[nv, .slice (some ⟨w.heap.size, 0, none⟩) 1 1]).run Tryz.prog (w.alloc (.cells #[.int .i64 t.node.parent, .int .i64 t.node.idx, .int .i64 t.node.func, .int .i64 t.node.work, .int .i64 t.node.ped, .int .i64 t.node.arg, .int .i64 t.node.v] 65)) = .ok (.slice (some ⟨b, 0, none⟩) (s.nodes.length + 1) cap) w1 ∧
      w1.cell? ⟨R, 5, none⟩ = some nv ∧ w1.frozen? ⟨R, 5, none⟩ = false ∧
      IsRn (w1.setCell ⟨R, 5, none⟩ (.slice (some ⟨b, 0, none⟩) (s.nodes.length + 1) cap)) R fv true { s with nodes := s.nodes ++ [t.node] } (.slice (some ⟨b, 0, none⟩) (s.nodes.length + 1) cap) ∧
      IsTk (w1.setCell ⟨R, 5, none⟩ (.slice (some ⟨b, 0, none⟩) (s.nodes.length + 1) cap)) X at_ t ∧
      Keeps (RFoot R nv) w (w1.setCell ⟨R, 5, none⟩ (.slice (some ⟨b, 0, none⟩) (s.nodes.length + 1) cap)) ∧ Moved w nv (.slice (some ⟨b, 0, none⟩) (s.nodes.length + 1) cap) := by
  have hal := Keeps.alloc None w (.cells #[.int .i64 t.node.parent, .int .i64 t.node.idx, .int .i64 t.node.func, .int .i64 t.node.work, .int .i64 t.node.ped, .int .i64 t.node.arg, .int .i64 t.node.v] 65)
  have h1 := h.kept hal (fun _ _ f => f)
  have t1 := ht.kept hal (fun f => f)
  have hg := heap_alloc_new w (.cells #[.int .i64 t.node.parent, .int .i64 t.node.idx, .int .i64 t.node.func, .int .i64 t.node.work, .int .i64 t.node.ped, .int .i64 t.node.arg, .int .i64 t.node.v] 65)
  obtain ⟨b, cap, w1, hr, ho, hgr, hm⟩ := nd_append nv s.nodes t.node w.heap.size 55 _ h1.row hl hg
  have hk1 : Keeps (fun i => nv.ownBlock = some i) w w1 := ((Keeps.refl _ w).andAlloc _).andGrown hgr (fun k e => .inl e)
  have bR := blk_kept h.blk hk1 h.nR
  have tX := ht.kept hk1 (h.nX ht)
  have hkS := Keeps.setCell (S := (· = R)) w1 (a := ⟨R, 5, none⟩) rfl (.slice (some ⟨b, 0, none⟩) (s.nodes.length + 1) cap)
  refine ⟨b, cap, w1, hr, (blk_cell bR 5).trans rfl, blk_free bR 5, ⟨?_, ?_⟩, tX.kept hkS (h.ne ht).symm, ?_, ?_⟩
  · rw [blk_set bR]; rfl
  · have hne : b ≠ R := fun e => by
      have := own_type ho (g := b) rfl (e ▸ bR)
      exact absurd this (by decide)
    have := hkS.own ho (fun k e q => by simp [Value.ownBlock] at e; exact hne (e.trans q))
    simpa using this
  · exact (hk1.mono (fun _ e _ => Or.inr e)).trans hkS (fun _ e _ => Or.inl e)
  · rcases hm with hm | ⟨g', e, hg'⟩
    · exact .inl hm
    · exact .inr ⟨g', e, by simp at hg'; omega⟩
set_option maxHeartbeats 2000000 in
theorem enter_on (R X : Nat) (fv nv : Value) (s : Rn) (t : Tk) (w : World) (h : IsRn w R fv true s nv) (ht : IsTkN w X 0 0 0 t) (hd : ¬ 4096 < t.depth) (b1 : s.tasks ≤ 8388608) (hl : s.nodes.length ≤ 8388608) :
    Calls Tryz.prog 26 #[.pointer (some ⟨R, 0, none⟩), .pointer (some ⟨X, 0, none⟩)] w fun e w' => e = .returned (.tuple #[]) ∧ ∃ nv', IsRn w' R fv true (enterS true s t) nv' ∧ IsTk w' X 0 (enterT s t) ∧ Keeps (fun k => RFoot R nv k ∨ k = X) w w' ∧ Moved w nv nv' := by
  have c1 := ht.tail 8 rfl
  have c2 : w.cell? ⟨R, 2, none⟩ = some (.int .i64 s.tasks) := (blk_cell h.blk 2).trans rfl
  have c3 : w.cell? ⟨R, 3, none⟩ = some (.int .i64 s.depth) := (blk_cell h.blk 3).trans rfl
  have c4 : w.cell? ⟨R, 4, none⟩ = some (.bool true) := (blk_cell h.blk 4).trans rfl
  have c7 := ht.tail 7 rfl
  have z1 := ht.free 35
  have z3 := blk_free h.blk 2
  have z4 := blk_free h.blk 3
  have n1 := h.ne ht
  have n2 := n1.symm
  obtain ⟨h2, t2, k2⟩ := entered h ht
  obtain ⟨h3, t3, k3⟩ := entered2 (s' := s) h2 t2
  have d1 := t2.tsk.func
  have d2 := t2.tsk.ped
  have d3 := t2.reg (k := 0) (by omega)
  have e1 := t2.tail 2 rfl
  have e2 := t2.tail 4 rfl
  have e3 := t2.tail 5 rfl
  have f1 := t2.free 30
  have f2 := t2.free 32
  have f3 := t2.free 33
  have kk : Keeps (fun k => k = R ∨ k = X) w _ := k2.trans k3 (fun _ e _ => .inr e)
  obtain ⟨Z, hZ⟩ : ∃ Z, Z = entN (entW w R X s.tasks (imax s.depth t.depth)) X t.node.func t.node.ped (t.regs.getD 0 0) := ⟨_, rfl⟩
  rw [← hZ] at h3 t3 kk
  have hsz : w.heap.size ≤ Z.heap.size := kk.size
  have fin : ∀ w' nv', IsRn w' R fv true { s with tasks := s.tasks + 1, depth := imax s.depth t.depth, nodes := s.nodes ++ [(enterT s t).node] } nv' → IsTk w' X 0 (enterT s t) → Keeps (RFoot R nv) Z.drew w' → Moved Z.drew nv nv' →
      ∃ nv', IsRn w' R fv true (enterS true s t) nv' ∧ IsTk w' X 0 (enterT s t) ∧ Keeps (fun k => RFoot R nv k ∨ k = X) w w' ∧ Moved w nv nv' := by
    intro w' nv' q1 q2 q3 q4
    refine ⟨nv', q1, q2, (kk.andDrew.mono (fun i e _ => by rcases e with e | e; exact .inl (.inl e); exact .inr e)).trans q3 (fun i e _ => .inl e), ?_⟩
    exact (Moved.refl w nv).trans q4 hsz
  obtain ⟨b, cap, w1, hr0, d5, f5, q1, q2, q3, q4⟩ := noded (h3.kept (Keeps.drew None _) (fun _ _ f => f)) (t3.kept (Keeps.drew None _) (fun f => f)) hl
  have FF : Hid _ := fin _ _ q1 q2 q3 q4
  have g0 := t3.tail 0 rfl
  have g1 := t3.tail 1 rfl
  have g2 := t3.tail 2 rfl
  have g3 := t3.tail 3 rfl
  have g4 := t3.tail 4 rfl
  have g5 := t3.tail 5 rfl
  have g6 := t3.tail 6 rfl
  have y4 : Z.cell? ⟨R, 4, none⟩ = some (.bool true) := (blk_cell h3.blk 4).trans rfl
  have y5 : Z.cell? ⟨R, 5, none⟩ = some nv := (blk_cell h3.blk 5).trans rfl
  obtain ⟨N, hN⟩ : ∃ N, N = (enterT s t).node := ⟨_, rfl⟩
  rw [← hN] at g0 g1 g2 g3 g4 g5 g6
  have hr : (Builtin.append_ #[55, 55] 55 #[nv, .slice (some ⟨Z.heap.size, 0, none⟩) 1 1]).run Tryz.prog (Z.drew.alloc (.cells #[.int .i64 N.parent, .int .i64 N.idx, .int .i64 N.func, .int .i64 N.work, .int .i64 N.ped, .int .i64 N.arg, .int .i64 N.v] 65)) = .ok (.slice (some ⟨b, 0, none⟩) (s.nodes.length + 1) cap) w1 := by rw [hN]; exact hr0
  clear hr0
  have e6 := (Keeps.alloc None Z (.cells #[.int .i64 N.parent, .int .i64 N.idx, .int .i64 N.func, .int .i64 N.work, .int .i64 N.ped, .int .i64 N.arg, .int .i64 N.v] 65)).cell y5 (fun f => f)
  clear h ht h2 t2 k2 h3 t3 k3 kk fin q1 q2 q3 q4 hsz hN
  obtain ⟨T0, hT0⟩ : ∃ T0 : Int, T0 = s.tasks := ⟨_, rfl⟩
  rw [← hT0] at c2 hZ d1 d2 d3 e1 e2 e3 f1 f2 f3
  have b2 : 0 ≤ T0 ∧ T0 ≤ 8388608 := by omega
  obtain ⟨W, hW⟩ : ∃ W, W = entW w R X T0 (imax s.depth t.depth) := ⟨_, rfl⟩
  rw [← hW] at hZ d1 d2 d3 e1 e2 e3 f1 f2 f3
  unfold entN at hZ
  clear hT0
  have dd1 : W.cell? ⟨X, 0, none⟩ = some (.int .i64 t.node.func) := d1
  have dd2 : W.cell? ⟨X, 18, none⟩ = some (.int .i64 t.node.ped) := d2
  have dd3 : W.cell? ⟨X, 2, none⟩ = some (.int .i64 (t.regs.getD 0 0)) := d3
  clear d1 d2 d3
  unfold entW at hW
  have HW : Hid _ := hW
  have HZ : Hid _ := hZ
  clear hW hZ
  have GG : Hid (Z.cell? ⟨R, 4, none⟩ = some (.bool true) ∧ Z.cell? ⟨R, 5, none⟩ = some nv ∧ Z.cell? ⟨X, 28, none⟩ = some (.int .i64 N.parent) ∧ Z.cell? ⟨X, 29, none⟩ = some (.int .i64 N.idx) ∧ Z.cell? ⟨X, 30, none⟩ = some (.int .i64 N.func) ∧ Z.cell? ⟨X, 31, none⟩ = some (.int .i64 N.work) ∧ Z.cell? ⟨X, 32, none⟩ = some (.int .i64 N.ped) ∧ Z.cell? ⟨X, 33, none⟩ = some (.int .i64 N.arg) ∧ Z.cell? ⟨X, 34, none⟩ = some (.int .i64 N.v)) := ⟨y4, y5, g0, g1, g2, g3, g4, g5, g6⟩
  clear y4 y5 g0 g1 g2 g3 g4 g5 g6
  generalize t.regs.getD 0 0 = A0 at *
  go_enter Tryz.func26, Tryz.ntmps26
  by_cases hlt : s.depth < t.depth
  · have e : imax s.depth t.depth = t.depth := if_pos hlt
    rw [e] at HW
    clear e
    go_wp2_with fail
    go_region
    all_goals go_upto_region 5 with fail
    all_goals rw [← HW.out]
    all_goals clear c1 c2 c3 c4 c7 z1 z3 z4 HW
    all_goals go_region
    all_goals go_upto_region 6 with fail
    all_goals rw [← HZ.out]
    all_goals clear dd1 dd2 dd3 e1 e2 e3 f1 f2 f3 HZ
    all_goals obtain ⟨y4, y5, g0, g1, g2, g3, g4, g5, g6⟩ := GG.out
    all_goals go_wp2_with fail
    all_goals go_region_law (refine step_append_run rfl (.tmp 72) (.tmp 77) 55 55 rfl (by simp [Act.eval]) (by simp [Act.eval]) hr ?_)
    all_goals go_end0
    all_goals exact ⟨rfl, FF.out⟩
  · have e : imax s.depth t.depth = s.depth := if_neg hlt
    rw [e] at HW
    clear e
    go_wp2_with fail
    go_region
    all_goals go_upto_region 5 with fail
    all_goals rw [← HW.out]
    all_goals clear c1 c2 c3 c4 c7 z1 z3 z4 HW
    all_goals go_region
    all_goals go_upto_region 6 with fail
    all_goals rw [← HZ.out]
    all_goals clear dd1 dd2 dd3 e1 e2 e3 f1 f2 f3 HZ
    all_goals obtain ⟨y4, y5, g0, g1, g2, g3, g4, g5, g6⟩ := GG.out
    all_goals go_wp2_with fail
    all_goals go_region_law (refine step_append_run rfl (.tmp 72) (.tmp 77) 55 55 rfl (by simp [Act.eval]) (by simp [Act.eval]) hr ?_)
    all_goals go_end0
    all_goals exact ⟨rfl, FF.out⟩
end Go.Proofs.YtbdpdojeaahpjaaGreatDoor
