import Derived.Test.YtokfbagacehbgaaDoorSrEnter
import Derived.Deep.Cut
/-! enter. -/
namespace Go.Proofs.YtokfbagacehbgaaDoor
set_option linter.unusedVariables false
set_option maxRecDepth 20000
set_option linter.unusedSimpArgs false
open Go.RowKit Go.HeapKit Go.PlainOps

theorem enter_deep (R X : Nat) (t : Tk) (w : World) (ht : IsTkN w X 0 0 0 t) (hd : 4096 < t.depth) :
    Calls Tryd.prog 15 #[.pointer (some ⟨R, 0, none⟩), .pointer (some ⟨X, 0, none⟩)] w fun e w' => e = .panicked (thrownE 63) ∧ w' = w := by
  have c1 := ht.tail 8 rfl
  clear ht
  go_enter Tryd.func15, Tryd.ntmps15
  go_wp2_with (go_at_call 14; refine (sgiveUp_any _ _).mono ?_; rintro _ w' ⟨rfl, rfl⟩)
  exact ⟨rfl, rfl, rfl⟩
/-- What 'enter' does ahead of the node's own cells. -/
def entW (w : World) (R X : Nat) (T0 M : Int) : World := (((w.setCell ⟨X, 35, none⟩ (.int .i64 T0)).setCell ⟨R, 2, none⟩ (.int .i64 (T0 + 1))).setCell ⟨R, 3, none⟩ (.int .i64 M)).drew
theorem entered {R X : Nat} {fv nv : Value} {L : Bool} {s : Rn} {t : Tk} {w : World} (h : IsRn w R fv L s nv) (ht : IsTkN w X 0 0 0 t) :
    IsRn (entW w R X s.tasks (imax s.depth t.depth)) R fv L { s with tasks := s.tasks + 1, depth := imax s.depth t.depth } nv ∧
    IsTkN (entW w R X s.tasks (imax s.depth t.depth)) X 0 0 0 { t with number := s.tasks } ∧
    Keeps (fun k => k = R ∨ k = X) w (entW w R X s.tasks (imax s.depth t.depth)) := by
  have n1 := h.ne ht
  have ka : Keeps (· = X) w (w.setCell ⟨X, 35, none⟩ (.int .i64 s.tasks)) := Keeps.setCell (S := (· = X)) w (a := ⟨X, 35, none⟩) rfl _
  have ta := ht.putTail (nf' := 0) (np' := 0) (t' := { t with number := s.tasks }) (j := 7) (x := s.tasks) rfl rfl rfl
  have ra := h.kept ka (fun k hk e => by subst e; rcases hk with hk | hk; exact n1 hk.symm; exact h.nX ht hk)
  have rb := ra.put (k := 2) (x := (s.tasks : Int) + 1) (s' := { s with tasks := s.tasks + 1 }) rfl (by simp)
  have kb : Keeps (· = R) _ _ := Keeps.setCell (S := (· = R)) (w.setCell ⟨X, 35, none⟩ (.int .i64 s.tasks)) (a := ⟨R, 2, none⟩) rfl (.int .i64 ((s.tasks : Int) + 1))
  have tb := ta.kept kb n1.symm
  have rc := rb.put (k := 3) (x := imax s.depth t.depth) (s' := { s with tasks := s.tasks + 1, depth := imax s.depth t.depth }) rfl (by simp)
  have kc : Keeps (· = R) _ _ := Keeps.setCell (S := (· = R)) ((w.setCell ⟨X, 35, none⟩ (.int .i64 s.tasks)).setCell ⟨R, 2, none⟩ (.int .i64 ((s.tasks : Int) + 1))) (a := ⟨R, 3, none⟩) rfl (.int .i64 (imax s.depth t.depth))
  have tc := tb.kept kc n1.symm
  have kd := Keeps.drew None (((w.setCell ⟨X, 35, none⟩ (.int .i64 s.tasks)).setCell ⟨R, 2, none⟩ (.int .i64 ((s.tasks : Int) + 1))).setCell ⟨R, 3, none⟩ (.int .i64 (imax s.depth t.depth)))
  refine ⟨rc.kept kd (fun _ _ f => f), tc.kept kd (fun f => f), ?_⟩
  exact (((ka.mono (fun _ e _ => Or.inr e)).trans kb (fun _ e _ => Or.inl e)).trans kc (fun _ e _ => Or.inl e)).trans kd (fun _ f _ => f.elim)
/-- The node's own cells. -/
def entN (W : World) (X : Nat) (F P A0 : Int) : World := (((W.setCell ⟨X, 30, none⟩ (.int .i64 F)).setCell ⟨X, 32, none⟩ (.int .i64 P)).setCell ⟨X, 33, none⟩ (.int .i64 A0)).drew
theorem entered2 {R X : Nat} {fv nv : Value} {L : Bool} {s s' : Rn} {t : Tk} {W : World} (h : IsRn W R fv L s nv) (ht : IsTkN W X 0 0 0 { t with number := s'.tasks }) :
    IsRn (entN W X t.node.func t.node.ped (t.regs.getD 0 0)) R fv L s nv ∧ IsTk (entN W X t.node.func t.node.ped (t.regs.getD 0 0)) X 0 (enterT s' t) ∧ Keeps (· = X) W (entN W X t.node.func t.node.ped (t.regs.getD 0 0)) := by
  have n1 := h.ne ht
  have ta := ht.putTail (nf' := t.node.func) (np' := 0) (t' := { t with number := s'.tasks }) (j := 2) (x := t.node.func) rfl rfl rfl
  have tb := ta.putTail (nf' := t.node.func) (np' := t.node.ped) (t' := { t with number := s'.tasks }) (j := 4) (x := t.node.ped) rfl rfl rfl
  have tc := tb.putTail (nf' := t.node.func) (np' := t.node.ped) (t' := enterT s' t) (j := 5) (x := t.regs.getD 0 0) rfl rfl rfl
  have kk : Keeps (· = X) W _ := (((Keeps.refl (· = X) W).andSet (x := ⟨X, 30, none⟩) (.inl rfl) (.int .i64 t.node.func)).andSet (x := ⟨X, 32, none⟩) (.inl rfl) (.int .i64 t.node.ped)).andSet (x := ⟨X, 33, none⟩) (.inl rfl) (.int .i64 (t.regs.getD 0 0))
  exact ⟨h.kept kk.andDrew (fun k hk e => by subst e; rcases hk with hk | hk; exact n1 hk.symm; exact h.nX ht hk), tc.kept (Keeps.drew None _) (fun f => f), kk.andDrew⟩
set_option maxHeartbeats 1000000 in
theorem enter_off (R X : Nat) (fv nv : Value) (s : Rn) (t : Tk) (w : World) (h : IsRn w R fv false s nv) (ht : IsTkN w X 0 0 0 t) (hd : ¬ 4096 < t.depth) (b1 : s.tasks ≤ 8388608) :
    Calls Tryd.prog 15 #[.pointer (some ⟨R, 0, none⟩), .pointer (some ⟨X, 0, none⟩)] w fun e w' => e = .returned (.tuple #[]) ∧ IsRn w' R fv false (enterS false s t) nv ∧ IsTk w' X 0 (enterT s t) ∧ Keeps (fun k => k = R ∨ k = X) w w' := by
  have c1 := ht.tail 8 rfl
  have c2 : w.cell? ⟨R, 2, none⟩ = some (.int .i64 s.tasks) := (blk_cell h.blk 2).trans rfl
  have c3 : w.cell? ⟨R, 3, none⟩ = some (.int .i64 s.depth) := (blk_cell h.blk 3).trans rfl
  have c4 : w.cell? ⟨R, 4, none⟩ = some (.bool false) := (blk_cell h.blk 4).trans rfl
  have c7 := ht.tail 7 rfl
  have z1 := ht.free 35
  have z3 := blk_free h.blk 2
  have z4 := blk_free h.blk 3
  have n1 := h.ne ht
  have n2 := n1.symm
  obtain ⟨h2, t2, k2⟩ := entered h ht
  obtain ⟨h3, t3, k3⟩ := entered2 (s' := s) h2 t2
  have HH : Hid (IsRn (entN (entW w R X s.tasks (imax s.depth t.depth)) X t.node.func t.node.ped (t.regs.getD 0 0)) R fv false (enterS false s t) nv ∧ IsTk (entN (entW w R X s.tasks (imax s.depth t.depth)) X t.node.func t.node.ped (t.regs.getD 0 0)) X 0 (enterT s t) ∧ Keeps (fun k => k = R ∨ k = X) w (entN (entW w R X s.tasks (imax s.depth t.depth)) X t.node.func t.node.ped (t.regs.getD 0 0))) := ⟨h3, t3, k2.trans k3 (fun _ e _ => .inr e)⟩
  have d1 := t2.tsk.func
  have d2 := t2.tsk.ped
  have d3 := t2.reg (k := 0) (by omega)
  have d4 : (entW w R X s.tasks (imax s.depth t.depth)).cell? ⟨R, 4, none⟩ = some (.bool false) := (blk_cell h2.blk 4).trans rfl
  have e1 := t2.tail 2 rfl
  have e2 := t2.tail 4 rfl
  have e3 := t2.tail 5 rfl
  have f1 := t2.free 30
  have f2 := t2.free 32
  have f3 := t2.free 33
  clear h ht h2 t2 k2 h3 t3 k3
  obtain ⟨T0, hT0⟩ : ∃ T0 : Int, T0 = s.tasks := ⟨_, rfl⟩
  rw [← hT0] at c2 HH d1 d2 d3 d4 e1 e2 e3 f1 f2 f3
  have b2 : 0 ≤ T0 ∧ T0 ≤ 8388608 := by omega
  obtain ⟨W, hW⟩ : ∃ W, W = entW w R X T0 (imax s.depth t.depth) := ⟨_, rfl⟩
  rw [← hW] at HH d1 d2 d3 d4 e1 e2 e3 f1 f2 f3
  unfold entN at HH
  clear hT0
  have dd1 : W.cell? ⟨X, 0, none⟩ = some (.int .i64 t.node.func) := d1
  have dd2 : W.cell? ⟨X, 18, none⟩ = some (.int .i64 t.node.ped) := d2
  have dd3 : W.cell? ⟨X, 2, none⟩ = some (.int .i64 (t.regs.getD 0 0)) := d3
  clear d1 d2 d3
  unfold entW at hW
  have HW : Hid _ := hW
  clear hW
  generalize t.regs.getD 0 0 = A0 at *
  go_enter Tryd.func15, Tryd.ntmps15
  by_cases hlt : s.depth < t.depth
  · have e : imax s.depth t.depth = t.depth := if_pos hlt
    rw [e] at HW
    clear e
    go_wp2_with fail
    go_region
    all_goals go_upto_region 5 with fail
    all_goals rw [← HW.out]
    all_goals clear c1 c2 c3 c4 c7 z1 z3 z4 HW
    all_goals go_region
    all_goals go_wp2_with fail
    all_goals go_end0
    all_goals exact ⟨rfl, HH.out⟩
  · have e : imax s.depth t.depth = s.depth := if_neg hlt
    rw [e] at HW
    clear e
    go_wp2_with fail
    go_region
    all_goals go_upto_region 5 with fail
    all_goals rw [← HW.out]
    all_goals clear c1 c2 c3 c4 c7 z1 z3 z4 HW
    all_goals go_region
    all_goals go_wp2_with fail
    all_goals go_end0
    all_goals exact ⟨rfl, HH.out⟩
end Go.Proofs.YtokfbagacehbgaaDoor
