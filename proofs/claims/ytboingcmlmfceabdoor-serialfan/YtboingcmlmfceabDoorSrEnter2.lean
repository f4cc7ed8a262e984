import Derived.Test.YtboingcmlmfceabDoorSrEnter
/-! enter. -/
namespace Go.Proofs.YtboingcmlmfceabDoor
set_option linter.unusedVariables false
set_option maxRecDepth 20000
open Go.RowKit Go.HeapKit Go.PlainOps

theorem enter_deep (R X : Nat) (t : Tk) (w : World) (ht : IsTk w X t) (hd : 4096 < t.depth) :
    Calls Tryd.prog 33 #[.pointer (some ⟨R, 0, none⟩), .pointer (some ⟨X, 0, none⟩)] w fun e w' => e = .panicked (thrownE 63) ∧ w' = w := by
  have c1 := ht.tail 8 rfl
  clear ht
  go_enter Tryd.func33, Tryd.ntmps33
  go_wp2_with (go_at_call 32; refine (sgiveUp_any _ _).mono ?_; rintro _ w' ⟨rfl, rfl⟩)
  exact ⟨rfl, rfl, rfl⟩
/-- What 'enter' does ahead of the nodes. -/
def entW (w : World) (R X : Nat) (T0 M A0 : Int) : World := ((((w.setCell ⟨X, 31, none⟩ (.int .i64 T0)).setCell ⟨R, 2, none⟩ (.int .i64 (T0 + 1))).setCell ⟨R, 3, none⟩ (.int .i64 M)).setCell ⟨X, 29, none⟩ (.int .i64 A0)).drew
theorem entered {R X : Nat} {fv nv : Value} {L : Bool} {s : Rn} {t : Tk} {w : World} (h : IsRn w R fv L s nv) (ht : IsTk w X t) :
    IsRn (entW w R X s.tasks (imax s.depth t.depth) (t.regs.getD 0 0)) R fv L { s with tasks := s.tasks + 1, depth := imax s.depth t.depth } nv ∧
    IsTk (entW w R X s.tasks (imax s.depth t.depth) (t.regs.getD 0 0)) X (enterT s t) ∧
    Keeps (fun k => k = R ∨ k = X) w (entW w R X s.tasks (imax s.depth t.depth) (t.regs.getD 0 0)) := by
  have n1 := h.ne ht
  have ka : Keeps (· = X) w (w.setCell ⟨X, 31, none⟩ (.int .i64 s.tasks)) := Keeps.setCell (S := (· = X)) w (a := ⟨X, 31, none⟩) rfl _
  have ta := ht.putTail (t' := { t with number := s.tasks }) (j := 7) (x := s.tasks) rfl rfl rfl
  have ra := h.kept ka (fun k hk e => by subst e; rcases hk with hk | hk; exact n1 hk.symm; exact h.nX ht hk)
  have rb := ra.put (k := 2) (x := (s.tasks : Int) + 1) (s' := { s with tasks := s.tasks + 1 }) rfl (by simp)
  have kb : Keeps (· = R) _ _ := Keeps.setCell (S := (· = R)) (w.setCell ⟨X, 31, none⟩ (.int .i64 s.tasks)) (a := ⟨R, 2, none⟩) rfl (.int .i64 ((s.tasks : Int) + 1))
  have tb := ta.kept kb n1.symm
  have rc := rb.put (k := 3) (x := imax s.depth t.depth) (s' := { s with tasks := s.tasks + 1, depth := imax s.depth t.depth }) rfl (by simp)
  have kc : Keeps (· = R) _ _ := Keeps.setCell (S := (· = R)) ((w.setCell ⟨X, 31, none⟩ (.int .i64 s.tasks)).setCell ⟨R, 2, none⟩ (.int .i64 ((s.tasks : Int) + 1))) (a := ⟨R, 3, none⟩) rfl (.int .i64 (imax s.depth t.depth))
  have tc := tb.kept kc n1.symm
  have ke : Keeps (· = X) _ _ := Keeps.setCell (S := (· = X)) (((w.setCell ⟨X, 31, none⟩ (.int .i64 s.tasks)).setCell ⟨R, 2, none⟩ (.int .i64 ((s.tasks : Int) + 1))).setCell ⟨R, 3, none⟩ (.int .i64 (imax s.depth t.depth))) (a := ⟨X, 29, none⟩) rfl (.int .i64 (t.regs.getD 0 0))
  have te := tc.putTail (t' := enterT s t) (j := 5) (x := t.regs.getD 0 0) rfl rfl rfl
  have re := rc.kept ke (fun k hk e => by subst e; rcases hk with hk | hk; exact n1 hk.symm; exact rc.nX tc hk)
  have kd := Keeps.drew None ((((w.setCell ⟨X, 31, none⟩ (.int .i64 s.tasks)).setCell ⟨R, 2, none⟩ (.int .i64 ((s.tasks : Int) + 1))).setCell ⟨R, 3, none⟩ (.int .i64 (imax s.depth t.depth))).setCell ⟨X, 29, none⟩ (.int .i64 (t.regs.getD 0 0)))
  refine ⟨re.kept kd (fun _ _ f => f), te.kept kd (fun f => f), ?_⟩
  exact ((((ka.mono (fun _ e _ => Or.inr e)).trans kb (fun _ e _ => Or.inl e)).trans kc (fun _ e _ => Or.inl e)).trans ke (fun _ e _ => Or.inr e)).trans kd (fun _ f _ => f.elim)
set_option maxHeartbeats 1000000 in
theorem enter_off (R X : Nat) (fv nv : Value) (s : Rn) (t : Tk) (w : World) (h : IsRn w R fv false s nv) (ht : IsTk w X t) (hd : ¬ 4096 < t.depth) (b1 : s.tasks ≤ 8388608) :
    Calls Tryd.prog 33 #[.pointer (some ⟨R, 0, none⟩), .pointer (some ⟨X, 0, none⟩)] w fun e w' => e = .returned (.tuple #[]) ∧ IsRn w' R fv false (enterS false s t) nv ∧ IsTk w' X (enterT s t) ∧ Keeps (fun k => k = R ∨ k = X) w w' := by
  have c1 := ht.tail 8 rfl
  have c2 : w.cell? ⟨R, 2, none⟩ = some (.int .i64 s.tasks) := (blk_cell h.blk 2).trans rfl
  have c3 : w.cell? ⟨R, 3, none⟩ = some (.int .i64 s.depth) := (blk_cell h.blk 3).trans rfl
  have c4 : w.cell? ⟨R, 4, none⟩ = some (.bool false) := (blk_cell h.blk 4).trans rfl
  have c5 := ht.reg (k := 0) (by omega)
  have c7 := ht.tail 7 rfl
  have c8 := ht.tail 5 rfl
  have z1 := ht.free 31
  have z2 := ht.free 29
  have z3 := blk_free h.blk 2
  have z4 := blk_free h.blk 3
  have n1 := h.ne ht
  have n2 := n1.symm
  have HH : Hid _ := entered h ht
  clear h ht
  obtain ⟨A0, hA0⟩ : ∃ A0 : Int, A0 = t.regs.getD 0 0 := ⟨_, rfl⟩
  obtain ⟨T0, hT0⟩ : ∃ T0 : Int, T0 = s.tasks := ⟨_, rfl⟩
  rw [← hT0] at c2
  rw [← hA0] at c5
  rw [← hT0, ← hA0] at HH
  have b2 : 0 ≤ T0 ∧ T0 ≤ 8388608 := by omega
  clear hT0 hA0
  by_cases hlt : s.depth < t.depth
  · have e : imax s.depth t.depth = t.depth := if_pos hlt
    have E : Hid ((enterS false s t) = { s with tasks := s.tasks + 1, depth := t.depth }) := by unfold Hid enterS; rw [e]; rfl
    rw [e] at HH
    clear e
    go_enter Tryd.func33, Tryd.ntmps33
    go_wp2_with fail
    go_region
    all_goals go_wp2_with fail
    all_goals go_end0
    all_goals exact ⟨rfl, by rw [E.out]; exact HH.out⟩
  · have e : imax s.depth t.depth = s.depth := if_neg hlt
    have E : Hid ((enterS false s t) = { s with tasks := s.tasks + 1, depth := s.depth }) := by unfold Hid enterS; rw [e]; rfl
    rw [e] at HH
    clear e
    go_enter Tryd.func33, Tryd.ntmps33
    go_wp2_with fail
    go_region
    all_goals go_wp2_with fail
    all_goals go_end0
    all_goals exact ⟨rfl, by rw [E.out]; exact HH.out⟩
end Go.Proofs.YtboingcmlmfceabDoor
