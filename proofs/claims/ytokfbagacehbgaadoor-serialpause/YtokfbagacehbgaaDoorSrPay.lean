import Derived.Test.YtokfbagacehbgaaDoorSrMem
import Derived.Deep.RegionHeld3
/-! pay, wait, leave. -/
namespace Go.Proofs.YtokfbagacehbgaaDoor
set_option linter.unusedVariables false
set_option maxRecDepth 20000
open Go.RowKit Go.HeapKit Go.PlainOps

theorem pay_out (R X : Nat) (fv nv : Value) (L : Bool) (s : Rn) (w : World) (h : IsRn w R fv L s nv) (h0 : s.fuel = 0) :
    Calls Tryd.prog 16 #[.pointer (some ⟨R, 0, none⟩), .pointer (some ⟨X, 0, none⟩)] w fun e w' => e = .panicked (thrownE 62) ∧ w' = w := by
  have c1 : w.cell? ⟨R, 1, none⟩ = some (.int .i64 0) := by rw [blk_cell h.blk]; simp [h0]
  clear h h0
  go_enter Tryd.func16, Tryd.ntmps16
  go_wp2_with (go_at_call 14; refine (sgiveUp_any _ _).mono ?_; rintro _ w' ⟨rfl, rfl⟩)
  exact ⟨rfl, rfl, rfl⟩
theorem pay_any (R X : Nat) (fv nv : Value) (L : Bool) (s : Rn) (at_ : Int) (t : Tk) (w : World) (h : IsRn w R fv L s nv) (ht : IsTk w X at_ t) (h0 : s.fuel ≠ 0) (hs : s.fuel ≤ 8388608) (b1 : 0 ≤ t.node.work ∧ t.node.work ≤ 8388608) (b2 : 0 ≤ t.span ∧ t.span ≤ 8388608) :
    Calls Tryd.prog 16 #[.pointer (some ⟨R, 0, none⟩), .pointer (some ⟨X, 0, none⟩)] w fun e w' => e = .returned (.tuple #[]) ∧ IsRn w' R fv L (payS s) nv ∧ IsTk w' X at_ (payT t) ∧ Keeps (fun k => k = R ∨ k = X) w w' := by
  obtain ⟨m, hm⟩ : ∃ m, s.fuel = m + 1 := ⟨s.fuel - 1, by omega⟩
  obtain ⟨F, hF⟩ : ∃ F : Int, F = (m : Int) + 1 := ⟨_, rfl⟩
  have c1 : w.cell? ⟨R, 1, none⟩ = some (.int .i64 F) := by rw [blk_cell h.blk]; simp [hm, hF]
  have c2 := ht.tail 3 rfl
  have c3 := ht.tail 9 rfl
  have z1 := blk_free h.blk 1
  have z2 := ht.free 31
  have z3 := ht.free 37
  have n1 := h.ne ht
  have n2 := n1.symm
  have f1 : (F == 0) = false := by simp; omega
  have f2 : F ≤ 8388609 := by omega
  have f3 : 1 ≤ F := by omega
  have k1 : Keeps (· = R) w (w.setCell ⟨R, 1, none⟩ (.int .i64 (F - 1))) := Keeps.setCell (S := (· = R)) w (a := ⟨R, 1, none⟩) rfl _
  have r1 : IsRn (w.setCell ⟨R, 1, none⟩ (.int .i64 (F - 1))) R fv L (payS s) nv := h.put rfl (by simp [payS, hm, hF])
  have t1 := ht.kept k1 n2
  have t2 := t1.putTail (nf' := t.node.func) (np' := t.node.ped) (t' := { t with node := { t.node with work := t.node.work + 1 } }) (j := 3) (x := t.node.work + 1) rfl rfl rfl
  have t3 := t2.putTail (nf' := t.node.func) (np' := t.node.ped) (t' := payT t) (j := 9) (x := t.span + 1) rfl rfl rfl
  have k2 : Keeps (· = X) (w.setCell ⟨R, 1, none⟩ (.int .i64 (F - 1))) _ := ((Keeps.refl (· = X) _).andSet (x := ⟨X, 31, none⟩) (.inl rfl) (.int .i64 (t.node.work + 1))).andSet (x := ⟨X, 37, none⟩) (.inl rfl) (.int .i64 (t.span + 1))
  have HH : Hid _ := And.intro (r1.kept k2 (fun k hk e => by subst e; rcases hk with hk | hk; exact n2 hk; exact r1.nX t1 hk)) (And.intro t3 ((k1.mono (fun _ e _ => Or.inl e)).trans k2 (fun _ e _ => Or.inr e)))
  clear h ht k1 r1 t1 t2 t3 k2 hF hm h0 hs
  obtain ⟨W, hW⟩ : ∃ W, W = t.node.work := ⟨_, rfl⟩
  obtain ⟨P, hP⟩ : ∃ P, P = t.span := ⟨_, rfl⟩
  go_enter Tryd.func16, Tryd.ntmps16
  go_wp2_with fail
  go_end0
  exact ⟨rfl, HH.out⟩
end Go.Proofs.YtokfbagacehbgaaDoor
