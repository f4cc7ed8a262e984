import Derived.Test.YtokfbagacehbgaaDoorSrPay
import Derived.Deep.RegionLaw
/-! wait, leave, enter. -/
namespace Go.Proofs.YtokfbagacehbgaaDoor
set_option linter.unusedVariables false
set_option maxRecDepth 20000
open Go.RowKit Go.HeapKit Go.PlainOps

theorem wrap_small {x : Int} (h : -9223372036854775808 ≤ x ∧ x ≤ 9223372036854775807) : IntKind.i64.wrap x = x := by
  simp [IntKind.wrap, IntKind.bits, IntKind.signed]; omega
theorem wait_any (X : Nat) (at_ : Int) (t : Tk) (w : World) (ht : IsTk w X at_ t) (b1 : 0 ≤ t.due ∧ t.due ≤ 8388608) (b2 : 0 ≤ t.span ∧ t.span ≤ 8388608) :
    Calls Tryd.prog 18 #[.pointer (some ⟨X, 0, none⟩)] w fun e w' => e = .returned (.tuple #[]) ∧ IsTk w' X at_ (waitT t) ∧ Keeps (· = X) w w' := by
  have c1 := ht.tail 9 rfl
  have c2 := ht.tail 10 rfl
  have z1 := ht.free 37
  have t1 := ht.putTail (nf' := t.node.func) (np' := t.node.ped) (t' := waitT t) (j := 9) (x := imax t.span (t.due + 1)) rfl rfl rfl
  have k1 : Keeps (· = X) w _ := (Keeps.refl (· = X) w).andSet (x := ⟨X, 37, none⟩) (.inl rfl) (.int .i64 (imax t.span (t.due + 1)))
  have HH : Hid _ := And.intro (t1.kept (Keeps.drew None _) (fun f => f)) k1.andDrew
  clear ht t1 k1
  go_enter Tryd.func18, Tryd.ntmps18
  go_wp2_with fail
  go_region
  all_goals go_end0
  all_goals exact ⟨rfl, HH.out⟩
theorem leave_off (R X : Nat) (fv nv : Value) (s : Rn) (at_ : Int) (t : Tk) (w : World) (h : IsRn w R fv false s nv) :
    Calls Tryd.prog 19 #[.pointer (some ⟨R, 0, none⟩), .pointer (some ⟨X, 0, none⟩)] w fun e w' => e = .returned (.tuple #[]) ∧ w' = w := by
  have c1 : w.cell? ⟨R, 4, none⟩ = some (.bool false) := (blk_cell h.blk 4).trans rfl
  clear h
  go_enter Tryd.func19, Tryd.ntmps19
  go_wp2_with fail
  go_end0
  exact ⟨rfl, rfl⟩
theorem leave_on (R X : Nat) (fv nv : Value) (s : Rn) (at_ : Int) (t : Tk) (w : World) (h : IsRn w R fv true s nv) (ht : IsTk w X at_ t) (hn : 0 ≤ t.number ∧ t.number < s.nodes.length) :
    Calls Tryd.prog 19 #[.pointer (some ⟨R, 0, none⟩), .pointer (some ⟨X, 0, none⟩)] w fun e w' => e = .returned (.tuple #[]) ∧ IsRn w' R fv true (leaveS true s t) nv ∧ IsTk w' X at_ t ∧ Keeps (RFoot R nv) w w' := by
  have hL := ndVals_length s.nodes
  have nX := h.nX ht
  have nR := h.nR
  rcases h.row.2 with ⟨_, h0⟩ | ⟨g, cap, cur, rfl, hb, hg, hnc, hcm, hcs, htk⟩
  · omega
  · obtain ⟨k, hk⟩ := Int.eq_ofNat_of_zero_le hn.1
    have hk2 : k < s.nodes.length := by omega
    have c1 : w.cell? ⟨R, 4, none⟩ = some (.bool true) := (blk_cell h.blk 4).trans rfl
    have c2 : w.cell? ⟨R, 5, none⟩ = some (.slice (some ⟨g, 0, none⟩) s.nodes.length cap) := (blk_cell h.blk 5).trans rfl
    have d0 := ht.tail 0 rfl
    have d1 := ht.tail 1 rfl
    have d2 := ht.tail 2 rfl
    have d3 := ht.tail 3 rfl
    have d4 := ht.tail 4 rfl
    have d5 := ht.tail 5 rfl
    have d6 := ht.tail 6 rfl
    have d7 : w.cell? ⟨X, 35, none⟩ = some (.int .i64 (k : Int)) := by rw [← hk]; exact ht.tail 7 rfl
    have z : ∀ j, w.frozen? ⟨g, j, none⟩ = false := fun j => blk_free hg j
    have z0 := z (k * 7)
    have z1 := z (k * 7 + 1)
    have z2 := z (k * 7 + 2)
    have z3 := z (k * 7 + 3)
    have z4 := z (k * 7 + 4)
    have z5 := z (k * 7 + 5)
    have z6 := z (k * 7 + 6)
    have hsz : s.nodes.length * 7 ≤ cur.size := by rw [hcs]; exact Nat.mul_le_mul_right _ hnc
    have at_ : ∀ j, j < 7 → ∃ v, w.cell? ⟨g, k * 7 + j, none⟩ = some v := fun j hj => ⟨cur[k * 7 + j]'(by omega), by rw [blk_cell hg]; simp⟩
    obtain ⟨v0, y0⟩ := at_ 0 (by omega)
    obtain ⟨v1, y1⟩ := at_ 1 (by omega)
    obtain ⟨v2, y2⟩ := at_ 2 (by omega)
    obtain ⟨v3, y3⟩ := at_ 3 (by omega)
    obtain ⟨v4, y4⟩ := at_ 4 (by omega)
    obtain ⟨v5, y5⟩ := at_ 5 (by omega)
    obtain ⟨v6, y6⟩ := at_ 6 (by omega)
    simp only [Nat.add_zero] at y0
    have i1 : (k : Int) < (s.nodes.length : Int) := by omega
    obtain ⟨w2, hw2⟩ : ∃ w2, w2 = ((((((w.setCell ⟨g, k * 7, none⟩ (.int .i64 t.node.parent)).setCell ⟨g, k * 7 + 1, none⟩ (.int .i64 t.node.idx)).setCell ⟨g, k * 7 + 2, none⟩ (.int .i64 t.node.func)).setCell ⟨g, k * 7 + 3, none⟩ (.int .i64 t.node.work)).setCell ⟨g, k * 7 + 4, none⟩ (.int .i64 t.node.ped)).setCell ⟨g, k * 7 + 5, none⟩ (.int .i64 t.node.arg)).setCell ⟨g, k * 7 + 6, none⟩ (.int .i64 t.node.v) := ⟨_, rfl⟩
    have hk1 : Keeps (· = g) w w2 := by
      rw [hw2]
      exact (((((((Keeps.refl (· = g) w).andSet (x := ⟨g, k * 7, none⟩) (.inl rfl) _).andSet (x := ⟨g, k * 7 + 1, none⟩) (.inl rfl) _).andSet (x := ⟨g, k * 7 + 2, none⟩) (.inl rfl) _).andSet (x := ⟨g, k * 7 + 3, none⟩) (.inl rfl) _).andSet (x := ⟨g, k * 7 + 4, none⟩) (.inl rfl) _).andSet (x := ⟨g, k * 7 + 5, none⟩) (.inl rfl) _).andSet (x := ⟨g, k * 7 + 6, none⟩) (.inl rfl) _
    have ngX : g ≠ X := fun e => nX (by rw [← e]; rfl)
    have ngR : g ≠ R := fun e => nR (by rw [← e]; rfl)
    have hrn : IsRn w2 R fv true (leaveS true s t) (.slice (some ⟨g, 0, none⟩) s.nodes.length cap) := by
      refine ⟨blk_kept h.blk hk1 (fun e => ngR e.symm), ?_⟩
      have hlen : (leaveS true s t).nodes.length = s.nodes.length := by simp [leaveS]
      rw [hlen]
      refine ⟨by rw [ndVals_length, hlen], .inr ⟨g, cap, _, rfl, hb, by rw [hw2]; exact blk_set (blk_set (blk_set (blk_set (blk_set (blk_set (blk_set hg _) _) _) _) _) _) _, hnc, hcm, by simpa using hcs, ?_⟩⟩
      have e : (leaveS true s t).nodes = s.nodes.set k t.node := by simp [leaveS, hk]
      rw [e, ← ndVals_set s.nodes k t.node hk2]
      simp only [Array.toList_setIfInBounds]
      have hall : ∀ (l : List Value) (q : Nat) (v : Value), (l.set q v).take (s.nodes.length * 7) = (l.take (s.nodes.length * 7)).set q v := fun l q v => by rw [List.take_set]
      rw [hall, hall, hall, hall, hall, hall, hall, htk]
    have HH : Hid _ := And.intro (hrn.kept (Keeps.drew None _) (fun _ _ f => f)) (And.intro ((ht.kept hk1 (fun e => ngX e.symm)).kept (Keeps.drew None _) (fun f => f)) (hk1.andDrew.mono (fun i e _ => (Or.inr (by subst e; rfl) : RFoot R (.slice (some ⟨g, 0, none⟩) s.nodes.length cap) i))))
    rw [hw2] at HH
    clear h ht hrn hk1 hw2 at_ z
    go_enter Tryd.func19, Tryd.ntmps19
    go_wp2_with fail
    go_region
    all_goals go_end0
    all_goals exact ⟨rfl, HH.out⟩
end Go.Proofs.YtokfbagacehbgaaDoor
