import Derived.Test.YtemmkgnbngeiaaaDqMid
/-! The machine's own functions on itself. -/
namespace Go.Proofs.Ytemmkgnbngeiaaa
open Go.RowKit Go.HeapKit Go.IntWalk

def grownV (c m : Int) : Int := if m < wrap64 (2 * c) then m else wrap64 (2 * c)
theorem grownw_any (c m : Int) (w : World) : Calls Try.prog 43 #[.int .i64 c, .int .i64 m] w fun e w' => e = .returned (.int .i64 (grownV c m)) ∧ w' = w := by
  by_cases h : m < wrap64 (2 * c)
  · go_enter Try.func43, Try.ntmps43
    go_wp2
    go_ret
    exact ⟨by rw [grownV, if_pos h]; rfl, rfl⟩
  · have h' : wrap64 (2 * c) ≤ m := by omega
    go_enter Try.func43, Try.ntmps43
    go_wp2
    go_ret
    exact ⟨by rw [grownV, if_neg (by omega)]; rfl, rfl⟩
theorem bufferw_any (n : Int) (w : World) : Calls Try.prog 38 #[.int .i64 n] w fun e w' => e = .returned (.int .i64 (wrap64 (1 + n))) ∧ w' = w := by
  go_enter Try.func38, Try.ntmps38
  go_wp2
  go_ret
  exact ⟨rfl, rfl⟩
theorem zcells {w1 : World} {g : Nat} {t : TypeId} (hb : w1.heap[g]? = some (.cells OpS.zero.vals t (0, 0))) : w1.cell? ⟨g, 0, none⟩ = some (.int .i64 0) ∧ w1.cell? ⟨g, 1, none⟩ = some (.int .i64 0) ∧ w1.cell? ⟨g, 2, none⟩ = some (.int .i64 0) ∧ w1.cell? ⟨g, 3, none⟩ = some (.int .i64 0) ∧ w1.cell? ⟨g, 4, none⟩ = some (.int .i64 0) ∧ w1.cell? ⟨g, 5, none⟩ = some (.int .i64 0) ∧ w1.cell? ⟨g, 6, none⟩ = some (.int .i64 0) ∧ w1.cell? ⟨g, 7, none⟩ = some (.int .i64 0) ∧ w1.cell? ⟨g, 8, none⟩ = some (.int .i64 0) ∧ w1.cell? ⟨g, 9, none⟩ = some (.int .i64 0) ∧ w1.cell? ⟨g, 10, none⟩ = some (.int .i64 0) ∧ w1.cell? ⟨g, 11, none⟩ = some (.int .i64 0) ∧ w1.cell? ⟨g, 12, none⟩ = some (.int .i64 0) :=
  ⟨cell_of_block hb 0, cell_of_block hb 1, cell_of_block hb 2, cell_of_block hb 3, cell_of_block hb 4, cell_of_block hb 5, cell_of_block hb 6, cell_of_block hb 7, cell_of_block hb 8, cell_of_block hb 9, cell_of_block hb 10, cell_of_block hb 11, cell_of_block hb 12⟩
def flatS (o : OpS) (next : Int) : OpS := if o.c < 1 then OpS.zero else { o with at_ := next }
def decidedS (o : OpS) (won : Bool) (other : Int) : OpS := if won then { o with code := 4 } else { o with code := other, v := 0 }
def measuredS (o : OpS) : OpS := if o.c < 1 then OpS.zero else if wrap64 (o.b - o.t) < o.c then { o with at_ := 6 } else if o.most ≤ o.c then OpS.ended 3 0 else { o with nc := grownV o.c o.most, at_ := 8 }
set_option maxHeartbeats 4000000 in
theorem flat_any (o : OpS) (next : Int) (w : World) : Calls Try.prog 70 #[o.value, .int .i64 next] w fun e w' => e = .returned (flatS o next).value ∧ Keeps None w w' := by
  obtain ⟨base, most, at_, code, v, t, b, a, c, na, nc, ix, mv⟩ := o
  by_cases h : c < 1
  · rw [show flatS _ next = OpS.zero by simp [flatS, h]]
    simp only [OpS.value, OpS.vals, OpS.zero]
    go_enter Try.func70, Try.ntmps70
    go_wp2
    exact op_ret1 4 rfl (new_at _ _ _ (by simp)) rfl rfl ⟨rfl, ((Keeps.refl None w).andAlloc _).andAlloc _⟩
  · rw [show flatS _ next = _ by simp only [flatS, if_neg h]; rfl]
    simp only [OpS.value, OpS.vals]
    go_enter Try.func70, Try.ntmps70
    go_wp2
    exact op_ret1 4 rfl (new_at _ _ _ (by simp)) rfl rfl ⟨rfl, ((Keeps.refl None w).andAlloc _).andAlloc _⟩
set_option maxHeartbeats 4000000 in
theorem decided_any (o : OpS) (won : Bool) (other : Int) (w : World) : Calls Try.prog 71 #[o.value, .bool won, .int .i64 other] w fun e w' => e = .returned (decidedS o won other).value ∧ Keeps None w w' := by
  obtain ⟨base, most, at_, code, v, t, b, a, c, na, nc, ix, mv⟩ := o
  cases won with
  | true =>
    simp only [decidedS, if_true, OpS.value, OpS.vals]
    go_enter Try.func71, Try.ntmps71
    go_wp2
    exact op_ret1 6 rfl (new_at _ _ _ (by simp)) rfl rfl ⟨rfl, ((Keeps.refl None w).andAlloc _).andAlloc _⟩
  | false =>
    simp only [decidedS, OpS.value, OpS.vals]
    go_enter Try.func71, Try.ntmps71
    go_wp2
    exact op_ret1 6 rfl (new_at _ _ _ (by simp)) rfl rfl ⟨rfl, ((Keeps.refl None w).andAlloc _).andAlloc _⟩
set_option maxHeartbeats 4000000 in
theorem measured_any (o : OpS) (w : World) : Calls Try.prog 68 #[o.value] w fun e w' => e = .returned (measuredS o).value ∧ Keeps None w w' := by
  obtain ⟨base, most, at_, code, v, t, b, a, c, na, nc, ix, mv⟩ := o
  by_cases h : c < 1
  · rw [show measuredS _ = OpS.zero by simp [measuredS, h]]
    simp only [OpS.value, OpS.vals, OpS.zero]
    go_enter Try.func68, Try.ntmps68
    go_wp2
    exact op_ret1 2 rfl (new_at _ _ _ (by simp)) rfl rfl ⟨rfl, ((Keeps.refl None w).andAlloc _).andAlloc _⟩
  by_cases h2 : wrap64 (b - t) < c
  · rw [show measuredS _ = _ by simp only [measuredS, if_neg h, if_pos h2]; rfl]
    simp only [OpS.value, OpS.vals]
    go_enter Try.func68, Try.ntmps68
    go_wp2
    exact op_ret1 2 rfl (new_at _ _ _ (by simp)) rfl rfl ⟨rfl, ((Keeps.refl None w).andAlloc _).andAlloc _⟩
  by_cases h3 : most ≤ c
  · rw [show measuredS _ = OpS.ended 3 0 by simp only [measuredS, if_neg h, if_neg h2, if_pos h3]]
    have hend := opend_any 3 0
    simp only [OpS.value, OpS.vals, OpS.ended] at hend ⊢
    go_enter Try.func68, Try.ntmps68
    go_wp2_with fail
    refine (hend _).mono ?_
    rintro e w2 ⟨rfl, hk⟩
    have hb := (hk.block (w.heap.size + 1) (by simp) (fun f => f)).trans (new_at _ _ _ (by simp))
    have HK : Hid _ := hk
    obtain ⟨r0, r1, r2, r3, r4, r5, r6, r7, r8, r9, r10, r11, r12⟩ := zcells hb
    have s0 := free_of_block hb 0
    have s1 := free_of_block hb 1
    have s2 := free_of_block hb 2
    have s3 := free_of_block hb 3
    have s4 := free_of_block hb 4
    have s5 := free_of_block hb 5
    have s6 := free_of_block hb 6
    have s7 := free_of_block hb 7
    have s8 := free_of_block hb 8
    have s9 := free_of_block hb 9
    have s10 := free_of_block hb 10
    have s11 := free_of_block hb 11
    have s12 := free_of_block hb 12
    clear hk hend
    go_wp2
    exact op_end1 2 rfl rfl hb rfl rfl _ _ _ _ _ _ _ _ _ _ _ _ _ (fun w' hk2 => ⟨rfl, (((Keeps.refl None w).andAlloc _).andAlloc _ |>.trans HK.out (fun _ f _ => f)).trans hk2 (fun i e hi => by omega)⟩)
  · rw [show measuredS _ = _ by simp only [measuredS, if_neg h, if_neg h2, if_neg h3]; rfl]
    have hg := grownw_any c most
    generalize grownV c most = gr at hg ⊢
    simp only [OpS.value, OpS.vals]
    go_enter Try.func68, Try.ntmps68
    go_wp2_with fail
    refine (hg _).mono ?_
    rintro e w' ⟨rfl, hw⟩
    have hw2 := hw.symm
    subst hw2
    clear hw hg
    go_wp2
    exact op_ret1 2 rfl (new_at _ _ _ (by simp)) rfl rfl ⟨rfl, ((Keeps.refl None w).andAlloc _).andAlloc _⟩
end Go.Proofs.Ytemmkgnbngeiaaa
