import Derived.Test.YtemmkgnbngeiaaaDqStep
/-! Answer; the machines that have not begun. -/
namespace Go.Proofs.Ytemmkgnbngeiaaa
open Go.RowKit Go.HeapKit Go.IntWalk

theorem keeps_drewN4 (S : Nat → Prop) (w : World) (n : Nat) : Keeps S w (w.drewN n) := ⟨rfl, rfl, rfl, Nat.le_refl _, fun _ _ _ => rfl⟩
open Classical in
noncomputable def OpS.ans (o : OpS) : Int × Int := if o = OpS.zero then (1, 0) else if o.at_ = 1 then (o.code, o.v) else (0, 0)
set_option maxHeartbeats 1600000 in
theorem answer_zero (w : World) : Calls Try.prog 29 #[OpS.zero.value] w fun e w' => e = .returned (.tuple #[.int .i64 1, .int .i64 0]) ∧ Keeps None w w' := by
  simp only [OpS.value, OpS.vals, OpS.zero]
  go_enter Try.func29, Try.ntmps29
  go_wp2
  go_ret2
  exact ⟨rfl, Keeps.alloc None w _⟩
set_option maxHeartbeats 1600000 in
theorem answer_ended (base most code v t b a c na nc ix mv : Int) (w : World) : Calls Try.prog 29 #[(OpS.mk base most 1 code v t b a c na nc ix mv).value] w fun e w' => e = .returned (.tuple #[.int .i64 code, .int .i64 v]) ∧ Keeps None w w' := by
  simp only [OpS.value, OpS.vals]
  go_enter Try.func29, Try.ntmps29
  go_wp2_with fail
  go_quiet (fail)
  go_wp2_with fail
  go_ret2
  exact ⟨rfl, (Keeps.alloc None w _).trans (keeps_drewN4 None _ _) (fun _ f _ => f)⟩
set_option maxHeartbeats 1600000 in
theorem answer_running (base most at_ code v t b a c na nc ix mv : Int) (h0 : (at_ == 0) = false) (h1 : (at_ != 1) = true) (w : World) : Calls Try.prog 29 #[(OpS.mk base most at_ code v t b a c na nc ix mv).value] w fun e w' => e = .returned (.tuple #[.int .i64 0, .int .i64 0]) ∧ Keeps None w w' := by
  have h0' : ¬ at_ = 0 := by simpa using h0
  simp only [OpS.value, OpS.vals]
  go_enter Try.func29, Try.ntmps29
  go_wp2
  go_ret2
  exact ⟨rfl, Keeps.alloc None w _⟩
theorem answer_any (o : OpS) (ho : o.Fit) (w : World) : Calls Try.prog 29 #[o.value] w fun e w' => e = .returned (.tuple #[.int .i64 o.ans.1, .int .i64 o.ans.2]) ∧ Keeps None w w' := by
  rcases ho.pt with rfl | ⟨h1, h2⟩
  · rw [show OpS.zero.ans = (1, 0) from if_pos rfl]
    exact answer_zero w
  · have hz : ¬ o = OpS.zero := by rintro rfl; simp [OpS.zero] at h1
    by_cases h : o.at_ = 1
    · rw [show o.ans = (o.code, o.v) from (if_neg hz).trans (if_pos h)]
      obtain ⟨base, most, at_, code, v, t, b, a, c, na, nc, ix, mv⟩ := o
      simp only at h
      subst h
      exact answer_ended base most code v t b a c na nc ix mv w
    · rw [show o.ans = (0, 0) from (if_neg hz).trans (if_neg h)]
      obtain ⟨base, most, at_, code, v, t, b, a, c, na, nc, ix, mv⟩ := o
      simp only at h h1
      exact answer_running base most at_ code v t b a c na nc ix mv (by simp; omega) (by simpa using h) w
set_option maxHeartbeats 1600000 in
theorem begin_ok (base most first : Int) (hm : 1 ≤ most ∧ most ≤ 4096) (w : World) : Calls Try.prog 45 #[.agg #[.int .i64 base, .int .i64 most], .int .i64 first] w fun e w' => e = .returned (OpS.mk base most first 0 0 0 0 0 0 0 0 0 0).value ∧ Keeps None w w' := by
  have hf := mostFits_any most
  rw [show (decide (1 ≤ most) && decide (most ≤ 4096)) = true by simp; omega] at hf
  simp only [OpS.value, OpS.vals]
  go_enter Try.func45, Try.ntmps45
  go_wp2_with fail
  refine (hf _).mono ?_
  rintro e w' ⟨rfl, hw⟩
  have hw2 := hw.symm
  subst hw2
  clear hw hf
  go_wp2
  exact op_ret1 4 rfl (new_at _ _ _ (by simp)) rfl rfl ⟨rfl, ((Keeps.refl None w).andAlloc _).andAlloc _⟩
set_option maxHeartbeats 1600000 in
theorem newPop (base most : Int) (hm : 1 ≤ most ∧ most ≤ 4096) (w : World) : Calls Try.prog 23 #[.agg #[.int .i64 base, .int .i64 most]] w fun e w' => e = .returned (OpS.mk base most 13 0 0 0 0 0 0 0 0 0 0).value ∧ Keeps None w w' := by
  have hbg := begin_ok base most 13 hm
  simp only [OpS.value, OpS.vals] at hbg ⊢
  go_enter Try.func23, Try.ntmps23
  go_wp2_with fail
  refine (hbg _).mono ?_
  rintro e w1 ⟨rfl, hk⟩
  have hb := (hk.block (w.heap.size + 1) (by simp) (fun f => f)).trans (new_at _ _ _ (by simp))
  obtain ⟨r0, r1, r2, r3, r4, r5, r6, r7, r8, r9, r10, r11, r12⟩ := zcells hb
  have s0 := free_of_block hb 0
  have s1 := free_of_block hb 1
  have s2 := free_of_block hb 2
  have s3 := free_of_block hb 3
  have s4 := free_of_block hb 4
  have s5 := free_of_block hb 5
  have s6 := free_of_block hb 6
  have s7 := free_of_block hb 7
  have s8 := free_of_block hb 8
  have s9 := free_of_block hb 9
  have s10 := free_of_block hb 10
  have s11 := free_of_block hb 11
  have s12 := free_of_block hb 12
  have HK : Hid _ := hk
  clear hk hbg
  go_wp2
  exact op_end1 2 rfl rfl hb rfl rfl _ _ _ _ _ _ _ _ _ _ _ _ _ (fun w' hk2 => ⟨rfl, (((Keeps.refl None w).andAlloc _).andAlloc _ |>.trans HK.out (fun _ f _ => f)).trans hk2 (fun i e hi => by omega)⟩)
set_option maxHeartbeats 1600000 in
theorem newSteal (base most : Int) (hm : 1 ≤ most ∧ most ≤ 4096) (w : World) : Calls Try.prog 24 #[.agg #[.int .i64 base, .int .i64 most]] w fun e w' => e = .returned (OpS.mk base most 22 0 0 0 0 0 0 0 0 0 0).value ∧ Keeps None w w' := by
  have hbg := begin_ok base most 22 hm
  simp only [OpS.value, OpS.vals] at hbg ⊢
  go_enter Try.func24, Try.ntmps24
  go_wp2_with fail
  refine (hbg _).mono ?_
  rintro e w1 ⟨rfl, hk⟩
  have hb := (hk.block (w.heap.size + 1) (by simp) (fun f => f)).trans (new_at _ _ _ (by simp))
  obtain ⟨r0, r1, r2, r3, r4, r5, r6, r7, r8, r9, r10, r11, r12⟩ := zcells hb
  have s0 := free_of_block hb 0
  have s1 := free_of_block hb 1
  have s2 := free_of_block hb 2
  have s3 := free_of_block hb 3
  have s4 := free_of_block hb 4
  have s5 := free_of_block hb 5
  have s6 := free_of_block hb 6
  have s7 := free_of_block hb 7
  have s8 := free_of_block hb 8
  have s9 := free_of_block hb 9
  have s10 := free_of_block hb 10
  have s11 := free_of_block hb 11
  have s12 := free_of_block hb 12
  have HK : Hid _ := hk
  clear hk hbg
  go_wp2
  exact op_end1 2 rfl rfl hb rfl rfl _ _ _ _ _ _ _ _ _ _ _ _ _ (fun w' hk2 => ⟨rfl, (((Keeps.refl None w).andAlloc _).andAlloc _ |>.trans HK.out (fun _ f _ => f)).trans hk2 (fun i e hi => by omega)⟩)
set_option maxHeartbeats 1600000 in
theorem newLook (base most : Int) (hm : 1 ≤ most ∧ most ≤ 4096) (w : World) : Calls Try.prog 25 #[.agg #[.int .i64 base, .int .i64 most]] w fun e w' => e = .returned (OpS.mk base most 28 0 0 0 0 0 0 0 0 0 0).value ∧ Keeps None w w' := by
  have hbg := begin_ok base most 28 hm
  simp only [OpS.value, OpS.vals] at hbg ⊢
  go_enter Try.func25, Try.ntmps25
  go_wp2_with fail
  refine (hbg _).mono ?_
  rintro e w1 ⟨rfl, hk⟩
  have hb := (hk.block (w.heap.size + 1) (by simp) (fun f => f)).trans (new_at _ _ _ (by simp))
  obtain ⟨r0, r1, r2, r3, r4, r5, r6, r7, r8, r9, r10, r11, r12⟩ := zcells hb
  have s0 := free_of_block hb 0
  have s1 := free_of_block hb 1
  have s2 := free_of_block hb 2
  have s3 := free_of_block hb 3
  have s4 := free_of_block hb 4
  have s5 := free_of_block hb 5
  have s6 := free_of_block hb 6
  have s7 := free_of_block hb 7
  have s8 := free_of_block hb 8
  have s9 := free_of_block hb 9
  have s10 := free_of_block hb 10
  have s11 := free_of_block hb 11
  have s12 := free_of_block hb 12
  have HK : Hid _ := hk
  clear hk hbg
  go_wp2
  exact op_end1 2 rfl rfl hb rfl rfl _ _ _ _ _ _ _ _ _ _ _ _ _ (fun w' hk2 => ⟨rfl, (((Keeps.refl None w).andAlloc _).andAlloc _ |>.trans HK.out (fun _ f _ => f)).trans hk2 (fun i e hi => by omega)⟩)
set_option maxHeartbeats 1600000 in
theorem newPush (base most v : Int) (hm : 1 ≤ most ∧ most ≤ 4096) (w : World) : Calls Try.prog 22 #[.agg #[.int .i64 base, .int .i64 most], .int .i64 v] w fun e w' => e = .returned (OpS.mk base most 2 0 v 0 0 0 0 0 0 0 0).value ∧ Keeps None w w' := by
  have hbg := begin_ok base most 2 hm
  simp only [OpS.value, OpS.vals] at hbg ⊢
  go_enter Try.func22, Try.ntmps22
  go_wp2_with fail
  refine (hbg _).mono ?_
  rintro e w1 ⟨rfl, hk⟩
  have hb := (hk.block (w.heap.size + 1) (by simp) (fun f => f)).trans (new_at _ _ _ (by simp))
  have hsz := hk.size
  simp at hsz
  have hb2 := ((Keeps.alloc None w1 (.cells #[.int .i64 base, .int .i64 most, .int .i64 2, .int .i64 0, .int .i64 v, .int .i64 0, .int .i64 0, .int .i64 0, .int .i64 0, .int .i64 0, .int .i64 0, .int .i64 0, .int .i64 0] 53)).block _ (Array.getElem?_eq_some_iff.1 hb).1 (fun f => f)).trans hb
  obtain ⟨r0, r1, r2, r3, r4, r5, r6, r7, r8, r9, r10, r11, r12⟩ := zcells hb
  have s0 := free_of_block hb 0
  have s1 := free_of_block hb 1
  have s2 := free_of_block hb 2
  have s3 := free_of_block hb 3
  have s4 := free_of_block hb 4
  have s5 := free_of_block hb 5
  have s6 := free_of_block hb 6
  have s7 := free_of_block hb 7
  have s8 := free_of_block hb 8
  have s9 := free_of_block hb 9
  have s10 := free_of_block hb 10
  have s11 := free_of_block hb 11
  have s12 := free_of_block hb 12
  obtain ⟨t0, t1, t2, t3, t4, t5, t6, t7, t8, t9, t10, t11, t12⟩ := zcells hb2
  have u0 := free_of_block hb2 0
  have u1 := free_of_block hb2 1
  have u2 := free_of_block hb2 2
  have u3 := free_of_block hb2 3
  have u4 := free_of_block hb2 4
  have u5 := free_of_block hb2 5
  have u6 := free_of_block hb2 6
  have u7 := free_of_block hb2 7
  have u8 := free_of_block hb2 8
  have u9 := free_of_block hb2 9
  have u10 := free_of_block hb2 10
  have u11 := free_of_block hb2 11
  have u12 := free_of_block hb2 12
  have HK : Hid _ := hk
  clear hk hbg
  go_wp2_with fail
  exact op_end1 4 rfl rfl hb2 rfl rfl _ _ _ _ _ _ _ _ _ _ _ _ _ (fun w' hk2 => ⟨rfl, ((((Keeps.refl None w).andAlloc _).andAlloc _ |>.trans HK.out (fun _ f _ => f)).andAlloc _).trans hk2 (fun i e hi => by omega)⟩)
end Go.Proofs.Ytemmkgnbngeiaaa
