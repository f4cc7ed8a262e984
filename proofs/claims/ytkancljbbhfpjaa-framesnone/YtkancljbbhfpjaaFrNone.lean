import Derived.Test.YtkancljbbhfpjaaFrNew
import Derived.Test.YtkancljbbhfpjaaFrStepAny
/-! FramesNone. -/
namespace Go.Proofs.Ytkancljbbhfpjaa
open Go.RowKit Go.HeapKit Go.IntWalk

theorem fnew_nil (n : Int) (w : World) : Calls Try.prog 9 #[.nilIface, .int .i64 n] w fun e w' => e = .returned (.tuple #[.agg #[.int .i64 0, .int .i64 0], .int .i64 1]) ∧ Keeps None w w' := by
  go_enter Try.func9, Try.ntmps9
  go_wp2
  exact tab_ret rfl (new_at w _ _ rfl) rfl rfl ⟨rfl, Keeps.alloc None w _⟩
theorem fstep_nilz (w : World) : Calls Try.prog 12 #[.nilIface, OpF.zero.value] w fun e w' => e = .returned OpF.zero.value ∧ Keeps None w w' := by
  simp only [OpF.value, OpF.vals, OpF.zero]
  go_enter Try.func12, Try.ntmps12
  go_wp2
  exact opf_ret1 4 rfl (new_at _ _ _ (by simp)) rfl rfl ⟨rfl, ((Keeps.refl None w).andAlloc _).andAlloc _⟩
theorem fstep_nil (x0 x1 x3 x4 x5 x6 x7 : Int) (h1 : ¬ x1 = 0) (w : World) : Calls Try.prog 12 #[.nilIface, (OpF.mk x0 x1 0 x3 x4 x5 x6 x7).value] w fun e w' => e = .returned OpF.zero.value ∧ Keeps None w w' := by
  have h1' : (x1 == 0) = false := by simpa using h1
  have hr := runs_any x0 x1 0
  simp only [beq_self_eq_true] at hr
  simp only [OpF.value, OpF.vals, OpF.zero]
  go_enter Try.func12, Try.ntmps12
  go_wp2_with fail
  refine (hr _).mono ?_
  rintro e w2 ⟨rfl, hk2⟩
  have hs := (hk2.block (w.heap.size + 1) (by simp) (fun f => f)).trans (new_at _ _ _ (by simp))
  obtain ⟨r0, r1, r2, r3, r4, r5, r6, r7⟩ := zero_cells hs
  obtain ⟨s0, s1, s2, s3, s4, s5, s6, s7⟩ := zero_frees hs
  have HK : Hid _ := And.intro hk2 hs
  clear hk2 hr hs
  go_wp2_with fail
  exact opf_end1 4 rfl rfl HK.out.2 rfl rfl _ _ _ _ _ _ _ _ (fun w' hk => ⟨rfl, ((((Keeps.refl None w).andAlloc _).andAlloc _).trans HK.out.1 (fun _ f _ => f)).trans hk (fun i e hi => by omega)⟩)
theorem blk_up {w w' : World} {g : Nat} {o : Obj} (h : w.heap[g]? = some o) (hk : Keeps None w w') : w'.heap[g]? = some o := (hk.block g (Array.getElem?_eq_some_iff.1 h).1 (fun f => f)).trans h
theorem blk_push {w : World} {g : Nat} {o : Obj} (h : w.heap[g]? = some o) (o2 : Obj) : (w.alloc o2).heap[g]? = some o := blk_up h (Keeps.alloc None w o2)
set_option maxHeartbeats 4000000 in
set_option maxRecDepth 100000 in
theorem framesNone_walk (w : World) : Calls Try.prog 3 #[] w fun e w' => e = .returned (.bool true) ∧ Keeps None w w' := by
  have ho : OpF.beg 0 0 1 0 0 0 = ⟨0, 1, 0, 0, 0, 0, 0, 0⟩ := rfl
  have hA := newAlloc_any 0 1
  rw [ho] at hA
  simp only [OpF.value, OpF.vals] at hA
  have hN0 := new_at w (.cells OpF.zero.vals 28) _ rfl
  have HN0 : Hid _ := hN0
  clear hN0
  go_enter Try.func3, Try.ntmps3
  go_wp2_with fail
  refine (fnew_nil 3 _).mono ?_
  rintro e w2 ⟨rfl, hk2⟩
  have HN2 : Hid _ := blk_up HN0.out hk2
  have HT2 : Hid _ := new_at w2 (.cells #[.int .i64 0, .int .i64 0] 23) _ rfl
  have HK2 : Hid (Keeps None w w2) := (Keeps.alloc None w _).trans hk2 (fun _ f _ => f)
  clear hk2 HN0
  go_wp2_with fail
  refine (fnew_nil 0 _).mono ?_
  rintro e w3 ⟨rfl, hk3⟩
  have hT3 := blk_up HT2.out hk3
  have HN3 : Hid _ := blk_up (blk_push HN2.out _) hk3
  have HK3 : Hid (Keeps None w w3) := (HK2.out.andAlloc _).trans hk3 (fun _ f _ => f)
  obtain ⟨t0, t1⟩ := tab_cells (blk_push hT3 (.cells #[.int .i64 0, .int .i64 0] 23))
  obtain ⟨z0, z1, z2, z3, z4, z5, z6, z7⟩ := zero_cells (blk_push HN3.out (.cells #[.int .i64 0, .int .i64 0] 23))
  clear hk3 HN2 HT2 HK2 hT3
  go_wp2_with fail
  refine (answer_zero _).mono ?_
  rintro e w4 ⟨rfl, hk4⟩
  have HN4 : Hid _ := blk_up (blk_push HN3.out _) hk4
  have HK4 : Hid (Keeps None w w4) := (HK3.out.andAlloc _).trans hk4 (fun _ f _ => f)
  clear hk4 HN3 HK3 t0 t1 z0 z1 z2 z3 z4 z5 z6 z7
  go_wp2_with fail
  refine (hA _).mono ?_
  rintro e w5 ⟨rfl, hk5⟩
  have HN5 : Hid _ := blk_up HN4.out hk5
  have HK5 : Hid (Keeps None w w5) := HK4.out.trans hk5 (fun _ f _ => f)
  clear hk5 HN4 HK4 hA
  have HO5 : Hid _ := new_at w5 (.cells (OpF.mk 0 1 0 0 0 0 0 0).vals 28) _ rfl
  go_wp2_with fail
  refine (answer_run 0 1 0 0 0 0 0 (by decide) _).mono ?_
  rintro e w6 ⟨rfl, hk6⟩
  have hO6 : w6.heap[w5.heap.size]? = some (.cells #[.int .i64 0, .int .i64 1, .int .i64 0, .int .i64 0, .int .i64 0, .int .i64 0, .int .i64 0, .int .i64 0] 28 (0, 0)) := blk_up HO5.out hk6
  have HN6 : Hid _ := blk_up (blk_push HN5.out _) hk6
  have HK6 : Hid (Keeps None w w6) := (HK5.out.andAlloc _).trans hk6 (fun _ f _ => f)
  have o0 : w6.cell? ⟨w5.heap.size, 0, none⟩ = some (.int .i64 0) := cell_of_block hO6 0
  have o1 : w6.cell? ⟨w5.heap.size, 1, none⟩ = some (.int .i64 1) := cell_of_block hO6 1
  have o2 : w6.cell? ⟨w5.heap.size, 2, none⟩ = some (.int .i64 0) := cell_of_block hO6 2
  have o3 : w6.cell? ⟨w5.heap.size, 3, none⟩ = some (.int .i64 0) := cell_of_block hO6 3
  have o4 : w6.cell? ⟨w5.heap.size, 4, none⟩ = some (.int .i64 0) := cell_of_block hO6 4
  have o5 : w6.cell? ⟨w5.heap.size, 5, none⟩ = some (.int .i64 0) := cell_of_block hO6 5
  have o6 : w6.cell? ⟨w5.heap.size, 6, none⟩ = some (.int .i64 0) := cell_of_block hO6 6
  have o7 : w6.cell? ⟨w5.heap.size, 7, none⟩ = some (.int .i64 0) := cell_of_block hO6 7
  clear hk6 HN5 HK5 HO5 hO6
  go_wp2_with fail
  refine (fstep_nil 0 1 0 0 0 0 0 (by decide) _).mono ?_
  rintro e w7 ⟨rfl, hk7⟩
  have HN7 : Hid _ := blk_up HN6.out hk7
  have HK7 : Hid (Keeps None w w7) := HK6.out.trans hk7 (fun _ f _ => f)
  clear hk7 HN6 HK6 o0 o1 o2 o3 o4 o5 o6 o7
  simp only [OpF.value, OpF.vals, OpF.zero]
  go_wp2_with fail
  refine (answer_zero _).mono ?_
  rintro e w8 ⟨rfl, hk8⟩
  have HN8 : Hid _ := blk_up HN7.out hk8
  have HK8 : Hid (Keeps None w w8) := HK7.out.trans hk8 (fun _ f _ => f)
  obtain ⟨z0, z1, z2, z3, z4, z5, z6, z7⟩ := zero_cells HN8.out
  clear hk8 HN7 HK7
  go_wp2_with fail
  refine (fstep_nilz _).mono ?_
  rintro e w9 ⟨rfl, hk9⟩
  have HK9 : Hid (Keeps None w w9) := HK8.out.trans hk9 (fun _ f _ => f)
  clear hk9 HN8 HK8 z0 z1 z2 z3 z4 z5 z6 z7
  simp only [OpF.value, OpF.vals, OpF.zero]
  go_wp2_with fail
  refine (answer_zero _).mono ?_
  rintro e w10 ⟨rfl, hk10⟩
  have HK10 : Hid (Keeps None w w10) := HK9.out.trans hk10 (fun _ f _ => f)
  clear hk10 HK9
  have c0 := fcells_any 0
  have c1 := fcells_any 1
  have c2 := fcells_any 4096
  have c3 := fcells_any 4097
  have c4 := fcells_any (-1)
  rw [show cellsV 0 = 0 from rfl] at c0
  rw [show cellsV 1 = 11 from rfl] at c1
  rw [show cellsV 4096 = 40961 from rfl] at c2
  rw [show cellsV 4097 = 0 from rfl] at c3
  rw [show cellsV (-1) = 0 from rfl] at c4
  go_wp2_with fail
  refine (c0 _).mono ?_
  rintro e w20 ⟨rfl, hw0⟩
  have hv0 := hw0.symm
  subst hv0
  clear hw0
  go_wp2_with fail
  refine (c1 _).mono ?_
  rintro e w21 ⟨rfl, hw1⟩
  have hv1 := hw1.symm
  subst hv1
  clear hw1
  go_wp2_with fail
  refine (c2 _).mono ?_
  rintro e w22 ⟨rfl, hw2⟩
  have hv2 := hw2.symm
  subst hv2
  clear hw2
  go_wp2_with fail
  refine (c3 _).mono ?_
  rintro e w23 ⟨rfl, hw3⟩
  have hv3 := hw3.symm
  subst hv3
  clear hw3
  go_wp2_with fail
  refine (c4 _).mono ?_
  rintro e w24 ⟨rfl, hw4⟩
  have hv4 := hw4.symm
  subst hv4
  clear hw4
  go_wp2_with fail
  go_ret
  exact ⟨rfl, HK10.out⟩
end Go.Proofs.Ytkancljbbhfpjaa
