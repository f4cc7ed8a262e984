import Derived.Test.YtaipeclmfgdegaaRfBeg
import Derived.Test.YtaipeclmfgdegaaFrLaw
import Derived.Deep.RegionHeld3
import Derived.Deep.DeepCutAuto
import Derived.Deep.QuietTactic
import Derived.BigQuiet
/-! FramesSteps: the law's own begin, beginRef, answers. -/
namespace Go.Proofs.Ytaipeclmfgdegaa
open Go.RowKit Go.HeapKit Go.IntWalk

theorem three_last (w : World) (o1 o2 o3 : Obj) : (((w.alloc o1).alloc o2).alloc o3).heap[w.heap.size + 1 + 1]? = some o3 := new_at _ _ _ (by simp)
set_option maxHeartbeats 4000000 in
set_option maxRecDepth 100000 in
theorem lbeg_0t (tb tf kd fr sl v xb xf : Int) (w : World) (hk : kd % ((6 : Nat) : Int) = 0) : Calls Try.prog 21 #[.agg #[.int .i64 tb, .int .i64 tf], .agg #[.int .i64 kd, .int .i64 fr, .int .i64 sl, .int .i64 v, .bool true, .int .i64 xb, .int .i64 xf]] w fun e w' => e = .returned (OpF.beg 0 xb xf 0 0 0).value ∧ Keeps None w w' := by
  have hm := mod8_any kd 6 (by omega) (by omega)
  rw [hk] at hm
  have hn := newAlloc_any xb xf
  generalize OpF.beg 0 xb xf 0 0 0 = R at hn ⊢
  obtain ⟨r0, r1, r2, r3, r4, r5, r6, r7⟩ := R
  simp only [OpF.value, OpF.vals] at hn ⊢
  clear hk
  go_enter Try.func21, Try.ntmps21
  go_wp2_with fail
  refine (hm _).mono ?_
  rintro e w1 ⟨rfl, hw⟩
  have hw2 := hw.symm
  subst hw2
  clear hw hm
  go_wp2_with fail
  refine (hn _).mono ?_
  rintro e w1 ⟨rfl, hk1⟩
  have hb1 := (hk1.block (w.heap.size + 1 + 1) (by simp) (fun f => f)).trans (three_last w _ _ _)
  obtain ⟨z0, z1, z2, z3, z4, z5, z6, z7⟩ := zero8 hb1
  obtain ⟨f0, f1, f2, f3, f4, f5, f6, f7⟩ := free8 hb1
  have HK : Hid _ := And.intro hk1 hb1
  clear hk1 hb1 hn
  go_wp2
  exact opf_end1 4 rfl rfl HK.out.2 rfl rfl _ _ _ _ _ _ _ _ (fun w' hk => ⟨rfl, (((((Keeps.refl None w).andAlloc _).andAlloc _).andAlloc _).trans HK.out.1 (fun _ f _ => f)).trans hk (fun i e hi => by omega)⟩)
set_option maxHeartbeats 4000000 in
set_option maxRecDepth 100000 in
theorem lbeg_0f (tb tf kd fr sl v xb xf : Int) (w : World) (hk : kd % ((6 : Nat) : Int) = 0) : Calls Try.prog 21 #[.agg #[.int .i64 tb, .int .i64 tf], .agg #[.int .i64 kd, .int .i64 fr, .int .i64 sl, .int .i64 v, .bool false, .int .i64 xb, .int .i64 xf]] w fun e w' => e = .returned (OpF.beg 0 tb tf 0 0 0).value ∧ Keeps None w w' := by
  have hm := mod8_any kd 6 (by omega) (by omega)
  rw [hk] at hm
  have hn := newAlloc_any tb tf
  generalize OpF.beg 0 tb tf 0 0 0 = R at hn ⊢
  obtain ⟨r0, r1, r2, r3, r4, r5, r6, r7⟩ := R
  simp only [OpF.value, OpF.vals] at hn ⊢
  clear hk
  go_enter Try.func21, Try.ntmps21
  go_wp2_with fail
  refine (hm _).mono ?_
  rintro e w1 ⟨rfl, hw⟩
  have hw2 := hw.symm
  subst hw2
  clear hw hm
  go_wp2_with fail
  refine (hn _).mono ?_
  rintro e w1 ⟨rfl, hk1⟩
  have hb1 := (hk1.block (w.heap.size + 1 + 1) (by simp) (fun f => f)).trans (three_last w _ _ _)
  obtain ⟨z0, z1, z2, z3, z4, z5, z6, z7⟩ := zero8 hb1
  obtain ⟨f0, f1, f2, f3, f4, f5, f6, f7⟩ := free8 hb1
  have HK : Hid _ := And.intro hk1 hb1
  clear hk1 hb1 hn
  go_wp2
  exact opf_end1 4 rfl rfl HK.out.2 rfl rfl _ _ _ _ _ _ _ _ (fun w' hk => ⟨rfl, (((((Keeps.refl None w).andAlloc _).andAlloc _).andAlloc _).trans HK.out.1 (fun _ f _ => f)).trans hk (fun i e hi => by omega)⟩)
set_option maxHeartbeats 4000000 in
set_option maxRecDepth 100000 in
theorem lbeg_1t (tb tf kd fr sl v xb xf : Int) (w : World) (hk : kd % ((6 : Nat) : Int) = 1) : Calls Try.prog 21 #[.agg #[.int .i64 tb, .int .i64 tf], .agg #[.int .i64 kd, .int .i64 fr, .int .i64 sl, .int .i64 v, .bool true, .int .i64 xb, .int .i64 xf]] w fun e w' => e = .returned (OpF.beg 1 xb xf fr 0 0).value ∧ Keeps None w w' := by
  have hm := mod8_any kd 6 (by omega) (by omega)
  rw [hk] at hm
  have hn := newFork_any xb xf fr
  generalize OpF.beg 1 xb xf fr 0 0 = R at hn ⊢
  obtain ⟨r0, r1, r2, r3, r4, r5, r6, r7⟩ := R
  simp only [OpF.value, OpF.vals] at hn ⊢
  clear hk
  go_enter Try.func21, Try.ntmps21
  go_wp2_with fail
  refine (hm _).mono ?_
  rintro e w1 ⟨rfl, hw⟩
  have hw2 := hw.symm
  subst hw2
  clear hw hm
  go_wp2_with fail
  refine (hn _).mono ?_
  rintro e w1 ⟨rfl, hk1⟩
  have hb1 := (hk1.block (w.heap.size + 1 + 1) (by simp) (fun f => f)).trans (three_last w _ _ _)
  obtain ⟨z0, z1, z2, z3, z4, z5, z6, z7⟩ := zero8 hb1
  obtain ⟨f0, f1, f2, f3, f4, f5, f6, f7⟩ := free8 hb1
  have HK : Hid _ := And.intro hk1 hb1
  clear hk1 hb1 hn
  go_wp2
  exact opf_end1 4 rfl rfl HK.out.2 rfl rfl _ _ _ _ _ _ _ _ (fun w' hk => ⟨rfl, (((((Keeps.refl None w).andAlloc _).andAlloc _).andAlloc _).trans HK.out.1 (fun _ f _ => f)).trans hk (fun i e hi => by omega)⟩)
set_option maxHeartbeats 4000000 in
set_option maxRecDepth 100000 in
theorem lbeg_1f (tb tf kd fr sl v xb xf : Int) (w : World) (hk : kd % ((6 : Nat) : Int) = 1) : Calls Try.prog 21 #[.agg #[.int .i64 tb, .int .i64 tf], .agg #[.int .i64 kd, .int .i64 fr, .int .i64 sl, .int .i64 v, .bool false, .int .i64 xb, .int .i64 xf]] w fun e w' => e = .returned (OpF.beg 1 tb tf fr 0 0).value ∧ Keeps None w w' := by
  have hm := mod8_any kd 6 (by omega) (by omega)
  rw [hk] at hm
  have hn := newFork_any tb tf fr
  generalize OpF.beg 1 tb tf fr 0 0 = R at hn ⊢
  obtain ⟨r0, r1, r2, r3, r4, r5, r6, r7⟩ := R
  simp only [OpF.value, OpF.vals] at hn ⊢
  clear hk
  go_enter Try.func21, Try.ntmps21
  go_wp2_with fail
  refine (hm _).mono ?_
  rintro e w1 ⟨rfl, hw⟩
  have hw2 := hw.symm
  subst hw2
  clear hw hm
  go_wp2_with fail
  refine (hn _).mono ?_
  rintro e w1 ⟨rfl, hk1⟩
  have hb1 := (hk1.block (w.heap.size + 1 + 1) (by simp) (fun f => f)).trans (three_last w _ _ _)
  obtain ⟨z0, z1, z2, z3, z4, z5, z6, z7⟩ := zero8 hb1
  obtain ⟨f0, f1, f2, f3, f4, f5, f6, f7⟩ := free8 hb1
  have HK : Hid _ := And.intro hk1 hb1
  clear hk1 hb1 hn
  go_wp2
  exact opf_end1 4 rfl rfl HK.out.2 rfl rfl _ _ _ _ _ _ _ _ (fun w' hk => ⟨rfl, (((((Keeps.refl None w).andAlloc _).andAlloc _).andAlloc _).trans HK.out.1 (fun _ f _ => f)).trans hk (fun i e hi => by omega)⟩)
set_option maxHeartbeats 4000000 in
set_option maxRecDepth 100000 in
theorem lbeg_2t (tb tf kd fr sl v xb xf : Int) (w : World) (hk : kd % ((6 : Nat) : Int) = 2) : Calls Try.prog 21 #[.agg #[.int .i64 tb, .int .i64 tf], .agg #[.int .i64 kd, .int .i64 fr, .int .i64 sl, .int .i64 v, .bool true, .int .i64 xb, .int .i64 xf]] w fun e w' => e = .returned (OpF.beg 2 xb xf fr sl v).value ∧ Keeps None w w' := by
  have hm := mod8_any kd 6 (by omega) (by omega)
  rw [hk] at hm
  have hn := newFinish_any xb xf fr sl v
  generalize OpF.beg 2 xb xf fr sl v = R at hn ⊢
  obtain ⟨r0, r1, r2, r3, r4, r5, r6, r7⟩ := R
  simp only [OpF.value, OpF.vals] at hn ⊢
  clear hk
  go_enter Try.func21, Try.ntmps21
  go_wp2_with fail
  refine (hm _).mono ?_
  rintro e w1 ⟨rfl, hw⟩
  have hw2 := hw.symm
  subst hw2
  clear hw hm
  go_wp2_with fail
  refine (hn _).mono ?_
  rintro e w1 ⟨rfl, hk1⟩
  have hb1 := (hk1.block (w.heap.size + 1 + 1) (by simp) (fun f => f)).trans (three_last w _ _ _)
  obtain ⟨z0, z1, z2, z3, z4, z5, z6, z7⟩ := zero8 hb1
  obtain ⟨f0, f1, f2, f3, f4, f5, f6, f7⟩ := free8 hb1
  have HK : Hid _ := And.intro hk1 hb1
  clear hk1 hb1 hn
  go_wp2
  exact opf_end1 4 rfl rfl HK.out.2 rfl rfl _ _ _ _ _ _ _ _ (fun w' hk => ⟨rfl, (((((Keeps.refl None w).andAlloc _).andAlloc _).andAlloc _).trans HK.out.1 (fun _ f _ => f)).trans hk (fun i e hi => by omega)⟩)
set_option maxHeartbeats 4000000 in
set_option maxRecDepth 100000 in
theorem lbeg_2f (tb tf kd fr sl v xb xf : Int) (w : World) (hk : kd % ((6 : Nat) : Int) = 2) : Calls Try.prog 21 #[.agg #[.int .i64 tb, .int .i64 tf], .agg #[.int .i64 kd, .int .i64 fr, .int .i64 sl, .int .i64 v, .bool false, .int .i64 xb, .int .i64 xf]] w fun e w' => e = .returned (OpF.beg 2 tb tf fr sl v).value ∧ Keeps None w w' := by
  have hm := mod8_any kd 6 (by omega) (by omega)
  rw [hk] at hm
  have hn := newFinish_any tb tf fr sl v
  generalize OpF.beg 2 tb tf fr sl v = R at hn ⊢
  obtain ⟨r0, r1, r2, r3, r4, r5, r6, r7⟩ := R
  simp only [OpF.value, OpF.vals] at hn ⊢
  clear hk
  go_enter Try.func21, Try.ntmps21
  go_wp2_with fail
  refine (hm _).mono ?_
  rintro e w1 ⟨rfl, hw⟩
  have hw2 := hw.symm
  subst hw2
  clear hw hm
  go_wp2_with fail
  refine (hn _).mono ?_
  rintro e w1 ⟨rfl, hk1⟩
  have hb1 := (hk1.block (w.heap.size + 1 + 1) (by simp) (fun f => f)).trans (three_last w _ _ _)
  obtain ⟨z0, z1, z2, z3, z4, z5, z6, z7⟩ := zero8 hb1
  obtain ⟨f0, f1, f2, f3, f4, f5, f6, f7⟩ := free8 hb1
  have HK : Hid _ := And.intro hk1 hb1
  clear hk1 hb1 hn
  go_wp2
  exact opf_end1 4 rfl rfl HK.out.2 rfl rfl _ _ _ _ _ _ _ _ (fun w' hk => ⟨rfl, (((((Keeps.refl None w).andAlloc _).andAlloc _).andAlloc _).trans HK.out.1 (fun _ f _ => f)).trans hk (fun i e hi => by omega)⟩)
set_option maxHeartbeats 4000000 in
set_option maxRecDepth 100000 in
theorem lbeg_3t (tb tf kd fr sl v xb xf : Int) (w : World) (hk : kd % ((6 : Nat) : Int) = 3) : Calls Try.prog 21 #[.agg #[.int .i64 tb, .int .i64 tf], .agg #[.int .i64 kd, .int .i64 fr, .int .i64 sl, .int .i64 v, .bool true, .int .i64 xb, .int .i64 xf]] w fun e w' => e = .returned (OpF.beg 3 xb xf fr 0 0).value ∧ Keeps None w w' := by
  have hm := mod8_any kd 6 (by omega) (by omega)
  rw [hk] at hm
  have hn := newSync_any xb xf fr
  generalize OpF.beg 3 xb xf fr 0 0 = R at hn ⊢
  obtain ⟨r0, r1, r2, r3, r4, r5, r6, r7⟩ := R
  simp only [OpF.value, OpF.vals] at hn ⊢
  clear hk
  go_enter Try.func21, Try.ntmps21
  go_wp2_with fail
  refine (hm _).mono ?_
  rintro e w1 ⟨rfl, hw⟩
  have hw2 := hw.symm
  subst hw2
  clear hw hm
  go_wp2_with fail
  refine (hn _).mono ?_
  rintro e w1 ⟨rfl, hk1⟩
  have hb1 := (hk1.block (w.heap.size + 1 + 1) (by simp) (fun f => f)).trans (three_last w _ _ _)
  obtain ⟨z0, z1, z2, z3, z4, z5, z6, z7⟩ := zero8 hb1
  obtain ⟨f0, f1, f2, f3, f4, f5, f6, f7⟩ := free8 hb1
  have HK : Hid _ := And.intro hk1 hb1
  clear hk1 hb1 hn
  go_wp2
  exact opf_end1 4 rfl rfl HK.out.2 rfl rfl _ _ _ _ _ _ _ _ (fun w' hk => ⟨rfl, (((((Keeps.refl None w).andAlloc _).andAlloc _).andAlloc _).trans HK.out.1 (fun _ f _ => f)).trans hk (fun i e hi => by omega)⟩)
set_option maxHeartbeats 4000000 in
set_option maxRecDepth 100000 in
theorem lbeg_3f (tb tf kd fr sl v xb xf : Int) (w : World) (hk : kd % ((6 : Nat) : Int) = 3) : Calls Try.prog 21 #[.agg #[.int .i64 tb, .int .i64 tf], .agg #[.int .i64 kd, .int .i64 fr, .int .i64 sl, .int .i64 v, .bool false, .int .i64 xb, .int .i64 xf]] w fun e w' => e = .returned (OpF.beg 3 tb tf fr 0 0).value ∧ Keeps None w w' := by
  have hm := mod8_any kd 6 (by omega) (by omega)
  rw [hk] at hm
  have hn := newSync_any tb tf fr
  generalize OpF.beg 3 tb tf fr 0 0 = R at hn ⊢
  obtain ⟨r0, r1, r2, r3, r4, r5, r6, r7⟩ := R
  simp only [OpF.value, OpF.vals] at hn ⊢
  clear hk
  go_enter Try.func21, Try.ntmps21
  go_wp2_with fail
  refine (hm _).mono ?_
  rintro e w1 ⟨rfl, hw⟩
  have hw2 := hw.symm
  subst hw2
  clear hw hm
  go_wp2_with fail
  refine (hn _).mono ?_
  rintro e w1 ⟨rfl, hk1⟩
  have hb1 := (hk1.block (w.heap.size + 1 + 1) (by simp) (fun f => f)).trans (three_last w _ _ _)
  obtain ⟨z0, z1, z2, z3, z4, z5, z6, z7⟩ := zero8 hb1
  obtain ⟨f0, f1, f2, f3, f4, f5, f6, f7⟩ := free8 hb1
  have HK : Hid _ := And.intro hk1 hb1
  clear hk1 hb1 hn
  go_wp2
  exact opf_end1 4 rfl rfl HK.out.2 rfl rfl _ _ _ _ _ _ _ _ (fun w' hk => ⟨rfl, (((((Keeps.refl None w).andAlloc _).andAlloc _).andAlloc _).trans HK.out.1 (fun _ f _ => f)).trans hk (fun i e hi => by omega)⟩)
set_option maxHeartbeats 4000000 in
set_option maxRecDepth 100000 in
theorem lbeg_4t (tb tf kd fr sl v xb xf : Int) (w : World) (hk : kd % ((6 : Nat) : Int) = 4) : Calls Try.prog 21 #[.agg #[.int .i64 tb, .int .i64 tf], .agg #[.int .i64 kd, .int .i64 fr, .int .i64 sl, .int .i64 v, .bool true, .int .i64 xb, .int .i64 xf]] w fun e w' => e = .returned (OpF.beg 4 xb xf fr 0 0).value ∧ Keeps None w w' := by
  have hm := mod8_any kd 6 (by omega) (by omega)
  rw [hk] at hm
  have hn := newStart_any xb xf fr
  generalize OpF.beg 4 xb xf fr 0 0 = R at hn ⊢
  obtain ⟨r0, r1, r2, r3, r4, r5, r6, r7⟩ := R
  simp only [OpF.value, OpF.vals] at hn ⊢
  clear hk
  go_enter Try.func21, Try.ntmps21
  go_wp2_with fail
  refine (hm _).mono ?_
  rintro e w1 ⟨rfl, hw⟩
  have hw2 := hw.symm
  subst hw2
  clear hw hm
  go_wp2_with fail
  refine (hn _).mono ?_
  rintro e w1 ⟨rfl, hk1⟩
  have hb1 := (hk1.block (w.heap.size + 1 + 1) (by simp) (fun f => f)).trans (three_last w _ _ _)
  obtain ⟨z0, z1, z2, z3, z4, z5, z6, z7⟩ := zero8 hb1
  obtain ⟨f0, f1, f2, f3, f4, f5, f6, f7⟩ := free8 hb1
  have HK : Hid _ := And.intro hk1 hb1
  clear hk1 hb1 hn
  go_wp2
  exact opf_end1 4 rfl rfl HK.out.2 rfl rfl _ _ _ _ _ _ _ _ (fun w' hk => ⟨rfl, (((((Keeps.refl None w).andAlloc _).andAlloc _).andAlloc _).trans HK.out.1 (fun _ f _ => f)).trans hk (fun i e hi => by omega)⟩)
set_option maxHeartbeats 4000000 in
set_option maxRecDepth 100000 in
theorem lbeg_4f (tb tf kd fr sl v xb xf : Int) (w : World) (hk : kd % ((6 : Nat) : Int) = 4) : Calls Try.prog 21 #[.agg #[.int .i64 tb, .int .i64 tf], .agg #[.int .i64 kd, .int .i64 fr, .int .i64 sl, .int .i64 v, .bool false, .int .i64 xb, .int .i64 xf]] w fun e w' => e = .returned (OpF.beg 4 tb tf fr 0 0).value ∧ Keeps None w w' := by
  have hm := mod8_any kd 6 (by omega) (by omega)
  rw [hk] at hm
  have hn := newStart_any tb tf fr
  generalize OpF.beg 4 tb tf fr 0 0 = R at hn ⊢
  obtain ⟨r0, r1, r2, r3, r4, r5, r6, r7⟩ := R
  simp only [OpF.value, OpF.vals] at hn ⊢
  clear hk
  go_enter Try.func21, Try.ntmps21
  go_wp2_with fail
  refine (hm _).mono ?_
  rintro e w1 ⟨rfl, hw⟩
  have hw2 := hw.symm
  subst hw2
  clear hw hm
  go_wp2_with fail
  refine (hn _).mono ?_
  rintro e w1 ⟨rfl, hk1⟩
  have hb1 := (hk1.block (w.heap.size + 1 + 1) (by simp) (fun f => f)).trans (three_last w _ _ _)
  obtain ⟨z0, z1, z2, z3, z4, z5, z6, z7⟩ := zero8 hb1
  obtain ⟨f0, f1, f2, f3, f4, f5, f6, f7⟩ := free8 hb1
  have HK : Hid _ := And.intro hk1 hb1
  clear hk1 hb1 hn
  go_wp2
  exact opf_end1 4 rfl rfl HK.out.2 rfl rfl _ _ _ _ _ _ _ _ (fun w' hk => ⟨rfl, (((((Keeps.refl None w).andAlloc _).andAlloc _).andAlloc _).trans HK.out.1 (fun _ f _ => f)).trans hk (fun i e hi => by omega)⟩)
set_option maxHeartbeats 4000000 in
set_option maxRecDepth 100000 in
theorem lbeg_5t (tb tf kd fr sl v xb xf : Int) (w : World) (hk : kd % ((6 : Nat) : Int) = 5) : Calls Try.prog 21 #[.agg #[.int .i64 tb, .int .i64 tf], .agg #[.int .i64 kd, .int .i64 fr, .int .i64 sl, .int .i64 v, .bool true, .int .i64 xb, .int .i64 xf]] w fun e w' => e = .returned (OpF.beg 5 xb xf fr sl 0).value ∧ Keeps None w w' := by
  have hm := mod8_any kd 6 (by omega) (by omega)
  rw [hk] at hm
  have hn := newFetch_any xb xf fr sl
  generalize OpF.beg 5 xb xf fr sl 0 = R at hn ⊢
  obtain ⟨r0, r1, r2, r3, r4, r5, r6, r7⟩ := R
  simp only [OpF.value, OpF.vals] at hn ⊢
  clear hk
  go_enter Try.func21, Try.ntmps21
  go_wp2_with fail
  refine (hm _).mono ?_
  rintro e w1 ⟨rfl, hw⟩
  have hw2 := hw.symm
  subst hw2
  clear hw hm
  go_wp2_with fail
  refine (hn _).mono ?_
  rintro e w1 ⟨rfl, hk1⟩
  have hb1 := (hk1.block (w.heap.size + 1 + 1) (by simp) (fun f => f)).trans (three_last w _ _ _)
  obtain ⟨z0, z1, z2, z3, z4, z5, z6, z7⟩ := zero8 hb1
  obtain ⟨f0, f1, f2, f3, f4, f5, f6, f7⟩ := free8 hb1
  have HK : Hid _ := And.intro hk1 hb1
  clear hk1 hb1 hn
  go_wp2
  exact opf_end1 4 rfl rfl HK.out.2 rfl rfl _ _ _ _ _ _ _ _ (fun w' hk => ⟨rfl, (((((Keeps.refl None w).andAlloc _).andAlloc _).andAlloc _).trans HK.out.1 (fun _ f _ => f)).trans hk (fun i e hi => by omega)⟩)
set_option maxHeartbeats 4000000 in
set_option maxRecDepth 100000 in
theorem lbeg_5f (tb tf kd fr sl v xb xf : Int) (w : World) (hk : kd % ((6 : Nat) : Int) = 5) : Calls Try.prog 21 #[.agg #[.int .i64 tb, .int .i64 tf], .agg #[.int .i64 kd, .int .i64 fr, .int .i64 sl, .int .i64 v, .bool false, .int .i64 xb, .int .i64 xf]] w fun e w' => e = .returned (OpF.beg 5 tb tf fr sl 0).value ∧ Keeps None w w' := by
  have hm := mod8_any kd 6 (by omega) (by omega)
  rw [hk] at hm
  have hn := newFetch_any tb tf fr sl
  generalize OpF.beg 5 tb tf fr sl 0 = R at hn ⊢
  obtain ⟨r0, r1, r2, r3, r4, r5, r6, r7⟩ := R
  simp only [OpF.value, OpF.vals] at hn ⊢
  clear hk
  go_enter Try.func21, Try.ntmps21
  go_wp2_with fail
  refine (hm _).mono ?_
  rintro e w1 ⟨rfl, hw⟩
  have hw2 := hw.symm
  subst hw2
  clear hw hm
  go_wp2_with fail
  refine (hn _).mono ?_
  rintro e w1 ⟨rfl, hk1⟩
  have hb1 := (hk1.block (w.heap.size + 1 + 1) (by simp) (fun f => f)).trans (three_last w _ _ _)
  obtain ⟨z0, z1, z2, z3, z4, z5, z6, z7⟩ := zero8 hb1
  obtain ⟨f0, f1, f2, f3, f4, f5, f6, f7⟩ := free8 hb1
  have HK : Hid _ := And.intro hk1 hb1
  clear hk1 hb1 hn
  go_wp2
  exact opf_end1 4 rfl rfl HK.out.2 rfl rfl _ _ _ _ _ _ _ _ (fun w' hk => ⟨rfl, (((((Keeps.refl None w).andAlloc _).andAlloc _).andAlloc _).trans HK.out.1 (fun _ f _ => f)).trans hk (fun i e hi => by omega)⟩)
theorem lbegin_any (tb tf kd fr sl v xb xf : Int) (od : Bool) (w : World) : Calls Try.prog 21 #[.agg #[.int .i64 tb, .int .i64 tf], .agg #[.int .i64 kd, .int .i64 fr, .int .i64 sl, .int .i64 v, .bool od, .int .i64 xb, .int .i64 xf]] w fun e w' => e = .returned (begP (kd % 6) (if od then xb else tb) (if od then xf else tf) fr sl v).value ∧ Keeps None w w' := by
  have h6 : kd % ((6 : Nat) : Int) = kd % 6 := rfl
  rcases (show kd % 6 = 0 ∨ kd % 6 = 1 ∨ kd % 6 = 2 ∨ kd % 6 = 3 ∨ kd % 6 = 4 ∨ kd % 6 = 5 by omega) with e | e | e | e | e | e
  · cases od
    · simp only [e, begP]; exact lbeg_0f tb tf kd fr sl v xb xf w (h6.trans e)
    · simp only [e, begP]; exact lbeg_0t tb tf kd fr sl v xb xf w (h6.trans e)
  · cases od
    · simp only [e, begP]; exact lbeg_1f tb tf kd fr sl v xb xf w (h6.trans e)
    · simp only [e, begP]; exact lbeg_1t tb tf kd fr sl v xb xf w (h6.trans e)
  · cases od
    · simp only [e, begP]; exact lbeg_2f tb tf kd fr sl v xb xf w (h6.trans e)
    · simp only [e, begP]; exact lbeg_2t tb tf kd fr sl v xb xf w (h6.trans e)
  · cases od
    · simp only [e, begP]; exact lbeg_3f tb tf kd fr sl v xb xf w (h6.trans e)
    · simp only [e, begP]; exact lbeg_3t tb tf kd fr sl v xb xf w (h6.trans e)
  · cases od
    · simp only [e, begP]; exact lbeg_4f tb tf kd fr sl v xb xf w (h6.trans e)
    · simp only [e, begP]; exact lbeg_4t tb tf kd fr sl v xb xf w (h6.trans e)
  · cases od
    · simp only [e, begP]; exact lbeg_5f tb tf kd fr sl v xb xf w (h6.trans e)
    · simp only [e, begP]; exact lbeg_5t tb tf kd fr sl v xb xf w (h6.trans e)
theorem answers_ok (o : OpF) (r : ROp) (w : World) (ho : o.Fit) (h : o.ans = (r.code, r.came)) : Calls Try.prog 23 #[o.value, r.value] w fun e w' => e = .returned (.bool true) ∧ Keeps None w w' := by
  have ha := answer_any o ho
  rw [h] at ha
  obtain ⟨x0, x1, x2, x3, x4, x5, x6, x7⟩ := o
  obtain ⟨y0, y1, y2, y3, y4, y5, y6, y7, y8⟩ := r
  simp only [OpF.value, OpF.vals, ROp.value, ROp.vals] at ha ⊢
  clear h ho
  go_enter Try.func23, Try.ntmps23
  go_wp2_with fail
  refine (ha _).mono ?_
  rintro e w1 ⟨rfl, hk1⟩
  have hb := (hk1.block (w.heap.size + 1) (by simp) (fun f => f)).trans (two_at w _ _).2
  obtain ⟨z0, z1, z2, z3, z4, z5, z6, z7, z8⟩ := cells9 hb
  have HK : Hid _ := hk1
  clear hk1 hb ha
  go_wp2
  go_ret
  exact ⟨by simp, (((Keeps.refl None w).andAlloc _).andAlloc _).trans HK.out (fun _ f _ => f)⟩
end Go.Proofs.Ytaipeclmfgdegaa
