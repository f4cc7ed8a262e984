import Derived.Test.YtaipeclmfgdegaaFrMid
/-! The calls that begin an op; what an op answers. -/
namespace Go.Proofs.Ytaipeclmfgdegaa
open Go.RowKit Go.HeapKit Go.IntWalk

theorem zero8 {w : World} {g : Nat} {t : TypeId} (h : w.heap[g]? = some (.cells #[.int .i64 0, .int .i64 0, .int .i64 0, .int .i64 0, .int .i64 0, .int .i64 0, .int .i64 0, .int .i64 0] t (0, 0))) : w.cell? ⟨g, 0, none⟩ = some (.int .i64 0) ∧ w.cell? ⟨g, 1, none⟩ = some (.int .i64 0) ∧ w.cell? ⟨g, 2, none⟩ = some (.int .i64 0) ∧ w.cell? ⟨g, 3, none⟩ = some (.int .i64 0) ∧ w.cell? ⟨g, 4, none⟩ = some (.int .i64 0) ∧ w.cell? ⟨g, 5, none⟩ = some (.int .i64 0) ∧ w.cell? ⟨g, 6, none⟩ = some (.int .i64 0) ∧ w.cell? ⟨g, 7, none⟩ = some (.int .i64 0) :=
  ⟨cell_of_block h 0, cell_of_block h 1, cell_of_block h 2, cell_of_block h 3, cell_of_block h 4, cell_of_block h 5, cell_of_block h 6, cell_of_block h 7⟩
theorem free8 {w : World} {g : Nat} {t : TypeId} {c : Array Value} (h : w.heap[g]? = some (.cells c t (0, 0))) : w.frozen? ⟨g, 0, none⟩ = false ∧ w.frozen? ⟨g, 1, none⟩ = false ∧ w.frozen? ⟨g, 2, none⟩ = false ∧ w.frozen? ⟨g, 3, none⟩ = false ∧ w.frozen? ⟨g, 4, none⟩ = false ∧ w.frozen? ⟨g, 5, none⟩ = false ∧ w.frozen? ⟨g, 6, none⟩ = false ∧ w.frozen? ⟨g, 7, none⟩ = false :=
  ⟨free_of_block h 0, free_of_block h 1, free_of_block h 2, free_of_block h 3, free_of_block h 4, free_of_block h 5, free_of_block h 6, free_of_block h 7⟩
theorem tfits_any (b f : Int) (w : World) : Calls Try.prog 65 #[.agg #[.int .i64 b, .int .i64 f]] w fun e w' => e = .returned (.bool (decide (FitT b f))) ∧ Keeps None w w' := by
  have hf := framesFit_any f
  by_cases h0 : 0 ≤ b
  · have e : decide (FitT b f) = decide (1 ≤ f ∧ f ≤ 4096) := by
      apply decide_eq_decide.2
      unfold FitT
      omega
    rw [e]
    generalize decide (1 ≤ f ∧ f ≤ 4096) = t at hf ⊢
    clear e
    go_enter Try.func65, Try.ntmps65
    go_wp2_with fail
    refine (hf _).mono ?_
    rintro e w2 ⟨rfl, rfl⟩
    go_wp2_with fail
    go_ret
    exact ⟨rfl, Keeps.alloc None w _⟩
  · have e : decide (FitT b f) = false := by
      apply decide_eq_false
      unfold FitT
      omega
    rw [e]
    clear e hf
    go_enter Try.func65, Try.ntmps65
    go_wp2
    go_ret
    exact ⟨rfl, Keeps.alloc None w _⟩
set_option maxHeartbeats 1600000 in
theorem begin_ok (k b f fr sl v : Int) (w : World) (h : FitO b f fr sl) :
    Calls Try.prog 56 #[.int .i64 k, .agg #[.int .i64 b, .int .i64 f], .int .i64 fr, .int .i64 sl, .int .i64 v] w fun e w' => e = .returned (OpF.mk b f 0 k 0 fr sl v).value ∧ Keeps None w w' := by
  have hf := tfits_any b f
  rw [decide_eq_true h.1] at hf
  obtain ⟨-, h1, h2, h3, h4⟩ := h
  simp only [OpF.value, OpF.vals]
  go_enter Try.func56, Try.ntmps56
  go_wp2_with fail
  refine (hf _).mono ?_
  rintro e w2 ⟨rfl, hk2⟩
  have hr := (hk2.block (w.heap.size + 1) (by simp) (fun f => f)).trans (new_at _ _ _ (by simp))
  have hb := (hk2.block w.heap.size (by simp; omega) (fun f => f)).trans ((Below.heap_alloc _ _ _ (by simp)).trans (new_at w _ _ rfl))
  have b0 := (cell_of_block hb 0).trans rfl
  have b1 := (cell_of_block hb 1).trans rfl
  obtain ⟨r0, r1, r2, r3, r4, r5, r6, r7⟩ := zero8 hr
  obtain ⟨s0, s1, s2, s3, s4, s5, s6, s7⟩ := free8 hr
  have HR : Hid _ := And.intro hr hk2
  clear hr hb hf hk2
  go_wp2_with fail
  exact opf_end1 10 rfl rfl HR.out.1 rfl rfl _ _ _ _ _ _ _ _ (fun w' hk => ⟨rfl, ((((Keeps.refl None w).andAlloc _).andAlloc _).trans HR.out.2 (fun _ f _ => f)).trans hk (fun i e hi => by omega)⟩)
set_option maxHeartbeats 1600000 in
theorem begin_bad_t (k b f fr sl v : Int) (w : World) (h : ¬ FitT b f) :
    Calls Try.prog 56 #[.int .i64 k, .agg #[.int .i64 b, .int .i64 f], .int .i64 fr, .int .i64 sl, .int .i64 v] w fun e w' => e = .returned OpF.zero.value ∧ Keeps None w w' := by
  have hf := tfits_any b f
  rw [decide_eq_false h] at hf
  simp only [OpF.value, OpF.vals, OpF.zero]
  go_enter Try.func56, Try.ntmps56
  go_wp2_with fail
  refine (hf _).mono ?_
  rintro e w2 ⟨rfl, hk2⟩
  have hr := (hk2.block (w.heap.size + 1) (by simp) (fun f => f)).trans (new_at _ _ _ (by simp))
  have hb := (hk2.block w.heap.size (by simp; omega) (fun f => f)).trans ((Below.heap_alloc _ _ _ (by simp)).trans (new_at w _ _ rfl))
  have b0 := (cell_of_block hb 0).trans rfl
  have b1 := (cell_of_block hb 1).trans rfl
  obtain ⟨r0, r1, r2, r3, r4, r5, r6, r7⟩ := zero8 hr
  obtain ⟨s0, s1, s2, s3, s4, s5, s6, s7⟩ := free8 hr
  have HR : Hid _ := And.intro hr hk2
  clear hr hb hf hk2
  go_wp2_with fail
  exact opf_end1 10 rfl rfl HR.out.1 rfl rfl _ _ _ _ _ _ _ _ (fun w' hk => ⟨rfl, ((((Keeps.refl None w).andAlloc _).andAlloc _).trans HR.out.2 (fun _ f _ => f)).trans hk (fun i e hi => by omega)⟩)
set_option maxHeartbeats 1600000 in
theorem begin_bad_a (k b f fr sl v : Int) (w : World) (h : FitT b f) (h1 : fr < 0) :
    Calls Try.prog 56 #[.int .i64 k, .agg #[.int .i64 b, .int .i64 f], .int .i64 fr, .int .i64 sl, .int .i64 v] w fun e w' => e = .returned OpF.zero.value ∧ Keeps None w w' := by
  have hf := tfits_any b f
  rw [decide_eq_true h] at hf
  simp only [OpF.value, OpF.vals, OpF.zero]
  go_enter Try.func56, Try.ntmps56
  go_wp2_with fail
  refine (hf _).mono ?_
  rintro e w2 ⟨rfl, hk2⟩
  have hr := (hk2.block (w.heap.size + 1) (by simp) (fun f => f)).trans (new_at _ _ _ (by simp))
  have hb := (hk2.block w.heap.size (by simp; omega) (fun f => f)).trans ((Below.heap_alloc _ _ _ (by simp)).trans (new_at w _ _ rfl))
  have b0 := (cell_of_block hb 0).trans rfl
  have b1 := (cell_of_block hb 1).trans rfl
  obtain ⟨r0, r1, r2, r3, r4, r5, r6, r7⟩ := zero8 hr
  obtain ⟨s0, s1, s2, s3, s4, s5, s6, s7⟩ := free8 hr
  have HR : Hid _ := And.intro hr hk2
  clear hr hb hf hk2
  go_wp2_with fail
  exact opf_end1 10 rfl rfl HR.out.1 rfl rfl _ _ _ _ _ _ _ _ (fun w' hk => ⟨rfl, ((((Keeps.refl None w).andAlloc _).andAlloc _).trans HR.out.2 (fun _ f _ => f)).trans hk (fun i e hi => by omega)⟩)
set_option maxHeartbeats 1600000 in
theorem begin_bad_b (k b f fr sl v : Int) (w : World) (h : FitT b f) (h1 : ¬ fr < 0) (h2 : f ≤ fr) :
    Calls Try.prog 56 #[.int .i64 k, .agg #[.int .i64 b, .int .i64 f], .int .i64 fr, .int .i64 sl, .int .i64 v] w fun e w' => e = .returned OpF.zero.value ∧ Keeps None w w' := by
  have hf := tfits_any b f
  rw [decide_eq_true h] at hf
  simp only [OpF.value, OpF.vals, OpF.zero]
  go_enter Try.func56, Try.ntmps56
  go_wp2_with fail
  refine (hf _).mono ?_
  rintro e w2 ⟨rfl, hk2⟩
  have hr := (hk2.block (w.heap.size + 1) (by simp) (fun f => f)).trans (new_at _ _ _ (by simp))
  have hb := (hk2.block w.heap.size (by simp; omega) (fun f => f)).trans ((Below.heap_alloc _ _ _ (by simp)).trans (new_at w _ _ rfl))
  have b0 := (cell_of_block hb 0).trans rfl
  have b1 := (cell_of_block hb 1).trans rfl
  obtain ⟨r0, r1, r2, r3, r4, r5, r6, r7⟩ := zero8 hr
  obtain ⟨s0, s1, s2, s3, s4, s5, s6, s7⟩ := free8 hr
  have HR : Hid _ := And.intro hr hk2
  clear hr hb hf hk2
  go_wp2_with fail
  exact opf_end1 10 rfl rfl HR.out.1 rfl rfl _ _ _ _ _ _ _ _ (fun w' hk => ⟨rfl, ((((Keeps.refl None w).andAlloc _).andAlloc _).trans HR.out.2 (fun _ f _ => f)).trans hk (fun i e hi => by omega)⟩)
set_option maxHeartbeats 1600000 in
theorem begin_bad_c (k b f fr sl v : Int) (w : World) (h : FitT b f) (h1 : ¬ fr < 0) (h2 : ¬ f ≤ fr) (h3 : sl < 0) :
    Calls Try.prog 56 #[.int .i64 k, .agg #[.int .i64 b, .int .i64 f], .int .i64 fr, .int .i64 sl, .int .i64 v] w fun e w' => e = .returned OpF.zero.value ∧ Keeps None w w' := by
  have hf := tfits_any b f
  rw [decide_eq_true h] at hf
  simp only [OpF.value, OpF.vals, OpF.zero]
  go_enter Try.func56, Try.ntmps56
  go_wp2_with fail
  refine (hf _).mono ?_
  rintro e w2 ⟨rfl, hk2⟩
  have hr := (hk2.block (w.heap.size + 1) (by simp) (fun f => f)).trans (new_at _ _ _ (by simp))
  have hb := (hk2.block w.heap.size (by simp; omega) (fun f => f)).trans ((Below.heap_alloc _ _ _ (by simp)).trans (new_at w _ _ rfl))
  have b0 := (cell_of_block hb 0).trans rfl
  have b1 := (cell_of_block hb 1).trans rfl
  obtain ⟨r0, r1, r2, r3, r4, r5, r6, r7⟩ := zero8 hr
  obtain ⟨s0, s1, s2, s3, s4, s5, s6, s7⟩ := free8 hr
  have HR : Hid _ := And.intro hr hk2
  clear hr hb hf hk2
  go_wp2_with fail
  exact opf_end1 10 rfl rfl HR.out.1 rfl rfl _ _ _ _ _ _ _ _ (fun w' hk => ⟨rfl, ((((Keeps.refl None w).andAlloc _).andAlloc _).trans HR.out.2 (fun _ f _ => f)).trans hk (fun i e hi => by omega)⟩)
set_option maxHeartbeats 1600000 in
theorem begin_bad_d (k b f fr sl v : Int) (w : World) (h : FitT b f) (h1 : ¬ fr < 0) (h2 : ¬ f ≤ fr) (h3 : ¬ sl < 0) (h4 : 8 ≤ sl) :
    Calls Try.prog 56 #[.int .i64 k, .agg #[.int .i64 b, .int .i64 f], .int .i64 fr, .int .i64 sl, .int .i64 v] w fun e w' => e = .returned OpF.zero.value ∧ Keeps None w w' := by
  have hf := tfits_any b f
  rw [decide_eq_true h] at hf
  simp only [OpF.value, OpF.vals, OpF.zero]
  go_enter Try.func56, Try.ntmps56
  go_wp2_with fail
  refine (hf _).mono ?_
  rintro e w2 ⟨rfl, hk2⟩
  have hr := (hk2.block (w.heap.size + 1) (by simp) (fun f => f)).trans (new_at _ _ _ (by simp))
  have hb := (hk2.block w.heap.size (by simp; omega) (fun f => f)).trans ((Below.heap_alloc _ _ _ (by simp)).trans (new_at w _ _ rfl))
  have b0 := (cell_of_block hb 0).trans rfl
  have b1 := (cell_of_block hb 1).trans rfl
  obtain ⟨r0, r1, r2, r3, r4, r5, r6, r7⟩ := zero8 hr
  obtain ⟨s0, s1, s2, s3, s4, s5, s6, s7⟩ := free8 hr
  have HR : Hid _ := And.intro hr hk2
  clear hr hb hf hk2
  go_wp2_with fail
  exact opf_end1 10 rfl rfl HR.out.1 rfl rfl _ _ _ _ _ _ _ _ (fun w' hk => ⟨rfl, ((((Keeps.refl None w).andAlloc _).andAlloc _).trans HR.out.2 (fun _ f _ => f)).trans hk (fun i e hi => by omega)⟩)
theorem begin_any (k b f fr sl v : Int) (w : World) :
    Calls Try.prog 56 #[.int .i64 k, .agg #[.int .i64 b, .int .i64 f], .int .i64 fr, .int .i64 sl, .int .i64 v] w fun e w' => e = .returned (OpF.beg k b f fr sl v).value ∧ Keeps None w w' := by
  unfold OpF.beg
  by_cases h : FitO b f fr sl
  · rw [if_pos h]; exact begin_ok k b f fr sl v w h
  · rw [if_neg h]
    by_cases h0 : FitT b f
    · by_cases h1 : fr < 0
      · exact begin_bad_a k b f fr sl v w h0 h1
      · by_cases h2 : f ≤ fr
        · exact begin_bad_b k b f fr sl v w h0 h1 h2
        · by_cases h3 : sl < 0
          · exact begin_bad_c k b f fr sl v w h0 h1 h2 h3
          · exact begin_bad_d k b f fr sl v w h0 h1 h2 h3 (by
              have : ¬ (0 ≤ fr ∧ fr < f ∧ 0 ≤ sl ∧ sl < 8) := fun e => h ⟨h0, e⟩
              omega)
    · exact begin_bad_t k b f fr sl v w h0
theorem newAlloc_any (b f : Int) (w : World) : Calls Try.prog 35 #[.agg #[.int .i64 b, .int .i64 f]] w fun e w' => e = .returned (OpF.beg 0 b f 0 0 0).value ∧ Keeps None w w' := by
  have hb := begin_any 0 b f 0 0 0
  generalize OpF.beg 0 b f 0 0 0 = o at hb ⊢
  obtain ⟨m0, m1, m2, m3, m4, m5, m6, m7⟩ := o
  simp only [OpF.value, OpF.vals] at hb ⊢
  go_enter Try.func35, Try.ntmps35
  go_wp2_with fail
  refine (hb _).mono ?_
  rintro e w2 ⟨rfl, hk2⟩
  have hr := (hk2.block (w.heap.size + 1) (by simp) (fun f => f)).trans (new_at _ _ _ (by simp))
  obtain ⟨r0, r1, r2, r3, r4, r5, r6, r7⟩ := zero8 hr
  obtain ⟨s0, s1, s2, s3, s4, s5, s6, s7⟩ := free8 hr
  have HR : Hid _ := And.intro hr hk2
  clear hr hb hk2
  go_wp2_with fail
  exact opf_end1 2 rfl rfl HR.out.1 rfl rfl _ _ _ _ _ _ _ _ (fun w' hk => ⟨rfl, ((((Keeps.refl None w).andAlloc _).andAlloc _).trans HR.out.2 (fun _ f _ => f)).trans hk (fun i e hi => by omega)⟩)
theorem newFork_any (b f : Int) (fr : Int) (w : World) : Calls Try.prog 36 #[.agg #[.int .i64 b, .int .i64 f], .int .i64 fr] w fun e w' => e = .returned (OpF.beg 1 b f fr 0 0).value ∧ Keeps None w w' := by
  have hb := begin_any 1 b f fr 0 0
  generalize OpF.beg 1 b f fr 0 0 = o at hb ⊢
  obtain ⟨m0, m1, m2, m3, m4, m5, m6, m7⟩ := o
  simp only [OpF.value, OpF.vals] at hb ⊢
  go_enter Try.func36, Try.ntmps36
  go_wp2_with fail
  refine (hb _).mono ?_
  rintro e w2 ⟨rfl, hk2⟩
  have hr := (hk2.block (w.heap.size + 1) (by simp) (fun f => f)).trans (new_at _ _ _ (by simp))
  obtain ⟨r0, r1, r2, r3, r4, r5, r6, r7⟩ := zero8 hr
  obtain ⟨s0, s1, s2, s3, s4, s5, s6, s7⟩ := free8 hr
  have HR : Hid _ := And.intro hr hk2
  clear hr hb hk2
  go_wp2_with fail
  exact opf_end1 4 rfl rfl HR.out.1 rfl rfl _ _ _ _ _ _ _ _ (fun w' hk => ⟨rfl, ((((Keeps.refl None w).andAlloc _).andAlloc _).trans HR.out.2 (fun _ f _ => f)).trans hk (fun i e hi => by omega)⟩)
theorem newFinish_any (b f : Int) (fr sl v : Int) (w : World) : Calls Try.prog 37 #[.agg #[.int .i64 b, .int .i64 f], .int .i64 fr, .int .i64 sl, .int .i64 v] w fun e w' => e = .returned (OpF.beg 2 b f fr sl v).value ∧ Keeps None w w' := by
  have hb := begin_any 2 b f fr sl v
  generalize OpF.beg 2 b f fr sl v = o at hb ⊢
  obtain ⟨m0, m1, m2, m3, m4, m5, m6, m7⟩ := o
  simp only [OpF.value, OpF.vals] at hb ⊢
  go_enter Try.func37, Try.ntmps37
  go_wp2_with fail
  refine (hb _).mono ?_
  rintro e w2 ⟨rfl, hk2⟩
  have hr := (hk2.block (w.heap.size + 1) (by simp) (fun f => f)).trans (new_at _ _ _ (by simp))
  obtain ⟨r0, r1, r2, r3, r4, r5, r6, r7⟩ := zero8 hr
  obtain ⟨s0, s1, s2, s3, s4, s5, s6, s7⟩ := free8 hr
  have HR : Hid _ := And.intro hr hk2
  clear hr hb hk2
  go_wp2_with fail
  exact opf_end1 8 rfl rfl HR.out.1 rfl rfl _ _ _ _ _ _ _ _ (fun w' hk => ⟨rfl, ((((Keeps.refl None w).andAlloc _).andAlloc _).trans HR.out.2 (fun _ f _ => f)).trans hk (fun i e hi => by omega)⟩)
theorem newSync_any (b f : Int) (fr : Int) (w : World) : Calls Try.prog 38 #[.agg #[.int .i64 b, .int .i64 f], .int .i64 fr] w fun e w' => e = .returned (OpF.beg 3 b f fr 0 0).value ∧ Keeps None w w' := by
  have hb := begin_any 3 b f fr 0 0
  generalize OpF.beg 3 b f fr 0 0 = o at hb ⊢
  obtain ⟨m0, m1, m2, m3, m4, m5, m6, m7⟩ := o
  simp only [OpF.value, OpF.vals] at hb ⊢
  go_enter Try.func38, Try.ntmps38
  go_wp2_with fail
  refine (hb _).mono ?_
  rintro e w2 ⟨rfl, hk2⟩
  have hr := (hk2.block (w.heap.size + 1) (by simp) (fun f => f)).trans (new_at _ _ _ (by simp))
  obtain ⟨r0, r1, r2, r3, r4, r5, r6, r7⟩ := zero8 hr
  obtain ⟨s0, s1, s2, s3, s4, s5, s6, s7⟩ := free8 hr
  have HR : Hid _ := And.intro hr hk2
  clear hr hb hk2
  go_wp2_with fail
  exact opf_end1 4 rfl rfl HR.out.1 rfl rfl _ _ _ _ _ _ _ _ (fun w' hk => ⟨rfl, ((((Keeps.refl None w).andAlloc _).andAlloc _).trans HR.out.2 (fun _ f _ => f)).trans hk (fun i e hi => by omega)⟩)
theorem newStart_any (b f : Int) (fr : Int) (w : World) : Calls Try.prog 39 #[.agg #[.int .i64 b, .int .i64 f], .int .i64 fr] w fun e w' => e = .returned (OpF.beg 4 b f fr 0 0).value ∧ Keeps None w w' := by
  have hb := begin_any 4 b f fr 0 0
  generalize OpF.beg 4 b f fr 0 0 = o at hb ⊢
  obtain ⟨m0, m1, m2, m3, m4, m5, m6, m7⟩ := o
  simp only [OpF.value, OpF.vals] at hb ⊢
  go_enter Try.func39, Try.ntmps39
  go_wp2_with fail
  refine (hb _).mono ?_
  rintro e w2 ⟨rfl, hk2⟩
  have hr := (hk2.block (w.heap.size + 1) (by simp) (fun f => f)).trans (new_at _ _ _ (by simp))
  obtain ⟨r0, r1, r2, r3, r4, r5, r6, r7⟩ := zero8 hr
  obtain ⟨s0, s1, s2, s3, s4, s5, s6, s7⟩ := free8 hr
  have HR : Hid _ := And.intro hr hk2
  clear hr hb hk2
  go_wp2_with fail
  exact opf_end1 4 rfl rfl HR.out.1 rfl rfl _ _ _ _ _ _ _ _ (fun w' hk => ⟨rfl, ((((Keeps.refl None w).andAlloc _).andAlloc _).trans HR.out.2 (fun _ f _ => f)).trans hk (fun i e hi => by omega)⟩)
theorem newFetch_any (b f : Int) (fr sl : Int) (w : World) : Calls Try.prog 40 #[.agg #[.int .i64 b, .int .i64 f], .int .i64 fr, .int .i64 sl] w fun e w' => e = .returned (OpF.beg 5 b f fr sl 0).value ∧ Keeps None w w' := by
  have hb := begin_any 5 b f fr sl 0
  generalize OpF.beg 5 b f fr sl 0 = o at hb ⊢
  obtain ⟨m0, m1, m2, m3, m4, m5, m6, m7⟩ := o
  simp only [OpF.value, OpF.vals] at hb ⊢
  go_enter Try.func40, Try.ntmps40
  go_wp2_with fail
  refine (hb _).mono ?_
  rintro e w2 ⟨rfl, hk2⟩
  have hr := (hk2.block (w.heap.size + 1) (by simp) (fun f => f)).trans (new_at _ _ _ (by simp))
  obtain ⟨r0, r1, r2, r3, r4, r5, r6, r7⟩ := zero8 hr
  obtain ⟨s0, s1, s2, s3, s4, s5, s6, s7⟩ := free8 hr
  have HR : Hid _ := And.intro hr hk2
  clear hr hb hk2
  go_wp2_with fail
  exact opf_end1 6 rfl rfl HR.out.1 rfl rfl _ _ _ _ _ _ _ _ (fun w' hk => ⟨rfl, ((((Keeps.refl None w).andAlloc _).andAlloc _).trans HR.out.2 (fun _ f _ => f)).trans hk (fun i e hi => by omega)⟩)
theorem Keeps.drewM (S : Nat → Prop) (w : World) (m : Nat) : Keeps S w (w.drewN m) := by
  induction m with
  | zero => exact Keeps.refl _ _
  | succ m ih => exact ih.andDrew
theorem headruns_any (b f c : Int) (w : World) : Calls Try.prog 43 #[.agg #[.int .i64 b, .int .i64 f, .int .i64 c]] w fun e w' => e = .returned (.bool (c == 0)) ∧ Keeps None w w' := by
  go_enter Try.func43, Try.ntmps43
  go_wp2
  go_ret
  exact ⟨by simp, Keeps.alloc None w _⟩
theorem answer_zero (w : World) : Calls Try.prog 42 #[OpF.zero.value] w fun e w' => e = .returned (.tuple #[.int .i64 1, .int .i64 0]) ∧ Keeps None w w' := by
  simp only [OpF.value, OpF.vals, OpF.zero]
  go_enter Try.func42, Try.ntmps42
  go_wp2
  go_ret2
  exact ⟨rfl, Keeps.alloc None w _⟩
theorem answer_run (x0 x1 x3 x4 x5 x6 x7 : Int) (h1 : ¬ x1 = 0) (w : World) : Calls Try.prog 42 #[(OpF.mk x0 x1 0 x3 x4 x5 x6 x7).value] w fun e w' => e = .returned (.tuple #[.int .i64 0, .int .i64 0]) ∧ Keeps None w w' := by
  have h1' : (x1 == 0) = false := by simpa using h1
  have hr := headruns_any x0 x1 0
  simp only [beq_self_eq_true] at hr
  simp only [OpF.value, OpF.vals]
  go_enter Try.func42, Try.ntmps42
  go_wp2_with (go_at_call 43; refine (hr _).mono ?_; rintro e w2 ⟨rfl, hk2⟩)
  go_ret2
  exact ⟨rfl, (Keeps.alloc None w _).trans hk2 (fun _ f _ => f)⟩
theorem answer_end (x0 x1 x2 x3 x4 x5 x6 x7 : Int) (h2 : ¬ x2 = 0) (w : World) : Calls Try.prog 42 #[(OpF.mk x0 x1 x2 x3 x4 x5 x6 x7).value] w fun e w' => e = .returned (.tuple #[.int .i64 x2, .int .i64 x7]) ∧ Keeps None w w' := by
  have h2' : (x2 == 0) = false := by simpa using h2
  have hr := headruns_any x0 x1 x2
  rw [h2'] at hr
  simp only [OpF.value, OpF.vals]
  go_enter Try.func42, Try.ntmps42
  go_upto_region 5 with (go_at_call 43; refine (hr _).mono ?_; rintro e w2 ⟨rfl, hk2⟩)
  all_goals (
    have hb := (hk2.block w.heap.size (by simp) (fun f => f)).trans (new_at w _ _ rfl)
    have b2 := (cell_of_block hb 2).trans rfl
    have b7 := (cell_of_block hb 7).trans rfl
    have HK : Hid _ := hk2
    clear hb hk2 hr
    go_quiet (fail)
    go_wp2_with fail
    go_ret2
    exact ⟨rfl, ((Keeps.alloc None w _).trans HK.out (fun _ f _ => f)).trans (Keeps.drewM None _ _) (fun _ f _ => f)⟩)
theorem answer_any (o : OpF) (ho : o.Fit) (w : World) : Calls Try.prog 42 #[o.value] w fun e w' => e = .returned (.tuple #[.int .i64 o.ans.1, .int .i64 o.ans.2]) ∧ Keeps None w w' := by
  by_cases h0 : o = OpF.zero
  · subst h0
    rw [show OpF.zero.ans = (1, 0) from if_pos rfl]
    exact answer_zero w
  · obtain ⟨x0, x1, x2, x3, x4, x5, x6, x7⟩ := o
    by_cases h1 : x2 = 0
    · subst h1
      rw [show (OpF.mk x0 x1 0 x3 x4 x5 x6 x7).ans = (0, 0) by unfold OpF.ans; rw [if_neg h0, if_pos rfl]]
      have := ((ho.run rfl).resolve_left h0).1.1.2.1
      exact answer_run x0 x1 x3 x4 x5 x6 x7 (by simp only at this; omega) w
    · rw [show (OpF.mk x0 x1 x2 x3 x4 x5 x6 x7).ans = (x2, x7) by unfold OpF.ans; rw [if_neg h0, if_neg h1]]
      exact answer_end x0 x1 x2 x3 x4 x5 x6 x7 h1 w
end Go.Proofs.Ytaipeclmfgdegaa
