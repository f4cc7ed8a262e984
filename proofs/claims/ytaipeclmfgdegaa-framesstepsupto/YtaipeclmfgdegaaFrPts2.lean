import Derived.Test.YtaipeclmfgdegaaFrMid
/-! The machine's methods, one access each. -/
namespace Go.Proofs.Ytaipeclmfgdegaa
open Go.RowKit Go.HeapKit Go.IntWalk

set_option maxHeartbeats 1600000 in
set_option maxRecDepth 100000 in
theorem alloc_lo (p : Nat) (F : Nat → Prop) (A : Ar) (b f c k m fr sl v : Int) (hn : (A.did 3 b 1 0).1.v < 1) (w : World) (h : ArF w p F A) (hlog : A.log.length < 1000000000000) :
    Calls Try.prog 44 #[(OpF.mk b f c k m fr sl v).value, .iface 26 (.pointer (some ⟨p, 0, none⟩))] w fun e w' =>
      e = .returned (.tuple #[(OpF.ended 3 0).value, .int .i64 (A.did 3 b 1 0).1.err]) ∧ AA w w' p F (A.did 3 b 1 0).2 := by
  have hm1 := meth8_add p
  have hn1 := nil8_add p
  have hcall := next_any b f
  have hld := fun w' F' (h : ArF w' p F' A) => arf_add p F' A b 1 w' h hlog
  generalize A.did 3 b 1 0 = D at hld hn ⊢
  obtain ⟨⟨n, ok, err⟩, B⟩ := D
  simp only at hld hn ⊢
  have HM : Hid _ := MidF.start h (OpF.mk b f c k m fr sl v)
  clear h
  simp only [OpF.value, OpF.vals]
  go_enter Try.func44, Try.ntmps44
  go_upto_region 1 with fail
  go_cut [6, 7] (fun s6 s7 wx => s6 = .int .i64 n ∧ s7 = .int .i64 err ∧ ∃ F', MidF w wx (OpF.mk b f c k m fr sl v) p F F' B)
  case first =>
    have hM1 := HM.out.kept (Keeps.drew None _)
    go_region_held3 (fun w' => w'.cell? ⟨w.heap.size, 0, none⟩ = some (.int .i64 b) ∧ w'.cell? ⟨w.heap.size, 1, none⟩ = some (.int .i64 f)) (first | exact hs3 | exact hs2 | go_keep) (first
      | (go_at_call 57; refine (hcall _).mono ?_; rintro e w2 ⟨rfl, hk2⟩; have hM2 := hM1.kept hk2; have hs2 : w2.cell? ⟨w.heap.size, 0, none⟩ = some (.int .i64 b) ∧ w2.cell? ⟨w.heap.size, 1, none⟩ = some (.int .i64 f) := ⟨hM2.cell 0, hM2.cell 1⟩)
      | (go_at_call 82; refine (hld _ F hM2.ar).mono ?_; rintro e w3 ⟨rfl, hA3⟩; obtain ⟨F3, hM3⟩ := hM2.acc hA3; have hs3 : w3.cell? ⟨w.heap.size, 0, none⟩ = some (.int .i64 b) ∧ w3.cell? ⟨w.heap.size, 1, none⟩ = some (.int .i64 f) := ⟨hM3.cell 0, hM3.cell 1⟩))
    all_goals (go_wp2_with fail; go_meet)
    all_goals exact ⟨rfl, rfl, F3, hM3⟩
  case rest =>
    obtain ⟨rfl, rfl, F4, hM4⟩ := hcut
    clear hcall hld hm1 hn1
    have hend := opfend_any 3 0
    simp only [OpF.value, OpF.vals, OpF.ended] at hend ⊢
    go_wp2_with fail
    refine (hend _).mono ?_
    rintro e w5 ⟨rfl, hk5⟩
    have hM5 := hM4.kept hk5
    obtain ⟨r0, r1, r2, r3, r4, r5, r6, r7⟩ := hM5.rcells
    obtain ⟨s0, s1, s2, s3, s4, s5, s6, s7⟩ := hM5.rfrees
    have H5 : Hid _ := hM5
    clear hM4 hM5 hend
    go_wp2_with fail
    exact opf_end2 4 5 rfl rfl H5.out.res rfl rfl _ _ _ _ _ _ _ _ (fun w' hk => ⟨rfl, H5.out.fin hk⟩)
set_option maxHeartbeats 1600000 in
set_option maxRecDepth 100000 in
theorem alloc_hi (p : Nat) (F : Nat → Prop) (A : Ar) (b f c k m fr sl v : Int) (hn : ¬ (A.did 3 b 1 0).1.v < 1 ∧ f < (A.did 3 b 1 0).1.v) (w : World) (h : ArF w p F A) (hlog : A.log.length < 1000000000000) :
    Calls Try.prog 44 #[(OpF.mk b f c k m fr sl v).value, .iface 26 (.pointer (some ⟨p, 0, none⟩))] w fun e w' =>
      e = .returned (.tuple #[(OpF.ended 3 0).value, .int .i64 (A.did 3 b 1 0).1.err]) ∧ AA w w' p F (A.did 3 b 1 0).2 := by
  have hm1 := meth8_add p
  have hn1 := nil8_add p
  have hcall := next_any b f
  have hld := fun w' F' (h : ArF w' p F' A) => arf_add p F' A b 1 w' h hlog
  generalize A.did 3 b 1 0 = D at hld hn ⊢
  obtain ⟨⟨n, ok, err⟩, B⟩ := D
  simp only at hld hn ⊢
  have HM : Hid _ := MidF.start h (OpF.mk b f c k m fr sl v)
  clear h
  simp only [OpF.value, OpF.vals]
  go_enter Try.func44, Try.ntmps44
  go_upto_region 1 with fail
  go_cut [6, 7] (fun s6 s7 wx => s6 = .int .i64 n ∧ s7 = .int .i64 err ∧ ∃ F', MidF w wx (OpF.mk b f c k m fr sl v) p F F' B)
  case first =>
    have hM1 := HM.out.kept (Keeps.drew None _)
    go_region_held3 (fun w' => w'.cell? ⟨w.heap.size, 0, none⟩ = some (.int .i64 b) ∧ w'.cell? ⟨w.heap.size, 1, none⟩ = some (.int .i64 f)) (first | exact hs3 | exact hs2 | go_keep) (first
      | (go_at_call 57; refine (hcall _).mono ?_; rintro e w2 ⟨rfl, hk2⟩; have hM2 := hM1.kept hk2; have hs2 : w2.cell? ⟨w.heap.size, 0, none⟩ = some (.int .i64 b) ∧ w2.cell? ⟨w.heap.size, 1, none⟩ = some (.int .i64 f) := ⟨hM2.cell 0, hM2.cell 1⟩)
      | (go_at_call 82; refine (hld _ F hM2.ar).mono ?_; rintro e w3 ⟨rfl, hA3⟩; obtain ⟨F3, hM3⟩ := hM2.acc hA3; have hs3 : w3.cell? ⟨w.heap.size, 0, none⟩ = some (.int .i64 b) ∧ w3.cell? ⟨w.heap.size, 1, none⟩ = some (.int .i64 f) := ⟨hM3.cell 0, hM3.cell 1⟩))
    all_goals (go_wp2_with fail; go_meet)
    all_goals exact ⟨rfl, rfl, F3, hM3⟩
  case rest =>
    obtain ⟨rfl, rfl, F4, hM4⟩ := hcut
    clear hcall hld hm1 hn1
    obtain ⟨hn1, hn2⟩ := hn
    obtain ⟨r0, r1, r2, r3, r4, r5, r6, r7⟩ := hM4.rcells
    obtain ⟨s0, s1, s2, s3, s4, s5, s6, s7⟩ := hM4.rfrees
    obtain ⟨c0, c1, c2, c3, c4, c5, c6, c7⟩ := hM4.cells
    have hend := opfend_any 3 0
    simp only [OpF.value, OpF.vals, OpF.ended] at hend ⊢
    go_wp2_with fail
    refine (hend _).mono ?_
    rintro e w5 ⟨rfl, hk5⟩
    have hM5 := hM4.kept hk5
    obtain ⟨r0, r1, r2, r3, r4, r5, r6, r7⟩ := hM5.rcells
    obtain ⟨s0, s1, s2, s3, s4, s5, s6, s7⟩ := hM5.rfrees
    have H5 : Hid _ := hM5
    clear hM4 hM5 hend
    go_wp2_with fail
    exact opf_end2 4 5 rfl rfl H5.out.res rfl rfl _ _ _ _ _ _ _ _ (fun w' hk => ⟨rfl, H5.out.fin hk⟩)
set_option maxHeartbeats 1600000 in
set_option maxRecDepth 100000 in
theorem alloc_got (p : Nat) (F : Nat → Prop) (A : Ar) (b f c k m fr sl v : Int) (hn : ¬ (A.did 3 b 1 0).1.v < 1 ∧ ¬ f < (A.did 3 b 1 0).1.v ∧ (A.did 3 b 1 0).1.v ≤ 9223372036854775807) (w : World) (h : ArF w p F A) (hlog : A.log.length < 1000000000000) :
    Calls Try.prog 44 #[(OpF.mk b f c k m fr sl v).value, .iface 26 (.pointer (some ⟨p, 0, none⟩))] w fun e w' =>
      e = .returned (.tuple #[(OpF.ended 4 ((A.did 3 b 1 0).1.v - 1)).value, .int .i64 (A.did 3 b 1 0).1.err]) ∧ AA w w' p F (A.did 3 b 1 0).2 := by
  have hm1 := meth8_add p
  have hn1 := nil8_add p
  have hcall := next_any b f
  have hld := fun w' F' (h : ArF w' p F' A) => arf_add p F' A b 1 w' h hlog
  generalize A.did 3 b 1 0 = D at hld hn ⊢
  obtain ⟨⟨n, ok, err⟩, B⟩ := D
  simp only at hld hn ⊢
  have HM : Hid _ := MidF.start h (OpF.mk b f c k m fr sl v)
  clear h
  simp only [OpF.value, OpF.vals]
  go_enter Try.func44, Try.ntmps44
  go_upto_region 1 with fail
  go_cut [6, 7] (fun s6 s7 wx => s6 = .int .i64 n ∧ s7 = .int .i64 err ∧ ∃ F', MidF w wx (OpF.mk b f c k m fr sl v) p F F' B)
  case first =>
    have hM1 := HM.out.kept (Keeps.drew None _)
    go_region_held3 (fun w' => w'.cell? ⟨w.heap.size, 0, none⟩ = some (.int .i64 b) ∧ w'.cell? ⟨w.heap.size, 1, none⟩ = some (.int .i64 f)) (first | exact hs3 | exact hs2 | go_keep) (first
      | (go_at_call 57; refine (hcall _).mono ?_; rintro e w2 ⟨rfl, hk2⟩; have hM2 := hM1.kept hk2; have hs2 : w2.cell? ⟨w.heap.size, 0, none⟩ = some (.int .i64 b) ∧ w2.cell? ⟨w.heap.size, 1, none⟩ = some (.int .i64 f) := ⟨hM2.cell 0, hM2.cell 1⟩)
      | (go_at_call 82; refine (hld _ F hM2.ar).mono ?_; rintro e w3 ⟨rfl, hA3⟩; obtain ⟨F3, hM3⟩ := hM2.acc hA3; have hs3 : w3.cell? ⟨w.heap.size, 0, none⟩ = some (.int .i64 b) ∧ w3.cell? ⟨w.heap.size, 1, none⟩ = some (.int .i64 f) := ⟨hM3.cell 0, hM3.cell 1⟩))
    all_goals (go_wp2_with fail; go_meet)
    all_goals exact ⟨rfl, rfl, F3, hM3⟩
  case rest =>
    obtain ⟨rfl, rfl, F4, hM4⟩ := hcut
    clear hcall hld hm1 hn1
    obtain ⟨hn1, hn2, hn3⟩ := hn
    obtain ⟨r0, r1, r2, r3, r4, r5, r6, r7⟩ := hM4.rcells
    obtain ⟨s0, s1, s2, s3, s4, s5, s6, s7⟩ := hM4.rfrees
    obtain ⟨c0, c1, c2, c3, c4, c5, c6, c7⟩ := hM4.cells
    have hend := opfend_any 4 (n - 1)
    simp only [OpF.value, OpF.vals, OpF.ended] at hend ⊢
    go_wp2_with fail
    refine (hend _).mono ?_
    rintro e w5 ⟨rfl, hk5⟩
    have hM5 := hM4.kept hk5
    obtain ⟨r0, r1, r2, r3, r4, r5, r6, r7⟩ := hM5.rcells
    obtain ⟨s0, s1, s2, s3, s4, s5, s6, s7⟩ := hM5.rfrees
    have H5 : Hid _ := hM5
    clear hM4 hM5 hend
    go_wp2_with fail
    exact opf_end2 4 5 rfl rfl H5.out.res rfl rfl _ _ _ _ _ _ _ _ (fun w' hk => ⟨rfl, H5.out.fin hk⟩)
set_option maxHeartbeats 1600000 in
set_option maxRecDepth 100000 in
theorem letgo_0 (p : Nat) (F : Nat → Prop) (A : Ar) (b f c k m fr sl v : Int) (code : Int) (hm0 : 0 ≤ m) (hm1 : m ≤ 2) (hn : (A.did 3 (joinAt b fr) (-1) 0).1.v = 0) (w : World) (h : ArF w p F A) (hlog : A.log.length < 1000000000000) :
    Calls Try.prog 60 #[(OpF.mk b f c k m fr sl v).value, .iface 26 (.pointer (some ⟨p, 0, none⟩)), .int .i64 code] w fun e w' =>
      e = .returned (.tuple #[(OpF.mk b f c k (m + 1) fr sl v).value, .int .i64 (A.did 3 (joinAt b fr) (-1) 0).1.err]) ∧ AA w w' p F (A.did 3 (joinAt b fr) (-1) 0).2 := by
  have hm2 := meth8_add p
  have hn1 := nil8_add p
  have hcall := joinAt_any b f fr
  have hld := fun w' F' (h : ArF w' p F' A) => arf_add p F' A (joinAt b fr) (-1) w' h hlog
  generalize A.did 3 (joinAt b fr) (-1) 0 = D at hld hn ⊢
  obtain ⟨⟨n, ok, err⟩, B⟩ := D
  simp only at hld hn ⊢
  subst hn
  generalize joinAt b fr = ad at hcall hld
  have HM : Hid _ := MidF.start h (OpF.mk b f c k m fr sl v)
  clear h
  simp only [OpF.value, OpF.vals]
  go_enter Try.func60, Try.ntmps60
  go_upto_region 1 with fail
  go_cut [8, 9] (fun s8 s9 wx => s8 = .int .i64 0 ∧ s9 = .int .i64 err ∧ ∃ F', MidF w wx (OpF.mk b f c k m fr sl v) p F F' B)
  case first =>
    have hM1 := HM.out.kept (Keeps.drew None _)
    go_region_held3 (fun w' => w'.cell? ⟨w.heap.size, 0, none⟩ = some (.int .i64 b) ∧ w'.cell? ⟨w.heap.size, 1, none⟩ = some (.int .i64 f) ∧ w'.cell? ⟨w.heap.size, 5, none⟩ = some (.int .i64 fr)) (first | exact hs3 | exact hs2 | go_keep) (first
      | (go_at_call 29; refine (hcall _).mono ?_; rintro e w2 ⟨rfl, hk2⟩; have hM2 := hM1.kept hk2; have hs2 : w2.cell? ⟨w.heap.size, 0, none⟩ = some (.int .i64 b) ∧ w2.cell? ⟨w.heap.size, 1, none⟩ = some (.int .i64 f) ∧ w2.cell? ⟨w.heap.size, 5, none⟩ = some (.int .i64 fr) := ⟨hM2.cell 0, hM2.cell 1, hM2.cell 5⟩)
      | (go_at_call 82; refine (hld _ F hM2.ar).mono ?_; rintro e w3 ⟨rfl, hA3⟩; obtain ⟨F3, hM3⟩ := hM2.acc hA3; have hs3 : w3.cell? ⟨w.heap.size, 0, none⟩ = some (.int .i64 b) ∧ w3.cell? ⟨w.heap.size, 1, none⟩ = some (.int .i64 f) ∧ w3.cell? ⟨w.heap.size, 5, none⟩ = some (.int .i64 fr) := ⟨hM3.cell 0, hM3.cell 1, hM3.cell 5⟩))
    all_goals (go_wp2_with fail; go_meet)
    all_goals exact ⟨rfl, rfl, F3, hM3⟩
  case rest =>
    obtain ⟨rfl, rfl, F4, hM4⟩ := hcut
    clear hcall hld hm2 hn1
    obtain ⟨r0, r1, r2, r3, r4, r5, r6, r7⟩ := hM4.rcells
    obtain ⟨s0, s1, s2, s3, s4, s5, s6, s7⟩ := hM4.rfrees
    obtain ⟨c0, c1, c2, c3, c4, c5, c6, c7⟩ := hM4.cells
    obtain ⟨q0, q1, q2, q3, q4, q5, q6, q7⟩ := hM4.frees
    have hM5 := hM4.put 4 (.int .i64 (m + 1)) (OpF.mk b f c k (m + 1) fr sl v) rfl
    have H5 : Hid _ := hM5
    clear hM4 hM5
    go_wp2_with fail
    exact opf_end2 6 7 rfl rfl H5.out.res rfl rfl _ _ _ _ _ _ _ _ (fun w' hk => ⟨rfl, H5.out.fin hk⟩)
set_option maxHeartbeats 1600000 in
set_option maxRecDepth 100000 in
theorem letgo_n (p : Nat) (F : Nat → Prop) (A : Ar) (b f c k m fr sl v : Int) (code : Int) (hn : ¬ (A.did 3 (joinAt b fr) (-1) 0).1.v = 0) (w : World) (h : ArF w p F A) (hlog : A.log.length < 1000000000000) :
    Calls Try.prog 60 #[(OpF.mk b f c k m fr sl v).value, .iface 26 (.pointer (some ⟨p, 0, none⟩)), .int .i64 code] w fun e w' =>
      e = .returned (.tuple #[(OpF.ended code (A.did 3 (joinAt b fr) (-1) 0).1.v).value, .int .i64 (A.did 3 (joinAt b fr) (-1) 0).1.err]) ∧ AA w w' p F (A.did 3 (joinAt b fr) (-1) 0).2 := by
  have hm2 := meth8_add p
  have hn1 := nil8_add p
  have hcall := joinAt_any b f fr
  have hld := fun w' F' (h : ArF w' p F' A) => arf_add p F' A (joinAt b fr) (-1) w' h hlog
  generalize A.did 3 (joinAt b fr) (-1) 0 = D at hld hn ⊢
  obtain ⟨⟨n, ok, err⟩, B⟩ := D
  simp only at hld hn ⊢
  generalize joinAt b fr = ad at hcall hld
  have HM : Hid _ := MidF.start h (OpF.mk b f c k m fr sl v)
  clear h
  simp only [OpF.value, OpF.vals]
  go_enter Try.func60, Try.ntmps60
  go_upto_region 1 with fail
  go_cut [8, 9] (fun s8 s9 wx => s8 = .int .i64 n ∧ s9 = .int .i64 err ∧ ∃ F', MidF w wx (OpF.mk b f c k m fr sl v) p F F' B)
  case first =>
    have hM1 := HM.out.kept (Keeps.drew None _)
    go_region_held3 (fun w' => w'.cell? ⟨w.heap.size, 0, none⟩ = some (.int .i64 b) ∧ w'.cell? ⟨w.heap.size, 1, none⟩ = some (.int .i64 f) ∧ w'.cell? ⟨w.heap.size, 5, none⟩ = some (.int .i64 fr)) (first | exact hs3 | exact hs2 | go_keep) (first
      | (go_at_call 29; refine (hcall _).mono ?_; rintro e w2 ⟨rfl, hk2⟩; have hM2 := hM1.kept hk2; have hs2 : w2.cell? ⟨w.heap.size, 0, none⟩ = some (.int .i64 b) ∧ w2.cell? ⟨w.heap.size, 1, none⟩ = some (.int .i64 f) ∧ w2.cell? ⟨w.heap.size, 5, none⟩ = some (.int .i64 fr) := ⟨hM2.cell 0, hM2.cell 1, hM2.cell 5⟩)
      | (go_at_call 82; refine (hld _ F hM2.ar).mono ?_; rintro e w3 ⟨rfl, hA3⟩; obtain ⟨F3, hM3⟩ := hM2.acc hA3; have hs3 : w3.cell? ⟨w.heap.size, 0, none⟩ = some (.int .i64 b) ∧ w3.cell? ⟨w.heap.size, 1, none⟩ = some (.int .i64 f) ∧ w3.cell? ⟨w.heap.size, 5, none⟩ = some (.int .i64 fr) := ⟨hM3.cell 0, hM3.cell 1, hM3.cell 5⟩))
    all_goals (go_wp2_with fail; go_meet)
    all_goals exact ⟨rfl, rfl, F3, hM3⟩
  case rest =>
    obtain ⟨rfl, rfl, F4, hM4⟩ := hcut
    clear hcall hld hm2 hn1
    have hend := opfend_any code n
    simp only [OpF.value, OpF.vals, OpF.ended] at hend ⊢
    go_wp2_with fail
    refine (hend _).mono ?_
    rintro e w5 ⟨rfl, hk5⟩
    have hM5 := hM4.kept hk5
    obtain ⟨r0, r1, r2, r3, r4, r5, r6, r7⟩ := hM5.rcells
    obtain ⟨s0, s1, s2, s3, s4, s5, s6, s7⟩ := hM5.rfrees
    have H5 : Hid _ := hM5
    clear hM4 hM5 hend
    go_wp2_with fail
    exact opf_end2 6 7 rfl rfl H5.out.res rfl rfl _ _ _ _ _ _ _ _ (fun w' hk => ⟨rfl, H5.out.fin hk⟩)
set_option maxHeartbeats 1600000 in
set_option maxRecDepth 100000 in
theorem leave_any (p : Nat) (F : Nat → Prop) (A : Ar) (b f c k fr sl v : Int) (w : World) (h : ArF w p F A) (hlog : A.log.length < 1000000000000) :
    Calls Try.prog 46 #[(OpF.mk b f c k 0 fr sl v).value, .iface 26 (.pointer (some ⟨p, 0, none⟩))] w fun e w' =>
      e = .returned (.tuple #[(OpF.mk b f c k 1 fr sl v).value, .int .i64 (A.did 1 (slotAt b fr sl) v 0).1.err]) ∧ AA w w' p F (A.did 1 (slotAt b fr sl) v 0).2 := by
  have hm1 := meth8_store p
  have hn1 := nil8_store p
  have hcall := slotAt_any b f fr sl
  have hld := fun w' F' (h : ArF w' p F' A) => arf_put p F' A (slotAt b fr sl) v w' h hlog
  generalize A.did 1 (slotAt b fr sl) v 0 = D at hld ⊢
  obtain ⟨⟨n, ok, err⟩, B⟩ := D
  simp only at hld ⊢
  generalize slotAt b fr sl = ad at hcall hld
  have HM : Hid _ := MidF.start h (OpF.mk b f c k 0 fr sl v)
  clear h
  simp only [OpF.value, OpF.vals]
  go_enter Try.func46, Try.ntmps46
  go_upto_region 3 with fail
  go_cut [6] (fun s6 wx => s6 = .int .i64 err ∧ ∃ F', MidF w wx (OpF.mk b f c k 0 fr sl v) p F F' B)
  case first =>
    have hM1 := HM.out.kept (Keeps.drew None _)
    go_region_held3 (fun w' => w'.cell? ⟨w.heap.size, 0, none⟩ = some (.int .i64 b) ∧ w'.cell? ⟨w.heap.size, 1, none⟩ = some (.int .i64 f) ∧ w'.cell? ⟨w.heap.size, 5, none⟩ = some (.int .i64 fr) ∧ w'.cell? ⟨w.heap.size, 6, none⟩ = some (.int .i64 sl) ∧ w'.cell? ⟨w.heap.size, 7, none⟩ = some (.int .i64 v)) (first | exact hs3 | exact hs2 | go_keep) (first
      | (go_at_call 59; refine (hcall _).mono ?_; rintro e w2 ⟨rfl, hk2⟩; have hM2 := hM1.kept hk2; have hs2 : w2.cell? ⟨w.heap.size, 0, none⟩ = some (.int .i64 b) ∧ w2.cell? ⟨w.heap.size, 1, none⟩ = some (.int .i64 f) ∧ w2.cell? ⟨w.heap.size, 5, none⟩ = some (.int .i64 fr) ∧ w2.cell? ⟨w.heap.size, 6, none⟩ = some (.int .i64 sl) ∧ w2.cell? ⟨w.heap.size, 7, none⟩ = some (.int .i64 v) := ⟨hM2.cell 0, hM2.cell 1, hM2.cell 5, hM2.cell 6, hM2.cell 7⟩)
      | (go_at_call 85; refine (hld _ F hM2.ar).mono ?_; rintro e w3 ⟨rfl, hA3⟩; obtain ⟨F3, hM3⟩ := hM2.acc hA3; have hs3 : w3.cell? ⟨w.heap.size, 0, none⟩ = some (.int .i64 b) ∧ w3.cell? ⟨w.heap.size, 1, none⟩ = some (.int .i64 f) ∧ w3.cell? ⟨w.heap.size, 5, none⟩ = some (.int .i64 fr) ∧ w3.cell? ⟨w.heap.size, 6, none⟩ = some (.int .i64 sl) ∧ w3.cell? ⟨w.heap.size, 7, none⟩ = some (.int .i64 v) := ⟨hM3.cell 0, hM3.cell 1, hM3.cell 5, hM3.cell 6, hM3.cell 7⟩))
    all_goals (go_wp2_with fail; go_meet)
    all_goals exact ⟨rfl, F3, hM3⟩
  case rest =>
    obtain ⟨rfl, F4, hM4⟩ := hcut
    clear hcall hld hm1 hn1
    obtain ⟨r0, r1, r2, r3, r4, r5, r6, r7⟩ := hM4.rcells
    obtain ⟨s0, s1, s2, s3, s4, s5, s6, s7⟩ := hM4.rfrees
    obtain ⟨c0, c1, c2, c3, c4, c5, c6, c7⟩ := hM4.cells
    obtain ⟨q0, q1, q2, q3, q4, q5, q6, q7⟩ := hM4.frees
    have hM5 := hM4.put 4 (.int .i64 1) (OpF.mk b f c k 1 fr sl v) rfl
    have H5 : Hid _ := hM5
    clear hM4 hM5
    go_wp2_with fail
    exact opf_end2 4 5 rfl rfl H5.out.res rfl rfl _ _ _ _ _ _ _ _ (fun w' hk => ⟨rfl, H5.out.fin hk⟩)

end Go.Proofs.Ytaipeclmfgdegaa
