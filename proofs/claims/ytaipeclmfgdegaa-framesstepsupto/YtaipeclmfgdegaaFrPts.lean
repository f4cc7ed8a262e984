import Derived.Test.YtaipeclmfgdegaaFrMid
/-! The machine's methods, one access each. -/
namespace Go.Proofs.Ytaipeclmfgdegaa
open Go.RowKit Go.HeapKit Go.IntWalk

set_option maxHeartbeats 1600000 in
set_option maxRecDepth 100000 in
theorem hold_any (p : Nat) (F : Nat → Prop) (A : Ar) (b f c k m fr sl v : Int) (code : Int) (w : World) (h : ArF w p F A) (hlog : A.log.length < 1000000000000) :
    Calls Try.prog 61 #[(OpF.mk b f c k m fr sl v).value, .iface 26 (.pointer (some ⟨p, 0, none⟩)), .int .i64 code] w fun e w' =>
      e = .returned (.tuple #[(OpF.ended code 0).value, .int .i64 (A.did 1 (joinAt b fr) 1 0).1.err]) ∧ AA w w' p F (A.did 1 (joinAt b fr) 1 0).2 := by
  have hm1 := meth8_store p
  have hn1 := nil8_store p
  have hcall := joinAt_any b f fr
  have hld := fun w' F' (h : ArF w' p F' A) => arf_put p F' A (joinAt b fr) 1 w' h hlog
  generalize A.did 1 (joinAt b fr) 1 0 = D at hld ⊢
  obtain ⟨⟨n, ok, err⟩, B⟩ := D
  simp only at hld ⊢
  generalize joinAt b fr = ad at hcall hld
  have HM : Hid _ := MidF.start h (OpF.mk b f c k m fr sl v)
  clear h
  simp only [OpF.value, OpF.vals]
  go_enter Try.func61, Try.ntmps61
  go_upto_region 1 with fail
  go_cut [8] (fun s8 wx => s8 = .int .i64 err ∧ ∃ F', MidF w wx (OpF.mk b f c k m fr sl v) p F F' B)
  case first =>
    have hM1 := HM.out.kept (Keeps.drew None _)
    go_region_held3 (fun w' => w'.cell? ⟨w.heap.size, 0, none⟩ = some (.int .i64 b) ∧ w'.cell? ⟨w.heap.size, 1, none⟩ = some (.int .i64 f) ∧ w'.cell? ⟨w.heap.size, 5, none⟩ = some (.int .i64 fr)) (first | exact hs3 | exact hs2 | go_keep) (first
      | (go_at_call 29; refine (hcall _).mono ?_; rintro e w2 ⟨rfl, hk2⟩; have hM2 := hM1.kept hk2; have hs2 : w2.cell? ⟨w.heap.size, 0, none⟩ = some (.int .i64 b) ∧ w2.cell? ⟨w.heap.size, 1, none⟩ = some (.int .i64 f) ∧ w2.cell? ⟨w.heap.size, 5, none⟩ = some (.int .i64 fr) := ⟨hM2.cell 0, hM2.cell 1, hM2.cell 5⟩)
      | (go_at_call 85; refine (hld _ F hM2.ar).mono ?_; rintro e w3 ⟨rfl, hA3⟩; obtain ⟨F3, hM3⟩ := hM2.acc hA3; have hs3 : w3.cell? ⟨w.heap.size, 0, none⟩ = some (.int .i64 b) ∧ w3.cell? ⟨w.heap.size, 1, none⟩ = some (.int .i64 f) ∧ w3.cell? ⟨w.heap.size, 5, none⟩ = some (.int .i64 fr) := ⟨hM3.cell 0, hM3.cell 1, hM3.cell 5⟩))
    all_goals (go_wp2_with fail; go_meet)
    all_goals exact ⟨rfl, F3, hM3⟩
  case rest =>
    obtain ⟨rfl, F4, hM4⟩ := hcut
    clear hcall hld hm1 hn1
    have hend := opfend_any code 0
    simp only [OpF.value, OpF.vals, OpF.ended] at hend ⊢
    go_wp2_with fail
    refine (hend _).mono ?_
    rintro e w5 ⟨rfl, hk5⟩
    have hM5 := hM4.kept hk5
    obtain ⟨r0, r1, r2, r3, r4, r5, r6, r7⟩ := hM5.rcells
    obtain ⟨s0, s1, s2, s3, s4, s5, s6, s7⟩ := hM5.rfrees
    have H5 : Hid _ := hM5
    clear hM4 hM5 hend
    go_wp2_with fail
    exact opf_end2 6 7 rfl rfl H5.out.res rfl rfl _ _ _ _ _ _ _ _ (fun w' hk => ⟨rfl, H5.out.fin hk⟩)
set_option maxHeartbeats 1600000 in
set_option maxRecDepth 100000 in
theorem fork_any (p : Nat) (F : Nat → Prop) (A : Ar) (b f c k m fr sl v : Int) (w : World) (h : ArF w p F A) (hlog : A.log.length < 1000000000000) :
    Calls Try.prog 45 #[(OpF.mk b f c k m fr sl v).value, .iface 26 (.pointer (some ⟨p, 0, none⟩))] w fun e w' =>
      e = .returned (.tuple #[(OpF.ended 9 (A.did 3 (joinAt b fr) 1 0).1.v).value, .int .i64 (A.did 3 (joinAt b fr) 1 0).1.err]) ∧ AA w w' p F (A.did 3 (joinAt b fr) 1 0).2 := by
  have hm1 := meth8_add p
  have hn1 := nil8_add p
  have hcall := joinAt_any b f fr
  have hld := fun w' F' (h : ArF w' p F' A) => arf_add p F' A (joinAt b fr) 1 w' h hlog
  generalize A.did 3 (joinAt b fr) 1 0 = D at hld ⊢
  obtain ⟨⟨n, ok, err⟩, B⟩ := D
  simp only at hld ⊢
  generalize joinAt b fr = ad at hcall hld
  have HM : Hid _ := MidF.start h (OpF.mk b f c k m fr sl v)
  clear h
  simp only [OpF.value, OpF.vals]
  go_enter Try.func45, Try.ntmps45
  go_upto_region 1 with fail
  go_cut [6, 7] (fun s6 s7 wx => s6 = .int .i64 n ∧ s7 = .int .i64 err ∧ ∃ F', MidF w wx (OpF.mk b f c k m fr sl v) p F F' B)
  case first =>
    have hM1 := HM.out.kept (Keeps.drew None _)
    go_region_held3 (fun w' => w'.cell? ⟨w.heap.size, 0, none⟩ = some (.int .i64 b) ∧ w'.cell? ⟨w.heap.size, 1, none⟩ = some (.int .i64 f) ∧ w'.cell? ⟨w.heap.size, 5, none⟩ = some (.int .i64 fr)) (first | exact hs3 | exact hs2 | go_keep) (first
      | (go_at_call 29; refine (hcall _).mono ?_; rintro e w2 ⟨rfl, hk2⟩; have hM2 := hM1.kept hk2; have hs2 : w2.cell? ⟨w.heap.size, 0, none⟩ = some (.int .i64 b) ∧ w2.cell? ⟨w.heap.size, 1, none⟩ = some (.int .i64 f) ∧ w2.cell? ⟨w.heap.size, 5, none⟩ = some (.int .i64 fr) := ⟨hM2.cell 0, hM2.cell 1, hM2.cell 5⟩)
      | (go_at_call 82; refine (hld _ F hM2.ar).mono ?_; rintro e w3 ⟨rfl, hA3⟩; obtain ⟨F3, hM3⟩ := hM2.acc hA3; have hs3 : w3.cell? ⟨w.heap.size, 0, none⟩ = some (.int .i64 b) ∧ w3.cell? ⟨w.heap.size, 1, none⟩ = some (.int .i64 f) ∧ w3.cell? ⟨w.heap.size, 5, none⟩ = some (.int .i64 fr) := ⟨hM3.cell 0, hM3.cell 1, hM3.cell 5⟩))
    all_goals (go_wp2_with fail; go_meet)
    all_goals exact ⟨rfl, rfl, F3, hM3⟩
  case rest =>
    obtain ⟨rfl, rfl, F4, hM4⟩ := hcut
    clear hcall hld hm1 hn1
    have hend := opfend_any 9 n
    simp only [OpF.value, OpF.vals, OpF.ended] at hend ⊢
    go_wp2_with fail
    refine (hend _).mono ?_
    rintro e w5 ⟨rfl, hk5⟩
    have hM5 := hM4.kept hk5
    obtain ⟨r0, r1, r2, r3, r4, r5, r6, r7⟩ := hM5.rcells
    obtain ⟨s0, s1, s2, s3, s4, s5, s6, s7⟩ := hM5.rfrees
    have H5 : Hid _ := hM5
    clear hM4 hM5 hend
    go_wp2_with fail
    exact opf_end2 4 5 rfl rfl H5.out.res rfl rfl _ _ _ _ _ _ _ _ (fun w' hk => ⟨rfl, H5.out.fin hk⟩)
set_option maxHeartbeats 1600000 in
set_option maxRecDepth 100000 in
theorem start_any (p : Nat) (F : Nat → Prop) (A : Ar) (b f c k m fr sl v : Int) (w : World) (h : ArF w p F A) (hlog : A.log.length < 1000000000000) :
    Calls Try.prog 48 #[(OpF.mk b f c k m fr sl v).value, .iface 26 (.pointer (some ⟨p, 0, none⟩))] w fun e w' =>
      e = .returned (.tuple #[(OpF.ended 14 (A.did 3 (markAt b fr) 1 0).1.v).value, .int .i64 (A.did 3 (markAt b fr) 1 0).1.err]) ∧ AA w w' p F (A.did 3 (markAt b fr) 1 0).2 := by
  have hm1 := meth8_add p
  have hn1 := nil8_add p
  have hcall := markAt_any b f fr
  have hld := fun w' F' (h : ArF w' p F' A) => arf_add p F' A (markAt b fr) 1 w' h hlog
  generalize A.did 3 (markAt b fr) 1 0 = D at hld ⊢
  obtain ⟨⟨n, ok, err⟩, B⟩ := D
  simp only at hld ⊢
  generalize markAt b fr = ad at hcall hld
  have HM : Hid _ := MidF.start h (OpF.mk b f c k m fr sl v)
  clear h
  simp only [OpF.value, OpF.vals]
  go_enter Try.func48, Try.ntmps48
  go_upto_region 1 with fail
  go_cut [6, 7] (fun s6 s7 wx => s6 = .int .i64 n ∧ s7 = .int .i64 err ∧ ∃ F', MidF w wx (OpF.mk b f c k m fr sl v) p F F' B)
  case first =>
    have hM1 := HM.out.kept (Keeps.drew None _)
    go_region_held3 (fun w' => w'.cell? ⟨w.heap.size, 0, none⟩ = some (.int .i64 b) ∧ w'.cell? ⟨w.heap.size, 1, none⟩ = some (.int .i64 f) ∧ w'.cell? ⟨w.heap.size, 5, none⟩ = some (.int .i64 fr)) (first | exact hs3 | exact hs2 | go_keep) (first
      | (go_at_call 62; refine (hcall _).mono ?_; rintro e w2 ⟨rfl, hk2⟩; have hM2 := hM1.kept hk2; have hs2 : w2.cell? ⟨w.heap.size, 0, none⟩ = some (.int .i64 b) ∧ w2.cell? ⟨w.heap.size, 1, none⟩ = some (.int .i64 f) ∧ w2.cell? ⟨w.heap.size, 5, none⟩ = some (.int .i64 fr) := ⟨hM2.cell 0, hM2.cell 1, hM2.cell 5⟩)
      | (go_at_call 82; refine (hld _ F hM2.ar).mono ?_; rintro e w3 ⟨rfl, hA3⟩; obtain ⟨F3, hM3⟩ := hM2.acc hA3; have hs3 : w3.cell? ⟨w.heap.size, 0, none⟩ = some (.int .i64 b) ∧ w3.cell? ⟨w.heap.size, 1, none⟩ = some (.int .i64 f) ∧ w3.cell? ⟨w.heap.size, 5, none⟩ = some (.int .i64 fr) := ⟨hM3.cell 0, hM3.cell 1, hM3.cell 5⟩))
    all_goals (go_wp2_with fail; go_meet)
    all_goals exact ⟨rfl, rfl, F3, hM3⟩
  case rest =>
    obtain ⟨rfl, rfl, F4, hM4⟩ := hcut
    clear hcall hld hm1 hn1
    have hend := opfend_any 14 n
    simp only [OpF.value, OpF.vals, OpF.ended] at hend ⊢
    go_wp2_with fail
    refine (hend _).mono ?_
    rintro e w5 ⟨rfl, hk5⟩
    have hM5 := hM4.kept hk5
    obtain ⟨r0, r1, r2, r3, r4, r5, r6, r7⟩ := hM5.rcells
    obtain ⟨s0, s1, s2, s3, s4, s5, s6, s7⟩ := hM5.rfrees
    have H5 : Hid _ := hM5
    clear hM4 hM5 hend
    go_wp2_with fail
    exact opf_end2 4 5 rfl rfl H5.out.res rfl rfl _ _ _ _ _ _ _ _ (fun w' hk => ⟨rfl, H5.out.fin hk⟩)
set_option maxHeartbeats 1600000 in
set_option maxRecDepth 100000 in
theorem fetch_any (p : Nat) (F : Nat → Prop) (A : Ar) (b f c k m fr sl v : Int) (w : World) (h : ArF w p F A) (hlog : A.log.length < 1000000000000) :
    Calls Try.prog 49 #[(OpF.mk b f c k m fr sl v).value, .iface 26 (.pointer (some ⟨p, 0, none⟩))] w fun e w' =>
      e = .returned (.tuple #[(OpF.ended 15 (A.did 0 (slotAt b fr sl) 0 0).1.v).value, .int .i64 (A.did 0 (slotAt b fr sl) 0 0).1.err]) ∧ AA w w' p F (A.did 0 (slotAt b fr sl) 0 0).2 := by
  have hm1 := meth8_load p
  have hn1 := nil8_load p
  have hcall := slotAt_any b f fr sl
  have hld := fun w' F' (h : ArF w' p F' A) => arf_load p F' A (slotAt b fr sl) w' h hlog
  generalize A.did 0 (slotAt b fr sl) 0 0 = D at hld ⊢
  obtain ⟨⟨n, ok, err⟩, B⟩ := D
  simp only at hld ⊢
  generalize slotAt b fr sl = ad at hcall hld
  have HM : Hid _ := MidF.start h (OpF.mk b f c k m fr sl v)
  clear h
  simp only [OpF.value, OpF.vals]
  go_enter Try.func49, Try.ntmps49
  go_upto_region 1 with fail
  go_cut [6, 7] (fun s6 s7 wx => s6 = .int .i64 n ∧ s7 = .int .i64 err ∧ ∃ F', MidF w wx (OpF.mk b f c k m fr sl v) p F F' B)
  case first =>
    have hM1 := HM.out.kept (Keeps.drew None _)
    go_region_held3 (fun w' => w'.cell? ⟨w.heap.size, 0, none⟩ = some (.int .i64 b) ∧ w'.cell? ⟨w.heap.size, 1, none⟩ = some (.int .i64 f) ∧ w'.cell? ⟨w.heap.size, 5, none⟩ = some (.int .i64 fr) ∧ w'.cell? ⟨w.heap.size, 6, none⟩ = some (.int .i64 sl)) (first | exact hs3 | exact hs2 | go_keep) (first
      | (go_at_call 59; refine (hcall _).mono ?_; rintro e w2 ⟨rfl, hk2⟩; have hM2 := hM1.kept hk2; have hs2 : w2.cell? ⟨w.heap.size, 0, none⟩ = some (.int .i64 b) ∧ w2.cell? ⟨w.heap.size, 1, none⟩ = some (.int .i64 f) ∧ w2.cell? ⟨w.heap.size, 5, none⟩ = some (.int .i64 fr) ∧ w2.cell? ⟨w.heap.size, 6, none⟩ = some (.int .i64 sl) := ⟨hM2.cell 0, hM2.cell 1, hM2.cell 5, hM2.cell 6⟩)
      | (go_at_call 83; refine (hld _ F hM2.ar).mono ?_; rintro e w3 ⟨rfl, hA3⟩; obtain ⟨F3, hM3⟩ := hM2.acc hA3; have hs3 : w3.cell? ⟨w.heap.size, 0, none⟩ = some (.int .i64 b) ∧ w3.cell? ⟨w.heap.size, 1, none⟩ = some (.int .i64 f) ∧ w3.cell? ⟨w.heap.size, 5, none⟩ = some (.int .i64 fr) ∧ w3.cell? ⟨w.heap.size, 6, none⟩ = some (.int .i64 sl) := ⟨hM3.cell 0, hM3.cell 1, hM3.cell 5, hM3.cell 6⟩))
    all_goals (go_wp2_with fail; go_meet)
    all_goals exact ⟨rfl, rfl, F3, hM3⟩
  case rest =>
    obtain ⟨rfl, rfl, F4, hM4⟩ := hcut
    clear hcall hld hm1 hn1
    have hend := opfend_any 15 n
    simp only [OpF.value, OpF.vals, OpF.ended] at hend ⊢
    go_wp2_with fail
    refine (hend _).mono ?_
    rintro e w5 ⟨rfl, hk5⟩
    have hM5 := hM4.kept hk5
    obtain ⟨r0, r1, r2, r3, r4, r5, r6, r7⟩ := hM5.rcells
    obtain ⟨s0, s1, s2, s3, s4, s5, s6, s7⟩ := hM5.rfrees
    have H5 : Hid _ := hM5
    clear hM4 hM5 hend
    go_wp2_with fail
    exact opf_end2 4 5 rfl rfl H5.out.res rfl rfl _ _ _ _ _ _ _ _ (fun w' hk => ⟨rfl, H5.out.fin hk⟩)
end Go.Proofs.Ytaipeclmfgdegaa
