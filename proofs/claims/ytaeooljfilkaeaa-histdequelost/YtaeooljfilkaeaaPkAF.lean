import Derived.Test.YtaeooljfilkaeaaPkAC
import Derived.Deep.RegionHeld3
/-! The points of the machine, one access each. -/
namespace Go.Proofs.Ytaeooljfilkaeaa
open Go.RowKit Go.HeapKit Go.IntWalk

set_option maxHeartbeats 1600000 in
set_option maxRecDepth 100000 in
theorem point_24 (p : Nat) (F : Nat → Prop) (A : Ar) (base most code v t b a c na nc ix mv : Int) (w : World) (h : ArF w p F A) (hlog : A.log.length < 1000000000000) :
    Calls Try.prog 73 #[(OpS.mk base most 24 code v t b a c na nc ix mv).value, .iface 58 (.pointer (some ⟨p, 0, none⟩))] w fun e w' =>
      e = .returned (.tuple #[(OpS.mk base most 25 code v t b (A.did 0 (wrap64 (base + 2)) 0 0).1.v c na nc ix mv).value, .int .i64 (A.did 0 (wrap64 (base + 2)) 0 0).1.err]) ∧ AA w w' p F (A.did 0 (wrap64 (base + 2)) 0 0).2 := by
  have hm1 := meth3_load p
  have hn1 := nil3_load p
  have hcall := bufw_any base most
  have hld := fun w' F' (h : ArF w' p F' A) => arf_load p F' A (wrap64 (base + 2)) w' h hlog
  generalize A.did 0 (wrap64 (base + 2)) 0 0 = D at hld ⊢
  obtain ⟨⟨x, ok, err⟩, B⟩ := D
  simp only at hld ⊢
  generalize wrap64 (base + 2) = ad at hcall hld
  have HM : Hid _ := Mid.start h (OpS.mk base most 24 code v t b a c na nc ix mv)
  clear h
  simp only [OpS.value, OpS.vals]
  go_enter Try.func73, Try.ntmps73
  go_upto_region 12 with fail
  go_cut [6] (fun s6 wx => s6 = .int .i64 err ∧ ∃ F', Mid w wx (OpS.mk base most 24 code v t b x c na nc ix mv) p F F' B)
  case first =>
    have hM1 := HM.out.kept (Keeps.drew None _)
    go_region_held3 (fun w' => w'.cell? ⟨w.heap.size, 0, none⟩ = some (.int .i64 base) ∧ w'.cell? ⟨w.heap.size, 1, none⟩ = some (.int .i64 most)) (first | exact hs4 | exact hs3 | exact hs2 | go_keep) (first
      | (go_at_call 45; refine (hcall _).mono ?_; rintro e w2 ⟨rfl, hk2⟩; have hM2 := hM1.kept hk2; have hs2 : w2.cell? ⟨w.heap.size, 0, none⟩ = some (.int .i64 base) ∧ w2.cell? ⟨w.heap.size, 1, none⟩ = some (.int .i64 most) := ⟨hM2.cell 0, hM2.cell 1⟩)
      | (go_at_call 100; refine (hld _ F hM2.ar).mono ?_; rintro e w3 ⟨rfl, hA3⟩; obtain ⟨F3, hM3⟩ := hM2.acc hA3; have hs3 : w3.cell? ⟨w.heap.size, 0, none⟩ = some (.int .i64 base) ∧ w3.cell? ⟨w.heap.size, 1, none⟩ = some (.int .i64 most) := ⟨hM3.cell 0, hM3.cell 1⟩; have cx : w3.cell? ⟨w.heap.size, 7, none⟩ = some (.int .i64 a) := hM3.cell 7; have qx := hM3.free 7; have hM3' := hM3.put 7 (.int .i64 x) (OpS.mk base most 24 code v t b x c na nc ix mv) rfl; have hs4 : (w3.setCell ⟨w.heap.size, 7, none⟩ (.int .i64 x)).cell? ⟨w.heap.size, 0, none⟩ = some (.int .i64 base) ∧ (w3.setCell ⟨w.heap.size, 7, none⟩ (.int .i64 x)).cell? ⟨w.heap.size, 1, none⟩ = some (.int .i64 most) := ⟨hM3'.cell 0, hM3'.cell 1⟩))
    all_goals (go_wp2_with fail; go_meet)
    all_goals exact ⟨rfl, F3, hM3'⟩
  case rest =>
    obtain ⟨rfl, F4, hM4⟩ := hcut
    clear hcall hld hm1 hn1
    obtain ⟨c0, c1, c2, c3, c4, c5, c6, c7, c8, c9, c10, c11, c12⟩ := hM4.cells
    obtain ⟨r0, r1, r2, r3, r4, r5, r6, r7, r8, r9, r10, r11, r12⟩ := hM4.rcells
    have s0 := hM4.rfree 0
    have s1 := hM4.rfree 1
    have s2 := hM4.rfree 2
    have s3 := hM4.rfree 3
    have s4 := hM4.rfree 4
    have s5 := hM4.rfree 5
    have s6 := hM4.rfree 6
    have s7 := hM4.rfree 7
    have s8 := hM4.rfree 8
    have s9 := hM4.rfree 9
    have s10 := hM4.rfree 10
    have s11 := hM4.rfree 11
    have s12 := hM4.rfree 12
    have q2 := hM4.free 2
    have hM5 := (hM4.put 2 (.int .i64 25) (OpS.mk base most 25 code v t b x c na nc ix mv) rfl)
    have H5 : Hid _ := hM5
    clear hM4 hM5
    go_wp2_with fail
    exact op_end2 rfl rfl H5.out.res rfl rfl _ _ _ _ _ _ _ _ _ _ _ _ _ (fun w' hk => ⟨rfl, H5.out.fin hk⟩)
set_option maxHeartbeats 1600000 in
set_option maxRecDepth 100000 in
theorem point_25 (p : Nat) (F : Nat → Prop) (A : Ar) (base most code v t b a c na nc ix mv : Int) (w : World) (h : ArF w p F A) (hlog : A.log.length < 1000000000000) :
    Calls Try.prog 73 #[(OpS.mk base most 25 code v t b a c na nc ix mv).value, .iface 58 (.pointer (some ⟨p, 0, none⟩))] w fun e w' =>
      e = .returned (.tuple #[(flatS (OpS.mk base most 25 code v t b a (A.did 0 (a) 0 0).1.v na nc ix mv) 26).value, .int .i64 (A.did 0 (a) 0 0).1.err]) ∧ AA w w' p F (A.did 0 (a) 0 0).2 := by
  have hm1 := meth3_load p
  have hn1 := nil3_load p
  have hld := fun w' F' (h : ArF w' p F' A) => arf_load p F' A (a) w' h hlog
  generalize A.did 0 (a) 0 0 = D at hld ⊢
  obtain ⟨⟨x, ok, err⟩, B⟩ := D
  simp only at hld ⊢
  have HM : Hid _ := Mid.start h (OpS.mk base most 25 code v t b a c na nc ix mv)
  clear h
  have hcl := flat_any (OpS.mk base most 25 code v t b a x na nc ix mv) 26
  generalize flatS (OpS.mk base most 25 code v t b a x na nc ix mv) 26 = M at hcl ⊢
  obtain ⟨m0, m1, m2, m3, m4, m5, m6, m7, m8, m9, m10, m11, m12⟩ := M
  simp only [OpS.value, OpS.vals] at hcl ⊢
  go_enter Try.func73, Try.ntmps73
  go_wp2_with fail
  refine (hld _ F HM.out.ar).mono ?_
  rintro e wc ⟨rfl, hA3⟩
  obtain ⟨F4, hM4⟩ := HM.out.acc hA3
  clear hA3 hld hm1 hn1 HM
  obtain ⟨c0, c1, c2, c3, c4, c5, c6, c7, c8, c9, c10, c11, c12⟩ := hM4.cells
  obtain ⟨r0, r1, r2, r3, r4, r5, r6, r7, r8, r9, r10, r11, r12⟩ := hM4.rcells
  have s0 := hM4.rfree 0
  have s1 := hM4.rfree 1
  have s2 := hM4.rfree 2
  have s3 := hM4.rfree 3
  have s4 := hM4.rfree 4
  have s5 := hM4.rfree 5
  have s6 := hM4.rfree 6
  have s7 := hM4.rfree 7
  have s8 := hM4.rfree 8
  have s9 := hM4.rfree 9
  have s10 := hM4.rfree 10
  have s11 := hM4.rfree 11
  have s12 := hM4.rfree 12
  have q8 := hM4.free 8
  have hM4p := (hM4.put 8 (.int .i64 (x)) (OpS.mk base most 25 code v t b a x na nc ix mv) rfl)
  have H4 : Hid _ := hM4p
  clear hM4p hM4
  go_wp2_with fail
  refine (hcl _).mono ?_
  rintro e w5 ⟨rfl, hk5⟩
  clear c0 r0 s0 c1 r1 s1 c2 r2 s2 c3 r3 s3 c4 r4 s4 c5 r5 s5 c6 r6 s6 c7 r7 s7 c8 r8 s8 c9 r9 s9 c10 r10 s10 c11 r11 s11 c12 r12 s12
  clear q8
  have hM5 := H4.out.kept hk5
  obtain ⟨c0, c1, c2, c3, c4, c5, c6, c7, c8, c9, c10, c11, c12⟩ := hM5.cells
  obtain ⟨r0, r1, r2, r3, r4, r5, r6, r7, r8, r9, r10, r11, r12⟩ := hM5.rcells
  have s0 := hM5.rfree 0
  have s1 := hM5.rfree 1
  have s2 := hM5.rfree 2
  have s3 := hM5.rfree 3
  have s4 := hM5.rfree 4
  have s5 := hM5.rfree 5
  have s6 := hM5.rfree 6
  have s7 := hM5.rfree 7
  have s8 := hM5.rfree 8
  have s9 := hM5.rfree 9
  have s10 := hM5.rfree 10
  have s11 := hM5.rfree 11
  have s12 := hM5.rfree 12
  have q0 := hM5.free 0
  have q1 := hM5.free 1
  have q2 := hM5.free 2
  have q3 := hM5.free 3
  have q4 := hM5.free 4
  have q5 := hM5.free 5
  have q6 := hM5.free 6
  have q7 := hM5.free 7
  have q8 := hM5.free 8
  have q9 := hM5.free 9
  have q10 := hM5.free 10
  have q11 := hM5.free 11
  have q12 := hM5.free 12
  have hN5 := (hM5.box13 m0 m1 m2 m3 m4 m5 m6 m7 m8 m9 m10 m11 m12)
  clear hM5 hk5 H4 hcl
  have HZ : Hid _ := hN5
  clear hN5
  go_wp2_with fail
  exact op_end2 rfl rfl HZ.out.res rfl rfl _ _ _ _ _ _ _ _ _ _ _ _ _ (fun w' hk => ⟨rfl, HZ.out.fin hk⟩)
set_option maxHeartbeats 1600000 in
set_option maxRecDepth 100000 in
theorem point_26 (p : Nat) (F : Nat → Prop) (A : Ar) (base most code v t b a c na nc ix mv : Int) (w : World) (h : ArF w p F A) (hlog : A.log.length < 1000000000000) (hcap : c ≤ 9223372036854775807) :
    Calls Try.prog 73 #[(OpS.mk base most 26 code v t b a c na nc ix mv).value, .iface 58 (.pointer (some ⟨p, 0, none⟩))] w fun e w' =>
      e = .returned (.tuple #[(OpS.mk base most 27 code (A.did 0 (placeV a c t) 0 0).1.v t b a c na nc ix mv).value, .int .i64 (A.did 0 (placeV a c t) 0 0).1.err]) ∧ AA w w' p F (A.did 0 (placeV a c t) 0 0).2 := by
  have hm1 := meth3_load p
  have hn1 := nil3_load p
  have hcall := place_any a c t hcap
  have hld := fun w' F' (h : ArF w' p F' A) => arf_load p F' A (placeV a c t) w' h hlog
  generalize A.did 0 (placeV a c t) 0 0 = D at hld ⊢
  obtain ⟨⟨x, ok, err⟩, B⟩ := D
  simp only at hld ⊢
  generalize placeV a c t = ad at hcall hld
  have HM : Hid _ := Mid.start h (OpS.mk base most 26 code v t b a c na nc ix mv)
  clear h
  simp only [OpS.value, OpS.vals]
  go_enter Try.func73, Try.ntmps73
  go_upto_region 18 with fail
  go_cut [6] (fun s6 wx => s6 = .int .i64 err ∧ ∃ F', Mid w wx (OpS.mk base most 26 code x t b a c na nc ix mv) p F F' B)
  case first =>
    have hM1 := HM.out.kept (Keeps.drew None _)
    go_region_held3 (fun w' => w'.cell? ⟨w.heap.size, 7, none⟩ = some (.int .i64 a) ∧ w'.cell? ⟨w.heap.size, 8, none⟩ = some (.int .i64 c) ∧ w'.cell? ⟨w.heap.size, 5, none⟩ = some (.int .i64 t)) (first | exact hs4 | exact hs3 | go_keep) (first
      | (go_at_call 53; refine (hcall _).mono ?_; rintro e w2 ⟨rfl, hw⟩; have hw2 := hw.symm; subst hw2; clear hw)
      | (go_at_call 100; refine (hld _ F hM1.ar).mono ?_; rintro e w3 ⟨rfl, hA3⟩; obtain ⟨F3, hM3⟩ := hM1.acc hA3; have hs3 : w3.cell? ⟨w.heap.size, 7, none⟩ = some (.int .i64 a) ∧ w3.cell? ⟨w.heap.size, 8, none⟩ = some (.int .i64 c) ∧ w3.cell? ⟨w.heap.size, 5, none⟩ = some (.int .i64 t) := ⟨hM3.cell 7, hM3.cell 8, hM3.cell 5⟩; have cx : w3.cell? ⟨w.heap.size, 4, none⟩ = some (.int .i64 v) := hM3.cell 4; have qx := hM3.free 4; have hM3' := hM3.put 4 (.int .i64 x) (OpS.mk base most 26 code x t b a c na nc ix mv) rfl; have hs4 : (w3.setCell ⟨w.heap.size, 4, none⟩ (.int .i64 x)).cell? ⟨w.heap.size, 7, none⟩ = some (.int .i64 a) ∧ (w3.setCell ⟨w.heap.size, 4, none⟩ (.int .i64 x)).cell? ⟨w.heap.size, 8, none⟩ = some (.int .i64 c) ∧ (w3.setCell ⟨w.heap.size, 4, none⟩ (.int .i64 x)).cell? ⟨w.heap.size, 5, none⟩ = some (.int .i64 t) := ⟨hM3'.cell 7, hM3'.cell 8, hM3'.cell 5⟩))
    all_goals (go_wp2_with fail; go_meet)
    all_goals exact ⟨rfl, F3, hM3'⟩
  case rest =>
    obtain ⟨rfl, F4, hM4⟩ := hcut
    clear hcall hld hm1 hn1
    obtain ⟨c0, c1, c2, c3, c4, c5, c6, c7, c8, c9, c10, c11, c12⟩ := hM4.cells
    obtain ⟨r0, r1, r2, r3, r4, r5, r6, r7, r8, r9, r10, r11, r12⟩ := hM4.rcells
    have s0 := hM4.rfree 0
    have s1 := hM4.rfree 1
    have s2 := hM4.rfree 2
    have s3 := hM4.rfree 3
    have s4 := hM4.rfree 4
    have s5 := hM4.rfree 5
    have s6 := hM4.rfree 6
    have s7 := hM4.rfree 7
    have s8 := hM4.rfree 8
    have s9 := hM4.rfree 9
    have s10 := hM4.rfree 10
    have s11 := hM4.rfree 11
    have s12 := hM4.rfree 12
    have q2 := hM4.free 2
    have hM5 := (hM4.put 2 (.int .i64 27) (OpS.mk base most 27 code x t b a c na nc ix mv) rfl)
    have H5 : Hid _ := hM5
    clear hM4 hM5
    go_wp2_with fail
    exact op_end2 rfl rfl H5.out.res rfl rfl _ _ _ _ _ _ _ _ _ _ _ _ _ (fun w' hk => ⟨rfl, H5.out.fin hk⟩)
set_option maxHeartbeats 1600000 in
set_option maxRecDepth 100000 in
theorem point_27 (p : Nat) (F : Nat → Prop) (A : Ar) (base most code v t b a c na nc ix mv : Int) (w : World) (h : ArF w p F A) (hlog : A.log.length < 1000000000000) :
    Calls Try.prog 73 #[(OpS.mk base most 27 code v t b a c na nc ix mv).value, .iface 58 (.pointer (some ⟨p, 0, none⟩))] w fun e w' =>
      e = .returned (.tuple #[(OpS.ended (decidedS (OpS.mk base most 27 code v t b a c na nc ix mv) (A.did 2 (wrap64 base) t (wrap64 (t + 1))).1.ok 6).code (decidedS (OpS.mk base most 27 code v t b a c na nc ix mv) (A.did 2 (wrap64 base) t (wrap64 (t + 1))).1.ok 6).v).value, .int .i64 (A.did 2 (wrap64 base) t (wrap64 (t + 1))).1.err]) ∧ AA w w' p F (A.did 2 (wrap64 base) t (wrap64 (t + 1))).2 := by
  have hm1 := meth3_cas p
  have hn1 := nil3_cas p
  have hcall := top_any base most
  have hld := fun w' F' (h : ArF w' p F' A) => arf_cas p F' A (wrap64 base) t (wrap64 (t + 1)) w' h hlog
  generalize A.did 2 (wrap64 base) t (wrap64 (t + 1)) = D at hld ⊢
  obtain ⟨⟨x, ok, err⟩, B⟩ := D
  simp only at hld ⊢
  generalize wrap64 base = ad at hcall hld
  have hwv : IntKind.i64.wrap (t + 1) = wrap64 (t + 1) := i64_left _
  generalize wrap64 (t + 1) = vv at hld hwv
  have HM : Hid _ := Mid.start h (OpS.mk base most 27 code v t b a c na nc ix mv)
  clear h
  have hcl := decided_any (OpS.mk base most 27 code v t b a c na nc ix mv) ok 6
  generalize decidedS (OpS.mk base most 27 code v t b a c na nc ix mv) ok 6 = M at hcl ⊢
  obtain ⟨m0, m1, m2, m3, m4, m5, m6, m7, m8, m9, m10, m11, m12⟩ := M
  simp only [OpS.value, OpS.vals] at hcl ⊢
  go_enter Try.func73, Try.ntmps73
  go_upto_region 22 with fail
  go_cut [6, 7] (fun s6 s7 wx => s6 = .int .i64 err ∧ s7 = .bool ok ∧ ∃ F', Mid w wx (OpS.mk base most 27 code v t b a c na nc ix mv) p F F' B)
  case first =>
    have hM1 := HM.out.kept (Keeps.drew None _)
    go_region_held3 (fun w' => w'.cell? ⟨w.heap.size, 0, none⟩ = some (.int .i64 base) ∧ w'.cell? ⟨w.heap.size, 1, none⟩ = some (.int .i64 most) ∧ w'.cell? ⟨w.heap.size, 5, none⟩ = some (.int .i64 t)) (first | exact hs4 | exact hs3 | exact hs2 | go_keep) (first
      | (go_at_call 51; refine (hcall _).mono ?_; rintro e w2 ⟨rfl, hk2⟩; have hM2 := hM1.kept hk2; have hs2 : w2.cell? ⟨w.heap.size, 0, none⟩ = some (.int .i64 base) ∧ w2.cell? ⟨w.heap.size, 1, none⟩ = some (.int .i64 most) ∧ w2.cell? ⟨w.heap.size, 5, none⟩ = some (.int .i64 t) := ⟨hM2.cell 0, hM2.cell 1, hM2.cell 5⟩)
      | (go_at_call 99; refine (hld _ F hM2.ar).mono ?_; rintro e w3 ⟨rfl, hA3⟩; obtain ⟨F3, hM3⟩ := hM2.acc hA3; have hs3 : w3.cell? ⟨w.heap.size, 0, none⟩ = some (.int .i64 base) ∧ w3.cell? ⟨w.heap.size, 1, none⟩ = some (.int .i64 most) ∧ w3.cell? ⟨w.heap.size, 5, none⟩ = some (.int .i64 t) := ⟨hM3.cell 0, hM3.cell 1, hM3.cell 5⟩; have hM3' := hM3; have hs4 := hs3))
    all_goals (go_wp2_with fail; go_meet)
    all_goals exact ⟨rfl, rfl, F3, hM3'⟩
  case rest =>
    obtain ⟨rfl, rfl, F4, hM4⟩ := hcut
    clear hcall hld hm1 hn1
    go_upto_region 23 with fail
    go_cut [112] (fun _ wx => ∃ F', Mid w wx (OpS.mk m0 m1 m2 m3 m4 m5 m6 m7 m8 m9 m10 m11 m12) p F F' B)
    case first =>
      obtain ⟨c0, c1, c2, c3, c4, c5, c6, c7, c8, c9, c10, c11, c12⟩ := hM4.cells
      obtain ⟨r0, r1, r2, r3, r4, r5, r6, r7, r8, r9, r10, r11, r12⟩ := hM4.rcells
      have s0 := hM4.rfree 0
      have s1 := hM4.rfree 1
      have s2 := hM4.rfree 2
      have s3 := hM4.rfree 3
      have s4 := hM4.rfree 4
      have s5 := hM4.rfree 5
      have s6 := hM4.rfree 6
      have s7 := hM4.rfree 7
      have s8 := hM4.rfree 8
      have s9 := hM4.rfree 9
      have s10 := hM4.rfree 10
      have s11 := hM4.rfree 11
      have s12 := hM4.rfree 12
      have H4 : Hid _ := hM4
      clear hM4
      go_wp2_with fail
      refine (hcl _).mono ?_
      rintro e w5 ⟨rfl, hk5⟩
      clear c0 r0 s0 c1 r1 s1 c2 r2 s2 c3 r3 s3 c4 r4 s4 c5 r5 s5 c6 r6 s6 c7 r7 s7 c8 r8 s8 c9 r9 s9 c10 r10 s10 c11 r11 s11 c12 r12 s12
      have hM5 := H4.out.kept hk5
      obtain ⟨c0, c1, c2, c3, c4, c5, c6, c7, c8, c9, c10, c11, c12⟩ := hM5.cells
      obtain ⟨r0, r1, r2, r3, r4, r5, r6, r7, r8, r9, r10, r11, r12⟩ := hM5.rcells
      have s0 := hM5.rfree 0
      have s1 := hM5.rfree 1
      have s2 := hM5.rfree 2
      have s3 := hM5.rfree 3
      have s4 := hM5.rfree 4
      have s5 := hM5.rfree 5
      have s6 := hM5.rfree 6
      have s7 := hM5.rfree 7
      have s8 := hM5.rfree 8
      have s9 := hM5.rfree 9
      have s10 := hM5.rfree 10
      have s11 := hM5.rfree 11
      have s12 := hM5.rfree 12
      have q0 := hM5.free 0
      have q1 := hM5.free 1
      have q2 := hM5.free 2
      have q3 := hM5.free 3
      have q4 := hM5.free 4
      have q5 := hM5.free 5
      have q6 := hM5.free 6
      have q7 := hM5.free 7
      have q8 := hM5.free 8
      have q9 := hM5.free 9
      have q10 := hM5.free 10
      have q11 := hM5.free 11
      have q12 := hM5.free 12
      have HN : Hid _ := hM5.box13 m0 m1 m2 m3 m4 m5 m6 m7 m8 m9 m10 m11 m12
      clear hM5 hk5 hcl H4
      go_wp2_with fail
      go_meet
      exact ⟨F4, HN.out⟩
    case rest =>
      clear hM4 hcl
      obtain ⟨F5, hM4⟩ := hcut
      obtain ⟨c0, c1, c2, c3, c4, c5, c6, c7, c8, c9, c10, c11, c12⟩ := hM4.cells
      obtain ⟨r0, r1, r2, r3, r4, r5, r6, r7, r8, r9, r10, r11, r12⟩ := hM4.rcells
      have s0 := hM4.rfree 0
      have s1 := hM4.rfree 1
      have s2 := hM4.rfree 2
      have s3 := hM4.rfree 3
      have s4 := hM4.rfree 4
      have s5 := hM4.rfree 5
      have s6 := hM4.rfree 6
      have s7 := hM4.rfree 7
      have s8 := hM4.rfree 8
      have s9 := hM4.rfree 9
      have s10 := hM4.rfree 10
      have s11 := hM4.rfree 11
      have s12 := hM4.rfree 12
      have hM4p := hM4
      have hcl := opend_any (m3) (m4)
      simp only [OpS.value, OpS.vals, OpS.ended] at hcl
      have H4 : Hid _ := hM4p
      clear hM4p hM4
      go_wp2_with fail
      refine (hcl _).mono ?_
      rintro e w5 ⟨rfl, hk5⟩
      clear c0 r0 s0 c1 r1 s1 c2 r2 s2 c3 r3 s3 c4 r4 s4 c5 r5 s5 c6 r6 s6 c7 r7 s7 c8 r8 s8 c9 r9 s9 c10 r10 s10 c11 r11 s11 c12 r12 s12
      have hM5 := H4.out.kept hk5
      obtain ⟨c0, c1, c2, c3, c4, c5, c6, c7, c8, c9, c10, c11, c12⟩ := hM5.cells
      obtain ⟨r0, r1, r2, r3, r4, r5, r6, r7, r8, r9, r10, r11, r12⟩ := hM5.rcells
      have s0 := hM5.rfree 0
      have s1 := hM5.rfree 1
      have s2 := hM5.rfree 2
      have s3 := hM5.rfree 3
      have s4 := hM5.rfree 4
      have s5 := hM5.rfree 5
      have s6 := hM5.rfree 6
      have s7 := hM5.rfree 7
      have s8 := hM5.rfree 8
      have s9 := hM5.rfree 9
      have s10 := hM5.rfree 10
      have s11 := hM5.rfree 11
      have s12 := hM5.rfree 12
      have q0 := hM5.free 0
      have q1 := hM5.free 1
      have q2 := hM5.free 2
      have q3 := hM5.free 3
      have q4 := hM5.free 4
      have q5 := hM5.free 5
      have q6 := hM5.free 6
      have q7 := hM5.free 7
      have q8 := hM5.free 8
      have q9 := hM5.free 9
      have q10 := hM5.free 10
      have q11 := hM5.free 11
      have q12 := hM5.free 12
      have hN5 := (hM5.box13 0 0 1 (m3) (m4) 0 0 0 0 0 0 0 0)
      clear hM5 hk5 H4 hcl
      have HZ : Hid _ := hN5
      clear hN5
      go_wp2_with fail
      exact op_end2 rfl rfl HZ.out.res rfl rfl _ _ _ _ _ _ _ _ _ _ _ _ _ (fun w' hk => ⟨rfl, HZ.out.fin hk⟩)
set_option maxHeartbeats 1600000 in
set_option maxRecDepth 100000 in
theorem point_28 (p : Nat) (F : Nat → Prop) (A : Ar) (base most code v t b a c na nc ix mv : Int) (w : World) (h : ArF w p F A) (hlog : A.log.length < 1000000000000) :
    Calls Try.prog 74 #[(OpS.mk base most 28 code v t b a c na nc ix mv).value, .iface 58 (.pointer (some ⟨p, 0, none⟩))] w fun e w' =>
      e = .returned (.tuple #[(OpS.mk base most 29 code v (A.did 0 (wrap64 base) 0 0).1.v b a c na nc ix mv).value, .int .i64 (A.did 0 (wrap64 base) 0 0).1.err]) ∧ AA w w' p F (A.did 0 (wrap64 base) 0 0).2 := by
  have hm1 := meth3_load p
  have hn1 := nil3_load p
  have hcall := top_any base most
  have hld := fun w' F' (h : ArF w' p F' A) => arf_load p F' A (wrap64 base) w' h hlog
  generalize A.did 0 (wrap64 base) 0 0 = D at hld ⊢
  obtain ⟨⟨x, ok, err⟩, B⟩ := D
  simp only at hld ⊢
  generalize wrap64 base = ad at hcall hld
  have HM : Hid _ := Mid.start h (OpS.mk base most 28 code v t b a c na nc ix mv)
  clear h
  simp only [OpS.value, OpS.vals]
  go_enter Try.func74, Try.ntmps74
  go_upto_region 4 with fail
  go_cut [6] (fun s6 wx => s6 = .int .i64 err ∧ ∃ F', Mid w wx (OpS.mk base most 28 code v x b a c na nc ix mv) p F F' B)
  case first =>
    have hM1 := HM.out.kept (Keeps.drew None _)
    go_region_held3 (fun w' => w'.cell? ⟨w.heap.size, 0, none⟩ = some (.int .i64 base) ∧ w'.cell? ⟨w.heap.size, 1, none⟩ = some (.int .i64 most)) (first | exact hs4 | exact hs3 | exact hs2 | go_keep) (first
      | (go_at_call 51; refine (hcall _).mono ?_; rintro e w2 ⟨rfl, hk2⟩; have hM2 := hM1.kept hk2; have hs2 : w2.cell? ⟨w.heap.size, 0, none⟩ = some (.int .i64 base) ∧ w2.cell? ⟨w.heap.size, 1, none⟩ = some (.int .i64 most) := ⟨hM2.cell 0, hM2.cell 1⟩)
      | (go_at_call 100; refine (hld _ F hM2.ar).mono ?_; rintro e w3 ⟨rfl, hA3⟩; obtain ⟨F3, hM3⟩ := hM2.acc hA3; have hs3 : w3.cell? ⟨w.heap.size, 0, none⟩ = some (.int .i64 base) ∧ w3.cell? ⟨w.heap.size, 1, none⟩ = some (.int .i64 most) := ⟨hM3.cell 0, hM3.cell 1⟩; have cx : w3.cell? ⟨w.heap.size, 5, none⟩ = some (.int .i64 t) := hM3.cell 5; have qx := hM3.free 5; have hM3' := hM3.put 5 (.int .i64 x) (OpS.mk base most 28 code v x b a c na nc ix mv) rfl; have hs4 : (w3.setCell ⟨w.heap.size, 5, none⟩ (.int .i64 x)).cell? ⟨w.heap.size, 0, none⟩ = some (.int .i64 base) ∧ (w3.setCell ⟨w.heap.size, 5, none⟩ (.int .i64 x)).cell? ⟨w.heap.size, 1, none⟩ = some (.int .i64 most) := ⟨hM3'.cell 0, hM3'.cell 1⟩))
    all_goals (go_wp2_with fail; go_meet)
    all_goals exact ⟨rfl, F3, hM3'⟩
  case rest =>
    obtain ⟨rfl, F4, hM4⟩ := hcut
    clear hcall hld hm1 hn1
    obtain ⟨c0, c1, c2, c3, c4, c5, c6, c7, c8, c9, c10, c11, c12⟩ := hM4.cells
    obtain ⟨r0, r1, r2, r3, r4, r5, r6, r7, r8, r9, r10, r11, r12⟩ := hM4.rcells
    have s0 := hM4.rfree 0
    have s1 := hM4.rfree 1
    have s2 := hM4.rfree 2
    have s3 := hM4.rfree 3
    have s4 := hM4.rfree 4
    have s5 := hM4.rfree 5
    have s6 := hM4.rfree 6
    have s7 := hM4.rfree 7
    have s8 := hM4.rfree 8
    have s9 := hM4.rfree 9
    have s10 := hM4.rfree 10
    have s11 := hM4.rfree 11
    have s12 := hM4.rfree 12
    have q2 := hM4.free 2
    have hM5 := (hM4.put 2 (.int .i64 29) (OpS.mk base most 29 code v x b a c na nc ix mv) rfl)
    have H5 : Hid _ := hM5
    clear hM4 hM5
    go_wp2_with fail
    exact op_end2 rfl rfl H5.out.res rfl rfl _ _ _ _ _ _ _ _ _ _ _ _ _ (fun w' hk => ⟨rfl, H5.out.fin hk⟩)
set_option maxHeartbeats 1600000 in
set_option maxRecDepth 100000 in
theorem point_29a (p : Nat) (F : Nat → Prop) (A : Ar) (base most code v t b a c na nc ix mv : Int) (w : World) (h : ArF w p F A) (hlog : A.log.length < 1000000000000) (hx : t < (A.did 0 (wrap64 (base + 1)) 0 0).1.v) :
    Calls Try.prog 74 #[(OpS.mk base most 29 code v t b a c na nc ix mv).value, .iface 58 (.pointer (some ⟨p, 0, none⟩))] w fun e w' =>
      e = .returned (.tuple #[(OpS.ended 7 0).value, .int .i64 (A.did 0 (wrap64 (base + 1)) 0 0).1.err]) ∧ AA w w' p F (A.did 0 (wrap64 (base + 1)) 0 0).2 := by
  have hm1 := meth3_load p
  have hn1 := nil3_load p
  have hcall := bottom_any base most
  have hld := fun w' F' (h : ArF w' p F' A) => arf_load p F' A (wrap64 (base + 1)) w' h hlog
  generalize A.did 0 (wrap64 (base + 1)) 0 0 = D at hld hx ⊢
  obtain ⟨⟨x, ok, err⟩, B⟩ := D
  simp only at hld hx ⊢
  generalize wrap64 (base + 1) = ad at hcall hld
  have HM : Hid _ := Mid.start h (OpS.mk base most 29 code v t b a c na nc ix mv)
  clear h
  simp only [OpS.value, OpS.vals]
  go_enter Try.func74, Try.ntmps74
  go_upto_region 7 with fail
  go_cut [6] (fun s6 wx => s6 = .int .i64 err ∧ ∃ F', Mid w wx (OpS.mk base most 29 code v t x a c na nc ix mv) p F F' B)
  case first =>
    have hM1 := HM.out.kept (Keeps.drew None _)
    go_region_held3 (fun w' => w'.cell? ⟨w.heap.size, 0, none⟩ = some (.int .i64 base) ∧ w'.cell? ⟨w.heap.size, 1, none⟩ = some (.int .i64 most)) (first | exact hs4 | exact hs3 | exact hs2 | go_keep) (first
      | (go_at_call 52; refine (hcall _).mono ?_; rintro e w2 ⟨rfl, hk2⟩; have hM2 := hM1.kept hk2; have hs2 : w2.cell? ⟨w.heap.size, 0, none⟩ = some (.int .i64 base) ∧ w2.cell? ⟨w.heap.size, 1, none⟩ = some (.int .i64 most) := ⟨hM2.cell 0, hM2.cell 1⟩)
      | (go_at_call 100; refine (hld _ F hM2.ar).mono ?_; rintro e w3 ⟨rfl, hA3⟩; obtain ⟨F3, hM3⟩ := hM2.acc hA3; have hs3 : w3.cell? ⟨w.heap.size, 0, none⟩ = some (.int .i64 base) ∧ w3.cell? ⟨w.heap.size, 1, none⟩ = some (.int .i64 most) := ⟨hM3.cell 0, hM3.cell 1⟩; have cx : w3.cell? ⟨w.heap.size, 6, none⟩ = some (.int .i64 b) := hM3.cell 6; have qx := hM3.free 6; have hM3' := hM3.put 6 (.int .i64 x) (OpS.mk base most 29 code v t x a c na nc ix mv) rfl; have hs4 : (w3.setCell ⟨w.heap.size, 6, none⟩ (.int .i64 x)).cell? ⟨w.heap.size, 0, none⟩ = some (.int .i64 base) ∧ (w3.setCell ⟨w.heap.size, 6, none⟩ (.int .i64 x)).cell? ⟨w.heap.size, 1, none⟩ = some (.int .i64 most) := ⟨hM3'.cell 0, hM3'.cell 1⟩))
    all_goals (go_wp2_with fail; go_meet)
    all_goals exact ⟨rfl, F3, hM3'⟩
  case rest =>
    obtain ⟨rfl, F4, hM4⟩ := hcut
    clear hcall hld hm1 hn1
    obtain ⟨c0, c1, c2, c3, c4, c5, c6, c7, c8, c9, c10, c11, c12⟩ := hM4.cells
    obtain ⟨r0, r1, r2, r3, r4, r5, r6, r7, r8, r9, r10, r11, r12⟩ := hM4.rcells
    have s0 := hM4.rfree 0
    have s1 := hM4.rfree 1
    have s2 := hM4.rfree 2
    have s3 := hM4.rfree 3
    have s4 := hM4.rfree 4
    have s5 := hM4.rfree 5
    have s6 := hM4.rfree 6
    have s7 := hM4.rfree 7
    have s8 := hM4.rfree 8
    have s9 := hM4.rfree 9
    have s10 := hM4.rfree 10
    have s11 := hM4.rfree 11
    have s12 := hM4.rfree 12
    have hM4p := hM4
    have hcl := opend_any (7) (0)
    simp only [OpS.value, OpS.vals, OpS.ended] at hcl
    have H4 : Hid _ := hM4p
    clear hM4p hM4
    go_wp2_with fail
    refine (hcl _).mono ?_
    rintro e w5 ⟨rfl, hk5⟩
    clear c0 r0 s0 c1 r1 s1 c2 r2 s2 c3 r3 s3 c4 r4 s4 c5 r5 s5 c6 r6 s6 c7 r7 s7 c8 r8 s8 c9 r9 s9 c10 r10 s10 c11 r11 s11 c12 r12 s12
    have hM5 := H4.out.kept hk5
    obtain ⟨c0, c1, c2, c3, c4, c5, c6, c7, c8, c9, c10, c11, c12⟩ := hM5.cells
    obtain ⟨r0, r1, r2, r3, r4, r5, r6, r7, r8, r9, r10, r11, r12⟩ := hM5.rcells
    have s0 := hM5.rfree 0
    have s1 := hM5.rfree 1
    have s2 := hM5.rfree 2
    have s3 := hM5.rfree 3
    have s4 := hM5.rfree 4
    have s5 := hM5.rfree 5
    have s6 := hM5.rfree 6
    have s7 := hM5.rfree 7
    have s8 := hM5.rfree 8
    have s9 := hM5.rfree 9
    have s10 := hM5.rfree 10
    have s11 := hM5.rfree 11
    have s12 := hM5.rfree 12
    have q0 := hM5.free 0
    have q1 := hM5.free 1
    have q2 := hM5.free 2
    have q3 := hM5.free 3
    have q4 := hM5.free 4
    have q5 := hM5.free 5
    have q6 := hM5.free 6
    have q7 := hM5.free 7
    have q8 := hM5.free 8
    have q9 := hM5.free 9
    have q10 := hM5.free 10
    have q11 := hM5.free 11
    have q12 := hM5.free 12
    have hN5 := (hM5.box13 0 0 1 (7) (0) 0 0 0 0 0 0 0 0)
    clear hM5 hk5 H4 hcl
    have HZ : Hid _ := hN5
    clear hN5
    go_wp2_with fail
    exact op_end2 rfl rfl HZ.out.res rfl rfl _ _ _ _ _ _ _ _ _ _ _ _ _ (fun w' hk => ⟨rfl, HZ.out.fin hk⟩)
set_option maxHeartbeats 1600000 in
set_option maxRecDepth 100000 in
theorem point_29b (p : Nat) (F : Nat → Prop) (A : Ar) (base most code v t b a c na nc ix mv : Int) (w : World) (h : ArF w p F A) (hlog : A.log.length < 1000000000000) (hx : ¬ t < (A.did 0 (wrap64 (base + 1)) 0 0).1.v) :
    Calls Try.prog 74 #[(OpS.mk base most 29 code v t b a c na nc ix mv).value, .iface 58 (.pointer (some ⟨p, 0, none⟩))] w fun e w' =>
      e = .returned (.tuple #[(OpS.ended 8 0).value, .int .i64 (A.did 0 (wrap64 (base + 1)) 0 0).1.err]) ∧ AA w w' p F (A.did 0 (wrap64 (base + 1)) 0 0).2 := by
  have hm1 := meth3_load p
  have hn1 := nil3_load p
  have hcall := bottom_any base most
  have hld := fun w' F' (h : ArF w' p F' A) => arf_load p F' A (wrap64 (base + 1)) w' h hlog
  generalize A.did 0 (wrap64 (base + 1)) 0 0 = D at hld hx ⊢
  obtain ⟨⟨x, ok, err⟩, B⟩ := D
  simp only at hld hx ⊢
  generalize wrap64 (base + 1) = ad at hcall hld
  have HM : Hid _ := Mid.start h (OpS.mk base most 29 code v t b a c na nc ix mv)
  clear h
  simp only [OpS.value, OpS.vals]
  go_enter Try.func74, Try.ntmps74
  go_upto_region 7 with fail
  go_cut [6] (fun s6 wx => s6 = .int .i64 err ∧ ∃ F', Mid w wx (OpS.mk base most 29 code v t x a c na nc ix mv) p F F' B)
  case first =>
    have hM1 := HM.out.kept (Keeps.drew None _)
    go_region_held3 (fun w' => w'.cell? ⟨w.heap.size, 0, none⟩ = some (.int .i64 base) ∧ w'.cell? ⟨w.heap.size, 1, none⟩ = some (.int .i64 most)) (first | exact hs4 | exact hs3 | exact hs2 | go_keep) (first
      | (go_at_call 52; refine (hcall _).mono ?_; rintro e w2 ⟨rfl, hk2⟩; have hM2 := hM1.kept hk2; have hs2 : w2.cell? ⟨w.heap.size, 0, none⟩ = some (.int .i64 base) ∧ w2.cell? ⟨w.heap.size, 1, none⟩ = some (.int .i64 most) := ⟨hM2.cell 0, hM2.cell 1⟩)
      | (go_at_call 100; refine (hld _ F hM2.ar).mono ?_; rintro e w3 ⟨rfl, hA3⟩; obtain ⟨F3, hM3⟩ := hM2.acc hA3; have hs3 : w3.cell? ⟨w.heap.size, 0, none⟩ = some (.int .i64 base) ∧ w3.cell? ⟨w.heap.size, 1, none⟩ = some (.int .i64 most) := ⟨hM3.cell 0, hM3.cell 1⟩; have cx : w3.cell? ⟨w.heap.size, 6, none⟩ = some (.int .i64 b) := hM3.cell 6; have qx := hM3.free 6; have hM3' := hM3.put 6 (.int .i64 x) (OpS.mk base most 29 code v t x a c na nc ix mv) rfl; have hs4 : (w3.setCell ⟨w.heap.size, 6, none⟩ (.int .i64 x)).cell? ⟨w.heap.size, 0, none⟩ = some (.int .i64 base) ∧ (w3.setCell ⟨w.heap.size, 6, none⟩ (.int .i64 x)).cell? ⟨w.heap.size, 1, none⟩ = some (.int .i64 most) := ⟨hM3'.cell 0, hM3'.cell 1⟩))
    all_goals (go_wp2_with fail; go_meet)
    all_goals exact ⟨rfl, F3, hM3'⟩
  case rest =>
    obtain ⟨rfl, F4, hM4⟩ := hcut
    clear hcall hld hm1 hn1
    obtain ⟨c0, c1, c2, c3, c4, c5, c6, c7, c8, c9, c10, c11, c12⟩ := hM4.cells
    obtain ⟨r0, r1, r2, r3, r4, r5, r6, r7, r8, r9, r10, r11, r12⟩ := hM4.rcells
    have s0 := hM4.rfree 0
    have s1 := hM4.rfree 1
    have s2 := hM4.rfree 2
    have s3 := hM4.rfree 3
    have s4 := hM4.rfree 4
    have s5 := hM4.rfree 5
    have s6 := hM4.rfree 6
    have s7 := hM4.rfree 7
    have s8 := hM4.rfree 8
    have s9 := hM4.rfree 9
    have s10 := hM4.rfree 10
    have s11 := hM4.rfree 11
    have s12 := hM4.rfree 12
    have hM4p := hM4
    have hcl := opend_any (8) (0)
    simp only [OpS.value, OpS.vals, OpS.ended] at hcl
    have H4 : Hid _ := hM4p
    clear hM4p hM4
    go_wp2_with fail
    refine (hcl _).mono ?_
    rintro e w5 ⟨rfl, hk5⟩
    clear c0 r0 s0 c1 r1 s1 c2 r2 s2 c3 r3 s3 c4 r4 s4 c5 r5 s5 c6 r6 s6 c7 r7 s7 c8 r8 s8 c9 r9 s9 c10 r10 s10 c11 r11 s11 c12 r12 s12
    have hM5 := H4.out.kept hk5
    obtain ⟨c0, c1, c2, c3, c4, c5, c6, c7, c8, c9, c10, c11, c12⟩ := hM5.cells
    obtain ⟨r0, r1, r2, r3, r4, r5, r6, r7, r8, r9, r10, r11, r12⟩ := hM5.rcells
    have s0 := hM5.rfree 0
    have s1 := hM5.rfree 1
    have s2 := hM5.rfree 2
    have s3 := hM5.rfree 3
    have s4 := hM5.rfree 4
    have s5 := hM5.rfree 5
    have s6 := hM5.rfree 6
    have s7 := hM5.rfree 7
    have s8 := hM5.rfree 8
    have s9 := hM5.rfree 9
    have s10 := hM5.rfree 10
    have s11 := hM5.rfree 11
    have s12 := hM5.rfree 12
    have q0 := hM5.free 0
    have q1 := hM5.free 1
    have q2 := hM5.free 2
    have q3 := hM5.free 3
    have q4 := hM5.free 4
    have q5 := hM5.free 5
    have q6 := hM5.free 6
    have q7 := hM5.free 7
    have q8 := hM5.free 8
    have q9 := hM5.free 9
    have q10 := hM5.free 10
    have q11 := hM5.free 11
    have q12 := hM5.free 12
    have hN5 := (hM5.box13 0 0 1 (8) (0) 0 0 0 0 0 0 0 0)
    clear hM5 hk5 H4 hcl
    have HZ : Hid _ := hN5
    clear hN5
    go_wp2_with fail
    exact op_end2 rfl rfl HZ.out.res rfl rfl _ _ _ _ _ _ _ _ _ _ _ _ _ (fun w' hk => ⟨rfl, HZ.out.fin hk⟩)
end Go.Proofs.Ytaeooljfilkaeaa
