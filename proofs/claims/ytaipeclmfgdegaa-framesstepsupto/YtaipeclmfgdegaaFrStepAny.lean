import Derived.Test.YtaipeclmfgdegaaFrPts2
import Derived.Test.YtaipeclmfgdegaaFrPts
import Derived.Test.YtaipeclmfgdegaaFrStep
/-! finish and sync that hand on; Step, whatever the machine. -/
namespace Go.Proofs.Ytaipeclmfgdegaa
open Go.RowKit Go.HeapKit Go.IntWalk

set_option maxHeartbeats 1600000 in
set_option maxRecDepth 100000 in
theorem fin_1 (p : Nat) (F : Nat → Prop) (A B : Ar) (b f c fr sl v : Int) (o' : OpF) (err : Int) (w : World) (h : ArF w p F A)
    (hmet : ∀ w F, ArF w p F A → Calls Try.prog 60 #[(OpF.mk b f c 2 1 fr sl v).value, .iface 26 (.pointer (some ⟨p, 0, none⟩)), .int .i64 10] w fun e w' => e = .returned (.tuple #[o'.value, .int .i64 err]) ∧ AA w w' p F B) :
    Calls Try.prog 46 #[(OpF.mk b f c 2 1 fr sl v).value, .iface 26 (.pointer (some ⟨p, 0, none⟩))] w fun e w' => e = .returned (.tuple #[o'.value, .int .i64 err]) ∧ AA w w' p F B := by
  have HM : Hid _ := MidF.start h (OpF.mk b f c 2 1 fr sl v)
  have hmm := hmet _ F HM.out.ar
  clear hmet h
  obtain ⟨m0, m1, m2, m3, m4, m5, m6, m7⟩ := o'
  simp only [OpF.value, OpF.vals, OpF.zero] at hmm ⊢
  go_enter Try.func46, Try.ntmps46
  go_wp2_with fail
  refine hmm.mono ?_
  rintro e w3 ⟨rfl, hA3⟩
  obtain ⟨F3, hM3⟩ := HM.out.acc hA3
  obtain ⟨r0, r1, r2, r3, r4, r5, r6, r7⟩ := hM3.rcells
  obtain ⟨s0, s1, s2, s3, s4, s5, s6, s7⟩ := hM3.rfrees
  have H3 : Hid _ := hM3
  clear hM3 hA3 hmm HM
  go_wp2_with fail
  exact opf_end2 4 5 rfl rfl H3.out.res rfl rfl _ _ _ _ _ _ _ _ (fun w' hk => ⟨rfl, H3.out.fin hk⟩)
set_option maxHeartbeats 1600000 in
set_option maxRecDepth 100000 in
theorem fin_2 (p : Nat) (F : Nat → Prop) (A B : Ar) (b f c fr sl v : Int) (o' : OpF) (err : Int) (w : World) (h : ArF w p F A)
    (hmet : ∀ w F, ArF w p F A → Calls Try.prog 61 #[(OpF.mk b f c 2 2 fr sl v).value, .iface 26 (.pointer (some ⟨p, 0, none⟩)), .int .i64 11] w fun e w' => e = .returned (.tuple #[o'.value, .int .i64 err]) ∧ AA w w' p F B) :
    Calls Try.prog 46 #[(OpF.mk b f c 2 2 fr sl v).value, .iface 26 (.pointer (some ⟨p, 0, none⟩))] w fun e w' => e = .returned (.tuple #[o'.value, .int .i64 err]) ∧ AA w w' p F B := by
  have HM : Hid _ := MidF.start h (OpF.mk b f c 2 2 fr sl v)
  have hmm := hmet _ F HM.out.ar
  clear hmet h
  obtain ⟨m0, m1, m2, m3, m4, m5, m6, m7⟩ := o'
  simp only [OpF.value, OpF.vals, OpF.zero] at hmm ⊢
  go_enter Try.func46, Try.ntmps46
  go_wp2_with fail
  refine hmm.mono ?_
  rintro e w3 ⟨rfl, hA3⟩
  obtain ⟨F3, hM3⟩ := HM.out.acc hA3
  obtain ⟨r0, r1, r2, r3, r4, r5, r6, r7⟩ := hM3.rcells
  obtain ⟨s0, s1, s2, s3, s4, s5, s6, s7⟩ := hM3.rfrees
  have H3 : Hid _ := hM3
  clear hM3 hA3 hmm HM
  go_wp2_with fail
  exact opf_end2 4 5 rfl rfl H3.out.res rfl rfl _ _ _ _ _ _ _ _ (fun w' hk => ⟨rfl, H3.out.fin hk⟩)
set_option maxHeartbeats 1600000 in
set_option maxRecDepth 100000 in
theorem syn_0 (p : Nat) (F : Nat → Prop) (A B : Ar) (b f c fr sl v : Int) (o' : OpF) (err : Int) (w : World) (h : ArF w p F A)
    (hmet : ∀ w F, ArF w p F A → Calls Try.prog 60 #[(OpF.mk b f c 3 0 fr sl v).value, .iface 26 (.pointer (some ⟨p, 0, none⟩)), .int .i64 12] w fun e w' => e = .returned (.tuple #[o'.value, .int .i64 err]) ∧ AA w w' p F B) :
    Calls Try.prog 47 #[(OpF.mk b f c 3 0 fr sl v).value, .iface 26 (.pointer (some ⟨p, 0, none⟩))] w fun e w' => e = .returned (.tuple #[o'.value, .int .i64 err]) ∧ AA w w' p F B := by
  have HM : Hid _ := MidF.start h (OpF.mk b f c 3 0 fr sl v)
  have hmm := hmet _ F HM.out.ar
  clear hmet h
  obtain ⟨m0, m1, m2, m3, m4, m5, m6, m7⟩ := o'
  simp only [OpF.value, OpF.vals, OpF.zero] at hmm ⊢
  go_enter Try.func47, Try.ntmps47
  go_wp2_with fail
  refine hmm.mono ?_
  rintro e w3 ⟨rfl, hA3⟩
  obtain ⟨F3, hM3⟩ := HM.out.acc hA3
  obtain ⟨r0, r1, r2, r3, r4, r5, r6, r7⟩ := hM3.rcells
  obtain ⟨s0, s1, s2, s3, s4, s5, s6, s7⟩ := hM3.rfrees
  have H3 : Hid _ := hM3
  clear hM3 hA3 hmm HM
  go_wp2_with fail
  exact opf_end2 4 5 rfl rfl H3.out.res rfl rfl _ _ _ _ _ _ _ _ (fun w' hk => ⟨rfl, H3.out.fin hk⟩)
set_option maxHeartbeats 1600000 in
set_option maxRecDepth 100000 in
theorem syn_1 (p : Nat) (F : Nat → Prop) (A B : Ar) (b f c fr sl v : Int) (o' : OpF) (err : Int) (w : World) (h : ArF w p F A)
    (hmet : ∀ w F, ArF w p F A → Calls Try.prog 61 #[(OpF.mk b f c 3 1 fr sl v).value, .iface 26 (.pointer (some ⟨p, 0, none⟩)), .int .i64 13] w fun e w' => e = .returned (.tuple #[o'.value, .int .i64 err]) ∧ AA w w' p F B) :
    Calls Try.prog 47 #[(OpF.mk b f c 3 1 fr sl v).value, .iface 26 (.pointer (some ⟨p, 0, none⟩))] w fun e w' => e = .returned (.tuple #[o'.value, .int .i64 err]) ∧ AA w w' p F B := by
  have HM : Hid _ := MidF.start h (OpF.mk b f c 3 1 fr sl v)
  have hmm := hmet _ F HM.out.ar
  clear hmet h
  obtain ⟨m0, m1, m2, m3, m4, m5, m6, m7⟩ := o'
  simp only [OpF.value, OpF.vals, OpF.zero] at hmm ⊢
  go_enter Try.func47, Try.ntmps47
  go_wp2_with fail
  refine hmm.mono ?_
  rintro e w3 ⟨rfl, hA3⟩
  obtain ⟨F3, hM3⟩ := HM.out.acc hA3
  obtain ⟨r0, r1, r2, r3, r4, r5, r6, r7⟩ := hM3.rcells
  obtain ⟨s0, s1, s2, s3, s4, s5, s6, s7⟩ := hM3.rfrees
  have H3 : Hid _ := hM3
  clear hM3 hA3 hmm HM
  go_wp2_with fail
  exact opf_end2 4 5 rfl rfl H3.out.res rfl rfl _ _ _ _ _ _ _ _ (fun w' hk => ⟨rfl, H3.out.fin hk⟩)
set_option maxHeartbeats 1600000 in
set_option maxRecDepth 100000 in
theorem syn_2 (p : Nat) (F : Nat → Prop) (A B : Ar) (b f c fr sl v : Int) (o' : OpF) (err : Int) (w : World) (h : ArF w p F A)
    (hmet : ∀ w F, ArF w p F A → Calls Try.prog 61 #[(OpF.mk b f c 3 2 fr sl v).value, .iface 26 (.pointer (some ⟨p, 0, none⟩)), .int .i64 13] w fun e w' => e = .returned (.tuple #[o'.value, .int .i64 err]) ∧ AA w w' p F B) :
    Calls Try.prog 47 #[(OpF.mk b f c 3 2 fr sl v).value, .iface 26 (.pointer (some ⟨p, 0, none⟩))] w fun e w' => e = .returned (.tuple #[o'.value, .int .i64 err]) ∧ AA w w' p F B := by
  have HM : Hid _ := MidF.start h (OpF.mk b f c 3 2 fr sl v)
  have hmm := hmet _ F HM.out.ar
  clear hmet h
  obtain ⟨m0, m1, m2, m3, m4, m5, m6, m7⟩ := o'
  simp only [OpF.value, OpF.vals, OpF.zero] at hmm ⊢
  go_enter Try.func47, Try.ntmps47
  go_wp2_with fail
  refine hmm.mono ?_
  rintro e w3 ⟨rfl, hA3⟩
  obtain ⟨F3, hM3⟩ := HM.out.acc hA3
  obtain ⟨r0, r1, r2, r3, r4, r5, r6, r7⟩ := hM3.rcells
  obtain ⟨s0, s1, s2, s3, s4, s5, s6, s7⟩ := hM3.rfrees
  have H3 : Hid _ := hM3
  clear hM3 hA3 hmm HM
  go_wp2_with fail
  exact opf_end2 4 5 rfl rfl H3.out.res rfl rfl _ _ _ _ _ _ _ _ (fun w' hk => ⟨rfl, H3.out.fin hk⟩)
theorem letgo_any (p : Nat) (F : Nat → Prop) (A : Ar) (b f c k m fr sl v code : Int) (hm0 : 0 ≤ m) (hm1 : m ≤ 2) (w : World) (h : ArF w p F A) (hlog : A.log.length < 1000000000000) :
    Calls Try.prog 60 #[(OpF.mk b f c k m fr sl v).value, .iface 26 (.pointer (some ⟨p, 0, none⟩)), .int .i64 code] w fun e w' =>
      e = .returned (.tuple #[(if (A.did 3 (joinAt b fr) (-1) 0).1.v = 0 then OpF.mk b f c k (m + 1) fr sl v else OpF.ended code (A.did 3 (joinAt b fr) (-1) 0).1.v).value, .int .i64 (A.did 3 (joinAt b fr) (-1) 0).1.err]) ∧ AA w w' p F (A.did 3 (joinAt b fr) (-1) 0).2 := by
  by_cases hn : (A.did 3 (joinAt b fr) (-1) 0).1.v = 0
  · rw [if_pos hn]; exact letgo_0 p F A b f c k m fr sl v code hm0 hm1 hn w h hlog
  · rw [if_neg hn]; exact letgo_n p F A b f c k m fr sl v code hn w h hlog
theorem alloc_any (p : Nat) (F : Nat → Prop) (A : Ar) (b f c k m fr sl v : Int) (hf : f ≤ 4096) (w : World) (h : ArF w p F A) (hlog : A.log.length < 1000000000000) :
    Calls Try.prog 44 #[(OpF.mk b f c k m fr sl v).value, .iface 26 (.pointer (some ⟨p, 0, none⟩))] w fun e w' =>
      e = .returned (.tuple #[(if 1 ≤ (A.did 3 b 1 0).1.v ∧ (A.did 3 b 1 0).1.v ≤ f then OpF.ended 4 (wrap64 ((A.did 3 b 1 0).1.v - 1)) else OpF.ended 3 0).value, .int .i64 (A.did 3 b 1 0).1.err]) ∧ AA w w' p F (A.did 3 b 1 0).2 := by
  by_cases h1 : (A.did 3 b 1 0).1.v < 1
  · rw [if_neg (by omega)]; exact alloc_lo p F A b f c k m fr sl v h1 w h hlog
  · by_cases h2 : f < (A.did 3 b 1 0).1.v
    · rw [if_neg (by omega)]; exact alloc_hi p F A b f c k m fr sl v ⟨h1, h2⟩ w h hlog
    · rw [if_pos (by omega)]
      have e : wrap64 ((A.did 3 b 1 0).1.v - 1) = (A.did 3 b 1 0).1.v - 1 := by unfold wrap64; omega
      rw [e]
      exact alloc_got p F A b f c k m fr sl v ⟨h1, h2, by omega⟩ w h hlog
/-- The method of an op's kind. -/
def methF (k : Nat) : Nat := if k = 0 then 44 else if k = 1 then 45 else if k = 2 then 46 else if k = 3 then 47 else if k = 4 then 48 else 49
theorem meth_any (p : Nat) (F : Nat → Prop) (A : Ar) (b f fr sl v : Int) (k m : Nat) (hk : k < 6) (hm : m ≤ 2) (hf : f ≤ 4096) (w : World) (h : ArF w p F A) (hlog : A.log.length < 1000000000000) :
    Calls Try.prog (methF k) #[(OpF.mk b f 0 k m fr sl v).value, .iface 26 (.pointer (some ⟨p, 0, none⟩))] w fun e w' =>
      e = .returned (.tuple #[((OpF.mk b f 0 k m fr sl v).went ((OpF.mk b f 0 k m fr sl v).acc A).1.v).value, .int .i64 ((OpF.mk b f 0 k m fr sl v).acc A).1.err]) ∧ AA w w' p F ((OpF.mk b f 0 k m fr sl v).acc A).2 := by
  rcases (show k = 0 ∨ k = 1 ∨ k = 2 ∨ k = 3 ∨ k = 4 ∨ k = 5 by omega) with rfl | rfl | rfl | rfl | rfl | rfl
  · exact alloc_any p F A b f 0 0 m fr sl v hf w h hlog
  · exact fork_any p F A b f 0 1 m fr sl v w h hlog
  · rcases (show m = 0 ∨ m = 1 ∨ m = 2 by omega) with rfl | rfl | rfl
    · exact leave_any p F A b f 0 2 fr sl v w h hlog
    · exact fin_1 p F A _ b f 0 fr sl v _ _ w h (fun w F h => letgo_any p F A b f 0 2 1 fr sl v 10 (by decide) (by decide) w h hlog)
    · exact fin_2 p F A _ b f 0 fr sl v _ _ w h (fun w F h => hold_any p F A b f 0 2 2 fr sl v 11 w h hlog)
  · rcases (show m = 0 ∨ m = 1 ∨ m = 2 by omega) with rfl | rfl | rfl
    · exact syn_0 p F A _ b f 0 fr sl v _ _ w h (fun w F h => letgo_any p F A b f 0 3 0 fr sl v 12 (by decide) (by decide) w h hlog)
    · exact syn_1 p F A _ b f 0 fr sl v _ _ w h (fun w F h => hold_any p F A b f 0 3 1 fr sl v 13 w h hlog)
    · exact syn_2 p F A _ b f 0 fr sl v _ _ w h (fun w F h => hold_any p F A b f 0 3 2 fr sl v 13 w h hlog)
  · exact start_any p F A b f 0 4 m fr sl v w h hlog
  · exact fetch_any p F A b f 0 5 m fr sl v w h hlog
theorem methF_call (k : Nat) (hk : k < 6) : ∀ args w, (callFunc (methF k) args).run Try.prog w = .ok (.enter (methF k) args) w := by
  rcases (show k = 0 ∨ k = 1 ∨ k = 2 ∨ k = 3 ∨ k = 4 ∨ k = 5 by omega) with rfl | rfl | rfl | rfl | rfl | rfl <;> (intro args w; kernel_rfl)
theorem methF_tab (k : Nat) (hk : k < 6) : (#[.func (.func 44) #[] #[], .func (.func 45) #[] #[], .func (.func 46) #[] #[], .func (.func 47) #[] #[], .func (.func 48) #[] #[], .func (.func 49) #[] #[]] : Array Value)[k]? = some (.func (.func (methF k)) #[] #[]) := by
  rcases (show k = 0 ∨ k = 1 ∨ k = 2 ∨ k = 3 ∨ k = 4 ∨ k = 5 by omega) with rfl | rfl | rfl | rfl | rfl | rfl <;> rfl
theorem fstep_zero (p : Nat) (w : World) : Calls Try.prog 25 #[.iface 26 (.pointer (some ⟨p, 0, none⟩)), OpF.zero.value] w fun e w' => e = .returned OpF.zero.value ∧ Keeps None w w' := by
  simp only [OpF.value, OpF.vals, OpF.zero]
  go_enter Try.func25, Try.ntmps25
  go_wp2
  exact opf_ret1 4 rfl (new_at _ _ _ (by simp)) rfl rfl ⟨rfl, ((Keeps.refl None w).andAlloc _).andAlloc _⟩
theorem fstep_ended (p : Nat) (x0 x1 x2 x3 x4 x5 x6 x7 : Int) (h2 : ¬ x2 = 0) (w : World) : Calls Try.prog 25 #[.iface 26 (.pointer (some ⟨p, 0, none⟩)), (OpF.mk x0 x1 x2 x3 x4 x5 x6 x7).value] w fun e w' => e = .returned (OpF.mk x0 x1 x2 x3 x4 x5 x6 x7).value ∧ Keeps None w w' := by
  have h2' : (x2 == 0) = false := by simpa using h2
  have hr := runs_any x0 x1 x2
  rw [h2'] at hr
  simp only [OpF.value, OpF.vals]
  go_enter Try.func25, Try.ntmps25
  go_upto_region 2 with (go_at_call 43; refine (hr _).mono ?_; rintro e w2 ⟨rfl, hk2⟩)
  all_goals (
    have hb := (hk2.block w.heap.size (by simp; omega) (fun f => f)).trans ((Below.heap_alloc _ _ _ (by simp)).trans (new_at w _ _ rfl))
    have hs := (hk2.block (w.heap.size + 1) (by simp) (fun f => f)).trans (new_at _ _ _ (by simp))
    have b0 := (cell_of_block hb 0).trans rfl
    have b1 := (cell_of_block hb 1).trans rfl
    have b2 := (cell_of_block hb 2).trans rfl
    have b3 := (cell_of_block hb 3).trans rfl
    have b4 := (cell_of_block hb 4).trans rfl
    have b5 := (cell_of_block hb 5).trans rfl
    have b6 := (cell_of_block hb 6).trans rfl
    have b7 := (cell_of_block hb 7).trans rfl
    obtain ⟨r0, r1, r2, r3, r4, r5, r6, r7⟩ := zero_cells hs
    obtain ⟨s0, s1, s2, s3, s4, s5, s6, s7⟩ := zero_frees hs
    have HK : Hid _ := And.intro hk2 hs
    clear hb hk2 hr hs
    go_wp2_with fail
    exact opf_end1 4 rfl rfl HK.out.2 rfl rfl _ _ _ _ _ _ _ _ (fun w' hk => ⟨rfl, ((((Keeps.refl None w).andAlloc _).andAlloc _).trans HK.out.1 (fun _ f _ => f)).trans hk (fun i e hi => by omega)⟩))
theorem fstep_any (p : Nat) (F : Nat → Prop) (A : Ar) (o : OpF) (w : World) (h : ArF w p F A) (hlog : A.log.length < 1000000000000) (ho : o.Fit) :
    Calls Try.prog 25 #[.iface 26 (.pointer (some ⟨p, 0, none⟩)), o.value] w fun e w' => e = .returned (o.step A).1.value ∧ AA w w' p F (o.step A).2 := by
  have hq : ∀ {w'}, Keeps None w w' → AA w w' p F A := fun hk => ⟨F, h.kept hk (fun _ _ f => f), hk.mono (fun _ f _ => f.elim), fun _ f => .inl f⟩
  unfold OpF.step
  by_cases h0 : o = OpF.zero
  · subst h0
    rw [if_pos (.inl rfl)]
    refine (fstep_zero p w).mono ?_
    rintro e w' ⟨rfl, hk⟩
    exact ⟨rfl, hq hk⟩
  · obtain ⟨b, f, c, k, m, fr, sl, v⟩ := o
    by_cases h1 : c = 0
    · subst h1
      rw [if_neg (by simp; exact h0)]
      obtain ⟨⟨⟨-, hf1, hf2⟩, -⟩, hk1, hk2, hm1, hm2⟩ := (ho.run rfl).resolve_left h0
      simp only at hf1 hf2 hk1 hk2 hm1 hm2
      obtain ⟨k', rfl⟩ : ∃ k' : Nat, k = k' := ⟨k.toNat, by omega⟩
      obtain ⟨m', rfl⟩ : ∃ m' : Nat, m = m' := ⟨m.toNat, by omega⟩
      have hmet := fun w F h => meth_any p F A b f fr sl v k' m' (by omega) (by omega) hf2 w h hlog
      by_cases he : ((OpF.mk b f 0 k' m' fr sl v).acc A).1.err = 0
      · rw [if_pos he]
        rw [he] at hmet
        exact step_any_ok p k' (methF k') F A _ b f m' fr sl v _ w h (by omega) (by omega) (methF_tab k' (by omega)) (methF_call k' (by omega)) hmet
      · rw [if_neg he]
        exact step_any_bad p k' (methF k') F A _ b f m' fr sl v _ _ w h (by omega) (by omega) (methF_tab k' (by omega)) (methF_call k' (by omega)) (by simpa using he) hmet
    · rw [if_pos (.inr h1)]
      refine (fstep_ended p b f c k m fr sl v h1 w).mono ?_
      rintro e w' ⟨rfl, hk⟩
      exact ⟨rfl, hq hk⟩
end Go.Proofs.Ytaipeclmfgdegaa
