import Derived.Test.YtemmkgnbngeiaaaDqOp2
namespace Go.Proofs.Ytemmkgnbngeiaaa
open Go.RowKit Go.HeapKit Go.IntWalk

set_option maxHeartbeats 1600000 in
set_option maxRecDepth 100000 in
theorem step_look (p : Nat) (F : Nat → Prop) (A B : Ar) (base most at_ code v t b a c na nc ix mv : Int) (o' : OpS) (err : Int) (w : World) (h : ArF w p F A) (h0 : (at_ == 0) = false) (h1 : (at_ == 1) = false) (h8 : ¬ at_ < 8) (h13 : ¬ at_ < 13) (h22 : ¬ at_ < 22) (h28 : ¬ at_ < 28)
    (hmet : ∀ w F, ArF w p F A → Calls Try.prog 60 #[(OpS.mk base most at_ code v t b a c na nc ix mv).value, .iface 24 (.pointer (some ⟨p, 0, none⟩))] w fun e w' => e = .returned (.tuple #[o'.value, .int .i64 err]) ∧ AA w w' p F B) :
    Calls Try.prog 46 #[.iface 24 (.pointer (some ⟨p, 0, none⟩)), (OpS.mk base most at_ code v t b a c na nc ix mv).value] w fun e w' => e = .returned (if err = 0 then o' else OpS.zero).value ∧ AA w w' p F B := by
  have h0' : ¬ at_ = 0 := by simpa using h0
  have HM : Hid _ := Mid.start h (OpS.mk base most at_ code v t b a c na nc ix mv)
  have hmm := hmet _ F HM.out.ar
  clear hmet h
  obtain ⟨m0, m1, m2, m3, m4, m5, m6, m7, m8, m9, m10, m11, m12⟩ := o'
  by_cases he : err = 0
  · subst he
    simp only [if_true, OpS.value, OpS.vals, OpS.zero] at hmm ⊢
    go_enter Try.func46, Try.ntmps46
    go_wp2_with fail
    refine hmm.mono ?_
    rintro e w3 ⟨rfl, hA3⟩
    obtain ⟨F3, hM3⟩ := HM.out.acc hA3
    obtain ⟨c0, c1, c2, c3, c4, c5, c6, c7, c8, c9, c10, c11, c12⟩ := hM3.cells
    obtain ⟨r0, r1, r2, r3, r4, r5, r6, r7, r8, r9, r10, r11, r12⟩ := hM3.rcells
    have s0 := hM3.rfree 0
    have s1 := hM3.rfree 1
    have s2 := hM3.rfree 2
    have s3 := hM3.rfree 3
    have s4 := hM3.rfree 4
    have s5 := hM3.rfree 5
    have s6 := hM3.rfree 6
    have s7 := hM3.rfree 7
    have s8 := hM3.rfree 8
    have s9 := hM3.rfree 9
    have s10 := hM3.rfree 10
    have s11 := hM3.rfree 11
    have s12 := hM3.rfree 12
    have q0 := hM3.free 0
    have q1 := hM3.free 1
    have q2 := hM3.free 2
    have q3 := hM3.free 3
    have q4 := hM3.free 4
    have q5 := hM3.free 5
    have q6 := hM3.free 6
    have q7 := hM3.free 7
    have q8 := hM3.free 8
    have q9 := hM3.free 9
    have q10 := hM3.free 10
    have q11 := hM3.free 11
    have q12 := hM3.free 12
    have HN : Hid _ := hM3.box13 m0 m1 m2 m3 m4 m5 m6 m7 m8 m9 m10 m11 m12
    clear hM3 hA3 hmm HM
    go_wp2_with fail
    exact op_end1 4 rfl rfl HN.out.res rfl rfl _ _ _ _ _ _ _ _ _ _ _ _ _ (fun w' hk => ⟨rfl, HN.out.fin hk⟩)
  · have he' : (err != 0) = true := by simpa using he
    rw [if_neg he]
    simp only [OpS.value, OpS.vals, OpS.zero] at hmm ⊢
    go_enter Try.func46, Try.ntmps46
    go_wp2_with fail
    refine hmm.mono ?_
    rintro e w3 ⟨rfl, hA3⟩
    obtain ⟨F3, hM3⟩ := HM.out.acc hA3
    obtain ⟨c0, c1, c2, c3, c4, c5, c6, c7, c8, c9, c10, c11, c12⟩ := hM3.cells
    obtain ⟨r0, r1, r2, r3, r4, r5, r6, r7, r8, r9, r10, r11, r12⟩ := hM3.rcells
    have s0 := hM3.rfree 0
    have s1 := hM3.rfree 1
    have s2 := hM3.rfree 2
    have s3 := hM3.rfree 3
    have s4 := hM3.rfree 4
    have s5 := hM3.rfree 5
    have s6 := hM3.rfree 6
    have s7 := hM3.rfree 7
    have s8 := hM3.rfree 8
    have s9 := hM3.rfree 9
    have s10 := hM3.rfree 10
    have s11 := hM3.rfree 11
    have s12 := hM3.rfree 12
    have q0 := hM3.free 0
    have q1 := hM3.free 1
    have q2 := hM3.free 2
    have q3 := hM3.free 3
    have q4 := hM3.free 4
    have q5 := hM3.free 5
    have q6 := hM3.free 6
    have q7 := hM3.free 7
    have q8 := hM3.free 8
    have q9 := hM3.free 9
    have q10 := hM3.free 10
    have q11 := hM3.free 11
    have q12 := hM3.free 12
    have HN : Hid _ := hM3.box13 m0 m1 m2 m3 m4 m5 m6 m7 m8 m9 m10 m11 m12
    clear hM3 hA3 hmm HM
    go_wp2_with fail
    exact op_end1 4 rfl rfl HN.out.res rfl rfl _ _ _ _ _ _ _ _ _ _ _ _ _ (fun w' hk => ⟨rfl, HN.out.fin hk⟩)
end Go.Proofs.Ytemmkgnbngeiaaa
