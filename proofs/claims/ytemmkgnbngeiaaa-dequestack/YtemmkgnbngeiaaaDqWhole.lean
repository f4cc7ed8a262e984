import Derived.Test.YtemmkgnbngeiaaaDqAns
import Derived.OwnWalk
/-! 'whole': a machine is stepped to its end. -/
namespace Go.Proofs.Ytemmkgnbngeiaaa
open Go.RowKit Go.HeapKit Go.IntWalk

noncomputable def OpS.run (o : OpS) (A : Ar) : Nat → OpS × Ar
  | 0 => (o, A)
  | n + 1 => (o.run A n).1.step (o.run A n).2
theorem OpS.ans_stop {o : OpS} (h : ¬ o.ans.1 = 0) : o = OpS.zero ∨ o.at_ = 1 := by
  unfold OpS.ans at h
  split at h
  · exact .inl ‹_›
  · split at h
    · exact .inr ‹_›
    · simp at h
theorem OpS.run_stop {o : OpS} {A : Ar} {k : Nat} (h : (o.run A k).1 = OpS.zero ∨ (o.run A k).1.at_ = 1) : ∀ j, o.run A (k + j) = o.run A k
  | 0 => rfl
  | j + 1 => by
    show (o.run A (k + j)).1.step (o.run A (k + j)).2 = _
    rw [OpS.run_stop h j]
    exact if_pos h
/-- The machine's box and the arena, in the midst. -/
structure Wh (w wx : World) (o : OpS) (p : Nat) (F : Nat → Prop) (B : Ar) : Prop where
  box : wx.heap[w.heap.size]? = some (.cells o.vals 53 (0, 0))
  ar : ∃ F1, ArF wx p F1 B ∧ ∀ k, F1 k → F k ∨ w.heap.size + 1 ≤ k
  kp : Keeps F w wx
  lo : ∀ k, F k → k < w.heap.size
section
variable {w wx wy : World} {o : OpS} {p : Nat} {F : Nat → Prop} {A B : Ar}
theorem Wh.lt (h : Wh w wx o p F B) : w.heap.size < wx.heap.size := (Array.getElem?_eq_some_iff.1 h.box).1
theorem Wh.kept (h : Wh w wx o p F B) (hk : Keeps None wx wy) : Wh w wy o p F B := by
  obtain ⟨F1, h1, h2⟩ := h.ar
  exact ⟨(hk.block _ h.lt (fun f => f)).trans h.box, ⟨F1, h1.kept hk (fun _ _ f => f), h2⟩, h.kp.trans hk (fun _ f _ => f.elim), h.lo⟩
theorem Wh.acc (h : Wh w wx o p F A) {F1 : Nat → Prop} (hF : ∀ k, F1 k → F k ∨ w.heap.size + 1 ≤ k) (h2 : AA wx wy p F1 B) : Wh w wy o p F B := by
  obtain ⟨F2, g, hk, hf⟩ := h2
  have := h.lt
  have hn : ¬ F1 w.heap.size := fun f => by rcases hF _ f with f | f; have := h.lo _ f; omega; omega
  refine ⟨(hk.block _ this hn).trans h.box, ⟨F2, g, fun k f => ?_⟩, h.kp.trans hk (fun i f hi => ?_), h.lo⟩
  · rcases hf k f with f | f
    · exact hF k f
    · exact .inr (by omega)
  · rcases hF i f with f | f
    · exact f
    · omega
theorem Wh.cells {x0 x1 x2 x3 x4 x5 x6 x7 x8 x9 x10 x11 x12 : Int} (h : Wh w wx (OpS.mk x0 x1 x2 x3 x4 x5 x6 x7 x8 x9 x10 x11 x12) p F B) : wx.cell? ⟨w.heap.size, 0, none⟩ = some (.int .i64 x0) ∧ wx.cell? ⟨w.heap.size, 1, none⟩ = some (.int .i64 x1) ∧ wx.cell? ⟨w.heap.size, 2, none⟩ = some (.int .i64 x2) ∧ wx.cell? ⟨w.heap.size, 3, none⟩ = some (.int .i64 x3) ∧ wx.cell? ⟨w.heap.size, 4, none⟩ = some (.int .i64 x4) ∧ wx.cell? ⟨w.heap.size, 5, none⟩ = some (.int .i64 x5) ∧ wx.cell? ⟨w.heap.size, 6, none⟩ = some (.int .i64 x6) ∧ wx.cell? ⟨w.heap.size, 7, none⟩ = some (.int .i64 x7) ∧ wx.cell? ⟨w.heap.size, 8, none⟩ = some (.int .i64 x8) ∧ wx.cell? ⟨w.heap.size, 9, none⟩ = some (.int .i64 x9) ∧ wx.cell? ⟨w.heap.size, 10, none⟩ = some (.int .i64 x10) ∧ wx.cell? ⟨w.heap.size, 11, none⟩ = some (.int .i64 x11) ∧ wx.cell? ⟨w.heap.size, 12, none⟩ = some (.int .i64 x12) :=
  ⟨cell_of_block h.box 0, cell_of_block h.box 1, cell_of_block h.box 2, cell_of_block h.box 3, cell_of_block h.box 4, cell_of_block h.box 5, cell_of_block h.box 6, cell_of_block h.box 7, cell_of_block h.box 8, cell_of_block h.box 9, cell_of_block h.box 10, cell_of_block h.box 11, cell_of_block h.box 12⟩
theorem Wh.free (h : Wh w wx o p F B) (i : Nat) : wx.frozen? ⟨w.heap.size, i, none⟩ = false := free_of_block h.box i
theorem Wh.box13 (h : Wh w wx o p F B) (x0 x1 x2 x3 x4 x5 x6 x7 x8 x9 x10 x11 x12 : Int) : Wh w (((((((((((((wx.setCell ⟨w.heap.size, 0, none⟩ (.int .i64 x0)).setCell ⟨w.heap.size, 1, none⟩ (.int .i64 x1)).setCell ⟨w.heap.size, 2, none⟩ (.int .i64 x2)).setCell ⟨w.heap.size, 3, none⟩ (.int .i64 x3)).setCell ⟨w.heap.size, 4, none⟩ (.int .i64 x4)).setCell ⟨w.heap.size, 5, none⟩ (.int .i64 x5)).setCell ⟨w.heap.size, 6, none⟩ (.int .i64 x6)).setCell ⟨w.heap.size, 7, none⟩ (.int .i64 x7)).setCell ⟨w.heap.size, 8, none⟩ (.int .i64 x8)).setCell ⟨w.heap.size, 9, none⟩ (.int .i64 x9)).setCell ⟨w.heap.size, 10, none⟩ (.int .i64 x10)).setCell ⟨w.heap.size, 11, none⟩ (.int .i64 x11)).setCell ⟨w.heap.size, 12, none⟩ (.int .i64 x12)) (OpS.mk x0 x1 x2 x3 x4 x5 x6 x7 x8 x9 x10 x11 x12) p F B := by
  obtain ⟨h1, h2⟩ := op_set (w1 := wx) (g := w.heap.size) (c := o.vals) rfl h.box (.int .i64 x0) (.int .i64 x1) (.int .i64 x2) (.int .i64 x3) (.int .i64 x4) (.int .i64 x5) (.int .i64 x6) (.int .i64 x7) (.int .i64 x8) (.int .i64 x9) (.int .i64 x10) (.int .i64 x11) (.int .i64 x12)
  obtain ⟨F1, h3, h4⟩ := h.ar
  exact ⟨h1, ⟨F1, h3.kept h2 (fun k f e => by subst e; rcases h4 _ f with f | f; have := h.lo _ f; omega; omega), h4⟩, h.kp.trans h2 (fun i e hi => by omega), h.lo⟩
theorem Wh.fin (h : Wh w wx o p F B) : AA w wx p F B := by
  obtain ⟨F1, h3, h4⟩ := h.ar
  exact ⟨F1, h3, h.kp, fun k f => by rcases h4 k f with f | f; exact .inl f; exact .inr (by omega)⟩
end
set_option maxHeartbeats 1600000 in
set_option maxRecDepth 100000 in
theorem whole_any (p : Nat) (F : Nat → Prop) (A : Ar) (o : OpS) (n : Nat) (w : World) (h : ArF w p F A) (hn : n ≤ 1000000) (hfit : ∀ k, k ≤ n → (o.run A k).1.Fit ∧ (o.run A k).2.log.length < 1000000000000) :
    Calls Try.prog 26 #[.pointer (some ⟨p, 0, none⟩), o.value, .int .i64 n] w fun e w' =>
      e = .returned (.tuple #[.int .i64 (o.run A n).1.ans.1, .int .i64 (o.run A n).1.ans.2, .bool ((o.run A n).1.ans.1 != 0)]) ∧ AA w w' p F (o.run A n).2 := by
  have HF : Hid (∀ k, k ≤ n → (o.run A k).1.Fit ∧ (o.run A k).2.log.length < 1000000000000) := hfit
  have hstart : Wh w (w.alloc (.cells o.vals 53)) (o.run A 0).1 p F (o.run A 0).2 :=
    ⟨new_at w _ _ rfl, ⟨F, h.kept (Keeps.alloc None w _) (fun _ _ f => f), fun _ f => .inl f⟩, (Keeps.refl F w).andAlloc _, fun _ f => h.lt f⟩
  have HS : Hid _ := hstart
  clear hfit h hstart
  generalize hv : o.value = ov
  obtain rfl : ov = .agg o.vals := hv.symm
  clear hv
  go_enter Try.func26, Try.ntmps26
  go_wp2_with fail
  go_loopw [9, 10, 11] (fun i _ _ wr => ∃ k : Nat, k ≤ n ∧ i = .int .i64 k ∧ Wh w wr (o.run A k).1 p F (o.run A k).2) (fun i _ _ _ => n - (intOf i).toNat)
  case atStart => exact ⟨0, Nat.zero_le _, rfl, HS.out⟩
  case round =>
    obtain ⟨k, hk, rfl, hW⟩ := hrel
    have hfk := HF.out k hk
    generalize hrk : o.run A k = R at hW hfk
    have HR : Hid (o.run A k = R) := hrk
    clear hrk
    obtain ⟨⟨m0, m1, m2, m3, m4, m5, m6, m7, m8, m9, m10, m11, m12⟩, B⟩ := R
    simp only at hW hfk
    have hans := answer_any (OpS.mk m0 m1 m2 m3 m4 m5 m6 m7 m8 m9 m10 m11 m12) hfk.1
    have HST : Hid (¬ (OpS.mk m0 m1 m2 m3 m4 m5 m6 m7 m8 m9 m10 m11 m12).ans.1 = 0 → (OpS.mk m0 m1 m2 m3 m4 m5 m6 m7 m8 m9 m10 m11 m12) = OpS.zero ∨ m2 = 1) := fun h => OpS.ans_stop h
    generalize hA : (OpS.mk m0 m1 m2 m3 m4 m5 m6 m7 m8 m9 m10 m11 m12).ans = an at hans HST
    have HAN : Hid ((OpS.mk m0 m1 m2 m3 m4 m5 m6 m7 m8 m9 m10 m11 m12).ans = an) := hA
    clear hA
    obtain ⟨a1, a2⟩ := an
    simp only [OpS.value, OpS.vals] at hans
    obtain ⟨c0, c1, c2, c3, c4, c5, c6, c7, c8, c9, c10, c11, c12⟩ := hW.cells
    have HW : Hid _ := hW
    by_cases hkn : k < n
    · have i1 : (k : Int) < (n : Int) := by omega
      clear hW
      go_wp2_with fail
      refine (hans _).mono ?_
      rintro e w2 ⟨rfl, hk2⟩
      have HW2 : Hid _ := HW.out.kept hk2
      clear hk2 HW c0 c1 c2 c3 c4 c5 c6 c7 c8 c9 c10 c11 c12
      obtain ⟨c0, c1, c2, c3, c4, c5, c6, c7, c8, c9, c10, c11, c12⟩ := HW2.out.cells
      by_cases ha : a1 = 0
      · subst ha
        obtain ⟨F1, hA1, hF1⟩ := HW2.out.ar
        have hstep := step_any p F1 B (OpS.mk m0 m1 m2 m3 m4 m5 m6 m7 m8 m9 m10 m11 m12) w2 hA1 hfk.2 hfk.1
        generalize hS : (OpS.mk m0 m1 m2 m3 m4 m5 m6 m7 m8 m9 m10 m11 m12).step B = S at hstep
        have HS2 : Hid ((OpS.mk m0 m1 m2 m3 m4 m5 m6 m7 m8 m9 m10 m11 m12).step B = S) := hS
        clear hS
        obtain ⟨⟨s0, s1, s2, s3, s4, s5, s6, s7, s8, s9, s10, s11, s12⟩, C⟩ := S
        simp only [OpS.value, OpS.vals] at hstep
        have HF1 : Hid _ := hF1
        clear hA1 hF1 hans
        go_wp2_with fail
        refine hstep.mono ?_
        rintro e w3 ⟨rfl, hA3⟩
        have hW3 := HW2.out.acc HF1.out hA3
        clear c0 c1 c2 c3 c4 c5 c6 c7 c8 c9 c10 c11 c12 hstep hA3
        obtain ⟨c0, c1, c2, c3, c4, c5, c6, c7, c8, c9, c10, c11, c12⟩ := hW3.cells
        have q0 := hW3.free 0
        have q1 := hW3.free 1
        have q2 := hW3.free 2
        have q3 := hW3.free 3
        have q4 := hW3.free 4
        have q5 := hW3.free 5
        have q6 := hW3.free 6
        have q7 := hW3.free 7
        have q8 := hW3.free 8
        have q9 := hW3.free 9
        have q10 := hW3.free 10
        have q11 := hW3.free 11
        have q12 := hW3.free 12
        have HN : Hid _ := hW3.box13 s0 s1 s2 s3 s4 s5 s6 s7 s8 s9 s10 s11 s12
        clear hW3
        go_wp2_with fail
        go_roundw
        case rel => exact ⟨k + 1, by omega, by simp, by
          have e1 : o.run A (k + 1) = (OpS.mk s0 s1 s2 s3 s4 s5 s6 s7 s8 s9 s10 s11 s12, C) := by
            show (o.run A k).1.step (o.run A k).2 = _
            rw [HR.out]
            exact HS2.out
          rw [e1]
          exact HN.out⟩
        case measure => simp only [intOf]; omega
      · have ha' : (a1 != 0) = true := by simpa using ha
        have e1 : o.run A n = (OpS.mk m0 m1 m2 m3 m4 m5 m6 m7 m8 m9 m10 m11 m12, B) := by
          have := OpS.run_stop (o := o) (A := A) (k := k) (by rw [HR.out]; exact HST.out ha) (n - k)
          rw [show k + (n - k) = n by omega] at this
          exact this.trans HR.out
        have HE1 : Hid _ := e1
        clear e1
        go_wp2_with fail
        refine (hans _).mono ?_
        rintro e w4 ⟨rfl, hk4⟩
        have HZ : Hid _ := (HW2.out.kept hk4).fin
        clear hk4 hans c0 c1 c2 c3 c4 c5 c6 c7 c8 c9 c10 c11 c12
        go_wp2_with fail
        go_ret3
        refine ⟨?_, by rw [HE1.out]; exact HZ.out⟩
        rw [HE1.out]
        simp only
        rw [HAN.out]
        simpa using ha
    · obtain rfl : k = n := by omega
      have i1 : ¬ (k : Int) < (k : Int) := by omega
      clear hW
      go_wp2_with fail
      refine (hans _).mono ?_
      rintro e w4 ⟨rfl, hk4⟩
      have HZ : Hid _ := (HW.out.kept hk4).fin
      clear hk4 hans c0 c1 c2 c3 c4 c5 c6 c7 c8 c9 c10 c11 c12
      go_wp2_with fail
      go_ret3
      refine ⟨?_, by rw [HR.out]; exact HZ.out⟩
      rw [HR.out]
      simp only
      rw [HAN.out]
      simp
end Go.Proofs.Ytemmkgnbngeiaaa
