import Derived.Test.YtemmkgnbngeiaaaDqDeny
/-! New over a memory that refuses nothing of it. -/
namespace Go.Proofs.Ytemmkgnbngeiaaa
open Go.RowKit Go.HeapKit Go.IntWalk

set_option maxHeartbeats 4000000 in
set_option maxRecDepth 100000 in
theorem dnnew3 (q p l : Nat) (F : Nat → Prop) (A : Ar) (f m : Nat) (w : World) (h : CapOK f m) (hA : IsDn w q p l 0 F A) (hl3 : 3 ≤ l) (hfit : A.cells.length + (4 + f) ≤ A.size) (hsz : A.size ≤ 1048576) (hlog : A.log.length < 1000000) :
    Calls Try.prog 11 #[.iface 104 (.pointer (some ⟨q, 0, none⟩)), .int .i64 f, .int .i64 m] w fun e w' => e = .returned (.tuple #[.agg #[.int .i64 A.cells.length, .int .i64 m], .int .i64 0]) ∧ DD w w' q p l 3 F (A.laid f) := by
  have hc := fun w => capsFit_ok f m w h
  have hf4 : f ≤ 4096 := by have := h; unfold CapOK at this; omega
  have hb := fun w => bufferCells_any f w hf4
  have hm1 := methD_reserve q
  have hm2 := methD_store q
  have hn1 := nilD_reserve q
  have hn2 := nilD_store q
  obtain ⟨n, hn⟩ : ∃ n, n = 4 + f := ⟨_, rfl⟩
  have e3 : IntKind.i64.wrap (3 + (1 + (f : Int))) = (n : Int) := by rw [i64_in _ (by omega)]; omega
  have hr := dn_reserve_ok q p l 0 F A n ((w.alloc (.cells #[.int .i64 0, .int .i64 0] 32)).drew) ((hA.kept (Keeps.alloc None w _) (fun _ _ f => f)).kept (Keeps.drew None _) (fun _ _ f => f)) (by omega) (by omega) (by omega) (by omega) (by omega)
  have hlt : ∀ k, F k → k < w.heap.size := fun k f => hA.lt f
  have HA : Hid _ := And.intro hn hlt
  clear hA hn h hlt
  go_enter Try.func11, Try.ntmps11
  go_wp2_with fail
  refine (hc _).mono ?_
  rintro e w' ⟨rfl, hw⟩
  have hw2 := hw.symm
  subst hw2
  clear hw hc
  go_upto_region 5 with fail
  go_cut [8, 9] (fun s8 s9 wx => s8 = .int .i64 A.cells.length ∧ s9 = .int .i64 0 ∧ DD (w.alloc (.cells #[.int .i64 0, .int .i64 0] 32)).drew wx q p l 1 F ((A.more n).noted ⟨0, 4, A.cells.length, n, 0, true⟩))
  case first =>
    go_region_held3 (fun _ => True) (trivial) (first
      | (go_at_call 38; refine (hb _).mono ?_; rintro e w' ⟨rfl, hw⟩; have hw2 := hw.symm; subst hw2; clear hw)
      | (go_at_call 96; refine hr.mono ?_; rintro e w1 ⟨rfl, hA1⟩))
    all_goals (go_wp2_with fail; go_meet)
    all_goals exact ⟨rfl, rfl, hA1⟩
  case rest =>
    obtain ⟨rfl, rfl, F1, hF1, hk1, hf1⟩ := hcut
    obtain ⟨wb, hwb⟩ : ∃ wb, wb = wc := ⟨_, rfl⟩
    subst hwb
    have hn4 : 4 + f ≤ n := by have := HA.out.1; omega
    have hs1 := hk1.size
    have hb1 : wb.heap[w.heap.size]? = some (.cells #[.int .i64 0, .int .i64 0] 32 (0, 0)) := (hk1.block w.heap.size (by simp) (fun f => by have := HA.out.2 _ f; omega)).trans (new_at w _ _ rfl)
    have hl1 : ((A.more n).noted ⟨0, 4, A.cells.length, n, 0, true⟩).cells.length = A.cells.length + n := by rw [noted_len, more_len]
    have hg1 : ((A.more n).noted ⟨0, 4, A.cells.length, n, 0, true⟩).log.length ≤ A.log.length + 1 := noted_log _ _
    have hA1 : Hid (IsDn wb q p l 1 F1 ((A.more n).noted ⟨0, 4, A.cells.length, n, 0, true⟩)) := hF1
    have HK1 : Hid _ := And.intro hk1 (And.intro hf1 hs1)
    have hbf := buf_any A.cells.length m (by omega)
    clear hF1 hk1 hf1 hs1 hr hb hm1 hn1 e3
    generalize hA1e : (A.more n).noted ⟨0, 4, A.cells.length, n, 0, true⟩ = A1 at hA1 hl1 hg1
    have HA1e : Hid _ := hA1e
    clear hA1e
    go_upto_region 10 with fail
    go_cut [12] (fun s12 wx => s12 = .int .i64 0 ∧ wx.cell? ⟨wb.heap.size, 0, none⟩ = some (.int .i64 A.cells.length) ∧ wx.cell? ⟨wb.heap.size, 1, none⟩ = some (.int .i64 m) ∧ DD (wb.alloc (.cells #[.int .i64 A.cells.length, .int .i64 m] 32)).drew wx q p l 2 F1 ((A1.put (A.cells.length + 2) ((A.cells.length : Int) + 3)).noted ⟨0, 1, (A.cells.length + 2 : Nat), (A.cells.length : Int) + 3, 0, true⟩))
    case first =>
      have hd := new_at wb (.cells #[.int .i64 A.cells.length, .int .i64 m] 32) _ rfl
      have hlt1 : ∀ k, F1 k → k < wb.heap.size := fun k f => hA1.out.lt f
      have hno : ¬ F1 wb.heap.size := fun f => by have := hlt1 _ f; omega
      have HN : Hid (¬ F1 wb.heap.size) := hno
      clear hno hlt1
      go_region_held3 (fun w' => w'.cell? ⟨wb.heap.size, 0, none⟩ = some (.int .i64 A.cells.length) ∧ w'.cell? ⟨wb.heap.size, 1, none⟩ = some (.int .i64 m)) (first | exact hs3 | exact hs2 | go_keep) (first
        | (go_at_call 39; refine (hbf _).mono ?_; rintro e w2 ⟨rfl, hk2⟩; have hs2 := keep2 ⟨wb.heap.size, 0, none⟩ ⟨wb.heap.size, 1, none⟩ hk2 (fun f => f) (fun f => f) (by assumption))
        | (go_at_call 97; refine (dn_store_ok q p l 1 F1 A1 _ (A.cells.length + 2) _ w2 (by omega) (((hA1.out.kept (Keeps.alloc None wb _) (fun _ _ f => f)).kept (Keeps.drew None _) (fun _ _ f => f)).kept hk2 (fun _ _ f => f)) (by omega) (by omega) (by omega) (by omega)).mono ?_; rintro e w3 ⟨rfl, hA3⟩; have hs3 := keep2 ⟨wb.heap.size, 0, none⟩ ⟨wb.heap.size, 1, none⟩ hA3.choose_spec.2.1 HN.out HN.out hs2))
      all_goals (go_wp2_with fail; go_meet)
      all_goals exact ⟨rfl, hs3.1, hs3.2, DD.trans (hk2.mono (fun _ f _ => f.elim)) (fun _ f => .inl f) hA3⟩
    case rest =>
      obtain ⟨rfl, hd0, hd1, F2, hF2, hk2, hf2⟩ := hcut
      have hl2 : ((A1.put (A.cells.length + 2) ((A.cells.length : Int) + 3)).noted ⟨0, 1, (A.cells.length + 2 : Nat), (A.cells.length : Int) + 3, 0, true⟩).cells.length = A.cells.length + n := by rw [noted_len, put_len, hl1]
      have hg2 : ((A1.put (A.cells.length + 2) ((A.cells.length : Int) + 3)).noted ⟨0, 1, (A.cells.length + 2 : Nat), (A.cells.length : Int) + 3, 0, true⟩).log.length ≤ A.log.length + 2 := by
        have := noted_log (A1.put (A.cells.length + 2) ((A.cells.length : Int) + 3)) ⟨0, 1, (A.cells.length + 2 : Nat), (A.cells.length : Int) + 3, 0, true⟩
        rw [put_log] at this
        omega
      have hst := dn_store_ok q p l 2 F2 _ ((A.cells.length : Int) + 3) (A.cells.length + 3) f wc (by omega) hF2 (by omega) (by omega) (by rw [hl2]; omega) (by omega)
      have hno1 : ¬ F1 w.heap.size := fun f => by
        rcases HK1.out.2.1 _ f with f | f
        · have := HA.out.2 _ f; omega
        · simp at f; omega
      have hno2 : ¬ F2 w.heap.size := fun f => by
        have := HK1.out.2.2
        rcases hf2 _ f with f | f
        · exact hno1 f
        · simp at f this; omega
      have hno3 : ¬ F2 wb.heap.size := fun f => by
        rcases hf2 _ f with f | f
        · have := hA1.out.lt f; omega
        · simp at f; omega
      have hr2 : wc.heap[w.heap.size]? = some (.cells #[.int .i64 0, .int .i64 0] 32 (0, 0)) := by
        have hs := HK1.out.2.2
        simp at hs
        exact (((Keeps.alloc F1 wb _).andDrew.trans hk2 (fun _ f _ => f)).block w.heap.size (by omega) hno1).trans hb1
      have H2 : Hid _ := And.intro hk2 (And.intro hf2 (And.intro hno2 (And.intro hno3 hr2)))
      have HD : Hid _ := And.intro hd0 hd1
      clear hF2 hk2 hf2 hno1 hno2 hno3 hr2 hd0 hd1 hl2 hg2 hb1 hbf
      go_wp2_with fail
      refine hst.mono ?_
      rintro e w4 ⟨rfl, hA4⟩
      have hk4 := hA4.choose_spec.2.1
      have hr4 := (hk4.block w.heap.size (Array.getElem?_eq_some_iff.1 H2.out.2.2.2.2).1 H2.out.2.2.1).trans H2.out.2.2.2.2
      obtain ⟨d0, d1⟩ := keep2 ⟨wb.heap.size, 0, none⟩ ⟨wb.heap.size, 1, none⟩ hk4 H2.out.2.2.2.1 H2.out.2.2.2.1 HD.out
      have r0 := (cell_of_block hr4 0).trans rfl
      have r1 := (cell_of_block hr4 1).trans rfl
      have q0 := free_of_block hr4 0
      have q1 := free_of_block hr4 1
      have hneg : ¬ w.heap.size = wb.heap.size := by have := HK1.out.2.2; simp at this; omega
      have hE : DD (w.alloc (.cells #[.int .i64 0, .int .i64 0] 32)).drew w4 q p l 3 F (A.laid f) := by
        have h2 := DD.trans ((Keeps.alloc F1 wb _).andDrew.trans H2.out.1 (fun _ f _ => f)) (fun k f => by
          rcases H2.out.2.1 k f with f | f
          · exact .inl f
          · exact .inr (by simp at f; omega)) hA4
        have h1 := DD.trans HK1.out.1 HK1.out.2.1 h2
        rw [← HA1e.out, HA.out.1] at h1
        exact h1
      have HE : Hid _ := hE
      clear hE hA4 hk4
      go_wp2
      refine deq_end rfl rfl hr4 rfl rfl _ _ (fun w' hk => ⟨rfl, DD.out HE.out ((Keeps.alloc None w _).andDrew) (Nat.le_refl _) (by simp) (fun f => by have := HA.out.2 _ f; omega) hk⟩)
end Go.Proofs.Ytemmkgnbngeiaaa
