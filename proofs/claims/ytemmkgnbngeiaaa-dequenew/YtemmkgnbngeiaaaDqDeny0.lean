import Derived.Test.YtemmkgnbngeiaaaDqDeny
/-! New over a memory that refuses the first access. -/
namespace Go.Proofs.Ytemmkgnbngeiaaa
open Go.RowKit Go.HeapKit Go.IntWalk

set_option maxHeartbeats 4000000 in
set_option maxRecDepth 100000 in
theorem dnnew0 (q p l : Nat) (F : Nat → Prop) (A : Ar) (f m : Nat) (w : World) (h : CapOK f m) (hA : IsDn w q p l 0 F A) (hl2 : l = 0) (hfit : A.cells.length + (4 + f) ≤ A.size) (hsz : A.size ≤ 1048576) (_hlog : A.log.length < 1000000) :
    Calls Try.prog 11 #[.iface 104 (.pointer (some ⟨q, 0, none⟩)), .int .i64 f, .int .i64 m] w fun e w' => e = .returned (.tuple #[.agg #[.int .i64 0, .int .i64 0], .int .i64 77]) ∧ ∃ B, DD w w' q p l 1 F B := by
  have hc := fun w => capsFit_ok f m w h
  have hhi : l < 0 + 1 := by omega
  clear hl2
  have hf4 : f ≤ 4096 := by have := h; unfold CapOK at this; omega
  have hb := fun w => bufferCells_any f w hf4
  have hm1 := methD_reserve q
  have hm2 := methD_store q
  have hn1 := nilD_reserve q
  have hn2 := nilD_store q
  obtain ⟨n, hn⟩ : ∃ n, n = 4 + f := ⟨_, rfl⟩
  have e3 : IntKind.i64.wrap (3 + (1 + (f : Int))) = (n : Int) := by rw [i64_in _ (by omega)]; omega
  have hr := dn_reserve_no q p l 0 F A n ((w.alloc (.cells #[.int .i64 0, .int .i64 0] 32)).drew) ((hA.kept (Keeps.alloc None w _) (fun _ _ f => f)).kept (Keeps.drew None _) (fun _ _ f => f)) (by omega) hhi
  have hlt : ∀ k, F k → k < w.heap.size := fun k f => hA.lt f
  have HA : Hid _ := And.intro hn hlt
  clear hA hn h hlt
  go_enter Try.func11, Try.ntmps11
  go_wp2_with fail
  refine (hc _).mono ?_
  rintro e w' ⟨rfl, hw⟩
  have hw2 := hw.symm
  subst hw2
  clear hw hc
  go_upto_region 5 with fail
  go_cut [8, 9] (fun s8 s9 wx => s8 = .int .i64 0 ∧ s9 = .int .i64 77 ∧ DD (w.alloc (.cells #[.int .i64 0, .int .i64 0] 32)).drew wx q p l 1 F A)
  case first =>
    go_region_held3 (fun _ => True) (trivial) (first
      | (go_at_call 38; refine (hb _).mono ?_; rintro e w' ⟨rfl, hw⟩; have hw2 := hw.symm; subst hw2; clear hw)
      | (go_at_call 96; refine hr.mono ?_; rintro e w1 ⟨rfl, hA1⟩))
    all_goals (go_wp2_with fail; go_meet)
    all_goals exact ⟨rfl, rfl, hA1⟩
  case rest =>
    obtain ⟨rfl, rfl, F1, hF1, hk1, hf1⟩ := hcut
    have hr4 : wc.heap[w.heap.size]? = some (.cells #[.int .i64 0, .int .i64 0] 32 (0, 0)) := (hk1.block w.heap.size (by simp) (fun f => by have := HA.out.2 _ f; omega)).trans (new_at w _ _ rfl)
    have r0 := (cell_of_block hr4 0).trans rfl
    have r1 := (cell_of_block hr4 1).trans rfl
    have q0 := free_of_block hr4 0
    have q1 := free_of_block hr4 1
    have hE : DD (w.alloc (.cells #[.int .i64 0, .int .i64 0] 32)).drew wc q p l 1 F A := ⟨F1, hF1, hk1, hf1⟩
    have HE : Hid _ := hE
    clear hE hF1 hk1 hf1 hr hb hm1 hn1 e3
    go_wp2
    refine deq_end rfl rfl hr4 rfl rfl _ _ (fun w' hk => ⟨rfl, A, DD.out HE.out ((Keeps.alloc None w _).andDrew) (Nat.le_refl _) (by simp) (fun f => by have := HA.out.2 _ f; omega) hk⟩)
end Go.Proofs.Ytemmkgnbngeiaaa
