import Derived.Test.YtemmkgnbngeiaaaDqNew
/-! 'New' of the deque where the arena has no room. -/
namespace Go.Proofs.Ytemmkgnbngeiaaa
open Go.RowKit Go.HeapKit Go.IntWalk

set_option maxHeartbeats 4000000 in
set_option maxRecDepth 100000 in
theorem dnew_room (p : Nat) (F : Nat → Prop) (A : Ar) (f m : Nat) (w : World) (h : CapOK f m) (hA : ArF w p F A) (hfit : A.size < A.cells.length + (4 + f)) :
    Calls Try.prog 11 #[.iface 24 (.pointer (some ⟨p, 0, none⟩)), .int .i64 f, .int .i64 m] w fun e w' => e = .returned (.tuple #[.agg #[.int .i64 0, .int .i64 0], .int .i64 22]) ∧ Keeps None w w' := by
  have hc := fun w => capsFit_ok f m w h
  have hf4 : f ≤ 4096 := by have := h; unfold CapOK at this; omega
  have hb := fun w => bufferCells_any f w hf4
  have hm1 := meth3_reserve p
  have hn1 := nil3_reserve p
  obtain ⟨n, hn⟩ : ∃ n, n = 4 + f := ⟨_, rfl⟩
  have e3 : IntKind.i64.wrap (3 + (1 + (f : Int))) = (n : Int) := by rw [i64_in _ (by omega)]; omega
  obtain ⟨vc, vl, hI, -⟩ := hA
  have hI2 := (hI.kept (Keeps.alloc None w (.cells #[.int .i64 0, .int .i64 0] 32)) (fun _ _ f => f)).kept (Keeps.drew None _) (fun _ _ f => f)
  have hr := reserve_many p vc vl A n _ hI2 (by omega) (by omega)
  clear hn h hI hI2
  go_enter Try.func11, Try.ntmps11
  go_wp2_with fail
  refine (hc _).mono ?_
  rintro e w' ⟨rfl, hw⟩
  have hw2 := hw.symm
  subst hw2
  clear hw hc
  go_upto_region 5 with fail
  go_cut [8, 9] (fun s8 s9 wx => s8 = .int .i64 0 ∧ s9 = .int .i64 22 ∧ wx = (w.alloc (.cells #[.int .i64 0, .int .i64 0] 32)).drew)
  case first =>
    go_region_held3 (fun _ => True) (trivial) (first
      | (go_at_call 38; refine (hb _).mono ?_; rintro e w' ⟨rfl, hw⟩; have hw2 := hw.symm; subst hw2; clear hw)
      | (go_at_call 34; refine hr.mono ?_; rintro e w1 ⟨rfl, hw⟩; have hw2 := hw.symm; subst hw2; clear hw))
    all_goals (go_wp2_with fail; go_meet)
    all_goals exact ⟨rfl, rfl, rfl⟩
  case rest =>
    obtain ⟨rfl, rfl, hw⟩ := hcut
    subst hw
    clear hr hb hm1 hn1 e3
    go_wp2
    refine deq_ret (g := w.heap.size) rfl ((Keeps.drew None _).block w.heap.size (by simp) (fun f => f) |>.trans (new_at w _ _ rfl)) rfl rfl ⟨rfl, (Keeps.alloc None w _).andDrew⟩
end Go.Proofs.Ytemmkgnbngeiaaa
