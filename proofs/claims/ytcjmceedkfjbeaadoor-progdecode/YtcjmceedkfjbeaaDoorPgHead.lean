import Derived.Test.YtcjmceedkfjbeaaDoorPgCheck2
import Derived.Laws.StructEq
/-! The statements' 'head': one little program is taken, one is refused. -/
namespace Go.Proofs.YtcjmceedkfjbeaaDoor
set_option linter.unusedVariables false
set_option maxRecDepth 20000
open Go.RowKit Go.HeapKit

def retF (a : Int) : Fn := ⟨0, 1, 0, [⟨9, a, 0, 0, 0⟩]⟩
theorem ret_ok (a : Int) (ha : okI a) : ∀ f ∈ [retF a], f.Ok := by
  intro f hf
  simp at hf
  subst hf
  refine ⟨by simp [retF, okI], by simp [retF, okI], by simp [retF, okI], fun i hi => ?_⟩
  simp [retF] at hi
  subst hi
  exact ⟨by simp [okI], ha, by simp [okI], by simp [okI], by simp [okI]⟩
theorem ret_seen (w : World) (a : Int) : SeenF ((w.alloc (.cells #[.int .i64 9, .int .i64 a, .int .i64 0, .int .i64 0, .int .i64 0] 42)).alloc (.cells #[.int .i64 0, .int .i64 1, .int .i64 0, .slice (some ⟨w.heap.size, 0, none⟩) 1 1] 40)) (some ⟨w.heap.size + 1, 0, none⟩) 1 [retF a] := by
  obtain ⟨b1, b2⟩ := two_boxes w #[.int .i64 9, .int .i64 a, .int .i64 0, .int .i64 0, .int .i64 0] #[.int .i64 0, .int .i64 1, .int .i64 0, .slice (some ⟨w.heap.size, 0, none⟩) 1 1] 42 40
  refine ⟨rfl, fun _ => ⟨_, 0, rfl, blk_lt b2, fun k f hf => ?_⟩⟩
  cases k with
  | succ k => simp at hf
  | zero =>
    simp at hf
    subst hf
    refine ⟨some ⟨w.heap.size, 0, none⟩, 1, ⟨(cell_of_heap b2 0).trans rfl, (cell_of_heap b2 1).trans rfl, (cell_of_heap b2 2).trans rfl, (cell_of_heap b2 3).trans rfl, ⟨rfl, fun _ => ⟨_, 0, rfl, blk_lt b1, fun j i hi => ?_⟩⟩⟩⟩
    cases j with
    | succ j => simp [retF] at hi
    | zero =>
      simp [retF] at hi
      subst hi
      exact ⟨(cell_of_heap b1 0).trans rfl, (cell_of_heap b1 1).trans rfl, (cell_of_heap b1 2).trans rfl, (cell_of_heap b1 3).trans rfl, (cell_of_heap b1 4).trans rfl⟩
theorem ret_good : checkF [retF 0] = faultV 0 0 0 := by rfl
theorem ret_bad : checkF [retF 1] = faultV 52 0 0 := by rfl
theorem ret_any (a : Int) (ha : okI a) (w : World) (hT : Tabs w) : Calls Tryd.prog 8 #[.agg #[.slice (some ⟨w.heap.size + 1, 0, none⟩) 1 1]] ((w.alloc (.cells #[.int .i64 9, .int .i64 a, .int .i64 0, .int .i64 0, .int .i64 0] 42)).alloc (.cells #[.int .i64 0, .int .i64 1, .int .i64 0, .slice (some ⟨w.heap.size, 0, none⟩) 1 1] 40)) fun e w' => e = .returned (checkF [retF a]) ∧ Keeps None w w' :=
  (check_any _ 1 1 [retF a] _ (hT.more (keeps2 w _ _)) (ret_seen w a) (ret_ok a ha)).mono fun e w' h => ⟨h.1, (keeps2 w _ _).trans h.2 (fun _ f _ => f)⟩
set_option maxHeartbeats 1000000 in
theorem head_any (w : World) (hT : Tabs w) : Calls Tryd.prog 7 #[] w fun e w' => e = .returned (.bool true) ∧ Keeps None w w' := by
  have h1 := ret_any 0 (by simp [okI]) w hT
  rw [ret_good] at h1
  unfold faultV at h1
  have h2 := fun (wx : World) (hk : Keeps None w wx) => ret_any 1 (by simp [okI]) wx (hT.more hk)
  rw [ret_bad] at h2
  unfold faultV at h2
  have H2 : Hid _ := h2
  clear h2 hT
  go_enter Tryd.func7, Tryd.ntmps7
  go_upto_region 2 with (go_at_call 8; refine h1.mono ?_; rintro _ w2 ⟨rfl, hk2⟩)
  have hk3 := hk2.andAlloc (.cells #[.int .i64 0, .int .i64 0, .int .i64 0] 31)
  have b3 := heap_alloc_new w2 (.cells #[.int .i64 0, .int .i64 0, .int .i64 0] 31)
  obtain ⟨w3, hw3⟩ : ∃ w3, w3 = w2.alloc (.cells #[.int .i64 0, .int .i64 0, .int .i64 0] 31) := ⟨_, rfl⟩
  obtain ⟨X, hX⟩ : ∃ X, X = w2.heap.size := ⟨_, rfl⟩
  rw [← hw3] at hk3 b3
  rw [← hX] at b3
  have h4 := H2.out w3 hk3
  have H3 : Hid (Keeps None w w3 ∧ w3.heap[X]? = _) := ⟨hk3, b3⟩
  clear hk3 b3 hk2 h1
  rw [← hw3, ← hX]
  clear hw3 hX
  go_upto_region 3 with (go_at_call 8; refine h4.mono ?_; rintro _ w5 ⟨rfl, hk5⟩)
  have hal := Keeps.alloc None w5 (.cells #[.int .i64 52, .int .i64 0, .int .i64 0] 31)
  have b5 := blk_kept (blk_kept H3.out.2 hk5 (fun f => f)) hal (fun f => f)
  have b6 := heap_alloc_new w5 (.cells #[.int .i64 52, .int .i64 0, .int .i64 0] 31)
  obtain ⟨w6, hw6⟩ : ∃ w6, w6 = w5.alloc (.cells #[.int .i64 52, .int .i64 0, .int .i64 0] 31) := ⟨_, rfl⟩
  obtain ⟨Y, hY⟩ : ∃ Y, Y = w5.heap.size := ⟨_, rfl⟩
  rw [← hw6] at b5 b6 hal
  rw [← hY] at b6
  have HK : Hid (Keeps None w w6) := (H3.out.1.trans hk5 (fun _ f _ => f)).trans hal (fun _ f _ => f)
  have c0 := (cell_of_heap b5 0).trans rfl
  have c1 := (cell_of_heap b5 1).trans rfl
  have c2 := (cell_of_heap b5 2).trans rfl
  have e0 := (cell_of_heap b6 0).trans rfl
  have e1 := (cell_of_heap b6 1).trans rfl
  have e2 := (cell_of_heap b6 2).trans rfl
  rw [← hw6, ← hY]
  clear hw6 hY hal b5 b6 hk5
  go_wp2_with fail
  go_ret
  exact ⟨rfl, HK.out⟩
end Go.Proofs.YtcjmceedkfjbeaaDoor
