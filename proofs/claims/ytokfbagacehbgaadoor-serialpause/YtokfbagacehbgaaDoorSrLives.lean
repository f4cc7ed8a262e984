import Derived.Test.YtokfbagacehbgaaDoorSrTree
import Derived.Laws.StructEq
/-! The statements' 'lives'. -/
namespace Go.Proofs.YtokfbagacehbgaaDoor
set_option linter.unusedVariables false
set_option maxRecDepth 20000
open Go.RowKit Go.HeapKit Go.PlainOps

def liveF (c : Int) : Fn := ⟨0, 1, 0, [⟨0, 0, 0, 0, c⟩, ⟨9, 0, 0, 0, 0⟩]⟩
theorem live_check (c : Int) : checkV [liveF c] = (0, 0, 0) := by rfl
theorem live_eval (c : Int) : evalV [liveF c] [] 2 = (⟨c, 2, 1, 1, 2⟩, 0) := by
  have h1 : refusedV [liveF c] [] 2 = 0 := by
    unfold refusedV
    rw [live_check]
    rfl
  unfold evalV
  rw [h1]
  rfl
theorem live_tree (c : Int) : treeV [liveF c] [] 2 = [⟨-1, 0, 0, 2, 1, 0, c⟩] := by rfl
theorem live_ok (c : Int) (hc : okI c) : ∀ f ∈ [liveF c], f.Ok := by
  intro f hf
  simp at hf
  subst hf
  refine ⟨by simp [liveF, okI], by simp [liveF, okI], by simp [liveF, okI], fun i hi => ?_⟩
  simp [liveF] at hi
  rcases hi with rfl | rfl
  · exact ⟨by simp [okI], by simp [okI], by simp [okI], by simp [okI], hc⟩
  · exact ⟨by simp [okI], by simp [okI], by simp [okI], by simp [okI], by simp [okI]⟩
def liveC (c : Int) : Array Value := #[.int .i64 0, .int .i64 0, .int .i64 0, .int .i64 0, .int .i64 c, .int .i64 9, .int .i64 0, .int .i64 0, .int .i64 0, .int .i64 0]
theorem live_seen (w : World) (g h : Nat) (c : Int) (b1 : w.heap[g]? = some (.cells (liveC c) 37 (0, 0))) (b2 : w.heap[h]? = some (.cells #[.int .i64 0, .int .i64 1, .int .i64 0, .slice (some ⟨g, 0, none⟩) 2 2] 35 (0, 0))) : SeenF w (some ⟨h, 0, none⟩) 1 [liveF c] := by
  refine ⟨rfl, fun _ => ⟨_, 0, rfl, blk_lt b2, fun k f hf => ?_⟩⟩
  cases k with
  | succ k => simp at hf
  | zero =>
    simp at hf
    subst hf
    refine ⟨some ⟨g, 0, none⟩, 2, ⟨(cell_of_heap b2 0).trans rfl, (cell_of_heap b2 1).trans rfl, (cell_of_heap b2 2).trans rfl, (cell_of_heap b2 3).trans rfl, ⟨rfl, fun _ => ⟨_, 0, rfl, blk_lt b1, fun j i hi => ?_⟩⟩⟩⟩
    match j, hi with
    | 0, hi =>
      simp [liveF] at hi
      subst hi
      exact ⟨(cell_of_heap b1 0).trans rfl, (cell_of_heap b1 1).trans rfl, (cell_of_heap b1 2).trans rfl, (cell_of_heap b1 3).trans rfl, (cell_of_heap b1 4).trans rfl⟩
    | 1, hi =>
      simp [liveF] at hi
      subst hi
      exact ⟨(cell_of_heap b1 5).trans rfl, (cell_of_heap b1 6).trans rfl, (cell_of_heap b1 7).trans rfl, (cell_of_heap b1 8).trans rfl, (cell_of_heap b1 9).trans rfl⟩
    | j + 2, hi => simp [liveF] at hi
theorem seen_nil (w : World) : SeenA w none 0 [] := ⟨rfl, by omega, fun x hx => by simp at hx, fun h => by omega⟩
set_option maxHeartbeats 2000000 in
theorem lives_any (c : Int) (hc : okI c) (w : World) (hT : Tabs w) : Calls Tryd.prog 5 #[.int .i64 c] w fun e w' => e = .returned (.bool true) ∧ Keeps None w w' := by
  obtain ⟨B, hB⟩ : ∃ B, B = w.heap.size := ⟨_, rfl⟩
  obtain ⟨b1, b2, b3⟩ := three_boxes w (liveC c) #[.int .i64 0, .int .i64 1, .int .i64 0, .slice (some ⟨B, 0, none⟩) 2 2] #[.slice (some ⟨B + 1, 0, none⟩) 1 1] 37 35 24
  have hk3 : Keeps None w (((w.alloc (.cells (liveC c) 37)).alloc (.cells #[.int .i64 0, .int .i64 1, .int .i64 0, .slice (some ⟨B, 0, none⟩) 2 2] 35)).alloc (.cells #[.slice (some ⟨B + 1, 0, none⟩) 1 1] 24)) := (((Keeps.refl _ w).andAlloc _).andAlloc _).andAlloc _
  obtain ⟨W, hW⟩ : ∃ W, W = ((w.alloc (.cells (liveC c) 37)).alloc (.cells #[.int .i64 0, .int .i64 1, .int .i64 0, .slice (some ⟨B, 0, none⟩) 2 2] 35)).alloc (.cells #[.slice (some ⟨B + 1, 0, none⟩) 1 1] 24) := ⟨_, rfl⟩
  rw [← hW, ← hB] at b1 b2 b3
  rw [← hW] at hk3
  have hs := live_seen W B (B + 1) c b1 b2
  have hev := eval_any (some ⟨B + 1, 0, none⟩) 1 1 [liveF c] none 0 0 [] 2 W (hT.more hk3) hs (live_ok c hc) (seen_nil W) (by omega) (by simp [okI])
  have htr := fun wx (hx : Keeps None W wx) => tree_any (some ⟨B + 1, 0, none⟩) 1 1 [liveF c] none 0 0 [] 2 wx ((hT.more hk3).more hx) (hs.more hx) (live_ok c hc) (seen_nil wx) (by omega) (by simp [okI])
  rw [live_eval] at hev
  unfold valC at hev
  have HT : Hid (∀ wx, Keeps None W wx → Calls Tryd.prog 12 #[.agg #[.slice (some ⟨B + 1, 0, none⟩) 1 1], .slice none 0 0, .int .i64 2] wx fun e w' => ∃ g cap, e = .returned (.tuple #[.slice (some ⟨g, 0, none⟩) 1 cap, .int .i64 0]) ∧ Keeps None wx w' ∧ w'.cell? ⟨g, 0, none⟩ = some (.int .i64 (-1)) ∧ w'.cell? ⟨g, 1, none⟩ = some (.int .i64 0) ∧ w'.cell? ⟨g, 2, none⟩ = some (.int .i64 0) ∧ w'.cell? ⟨g, 3, none⟩ = some (.int .i64 2) ∧ w'.cell? ⟨g, 4, none⟩ = some (.int .i64 1) ∧ w'.cell? ⟨g, 5, none⟩ = some (.int .i64 0) ∧ w'.cell? ⟨g, 6, none⟩ = some (.int .i64 c)) := by
    intro wx hx
    refine (htr wx hx).mono ?_
    rintro e w' ⟨nv, he, hk, hg, _, hrow⟩
    have hrow := hrow (by rw [live_eval])
    rw [live_eval] at he
    rw [live_tree] at hrow
    rcases hrow.2 with ⟨_, h0⟩ | ⟨g, cap, cur, rfl, _, hb, hn, _, hcs, htk⟩
    · simp at h0
    · refine ⟨g, cap, he, hk, ?_⟩
      have hcell : ∀ j v, (ndVals [⟨-1, 0, 0, 2, 1, 0, c⟩])[j]? = some v → w'.cell? ⟨g, j, none⟩ = some v := by
        intro j v hv
        rw [blk_cell hb, ← Array.getElem?_toList]
        rw [← htk, List.getElem?_take] at hv
        split at hv
        · exact hv
        · cases hv
      exact ⟨hcell 0 _ rfl, hcell 1 _ rfl, hcell 2 _ rfl, hcell 3 _ rfl, hcell 4 _ rfl, hcell 5 _ rfl, hcell 6 _ rfl⟩
  have d0 : W.cell? ⟨B + 2, 0, none⟩ = some (.slice (some ⟨B + 1, 0, none⟩) 1 1) := (blk_cell b3 0).trans rfl
  have HX : Hid (Keeps None w W) := hk3
  unfold liveC at hW
  clear htr hs b1 b2 b3 hk3 hT hc
  go_enter Tryd.func5, Tryd.ntmps5
  rw [hB] at hW
  go_upto_region 2 with fail
  rw [← hW, ← hB]
  clear hW hB
  go_upto_region 3 with (go_at_call 4; refine hev.mono ?_; rintro _ w2 ⟨rfl, hk2⟩)
  have e0 := hk2.cell d0 (fun f => f)
  have hal := Keeps.alloc None w2 (.cells #[.int .i64 c, .int .i64 2, .int .i64 1, .int .i64 1, .int .i64 2] 27)
  have bV := heap_alloc_new w2 (.cells #[.int .i64 c, .int .i64 2, .int .i64 1, .int .i64 1, .int .i64 2] 27)
  obtain ⟨V, hV⟩ : ∃ V, V = w2.alloc (.cells #[.int .i64 c, .int .i64 2, .int .i64 1, .int .i64 1, .int .i64 2] 27) := ⟨_, rfl⟩
  obtain ⟨G, hG⟩ : ∃ G, G = w2.heap.size := ⟨_, rfl⟩
  rw [← hV] at hal bV
  rw [← hG] at bV
  rw [← hV, ← hG]
  have f0 := hal.cell e0 (fun f => f)
  have htr := HT.out V (hk2.trans hal (fun _ f _ => f))
  have HV : Hid (Keeps None w V ∧ V.heap[G]? = _) := ⟨(HX.out.trans hk2 (fun _ f _ => f)).trans hal (fun _ f _ => f), bV⟩
  clear hV hG hal bV hk2 e0 d0 hev HT
  go_upto_region 4 with (go_at_call 12; refine htr.mono ?_; rintro _ w4 ⟨g, cap, rfl, hk4, y0, y1, y2, y3, y4, y5, y6⟩)
  have b4 := blk_kept HV.out.2 hk4 (fun f => f)
  have x0 := (blk_cell b4 0).trans rfl
  have x1 := (blk_cell b4 1).trans rfl
  have x2 := (blk_cell b4 2).trans rfl
  have x3 := (blk_cell b4 3).trans rfl
  have x4 := (blk_cell b4 4).trans rfl
  have HK : Hid (Keeps None w w4) := HV.out.1.trans hk4 (fun _ f _ => f)
  clear b4 hk4 htr f0
  go_wp2_with fail
  go_ret
  exact ⟨rfl, HK.out⟩
end Go.Proofs.YtokfbagacehbgaaDoor
