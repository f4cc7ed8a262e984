import Derived.Test.YtocfcdnbielbiaaDoorSrLit
import Derived.Test.YtocfcdnbielbiaaDoorSrSizes
/-! SerialOps: the walk. -/
namespace Go.Proofs.YtocfcdnbielbiaaDoor
set_option linter.unusedVariables false
set_option maxRecDepth 20000
open Go.RowKit Go.HeapKit Go.PlainOps
def opF (op : Int) : Fn := ⟨2, 2, 0, [⟨2, 0, 0, 1, op⟩, ⟨9, 0, 0, 0, 0⟩]⟩
theorem op_check (op : Int) (h0 : 0 ≤ op) (h1 : op < 16) : checkV [opF op] = (0, 0, 0) := by
  have hc : op = 0 ∨ op = 1 ∨ op = 2 ∨ op = 3 ∨ op = 4 ∨ op = 5 ∨ op = 6 ∨ op = 7 ∨ op = 8 ∨ op = 9 ∨ op = 10 ∨ op = 11 ∨ op = 12 ∨ op = 13 ∨ op = 14 ∨ op = 15 := by omega
  rcases hc with rfl | rfl | rfl | rfl | rfl | rfl | rfl | rfl | rfl | rfl | rfl | rfl | rfl | rfl | rfl | rfl <;> rfl
theorem op_eval (op a b : Int) (h0 : 0 ≤ op) (h1 : op < 16) : evalV [opF op] [a, b] 2 = (⟨workV op a b, 2, 1, 1, 2⟩, 0) := by
  have hr : refusedV [opF op] [a, b] 2 = 0 := by
    unfold refusedV
    rw [op_check op h0 h1]
    rfl
  unfold evalV
  rw [hr]
  rfl
theorem op_bad (op a b : Int) (h : op < 0 ∨ 16 ≤ op) : evalV [opF op] [a, b] 2 = (zeroVal, 60) := by
  have hf : fitsV false [opF op] (opF op) ⟨2, 0, 0, 1, op⟩ = false := by
    unfold fitsV
    have : (decide (op < 0) || decide (16 ≤ op)) = true := by simpa using h
    simp [fK, belowV, this]
  have hc : (checkV [opF op]).1 = 52 := by
    have h1 : firstAt (fun _ i => if fitsV false [opF op] (opF op) i = true then none else some ()) (opF op).code 0 = some (0, ()) := by
      unfold opF at hf ⊢
      simp only [firstAt, hf]
      rfl
    have h2 : codeFault false [opF op] (opF op) = some (52, 0) := by
      unfold codeFault
      rw [h1]
      rfl
    have h3 : firstAt (fun _ f => codeFault false [opF op] f) [opF op] 0 = some (0, (52, 0)) := by
      simp only [firstAt, h2]
    unfold checkV
    rw [if_neg (by simp)]
    rw [show firstAt (fun _ f => if shapeV f = true then none else some ()) [opF op] 0 = none from rfl]
    simp only [h3]
  have hr : refusedV [opF op] [a, b] 2 = 60 := by
    unfold refusedV
    rw [if_pos (by rw [hc]; decide)]
  unfold evalV
  rw [hr]
  rfl
theorem op_ok (op : Int) (hc : okI op) : ∀ f ∈ [opF op], f.Ok := by
  intro f hf
  simp at hf
  subst hf
  refine ⟨by simp [opF, okI], by simp [opF, okI], by simp [opF, okI], fun i hi => ?_⟩
  simp [opF] at hi
  rcases hi with rfl | rfl
  · exact ⟨by simp [okI], by simp [okI], by simp [okI], by simp [okI], hc⟩
  · exact ⟨by simp [okI], by simp [okI], by simp [okI], by simp [okI], by simp [okI]⟩
set_option maxHeartbeats 2000000 in
theorem ops_walk (op a b : Int) (w : World) (hT : Tabs w) (ho : okI op) (ha : okI a) (hb : okI b) :
    Calls Tryd.prog 7 #[.int .i64 op, .int .i64 a, .int .i64 b] w fun e w' => e = .returned (.bool true) ∧ Keeps None w w' := by
  obtain ⟨B, hB⟩ : ∃ B, B = w.heap.size := ⟨_, rfl⟩
  obtain ⟨b1, b2, b3⟩ := three_boxes w (codeC (opF op).code).toArray #[.int .i64 2, .int .i64 2, .int .i64 0, .slice (some ⟨B, 0, none⟩) 2 2] #[.slice (some ⟨B + 1, 0, none⟩) 1 1] 46 44 24
  have hk3 : Keeps None w (((w.alloc (.cells (codeC (opF op).code).toArray 46)).alloc (.cells #[.int .i64 2, .int .i64 2, .int .i64 0, .slice (some ⟨B, 0, none⟩) 2 2] 44)).alloc (.cells #[.slice (some ⟨B + 1, 0, none⟩) 1 1] 24)) := (((Keeps.refl _ w).andAlloc _).andAlloc _).andAlloc _
  obtain ⟨W, hW⟩ : ∃ W, W = ((w.alloc (.cells (codeC (opF op).code).toArray 46)).alloc (.cells #[.int .i64 2, .int .i64 2, .int .i64 0, .slice (some ⟨B, 0, none⟩) 2 2] 44)).alloc (.cells #[.slice (some ⟨B + 1, 0, none⟩) 1 1] 24) := ⟨_, rfl⟩
  have sW : W.heap.size = B + 3 := by rw [hW, hB]; simp
  rw [← hW, ← hB] at b1 b2 b3
  rw [← hW] at hk3
  have hs := seen_one (f := opF op) (cc := 2) b1 b2
  have hal := Keeps.alloc None W (.cells (ints [a, b]).toArray 2)
  have bA := heap_alloc_new W (.cells (ints [a, b]).toArray 2)
  rw [sW] at bA
  have hev := eval_any (some ⟨B + 1, 0, none⟩) 1 1 [opF op] (some ⟨B + 3, 0, none⟩) 2 2 [a, b] 2 (W.alloc (.cells (ints [a, b]).toArray 2)) ((hT.more hk3).more hal) (hs.more hal) (op_ok op ho) (seen_args (l := [a, b]) bA (fun x hx => by simp at hx; rcases hx with rfl | rfl; exact ha; exact hb) (by simp)) (by omega) (by simp [okI])
  have d0 : W.cell? ⟨B + 2, 0, none⟩ = some (.slice (some ⟨B + 1, 0, none⟩) 1 1) := (blk_cell b3 0).trans rfl
  have HX : Hid (Keeps None w (W.alloc (.cells (ints [a, b]).toArray 2))) := hk3.trans hal (fun _ f _ => f)
  have HS : Hid (W.heap.size = B + 3) := sW
  change Calls _ _ _ (W.alloc (.cells #[.int .i64 a, .int .i64 b] 2)) _ at hev
  change W = ((w.alloc (.cells #[.int .i64 2, .int .i64 0, .int .i64 0, .int .i64 1, .int .i64 op, .int .i64 9, .int .i64 0, .int .i64 0, .int .i64 0, .int .i64 0] 46)).alloc (.cells #[.int .i64 2, .int .i64 2, .int .i64 0, .slice (some ⟨B, 0, none⟩) 2 2] 44)).alloc (.cells #[.slice (some ⟨B + 1, 0, none⟩) 1 1] 24) at hW
  by_cases hr : 0 ≤ op ∧ op < 16
  · rw [op_eval op a b hr.1 hr.2] at hev
    unfold valC at hev
    simp only at hev
    have hap := fun wx => apply_any op a b wx (by simp [isOpV, hr.1, hr.2])
    generalize workV op a b = x at *
    have HAP : Hid _ := hap
    have f1 : ¬ op < 0 := by omega
    have f2 : ¬ 16 ≤ op := by omega
    clear hap hs hal bA sW b1 b2 b3 hk3 hT ho ha hb hr
    go_enter Tryd.func7, Tryd.ntmps7
    rw [hB] at hW
    go_upto_region 2 with fail
    rw [← hW, ← hB]
    clear hW hB
    go_upto_region 3 with (go_at_call 10; rw [HS.out]; refine hev.mono ?_; rintro _ w2 ⟨rfl, hk2⟩)
    have bV := heap_alloc_new w2 (.cells #[.int .i64 x, .int .i64 2, .int .i64 1, .int .i64 1, .int .i64 2] 28)
    have hal := Keeps.alloc None w2 (.cells #[.int .i64 x, .int .i64 2, .int .i64 1, .int .i64 1, .int .i64 2] 28)
    obtain ⟨U, hU⟩ : ∃ U, U = w2.alloc (.cells #[.int .i64 x, .int .i64 2, .int .i64 1, .int .i64 1, .int .i64 2] 28) := ⟨_, rfl⟩
    obtain ⟨G, hG⟩ : ∃ G, G = w2.heap.size := ⟨_, rfl⟩
    rw [← hU] at hal bV
    rw [← hG] at bV
    rw [← hU, ← hG]
    have x0 : U.cell? ⟨G, 0, none⟩ = some (.int .i64 x) := (blk_cell bV 0).trans rfl
    have x1 : U.cell? ⟨G, 1, none⟩ = some (.int .i64 2) := (blk_cell bV 1).trans rfl
    have x2 : U.cell? ⟨G, 2, none⟩ = some (.int .i64 1) := (blk_cell bV 2).trans rfl
    have x3 : U.cell? ⟨G, 3, none⟩ = some (.int .i64 1) := (blk_cell bV 3).trans rfl
    have x4 : U.cell? ⟨G, 4, none⟩ = some (.int .i64 2) := (blk_cell bV 4).trans rfl
    have HK : Hid (Keeps None w U) := (HX.out.trans hk2 (fun _ f _ => f)).trans hal (fun _ f _ => f)
    clear hU hG bV hal hk2 hev d0
    go_wp2_with (go_at_call 20; refine (HAP.out _).mono ?_; rintro _ w4 ⟨rfl, hw4⟩; have hw5 := hw4.symm; subst hw5)
    go_ret
    exact ⟨rfl, HK.out⟩
  · have hr2 : op < 0 ∨ 16 ≤ op := by omega
    rw [op_bad op a b hr2] at hev
    unfold valC zeroVal at hev
    simp only at hev
    have hap := fun wx => apply_not op a b wx (by simp [isOpV]; omega)
    have HAP : Hid _ := hap
    have HR : Hid _ := hr2
    clear hap hs hal bA sW b1 b2 b3 hk3 hT ho ha hb hr hr2
    go_enter Tryd.func7, Tryd.ntmps7
    rw [hB] at hW
    go_upto_region 2 with fail
    rw [← hW, ← hB]
    clear hW hB
    go_upto_region 3 with (go_at_call 10; rw [HS.out]; refine hev.mono ?_; rintro _ w2 ⟨rfl, hk2⟩)
    have bV := heap_alloc_new w2 (.cells #[.int .i64 0, .int .i64 0, .int .i64 0, .int .i64 0, .int .i64 0] 28)
    have hal := Keeps.alloc None w2 (.cells #[.int .i64 0, .int .i64 0, .int .i64 0, .int .i64 0, .int .i64 0] 28)
    obtain ⟨U, hU⟩ : ∃ U, U = w2.alloc (.cells #[.int .i64 0, .int .i64 0, .int .i64 0, .int .i64 0, .int .i64 0] 28) := ⟨_, rfl⟩
    obtain ⟨G, hG⟩ : ∃ G, G = w2.heap.size := ⟨_, rfl⟩
    rw [← hU] at hal bV
    rw [← hG] at bV
    rw [← hU, ← hG]
    have x0 : U.cell? ⟨G, 0, none⟩ = some (.int .i64 0) := (blk_cell bV 0).trans rfl
    have x1 : U.cell? ⟨G, 1, none⟩ = some (.int .i64 0) := (blk_cell bV 1).trans rfl
    have x2 : U.cell? ⟨G, 2, none⟩ = some (.int .i64 0) := (blk_cell bV 2).trans rfl
    have x3 : U.cell? ⟨G, 3, none⟩ = some (.int .i64 0) := (blk_cell bV 3).trans rfl
    have x4 : U.cell? ⟨G, 4, none⟩ = some (.int .i64 0) := (blk_cell bV 4).trans rfl
    have HK : Hid (Keeps None w U) := (HX.out.trans hk2 (fun _ f _ => f)).trans hal (fun _ f _ => f)
    clear hU hG bV hal hk2 hev d0
    rcases HR.out with f1 | f1
    · go_wp2_with (go_at_call 20; refine (HAP.out _).mono ?_; rintro _ w4 ⟨rfl, hw4⟩; have hw5 := hw4.symm; subst hw5)
      go_ret
      exact ⟨rfl, HK.out⟩
    · have f2 : ¬ op < 0 := by omega
      go_wp2_with (go_at_call 20; refine (HAP.out _).mono ?_; rintro _ w4 ⟨rfl, hw4⟩; have hw5 := hw4.symm; subst hw5)
      go_ret
      exact ⟨rfl, HK.out⟩
end Go.Proofs.YtocfcdnbielbiaaDoor
