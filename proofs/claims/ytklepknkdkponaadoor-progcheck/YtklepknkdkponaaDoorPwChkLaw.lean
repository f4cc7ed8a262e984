import Derived.Test.YtklepknkdkponaaDoorPwChk
/-! ProgCheck. -/
namespace Go.Proofs.YtklepknkdkponaaDoor
set_option linter.unusedVariables false
set_option maxRecDepth 20000
open Go.RowKit Go.HeapKit

set_option maxHeartbeats 2000000 in
theorem progCheck_walk (a : Option Addr) (n c : Nat) (l : List Fn) (w : World) (hT : Tabs w) (hS : SeenF w a n l) (hok : ∀ f ∈ l, f.Ok) (hr : n * 48 ≤ 140737488351232 ∧ ∀ f ∈ l, f.code.length * 40 ≤ 140737488351232) :
    Calls Tryd.prog 3 #[.agg #[.slice a n c]] w fun e w' => e = .returned (.bool true) ∧ Keeps None w w' := by
  obtain ⟨hr, hrc⟩ := hr
  have hn := hS.len
  obtain ⟨e2, f2, a2, h2⟩ : ∃ e2 f2 a2, checkF l = .agg #[.int .i64 e2, .int .i64 f2, .int .i64 a2] := ⟨_, _, _, rfl⟩
  have hq2 := eqFault' e2 f2 a2
  have b1 := heap_alloc_new w (.cells #[.slice a n c] 24)
  have k1 := Keeps.alloc None w (.cells #[.slice a n c] 24)
  obtain ⟨B, hB⟩ : ∃ B, B = w.heap.size := ⟨_, rfl⟩
  obtain ⟨w1, hw1⟩ : ∃ w1, w1 = w.alloc (.cells #[.slice a n c] 24) := ⟨_, rfl⟩
  rw [← hw1] at b1 k1
  rw [← hB] at b1
  have hrf := rcheck_any a n c l w1 (hS.more k1) hok
  rw [h2] at hrf
  have HC : Hid (Tabs w ∧ SeenF w a n l ∧ (∀ f ∈ l, f.Ok) ∧ (∀ f ∈ l, f.code.length * 40 ≤ 140737488351232) ∧ n = l.length ∧ checkF l = .agg #[.int .i64 e2, .int .i64 f2, .int .i64 a2]) := ⟨hT, hS, hok, hrc, hn, h2⟩
  have H1 : Hid (w1.heap[B]? = some (.cells #[.slice a n c] 24 (0, 0)) ∧ Keeps None w w1) := ⟨b1, k1⟩
  have d0 : w1.cell? ⟨B, 0, none⟩ = some (.slice a n c) := (cell_of_heap b1 0).trans rfl
  clear hT hS hok hrc h2 b1 k1 hn
  go_enter Tryd.func3, Tryd.ntmps3
  go_upto_region 1 with fail
  rw [← hw1, ← hB]
  clear hw1 hB
  go_wp2_with fail
  refine hrf.mono ?_
  rintro e w2 ⟨rfl, hk2⟩
  clear d0 hrf
  have k3 := Keeps.alloc None w2 (.cells #[.int .i64 e2, .int .i64 f2, .int .i64 a2] 27)
  have b3 := heap_alloc_new w2 (.cells #[.int .i64 e2, .int .i64 f2, .int .i64 a2] 27)
  obtain ⟨X1, hX1⟩ : ∃ X1, X1 = w2.heap.size := ⟨_, rfl⟩
  rw [← hX1] at b3
  have k13 := hk2.trans k3 (fun _ f _ => f)
  have H3 : Hid (Keeps None w (w2.alloc (.cells #[.int .i64 e2, .int .i64 f2, .int .i64 a2] 27)) ∧ (w2.alloc (.cells #[.int .i64 e2, .int .i64 f2, .int .i64 a2] 27)).heap[X1]? = some (.cells #[.int .i64 e2, .int .i64 f2, .int .i64 a2] 27 (0, 0)) ∧ (w2.alloc (.cells #[.int .i64 e2, .int .i64 f2, .int .i64 a2] 27)).heap[B]? = some (.cells #[.slice a n c] 24 (0, 0))) := ⟨H1.out.2.trans k13 (fun _ f _ => f), b3, blk_kept H1.out.1 k13 (fun f => f)⟩
  clear k3 b3 k13 hk2
  go_upto_region 2 with fail
  rw [← hX1]
  clear hX1
  generalize w2.alloc (.cells #[.int .i64 e2, .int .i64 f2, .int .i64 a2] 27) = w3 at *
  have d0 : w3.cell? ⟨B, 0, none⟩ = some (.slice a n c) := (cell_of_heap H3.out.2.2 0).trans rfl
  have hwr := wrap_any a n c l w3 (HC.out.2.1.more H3.out.1) hr HC.out.2.2.2.1
  go_wp2_with fail
  refine hwr.mono ?_
  rintro e w4 ⟨G, cv, cs, rfl, hg4, hk4⟩
  clear d0 hwr
  obtain ⟨xa, xm, xc, hcv⟩ : ∃ xa xm xc, cv = .slice xa xm xc := by
    rcases hg4.codes.2 with ⟨rfl, h0⟩ | ⟨g, cap, cur, rfl, _⟩
    · exact ⟨none, 0, 0, rfl⟩
    · exact ⟨_, _, cap, rfl⟩
  subst hcv
  have k5 := Keeps.alloc None w4 (.cells #[.slice (some ⟨G, 0, none⟩) n (n + 1), .slice (some ⟨G, 0, none⟩) (n + 1) (n + 1), .slice xa xm xc] 31)
  have b5 := heap_alloc_new w4 (.cells #[.slice (some ⟨G, 0, none⟩) n (n + 1), .slice (some ⟨G, 0, none⟩) (n + 1) (n + 1), .slice xa xm xc] 31)
  obtain ⟨D, hD⟩ : ∃ D, D = w4.heap.size := ⟨_, rfl⟩
  rw [← hD] at b5
  have k45 := hk4.trans k5 (fun _ f _ => f)
  have H5 : Hid (IsGift w3.heap.size (w4.alloc (.cells #[.slice (some ⟨G, 0, none⟩) n (n + 1), .slice (some ⟨G, 0, none⟩) (n + 1) (n + 1), .slice xa xm xc] 31)) G (.slice xa xm xc) cs l [oddFc] ∧ Keeps None w3 (w4.alloc (.cells #[.slice (some ⟨G, 0, none⟩) n (n + 1), .slice (some ⟨G, 0, none⟩) (n + 1) (n + 1), .slice xa xm xc] 31)) ∧ (w4.alloc (.cells #[.slice (some ⟨G, 0, none⟩) n (n + 1), .slice (some ⟨G, 0, none⟩) (n + 1) (n + 1), .slice xa xm xc] 31)).heap[D]? = some (.cells #[.slice (some ⟨G, 0, none⟩) n (n + 1), .slice (some ⟨G, 0, none⟩) (n + 1) (n + 1), .slice xa xm xc] 31 (0, 0))) := ⟨hg4.more k5, k45, b5⟩
  clear k5 b5 k45 hg4 hk4
  go_upto_region 3 with fail
  rw [← hD]
  clear hD
  generalize w4.alloc (.cells #[.slice (some ⟨G, 0, none⟩) n (n + 1), .slice (some ⟨G, 0, none⟩) (n + 1) (n + 1), .slice xa xm xc] 31) = w5 at *
  have d0 : w5.cell? ⟨D, 0, none⟩ = some (.slice (some ⟨G, 0, none⟩) n (n + 1)) := (cell_of_heap H5.out.2.2 0).trans rfl
  have k05 : Keeps None w w5 := H3.out.1.trans H5.out.2.1 (fun _ f _ => f)
  have hsg := H5.out.1.seen
  rw [← HC.out.2.2.2.2.1] at hsg
  have hck := fun wx (hk : Keeps None w5 wx) => check_any (some ⟨G, 0, none⟩) n (n + 1) l wx (HC.out.1.more (k05.trans hk (fun _ f _ => f))) (hsg.more hk) HC.out.2.2.1
  rw [HC.out.2.2.2.2.2] at hck
  have HCK : Hid _ := hck
  have HK5 : Hid _ := k05
  clear k05 hsg hck
  go_wp2_with fail
  refine (HCK.out w5 (Keeps.refl _ _)).mono ?_
  rintro e w6 ⟨rfl, hk6⟩
  clear d0
  have k7 := Keeps.alloc None w6 (.cells #[.int .i64 e2, .int .i64 f2, .int .i64 a2] 27)
  have b7 := heap_alloc_new w6 (.cells #[.int .i64 e2, .int .i64 f2, .int .i64 a2] 27)
  obtain ⟨X2, hX2⟩ : ∃ X2, X2 = w6.heap.size := ⟨_, rfl⟩
  rw [← hX2] at b7
  have H7 : Hid (Keeps None w5 (w6.alloc (.cells #[.int .i64 e2, .int .i64 f2, .int .i64 a2] 27)) ∧ (w6.alloc (.cells #[.int .i64 e2, .int .i64 f2, .int .i64 a2] 27)).heap[X2]? = some (.cells #[.int .i64 e2, .int .i64 f2, .int .i64 a2] 27 (0, 0))) := ⟨hk6.trans k7 (fun _ f _ => f), b7⟩
  clear k7 b7 hk6
  go_upto_region 4 with fail
  rw [← hX2]
  clear hX2
  generalize w6.alloc (.cells #[.int .i64 e2, .int .i64 f2, .int .i64 a2] 27) = w7 at *
  have d0 : w7.cell? ⟨D, 0, none⟩ = some (.slice (some ⟨G, 0, none⟩) n (n + 1)) := (cell_of_heap (blk_kept H5.out.2.2 H7.out.1 (fun f => f)) 0).trans rfl
  go_wp2_with fail
  refine (HCK.out w7 H7.out.1).mono ?_
  rintro e w8 ⟨rfl, hk8⟩
  clear d0
  have k9 := Keeps.alloc None w8 (.cells #[.int .i64 e2, .int .i64 f2, .int .i64 a2] 27)
  have b9 := heap_alloc_new w8 (.cells #[.int .i64 e2, .int .i64 f2, .int .i64 a2] 27)
  obtain ⟨X3, hX3⟩ : ∃ X3, X3 = w8.heap.size := ⟨_, rfl⟩
  rw [← hX3] at b9
  have H9 : Hid (Keeps None w7 (w8.alloc (.cells #[.int .i64 e2, .int .i64 f2, .int .i64 a2] 27)) ∧ (w8.alloc (.cells #[.int .i64 e2, .int .i64 f2, .int .i64 a2] 27)).heap[X3]? = some (.cells #[.int .i64 e2, .int .i64 f2, .int .i64 a2] 27 (0, 0))) := ⟨hk8.trans k9 (fun _ f _ => f), b9⟩
  clear k9 b9 hk8
  go_upto_region 5 with fail
  rw [← hX3]
  clear hX3
  generalize w8.alloc (.cells #[.int .i64 e2, .int .i64 f2, .int .i64 a2] 27) = w9 at *
  have k79 := H9.out.1
  have k59 := H7.out.1.trans k79 (fun _ f _ => f)
  have k39 := H5.out.2.1.trans k59 (fun _ f _ => f)
  have k09 := H3.out.1.trans k39 (fun _ f _ => f)
  have bX1 := blk_kept H3.out.2.1 k39 (fun f => f)
  have bB := blk_kept H3.out.2.2 k39 (fun f => f)
  have bD := blk_kept H5.out.2.2 k59 (fun f => f)
  have bX2 := blk_kept H7.out.2 k79 (fun f => f)
  have c0 : w9.cell? ⟨X1, 0, none⟩ = some (.int .i64 e2) := (cell_of_heap bX1 0).trans rfl
  have c1 : w9.cell? ⟨X1, 1, none⟩ = some (.int .i64 f2) := (cell_of_heap bX1 1).trans rfl
  have c2 : w9.cell? ⟨X1, 2, none⟩ = some (.int .i64 a2) := (cell_of_heap bX1 2).trans rfl
  have c3 : w9.cell? ⟨X2, 0, none⟩ = some (.int .i64 e2) := (cell_of_heap bX2 0).trans rfl
  have c4 : w9.cell? ⟨X2, 1, none⟩ = some (.int .i64 f2) := (cell_of_heap bX2 1).trans rfl
  have c5 : w9.cell? ⟨X2, 2, none⟩ = some (.int .i64 a2) := (cell_of_heap bX2 2).trans rfl
  have c6 : w9.cell? ⟨X3, 0, none⟩ = some (.int .i64 e2) := (cell_of_heap H9.out.2 0).trans rfl
  have c7 : w9.cell? ⟨X3, 1, none⟩ = some (.int .i64 f2) := (cell_of_heap H9.out.2 1).trans rfl
  have c8 : w9.cell? ⟨X3, 2, none⟩ = some (.int .i64 a2) := (cell_of_heap H9.out.2 2).trans rfl
  have g0 : w9.cell? ⟨D, 0, none⟩ = some (.slice (some ⟨G, 0, none⟩) n (n + 1)) := (cell_of_heap bD 0).trans rfl
  have g1 : w9.cell? ⟨D, 1, none⟩ = some (.slice (some ⟨G, 0, none⟩) (n + 1) (n + 1)) := (cell_of_heap bD 1).trans rfl
  have g2 : w9.cell? ⟨D, 2, none⟩ = some (.slice xa xm xc) := (cell_of_heap bD 2).trans rfl
  have p0 : w9.cell? ⟨B, 0, none⟩ = some (.slice a n c) := (cell_of_heap bB 0).trans rfl
  have hun := untouched_any a n c l w9 w3.heap.size G (.slice xa xm xc) cs (HC.out.2.1.more k09) (H5.out.1.more k59) hr HC.out.2.2.2.1
  have H10 : Hid (Keeps None w w9 ∧ w9.heap[B]? = some (.cells #[.slice a n c] 24 (0, 0))) := ⟨k09, bB⟩
  clear k79 k59 k39 k09 bX1 bB bD bX2 H1 H3 H5 H7 H9
  go_wp2_with fail
  refine hun.mono ?_
  rintro e w10 ⟨rfl, hk10⟩
  have p0' : w10.cell? ⟨B, 0, none⟩ = some (.slice a n c) := hk10.cell p0 (fun f => f)
  have k010 := H10.out.1.trans hk10 (fun _ f _ => f)
  have hcp := checkPlaced_any a n c l w10 (HC.out.1.more k010) (HC.out.2.1.more k010) HC.out.2.2.1 hr HC.out.2.2.2.1
  have H11 : Hid (Keeps None w w10) := k010
  clear k010 hk10 hun
  go_wp2_with fail
  refine hcp.mono ?_
  rintro e w11 ⟨rfl, hk11⟩
  have H12 : Hid (Keeps None w w11) := H11.out.trans hk11 (fun _ f _ => f)
  clear hk11 hcp
  go_wp2_with fail
  go_ret
  exact ⟨rfl, H12.out⟩
end Go.Proofs.YtklepknkdkponaaDoor
