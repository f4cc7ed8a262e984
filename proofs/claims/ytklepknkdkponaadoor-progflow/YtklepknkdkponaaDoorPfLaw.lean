import Derived.Test.YtklepknkdkponaaDoorPfPlaced
import Derived.Test.YtklepknkdkponaaDoorPwSame
/-! ProgFlow. -/
namespace Go.Proofs.YtklepknkdkponaaDoor
set_option linter.unusedVariables false
set_option maxRecDepth 20000
open Go.RowKit Go.HeapKit

theorem eqIns' (a b c d e : Int) (w : World) : (binOp .eql 47 (.agg #[.int .i64 a, .int .i64 b, .int .i64 c, .int .i64 d, .int .i64 e]) (.agg #[.int .i64 a, .int .i64 b, .int .i64 c, .int .i64 d, .int .i64 e])).run Tryd.prog w = .ok (.bool true) w := by
  have u3 := Tryd.underlying3
  have a3 := Tryd.isAgg3
  have z3 := Tryd.sizeOf3
  have u2 := Tryd.underlying2
  have a2 := Tryd.isAgg2
  have z2 := Tryd.sizeOf2
  have hS : Tryd.prog.underlying 47 = some (.struct (Tryd.prog.fieldsOf 47)) := by kernel_rfl
  have hp : Tryd.prog.stoodInHeld 47 = false := by kernel_rfl
  rw [run_eql_struct, show (10000 : Nat) = 9999 + 1 from rfl, run_equalIn_agg w 9999 47 _ _ hS hp]
  simp only [Program.fieldsOf, Tryd.underlying47]
  go_simp
theorem odd_at0 (l : List Ins) (n : Nat) (hn : n = l.length) : (oddL l)[n]? = some (oddI 0) := by subst hn; simp [oddL]
theorem odd_at1 (l : List Ins) (n : Nat) (hn : n = l.length) : (oddL l)[n + 1]? = some (oddI 1) := by subst hn; simp [oddL]
set_option maxRecDepth 20000 in
set_option maxHeartbeats 4000000 in
theorem progFlow_walk (f : Fn) (ca : Option Addr) (n cc : Nat) (w : World) (hT : Tabs w) (hn : n = f.code.length) (hC : SeenI w ca n f.code) (hok : ∀ i ∈ f.code, i.Ok) (hr : n * 40 ≤ 140737488351232) :
    Calls Tryd.prog 4 #[.agg #[.int .i64 f.params, .int .i64 f.regs, .int .i64 f.slots, .slice ca n cc]] w fun e w' => e = .returned (.bool true) ∧ Keeps None w w' := by
  have b1 := heap_alloc_new w (.cells #[.int .i64 f.params, .int .i64 f.regs, .int .i64 f.slots, .slice ca n cc] 36)
  have k1 := Keeps.alloc None w (.cells #[.int .i64 f.params, .int .i64 f.regs, .int .i64 f.slots, .slice ca n cc] 36)
  obtain ⟨B, hB⟩ : ∃ B, B = w.heap.size := ⟨_, rfl⟩
  obtain ⟨w1, hw1⟩ : ∃ w1, w1 = w.alloc (.cells #[.int .i64 f.params, .int .i64 f.regs, .int .i64 f.slots, .slice ca n cc] 36) := ⟨_, rfl⟩
  rw [← hw1] at b1 k1
  rw [← hB] at b1
  have hN := rows_few f
  obtain ⟨N, hNe⟩ : ∃ N, N = rowsN f := ⟨_, rfl⟩
  obtain ⟨m, hme⟩ : ∃ m, m = slotsN f := ⟨_, rfl⟩
  rw [← hNe, ← hme] at hN
  have hrf := rflow_at f ca cc w1 (by rw [← hn]; exact hC.more k1)
  unfold fnV at hrf
  rw [← hn, ← hNe, ← hme] at hrf
  have HC : Hid (Tabs w ∧ SeenI w ca n f.code ∧ (∀ i ∈ f.code, i.Ok) ∧ n = f.code.length ∧ N = rowsN f ∧ m = slotsN f) := ⟨hT, hC, hok, hn, hNe, hme⟩
  have H1 : Hid (w1.heap[B]? = some (.cells #[.int .i64 f.params, .int .i64 f.regs, .int .i64 f.slots, .slice ca n cc] 36 (0, 0)) ∧ Keeps None w w1) := ⟨b1, k1⟩
  have d0 : w1.cell? ⟨B, 0, none⟩ = some (.int .i64 f.params) := (cell_of_heap b1 0).trans rfl
  have d1 : w1.cell? ⟨B, 1, none⟩ = some (.int .i64 f.regs) := (cell_of_heap b1 1).trans rfl
  have d2 : w1.cell? ⟨B, 2, none⟩ = some (.int .i64 f.slots) := (cell_of_heap b1 2).trans rfl
  have d3 : w1.cell? ⟨B, 3, none⟩ = some (.slice ca n cc) := (cell_of_heap b1 3).trans rfl
  clear hT hC hok hn hNe hme b1 k1
  go_enter Tryd.func4, Tryd.ntmps4
  go_upto_region 1 with fail
  rw [← hw1, ← hB]
  clear hw1 hB
  go_wp2_with fail
  refine hrf.mono ?_
  rintro e w3 ⟨y0, rfl, hA0, hk3, -⟩
  clear d0 d1 d2 d3 hrf
  have bB3 := blk_kept H1.out.1 hk3 (fun f => f)
  have k03 := H1.out.2.trans hk3 (fun _ f _ => f)
  have H3 : Hid (AtM w3 y0 N m (flowOf f) ∧ Keeps None w w3 ∧ w3.heap[B]? = some (.cells #[.int .i64 f.params, .int .i64 f.regs, .int .i64 f.slots, .slice ca n cc] 36 (0, 0))) := ⟨hA0, k03, bB3⟩
  have hsp := spare_any f ca cc w3 (by rw [← HC.out.2.2.2.1]; exact HC.out.2.1.more k03) (by rw [← HC.out.2.2.2.1]; exact hr) n HC.out.2.2.2.1
  clear hA0 hk3 bB3 k03
  go_upto_region 2 with fail
  have d0 : w3.cell? ⟨B, 0, none⟩ = some (.int .i64 f.params) := (cell_of_heap H3.out.2.2 0).trans rfl
  have d1 : w3.cell? ⟨B, 1, none⟩ = some (.int .i64 f.regs) := (cell_of_heap H3.out.2.2 1).trans rfl
  have d2 : w3.cell? ⟨B, 2, none⟩ = some (.int .i64 f.slots) := (cell_of_heap H3.out.2.2 2).trans rfl
  have d3 : w3.cell? ⟨B, 3, none⟩ = some (.slice ca n cc) := (cell_of_heap H3.out.2.2 3).trans rfl
  go_wp2_with fail
  refine hsp.mono ?_
  rintro e w4 ⟨G, rfl, hI4, hk4, -⟩
  clear d0 d1 d2 d3 hsp
  have k5 := Keeps.alloc None w4 (.cells #[.int .i64 f.params, .int .i64 f.regs, .int .i64 f.slots, .slice (some ⟨G, 0, none⟩) n (n + 2)] 36)
  have b5 := heap_alloc_new w4 (.cells #[.int .i64 f.params, .int .i64 f.regs, .int .i64 f.slots, .slice (some ⟨G, 0, none⟩) n (n + 2)] 36)
  obtain ⟨D, hD⟩ : ∃ D, D = w4.heap.size := ⟨_, rfl⟩
  obtain ⟨w5, hw5⟩ : ∃ w5, w5 = w4.alloc (.cells #[.int .i64 f.params, .int .i64 f.regs, .int .i64 f.slots, .slice (some ⟨G, 0, none⟩) n (n + 2)] 36) := ⟨_, rfl⟩
  rw [← hw5] at k5 b5
  rw [← hD] at b5
  have k35 := hk4.trans k5 (fun _ f _ => f)
  have hI5 := hI4.kept k5 (fun f => f)
  have k05 := H3.out.2.1.trans k35 (fun _ f _ => f)
  have hfl := fun wx (hk : Keeps None w5 wx) => flow_at f (some ⟨G, 0, none⟩) (n + 2) wx (HC.out.1.more (k05.trans hk (fun _ f _ => f))) ((hI5.kept hk (fun f => f)).seen rfl (fun k i hi => odd_first _ k i hi)) HC.out.2.2.1
  unfold fnV at hfl
  rw [← HC.out.2.2.2.1, ← HC.out.2.2.2.2.1, ← HC.out.2.2.2.2.2] at hfl
  have HFL : Hid _ := hfl
  have H5 : Hid (IsC w5 G (oddL f.code) ∧ Keeps None w w5 ∧ w5.heap[D]? = some (.cells #[.int .i64 f.params, .int .i64 f.regs, .int .i64 f.slots, .slice (some ⟨G, 0, none⟩) n (n + 2)] 36 (0, 0)) ∧ w5.heap[B]? = some (.cells #[.int .i64 f.params, .int .i64 f.regs, .int .i64 f.slots, .slice ca n cc] 36 (0, 0)) ∧ AtM w5 y0 N m (flowOf f)) := ⟨hI5, k05, b5, blk_kept H3.out.2.2 k35 (fun f => f), H3.out.1.more k35⟩
  clear k5 b5 k35 hI5 k05 hI4 hk4 hfl
  go_upto_region 3 with fail
  rw [← hw5, ← hD]
  clear hw5 hD
  have d0 : w5.cell? ⟨D, 0, none⟩ = some (.int .i64 f.params) := (cell_of_heap H5.out.2.2.1 0).trans rfl
  have d1 : w5.cell? ⟨D, 1, none⟩ = some (.int .i64 f.regs) := (cell_of_heap H5.out.2.2.1 1).trans rfl
  have d2 : w5.cell? ⟨D, 2, none⟩ = some (.int .i64 f.slots) := (cell_of_heap H5.out.2.2.1 2).trans rfl
  have d3 : w5.cell? ⟨D, 3, none⟩ = some (.slice (some ⟨G, 0, none⟩) n (n + 2)) := (cell_of_heap H5.out.2.2.1 3).trans rfl
  go_wp2_with fail
  refine (HFL.out w5 (Keeps.refl _ _)).mono ?_
  rintro e w6 ⟨y1, rfl, hA1, hk6, hl1⟩
  replace d0 := hk6.cell d0 (fun f => f)
  replace d1 := hk6.cell d1 (fun f => f)
  replace d2 := hk6.cell d2 (fun f => f)
  replace d3 := hk6.cell d3 (fun f => f)
  have H6 : Hid (AtM w6 y1 N m (flowOf f) ∧ Keeps None w5 w6 ∧ (∀ q, InM y1 N q → w5.heap.size ≤ q) ∧ (∀ q, InM y1 N q → q < w6.heap.size)) := ⟨hA1, hk6, hl1, fun q hq => hA1.lt hq⟩
  clear hA1 hk6 hl1
  go_upto_region 4 with fail
  go_wp2_with fail
  refine (HFL.out w6 H6.out.2.1).mono ?_
  rintro e w7 ⟨y2, rfl, hA2, hk7, hl2⟩
  clear d0 d1 d2 d3
  have k57 := H6.out.2.1.trans hk7 (fun _ f _ => f)
  have H7 : Hid (AtM w7 y1 N m (flowOf f) ∧ AtM w7 y2 N m (flowOf f) ∧ AtM w7 y0 N m (flowOf f) ∧ Keeps None w5 w7 ∧ (∀ q, InM y2 N q → w6.heap.size ≤ q)) := ⟨H6.out.1.more hk7, hA2, H5.out.2.2.2.2.more k57, k57, hl2⟩
  clear hA2 hk7 hl2 k57
  have hs1 := sameRows_at y1 y0 N m _ w7 hN.1 hN.2 H7.out.1 H7.out.2.2.1
  go_upto_region 5 with fail
  go_wp2_with fail
  refine hs1.mono ?_
  rintro e w8 ⟨rfl, hk8⟩
  clear hs1
  have hs2 := sameRows_at y2 y0 N m _ w8 hN.1 hN.2 (H7.out.2.1.more hk8) (H7.out.2.2.1.more hk8)
  have H8 : Hid (Keeps None w7 w8) := hk8
  clear hk8
  go_wp2_with fail
  refine hs2.mono ?_
  rintro e w9 ⟨rfl, hk9⟩
  clear hs2
  have k79 := H8.out.trans hk9 (fun _ f _ => f)
  have hf1 := fill_at y1 N m 1000 _ (by omega) w9 hN.1 hN.2 (H7.out.1.more k79)
  have H9 : Hid (Keeps None w5 w9 ∧ AtM w9 y2 N m (flowOf f)) := ⟨H7.out.2.2.2.1.trans k79 (fun _ f _ => f), H7.out.2.1.more k79⟩
  clear k79 hk9
  go_upto_region 7 with fail
  go_wp2_with fail
  refine hf1.mono ?_
  rintro e w10 ⟨rfl, hA1, hk10⟩
  clear hf1
  have hA2 := H9.out.2.kept hk10 (fun q hq hin => by have := H7.out.2.2.2.2 q hq; have := H6.out.2.2.2 q hin; omega)
  have k510 : Keeps None w5 w10 := H9.out.1.trans hk10 (fun i e hi => by have := H6.out.2.2.1 i e; omega)
  have hf2 := fill_at y2 N m 5000 _ (by omega) w10 hN.1 hN.2 hA2
  have H10 : Hid (Keeps None w5 w10 ∧ AtM w10 y1 N m (markM 1000)) := ⟨k510, hA1⟩
  clear hA1 hA2 k510 hk10
  go_upto_region 8 with fail
  go_wp2_with fail
  refine hf2.mono ?_
  rintro e w11 ⟨rfl, hA2, hk11⟩
  clear hf2
  have hA1 := H10.out.2.kept hk11 (fun q hq hin => by have := H7.out.2.2.2.2 q hin; have := H6.out.2.2.2 q hq; omega)
  have k511 : Keeps None w5 w11 := H10.out.1.trans hk11 (fun i e hi => by have := H7.out.2.2.2.2 i e; have := H6.out.2.1.size; omega)
  have hg1 := grow_at y1 N m _ w11 hN.1 hN.2 hA1
  have H11 : Hid (Keeps None w5 w11 ∧ AtM w11 y1 N m (markM 1000) ∧ AtM w11 y2 N m (markM 5000)) := ⟨k511, hA1, hA2⟩
  clear hA1 hA2 k511 hk11
  go_upto_region 9 with fail
  go_wp2_with fail
  refine hg1.mono ?_
  rintro e w12 ⟨rfl, hk12⟩
  clear hg1
  have hg2 := grow_at y2 N m _ w12 hN.1 hN.2 (H11.out.2.2.more hk12)
  have H12 : Hid (Keeps None w11 w12) := hk12
  clear hk12
  go_upto_region 10 with fail
  go_wp2_with fail
  refine hg2.mono ?_
  rintro e W ⟨rfl, hk13⟩
  clear hg2
  have k11 := H12.out.trans hk13 (fun _ f _ => f)
  have k5 := H11.out.1.trans k11 (fun _ f _ => f)
  have k0 := H5.out.2.1.trans k5 (fun _ f _ => f)
  have hA1 := H11.out.2.1.more k11
  have hA2 := H11.out.2.2.more k11
  have hI := H5.out.1.kept k5 (fun f => f)
  have bD := blk_kept H5.out.2.2.1 k5 (fun f => f)
  have bB := blk_kept H5.out.2.2.2.1 k5 (fun f => f)
  have hSG : SeenI W (some ⟨G, 0, none⟩) n f.code := hI.seen HC.out.2.2.2.1 (fun k i hi => odd_first _ k i hi)
  have hSf : SeenI W ca n f.code := HC.out.2.1.more k0
  have hF1 := fun wx (hk : Keeps None W wx) => filled_at y1 N m 1000 (by omega) wx hN.1 hN.2 (hA1.more hk)
  have hF2 := fun wx (hk : Keeps None W wx) => filled_at y2 N m 5000 (by omega) wx hN.1 hN.2 (hA2.more hk)
  have hSF := fun wx (hk : Keeps None W wx) => sameFunc_wide f (some ⟨G, 0, none⟩) (n + 2) ca cc wx (by rw [← HC.out.2.2.2.1]; exact hSG.more hk) (by rw [← HC.out.2.2.2.1]; exact hSf.more hk) (by rw [← HC.out.2.2.2.1]; omega)
  unfold fnV at hSF
  rw [← HC.out.2.2.2.1] at hSF
  have hO0 : ∀ wx (hk : Keeps None W wx), Calls Tryd.prog 22 #[.int .i64 0] wx fun e w' => e = .returned (.agg #[.int .i64 (oddI 0).kind, .int .i64 (oddI 0).a, .int .i64 (oddI 0).b, .int .i64 (oddI 0).c, .int .i64 (oddI 0).k]) ∧ Keeps None wx w' := fun wx _ => odd_any 0 wx (by omega)
  have hO1 : ∀ wx (hk : Keeps None W wx), Calls Tryd.prog 22 #[.int .i64 1] wx fun e w' => e = .returned (.agg #[.int .i64 (oddI 1).kind, .int .i64 (oddI 1).a, .int .i64 (oddI 1).b, .int .i64 (oddI 1).c, .int .i64 (oddI 1).k]) ∧ Keeps None wx w' := fun wx _ => odd_any 1 wx (by omega)
  have hFP := fun wx (hk : Keeps None W wx) => flowPlaced_any f ca n cc wx (HC.out.1.more (k0.trans hk (fun _ f _ => f))) HC.out.2.2.2.1 (hSf.more hk) HC.out.2.2.1 hr
  obtain ⟨u0, u1, u2, u3, u4⟩ := hI.at (odd_at0 f.code n HC.out.2.2.2.1)
  obtain ⟨x0, x1, x2, x3, x4⟩ := hI.at (odd_at1 f.code n HC.out.2.2.2.1)
  have hq0 := eqIns' (oddI 0).kind (oddI 0).a (oddI 0).b (oddI 0).c (oddI 0).k
  have hq1 := eqIns' (oddI 1).kind (oddI 1).a (oddI 1).b (oddI 1).c (oddI 1).k
  obtain ⟨N1, hN1⟩ : ∃ N1, N1 = n + 1 := ⟨_, rfl⟩
  obtain ⟨N2, hN2⟩ : ∃ N2, N2 = n + 2 := ⟨_, rfl⟩
  rw [← hN1] at x0 x1 x2 x3 x4
  rw [← hN2] at hSF bD
  rw [← hN2]
  have e0 : W.cell? ⟨B, 0, none⟩ = some (.int .i64 f.params) := (cell_of_heap bB 0).trans rfl
  have e1 : W.cell? ⟨B, 1, none⟩ = some (.int .i64 f.regs) := (cell_of_heap bB 1).trans rfl
  have e2 : W.cell? ⟨B, 2, none⟩ = some (.int .i64 f.slots) := (cell_of_heap bB 2).trans rfl
  have e3 : W.cell? ⟨B, 3, none⟩ = some (.slice ca n cc) := (cell_of_heap bB 3).trans rfl
  have d0 : W.cell? ⟨D, 0, none⟩ = some (.int .i64 f.params) := (cell_of_heap bD 0).trans rfl
  have d1 : W.cell? ⟨D, 1, none⟩ = some (.int .i64 f.regs) := (cell_of_heap bD 1).trans rfl
  have d2 : W.cell? ⟨D, 2, none⟩ = some (.int .i64 f.slots) := (cell_of_heap bD 2).trans rfl
  have d3 : W.cell? ⟨D, 3, none⟩ = some (.slice (some ⟨G, 0, none⟩) n N2) := (cell_of_heap bD 3).trans rfl
  have i4 : (n : Int) < (N2 : Int) := by omega
  have i5 : (N1 : Int) < (N2 : Int) := by omega
  have i4' : n < N2 := by omega
  have i5' : N1 < N2 := by omega
  have hnb : (n : Int) ≤ 4611686018427387904 := by omega
  have e57 : IntKind.i64.wrap ((n : Int) + 1) = (N1 : Int) := by rw [Go.IntWalk.i64_in _ (by omega)]; omega
  generalize (oddI 0).kind = A0 at *
  generalize (oddI 0).a = A1 at *
  generalize (oddI 0).b = A2 at *
  generalize (oddI 0).c = A3 at *
  generalize (oddI 0).k = A4 at *
  generalize (oddI 1).kind = B0 at *
  generalize (oddI 1).a = B1 at *
  generalize (oddI 1).b = B2 at *
  generalize (oddI 1).c = B3 at *
  generalize (oddI 1).k = B4 at *
  have HF1 : Hid _ := hF1
  have HF2 : Hid _ := hF2
  have HSF : Hid _ := hSF
  have HO0 : Hid _ := hO0
  have HO1 : Hid _ := hO1
  have HFP : Hid _ := hFP
  have HK0 : Hid (Keeps None w W) := k0
  clear hF1 hF2 hSF hO0 hO1 hFP k0 k5 k11 hA1 hA2 hI bD bB hSG hSf hk13 hN1 hN2 H1 H3 H5 H6 H7 H8 H9 H10 H11 H12 HC HFL
  go_upto_region 11 with fail
  go_upto_region 12 with fail
  go_region_held3 (fun w' => w'.cell? ⟨D, 0, none⟩ = some (.int .i64 f.params) ∧ w'.cell? ⟨D, 1, none⟩ = some (.int .i64 f.regs) ∧ w'.cell? ⟨D, 2, none⟩ = some (.int .i64 f.slots) ∧ w'.cell? ⟨D, 3, none⟩ = some (.slice (some ⟨G, 0, none⟩) n N2) ∧ w'.cell? ⟨B, 0, none⟩ = some (.int .i64 f.params) ∧ w'.cell? ⟨B, 1, none⟩ = some (.int .i64 f.regs) ∧ w'.cell? ⟨B, 2, none⟩ = some (.int .i64 f.slots) ∧ w'.cell? ⟨B, 3, none⟩ = some (.slice ca n cc) ∧ w'.cell? ⟨G, n * 5, none⟩ = some (.int .i64 A0) ∧ w'.cell? ⟨G, n * 5 + 1, none⟩ = some (.int .i64 A1) ∧ w'.cell? ⟨G, n * 5 + 2, none⟩ = some (.int .i64 A2) ∧ w'.cell? ⟨G, n * 5 + 3, none⟩ = some (.int .i64 A3) ∧ w'.cell? ⟨G, n * 5 + 4, none⟩ = some (.int .i64 A4) ∧ w'.cell? ⟨G, N1 * 5, none⟩ = some (.int .i64 B0) ∧ w'.cell? ⟨G, N1 * 5 + 1, none⟩ = some (.int .i64 B1) ∧ w'.cell? ⟨G, N1 * 5 + 2, none⟩ = some (.int .i64 B2) ∧ w'.cell? ⟨G, N1 * 5 + 3, none⟩ = some (.int .i64 B3) ∧ w'.cell? ⟨G, N1 * 5 + 4, none⟩ = some (.int .i64 B4)) (first | go_keep | with_reducible exact s0 | with_reducible exact s1 | with_reducible exact s2 | with_reducible exact s3 | with_reducible exact s4 | with_reducible exact s5) (first
    | ((go_at_call_of 20 (Value.slice y1 N N); refine (HF1.out _ (Keeps.drew None _)).mono ?_; rintro _ v0 ⟨rfl, q0⟩; have k0 : Keeps None W v0 := (Keeps.drew None W).trans q0 (fun _ f _ => f); have s0 := (And.intro (k0.cell d0 (fun f => f)) (And.intro (k0.cell d1 (fun f => f)) (And.intro (k0.cell d2 (fun f => f)) (And.intro (k0.cell d3 (fun f => f)) (And.intro (k0.cell e0 (fun f => f)) (And.intro (k0.cell e1 (fun f => f)) (And.intro (k0.cell e2 (fun f => f)) (And.intro (k0.cell e3 (fun f => f)) (And.intro (k0.cell u0 (fun f => f)) (And.intro (k0.cell u1 (fun f => f)) (And.intro (k0.cell u2 (fun f => f)) (And.intro (k0.cell u3 (fun f => f)) (And.intro (k0.cell u4 (fun f => f)) (And.intro (k0.cell x0 (fun f => f)) (And.intro (k0.cell x1 (fun f => f)) (And.intro (k0.cell x2 (fun f => f)) (And.intro (k0.cell x3 (fun f => f)) (k0.cell x4 (fun f => f)))))))))))))))))))))
    | ((go_at_call_of 20 (Value.slice y2 N N); refine (HF2.out _ k0).mono ?_; rintro _ v1 ⟨rfl, q1⟩; have k1 : Keeps None W v1 := k0.trans q1 (fun _ f _ => f); have s1 := (And.intro (k1.cell d0 (fun f => f)) (And.intro (k1.cell d1 (fun f => f)) (And.intro (k1.cell d2 (fun f => f)) (And.intro (k1.cell d3 (fun f => f)) (And.intro (k1.cell e0 (fun f => f)) (And.intro (k1.cell e1 (fun f => f)) (And.intro (k1.cell e2 (fun f => f)) (And.intro (k1.cell e3 (fun f => f)) (And.intro (k1.cell u0 (fun f => f)) (And.intro (k1.cell u1 (fun f => f)) (And.intro (k1.cell u2 (fun f => f)) (And.intro (k1.cell u3 (fun f => f)) (And.intro (k1.cell u4 (fun f => f)) (And.intro (k1.cell x0 (fun f => f)) (And.intro (k1.cell x1 (fun f => f)) (And.intro (k1.cell x2 (fun f => f)) (And.intro (k1.cell x3 (fun f => f)) (k1.cell x4 (fun f => f)))))))))))))))))))))
    | ((go_at_call 21; refine (HSF.out _ k1).mono ?_; rintro _ v2 ⟨rfl, q2⟩; have k2 : Keeps None W v2 := k1.trans q2 (fun _ f _ => f); have s2 := (And.intro (k2.cell d0 (fun f => f)) (And.intro (k2.cell d1 (fun f => f)) (And.intro (k2.cell d2 (fun f => f)) (And.intro (k2.cell d3 (fun f => f)) (And.intro (k2.cell e0 (fun f => f)) (And.intro (k2.cell e1 (fun f => f)) (And.intro (k2.cell e2 (fun f => f)) (And.intro (k2.cell e3 (fun f => f)) (And.intro (k2.cell u0 (fun f => f)) (And.intro (k2.cell u1 (fun f => f)) (And.intro (k2.cell u2 (fun f => f)) (And.intro (k2.cell u3 (fun f => f)) (And.intro (k2.cell u4 (fun f => f)) (And.intro (k2.cell x0 (fun f => f)) (And.intro (k2.cell x1 (fun f => f)) (And.intro (k2.cell x2 (fun f => f)) (And.intro (k2.cell x3 (fun f => f)) (k2.cell x4 (fun f => f)))))))))))))))))))))
    | ((go_at_call_of 22 (Value.int IntKind.i64 0); refine (HO0.out _ k2).mono ?_; rintro _ v3 ⟨rfl, q3⟩; have k3 : Keeps None W v3 := k2.trans q3 (fun _ f _ => f); have s3 := (And.intro (k3.cell d0 (fun f => f)) (And.intro (k3.cell d1 (fun f => f)) (And.intro (k3.cell d2 (fun f => f)) (And.intro (k3.cell d3 (fun f => f)) (And.intro (k3.cell e0 (fun f => f)) (And.intro (k3.cell e1 (fun f => f)) (And.intro (k3.cell e2 (fun f => f)) (And.intro (k3.cell e3 (fun f => f)) (And.intro (k3.cell u0 (fun f => f)) (And.intro (k3.cell u1 (fun f => f)) (And.intro (k3.cell u2 (fun f => f)) (And.intro (k3.cell u3 (fun f => f)) (And.intro (k3.cell u4 (fun f => f)) (And.intro (k3.cell x0 (fun f => f)) (And.intro (k3.cell x1 (fun f => f)) (And.intro (k3.cell x2 (fun f => f)) (And.intro (k3.cell x3 (fun f => f)) (k3.cell x4 (fun f => f)))))))))))))))))))))
    | ((go_at_call_of 22 (Value.int IntKind.i64 1); refine (HO1.out _ k3).mono ?_; rintro _ v4 ⟨rfl, q4⟩; have k4 : Keeps None W v4 := k3.trans q4 (fun _ f _ => f); have s4 := (And.intro (k4.cell d0 (fun f => f)) (And.intro (k4.cell d1 (fun f => f)) (And.intro (k4.cell d2 (fun f => f)) (And.intro (k4.cell d3 (fun f => f)) (And.intro (k4.cell e0 (fun f => f)) (And.intro (k4.cell e1 (fun f => f)) (And.intro (k4.cell e2 (fun f => f)) (And.intro (k4.cell e3 (fun f => f)) (And.intro (k4.cell u0 (fun f => f)) (And.intro (k4.cell u1 (fun f => f)) (And.intro (k4.cell u2 (fun f => f)) (And.intro (k4.cell u3 (fun f => f)) (And.intro (k4.cell u4 (fun f => f)) (And.intro (k4.cell x0 (fun f => f)) (And.intro (k4.cell x1 (fun f => f)) (And.intro (k4.cell x2 (fun f => f)) (And.intro (k4.cell x3 (fun f => f)) (k4.cell x4 (fun f => f)))))))))))))))))))))
    | ((go_at_call 23; refine (HFP.out _ k4).mono ?_; rintro _ v5 ⟨rfl, q5⟩; have k5 : Keeps None W v5 := k4.trans q5 (fun _ f _ => f); have s5 := (And.intro (k5.cell d0 (fun f => f)) (And.intro (k5.cell d1 (fun f => f)) (And.intro (k5.cell d2 (fun f => f)) (And.intro (k5.cell d3 (fun f => f)) (And.intro (k5.cell e0 (fun f => f)) (And.intro (k5.cell e1 (fun f => f)) (And.intro (k5.cell e2 (fun f => f)) (And.intro (k5.cell e3 (fun f => f)) (And.intro (k5.cell u0 (fun f => f)) (And.intro (k5.cell u1 (fun f => f)) (And.intro (k5.cell u2 (fun f => f)) (And.intro (k5.cell u3 (fun f => f)) (And.intro (k5.cell u4 (fun f => f)) (And.intro (k5.cell x0 (fun f => f)) (And.intro (k5.cell x1 (fun f => f)) (And.intro (k5.cell x2 (fun f => f)) (And.intro (k5.cell x3 (fun f => f)) (k5.cell x4 (fun f => f))))))))))))))))))))))
  all_goals
    have HZ : Hid (Keeps None w v5) := HK0.out.trans k5 (fun _ f _ => f)
    go_wp2_with fail
    go_ret
    exact ⟨rfl, HZ.out⟩
end Go.Proofs.YtklepknkdkponaaDoor
