import Derived.Test.YtolhojagbiaamaaRbRF
import Derived.Test.YtolhojagbiaamaaRcCheckLaw
/-! The walk of RacesFirst. -/
namespace Go.Proofs.Ytolhojagbiaamaa
set_option linter.unusedVariables false
set_option maxRecDepth 20000
set_option linter.unusedSimpArgs false
open Go.RowKit Go.HeapKit

theorem firV_let (l : List Dd) : ∃ (X Y Z : Int) (b : Bool) (E : Int), firV l = .returned (.tuple #[.agg #[.int .i64 X, .int .i64 Y, .int .i64 Z], .bool b, .int .i64 E]) := ⟨_, _, _, _, _, rfl⟩
theorem first_let {l : List Dd} {v : Ending} (h : firV l = v) (a : Option Addr) (n c : Nat) (w : World) (hS : Seen w a n l) :
    Calls Try.prog 23 #[.slice a n c] w fun e w' => e = v ∧ Keeps None w w' := by rw [← h]; exact first_ok a n c l w hS
theorem rfirst_let {l : List Dd} {v : Ending} (h : firV l = v) (a : Option Addr) (n c : Nat) (w : World) (hS : Seen w a n l) :
    Calls Try.prog 24 #[.slice a n c] w fun e w' => e = v ∧ Keeps None w w' := by rw [← h]; exact rfirst_ok a n c l w hS
theorem eqRace (x y z : Int) (w : World) : (binOp .eql 40 (.agg #[.int .i64 x, .int .i64 y, .int .i64 z]) (.agg #[.int .i64 x, .int .i64 y, .int .i64 z])).run Try.prog w = .ok (.bool true) w := by
  have u3 := Try.underlying3
  have a3 := Try.isAgg3
  have z3 := Try.sizeOf3
  have u2 := Try.underlying2
  have a2 := Try.isAgg2
  have z2 := Try.sizeOf2
  have hS : Try.prog.underlying 40 = some (.struct (Try.prog.fieldsOf 40)) := by kernel_rfl
  have hp : Try.prog.stoodInHeld 40 = false := by kernel_rfl
  rw [run_eql_struct, show (10000 : Nat) = 9999 + 1 from rfl, run_equalIn_agg w 9999 40 _ _ hS hp]
  simp only [Program.fieldsOf, Try.underlying40]
  go_simp
set_option maxHeartbeats 1600000 in
theorem firstPlaced_ok (a : Option Addr) (n c : Nat) (l : List Dd) (w : World) (hS : Seen w a n l) (hn : (n + 2) * 16 ≤ 140737488355328) :
    Calls Try.prog 25 #[.slice a n c] w fun e w' => e = .returned (.bool true) ∧ Keeps None w w' := by
  have HS : Hid (Seen w a n l) := hS
  have HLen : Hid (n = l.length) := hS.len
  clear hS
  obtain ⟨X1, Y1, Z1, B1, E1, h1⟩ := firV_let (l.map turnD)
  obtain ⟨X2, Y2, Z2, B2, E2, h2⟩ := firV_let l
  have HV1 : Hid _ := h1
  have HV2 : Hid _ := h2
  clear h1 h2
  go_enter Try.func25, Try.ntmps25
  go_wp2_with fail
  refine (turned_ok a n c l w HS.out hn).mono ?_
  rintro e w1 ⟨v, rfl, hr1, hk1⟩
  obtain ⟨a1, c1, rfl⟩ := row_shape hr1
  have HR1 : Hid (w1.ownsRow w.heap.size 51 2 (.slice a1 n c1) n (ddVals (l.map turnD)) ∧ Keeps None w w1) := ⟨hr1, hk1⟩
  have hs1 := hk1.size
  clear hr1 hk1
  go_wp2_with fail
  refine (tspare_ok _ n (l.map turnD) w1 _ HR1.out.1 (by simpa using HLen.out) hn).mono ?_
  rintro e w2 ⟨g, rfl, hsp, hk2⟩
  have HR2 : Hid (Spare w2 w1.heap.size g n (l.map turnD) ∧ Keeps None w w2 ∧ Keeps None w1 w2) := ⟨hsp, HR1.out.2.trans hk2 (fun _ f _ => f), hk2⟩
  clear hsp hk2
  go_upto_region 4 with (go_at_call 23; refine Calls.mono (first_let HV1.out _ n _ w2 HR2.out.1.seen) ?_; rintro _ w3 ⟨rfl, hk3⟩)
  have b4 := heap_alloc_new w3 (.cells #[.int .i64 X1, .int .i64 Y1, .int .i64 Z1] 40)
  have k4 := hk3.andAlloc (.cells #[.int .i64 X1, .int .i64 Y1, .int .i64 Z1] 40)
  have hD : ¬ w3.heap.size = g := by have := (HR2.out.1.more hk3).2.lt; omega
  obtain ⟨w4, hw4⟩ : ∃ w4, w4 = w3.alloc (.cells #[.int .i64 X1, .int .i64 Y1, .int .i64 Z1] 40) := ⟨_, rfl⟩
  obtain ⟨D, hD0⟩ : ∃ D, D = w3.heap.size := ⟨_, rfl⟩
  rw [← hw4] at b4 k4
  rw [← hD0] at b4 hD
  rw [← hw4, ← hD0]
  have HR4 : Hid (Spare w4 w1.heap.size g n (l.map turnD) ∧ Keeps None w w4 ∧ Keeps None w1 w4) := ⟨HR2.out.1.more k4, HR2.out.2.1.trans k4 (fun _ f _ => f), HR2.out.2.2.trans k4 (fun _ f _ => f)⟩
  have HB4 : Hid _ := b4
  clear HR2 hw4 hD0 b4 k4 hk3
  go_wp2_with fail
  refine (lay_ok a n c g _ (n + 2) l (l.map turnD) w4 HR4.out.1 (HS.out.more HR4.out.2.1) (fun h0 b e e2 => by have h3 := HS.out.low h0 e; have := HR4.out.1.2.low; omega) (by omega) hn).mono ?_
  rintro e w5 ⟨rfl, hsp4, hk4⟩
  have HR5 : Hid (Spare w5 w1.heap.size g n l ∧ Keeps None w w5 ∧ Keeps None w1 w5) := ⟨hsp4, HR4.out.2.1.trans hk4 (fun i e hi => by have := HR4.out.1.2.low; omega), HR4.out.2.2.trans hk4 (fun i e hi => by have := HR4.out.1.2.low; omega)⟩
  have HB5 : Hid _ := blk_kept HB4.out hk4 (fun e => hD e)
  clear hsp4 hk4 HR4 HB4 hD
  go_upto_region 6 with (go_at_call 23; refine Calls.mono (first_let HV2.out _ n _ w5 HR5.out.1.seen) ?_; rintro _ w6 ⟨rfl, hk6⟩)
  have b7 := heap_alloc_new w6 (.cells #[.int .i64 X2, .int .i64 Y2, .int .i64 Z2] 40)
  have k7 := hk6.andAlloc (.cells #[.int .i64 X2, .int .i64 Y2, .int .i64 Z2] 40)
  obtain ⟨w7, hw7⟩ : ∃ w7, w7 = w6.alloc (.cells #[.int .i64 X2, .int .i64 Y2, .int .i64 Z2] 40) := ⟨_, rfl⟩
  obtain ⟨C, hC0⟩ : ∃ C, C = w6.heap.size := ⟨_, rfl⟩
  rw [← hw7] at b7 k7
  rw [← hC0] at b7
  rw [← hw7, ← hC0]
  have HR7 : Hid (Keeps None w w7 ∧ Keeps None w1 w7) := ⟨HR5.out.2.1.trans k7 (fun _ f _ => f), HR5.out.2.2.trans k7 (fun _ f _ => f)⟩
  have HB7 : Hid (_ ∧ _) := And.intro (blk_kept HB5.out k7 (fun f => f)) b7
  clear HR5 HB5 hw7 hC0 b7 k7 hk6
  go_upto_region 7 with (go_at_call 24; refine Calls.mono (rfirst_let HV1.out a1 n c1 w7 ((Seen.of_row (by simpa using HLen.out) HR1.out.1).more HR7.out.2)) ?_; rintro _ w8 ⟨rfl, hk8⟩)
  have b9 := heap_alloc_new w8 (.cells #[.int .i64 X1, .int .i64 Y1, .int .i64 Z1] 40)
  have k9 := hk8.andAlloc (.cells #[.int .i64 X1, .int .i64 Y1, .int .i64 Z1] 40)
  obtain ⟨w9, hw9⟩ : ∃ w9, w9 = w8.alloc (.cells #[.int .i64 X1, .int .i64 Y1, .int .i64 Z1] 40) := ⟨_, rfl⟩
  obtain ⟨F, hF0⟩ : ∃ F, F = w8.heap.size := ⟨_, rfl⟩
  rw [← hw9] at b9 k9
  rw [← hF0] at b9
  rw [← hw9, ← hF0]
  have HR9 : Hid (Keeps None w w9) := HR7.out.1.trans k9 (fun _ f _ => f)
  have HB9 : Hid (_ ∧ _ ∧ _) := And.intro (blk_kept HB7.out.1 k9 (fun f => f)) (And.intro (blk_kept HB7.out.2 k9 (fun f => f)) b9)
  clear HR7 HB7 hw9 hF0 b9 k9 hk8
  go_upto_region 8 with (go_at_call 24; refine Calls.mono (rfirst_let HV2.out a n c w9 (HS.out.more HR9.out)) ?_; rintro _ w10 ⟨rfl, hk10⟩)
  have b11 := heap_alloc_new w10 (.cells #[.int .i64 X2, .int .i64 Y2, .int .i64 Z2] 40)
  have k11 := hk10.andAlloc (.cells #[.int .i64 X2, .int .i64 Y2, .int .i64 Z2] 40)
  obtain ⟨w11, hw11⟩ : ∃ w11, w11 = w10.alloc (.cells #[.int .i64 X2, .int .i64 Y2, .int .i64 Z2] 40) := ⟨_, rfl⟩
  obtain ⟨G, hG0⟩ : ∃ G, G = w10.heap.size := ⟨_, rfl⟩
  rw [← hw11] at b11 k11
  rw [← hG0] at b11
  rw [← hw11, ← hG0]
  have H11 : Hid (Keeps None w w11) := HR9.out.trans k11 (fun _ f _ => f)
  have q1 := blk_kept HB9.out.1 k11 (fun f => f)
  have q2 := blk_kept HB9.out.2.1 k11 (fun f => f)
  have q3 := blk_kept HB9.out.2.2 k11 (fun f => f)
  have c10 : w11.cell? ⟨D, 0, none⟩ = some (.int .i64 X1) := cell_of_heap q1 0
  have c11 : w11.cell? ⟨D, 1, none⟩ = some (.int .i64 Y1) := cell_of_heap q1 1
  have c12 : w11.cell? ⟨D, 2, none⟩ = some (.int .i64 Z1) := cell_of_heap q1 2
  have c20 : w11.cell? ⟨C, 0, none⟩ = some (.int .i64 X2) := cell_of_heap q2 0
  have c21 : w11.cell? ⟨C, 1, none⟩ = some (.int .i64 Y2) := cell_of_heap q2 1
  have c22 : w11.cell? ⟨C, 2, none⟩ = some (.int .i64 Z2) := cell_of_heap q2 2
  have c30 : w11.cell? ⟨F, 0, none⟩ = some (.int .i64 X1) := cell_of_heap q3 0
  have c31 : w11.cell? ⟨F, 1, none⟩ = some (.int .i64 Y1) := cell_of_heap q3 1
  have c32 : w11.cell? ⟨F, 2, none⟩ = some (.int .i64 Z1) := cell_of_heap q3 2
  have c40 : w11.cell? ⟨G, 0, none⟩ = some (.int .i64 X2) := cell_of_heap b11 0
  have c41 : w11.cell? ⟨G, 1, none⟩ = some (.int .i64 Y2) := cell_of_heap b11 1
  have c42 : w11.cell? ⟨G, 2, none⟩ = some (.int .i64 Z2) := cell_of_heap b11 2
  have heq1 := eqRace X1 Y1 Z1
  have heq2 := eqRace X2 Y2 Z2
  clear q1 q2 q3 b11 k11 hk10 hw11 hG0 HB9 HR9 HS HLen HR1 HV1 HV2
  go_wp2
  go_ret
  exact ⟨rfl, H11.out⟩
set_option maxHeartbeats 1600000 in
theorem racesFirst_walk (a : Option Addr) (n c : Nat) (l : List Dd) (w : World) (hS : Seen w a n l) (hn : (n + 2) * 16 ≤ 140737488355328) :
    Calls Try.prog 6 #[.slice a n c] w fun e w' => e = .returned (.bool true) ∧ Below w.heap.size w w' := by
  have HS : Hid (Seen w a n l) := hS
  clear hS
  obtain ⟨X2, Y2, Z2, B2, E2, h2⟩ := firV_let l
  have HV2 : Hid _ := h2
  clear h2
  go_enter Try.func6, Try.ntmps6
  go_wp2_with fail
  refine (spare_ok a n c l w HS.out hn).mono ?_
  rintro e w1 ⟨g, rfl, hsp, hk1⟩
  have HR1 : Hid (Spare w1 w.heap.size g n l ∧ Keeps None w w1) := ⟨hsp, hk1⟩
  clear hsp hk1
  go_upto_region 3 with (go_at_call 23; refine Calls.mono (first_let HV2.out _ n _ w1 HR1.out.1.seen) ?_; rintro _ w2 ⟨rfl, hk2⟩)
  have b3 := heap_alloc_new w2 (.cells #[.int .i64 X2, .int .i64 Y2, .int .i64 Z2] 40)
  have k3 := hk2.andAlloc (.cells #[.int .i64 X2, .int .i64 Y2, .int .i64 Z2] 40)
  obtain ⟨w3, hw3⟩ : ∃ w3, w3 = w2.alloc (.cells #[.int .i64 X2, .int .i64 Y2, .int .i64 Z2] 40) := ⟨_, rfl⟩
  obtain ⟨D, hD0⟩ : ∃ D, D = w2.heap.size := ⟨_, rfl⟩
  rw [← hw3] at b3 k3
  rw [← hD0] at b3
  rw [← hw3, ← hD0]
  have HR3 : Hid (Spare w3 w.heap.size g n l ∧ Keeps None w w3 ∧ _) := ⟨HR1.out.1.more k3, HR1.out.2.trans k3 (fun _ f _ => f), b3⟩
  clear HR1 hw3 hD0 b3 k3 hk2
  go_upto_region 4 with (go_at_call 24; refine Calls.mono (rfirst_let HV2.out a n c w3 (HS.out.more HR3.out.2.1)) ?_; rintro _ w6 ⟨rfl, hk6⟩)
  have b7 := heap_alloc_new w6 (.cells #[.int .i64 X2, .int .i64 Y2, .int .i64 Z2] 40)
  have k7 := hk6.andAlloc (.cells #[.int .i64 X2, .int .i64 Y2, .int .i64 Z2] 40)
  obtain ⟨w7, hw7⟩ : ∃ w7, w7 = w6.alloc (.cells #[.int .i64 X2, .int .i64 Y2, .int .i64 Z2] 40) := ⟨_, rfl⟩
  obtain ⟨C, hC⟩ : ∃ C, C = w6.heap.size := ⟨_, rfl⟩
  rw [← hw7] at b7 k7
  rw [← hC] at b7
  rw [← hw7, ← hC]
  have b8 := blk_kept HR3.out.2.2 k7 (fun f => f)
  have g0 : w7.cell? ⟨D, 0, none⟩ = some (.int .i64 X2) := cell_of_heap b8 0
  have g1 : w7.cell? ⟨D, 1, none⟩ = some (.int .i64 Y2) := cell_of_heap b8 1
  have g2 : w7.cell? ⟨D, 2, none⟩ = some (.int .i64 Z2) := cell_of_heap b8 2
  have g3 : w7.cell? ⟨C, 0, none⟩ = some (.int .i64 X2) := cell_of_heap b7 0
  have g4 : w7.cell? ⟨C, 1, none⟩ = some (.int .i64 Y2) := cell_of_heap b7 1
  have g5 : w7.cell? ⟨C, 2, none⟩ = some (.int .i64 Z2) := cell_of_heap b7 2
  have HW7 : Hid (Keeps None w w7) := HR3.out.2.1.trans k7 (fun _ f _ => f)
  have HRU : Hid (∀ w', Keeps None w7 w' → Calls Try.prog 12 #[.slice (some ⟨g, 0, none⟩) (n + 2) (n + 2), .slice a n c] w' fun e w'' => e = .returned (.bool true) ∧ Keeps None w7 w'') := fun w' hk => (untouched_ok a g n c _ l w' (HR3.out.1.more (k7.trans hk (fun _ f _ => f))) (HS.out.more (HW7.out.trans hk (fun _ f _ => f))) hn).mono fun e w'' hp => by
    obtain ⟨h1, m, rfl⟩ := hp
    exact ⟨h1, hk.trans (keeps_drewN _ m) (fun _ f _ => f)⟩
  have HRP : Hid (∀ w', Keeps None w7 w' → Calls Try.prog 25 #[.slice a n c] w' fun e w'' => e = .returned (.bool true) ∧ Keeps None w7 w'') := fun w' hk => (firstPlaced_ok a n c l w' (HS.out.more (HW7.out.trans hk (fun _ f _ => f))) hn).mono fun e w'' hp => ⟨hp.1, hk.trans hp.2 (fun _ f _ => f)⟩
  have heq2 := eqRace X2 Y2 Z2
  clear hw7 hC b7 b8 k7 hk6 HR3 HS HV2
  go_wp2_with fail
  refine Calls.mono (HRU.out w7 (Keeps.refl _ _)) ?_
  rintro _ w9 ⟨rfl, hk9⟩
  go_wp2_with fail
  refine Calls.mono (HRP.out _ hk9) ?_
  rintro _ w10 ⟨rfl, hk10⟩
  go_wp2
  go_ret
  exact ⟨rfl, (HW7.out.trans hk10 (fun _ f _ => f)).below _ (Nat.le_refl _) (fun _ f => f.elim)⟩
end Go.Proofs.Ytolhojagbiaamaa
