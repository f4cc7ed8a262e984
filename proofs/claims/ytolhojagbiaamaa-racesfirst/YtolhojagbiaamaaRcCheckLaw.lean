import Derived.Test.YtolhojagbiaamaaRcLaw2
import Derived.Deep.RegionHeld3
import Derived.Deep.DeepCutAuto
import Derived.Deep.Cut
import Derived.Laws.StructEq
/-! The walk of RacesCheck. -/
namespace Go.Proofs.Ytolhojagbiaamaa
set_option linter.unusedVariables false
set_option maxRecDepth 20000
set_option linter.unusedSimpArgs false
open Go.RowKit Go.HeapKit

/-- The other deeds, with the odd ones behind them. -/
theorem tspare_ok (v : Value) (n : Nat) (l : List Dd) (w : World) (base : Nat) (hr : w.ownsRow base 51 2 v n (ddVals l)) (hl : n = l.length) (hn : (n + 2) * 16 ≤ 140737488355328) :
    Calls Try.prog 9 #[v] w fun e w' => ∃ g, e = .returned (.slice (some ⟨g, 0, none⟩) (n + 2) (n + 2)) ∧ Spare w' w.heap.size g n l ∧ Keeps None w w' := by
  obtain ⟨a, c, rfl⟩ := row_shape hr
  exact spare_ok a n c l w (Seen.of_row hl hr) hn
theorem eqSpot (x k : Int) (w : World) : (binOp .eql 26 (.agg #[.int .i64 x, .int .i64 k]) (.agg #[.int .i64 x, .int .i64 k])).run Try.prog w = .ok (.bool true) w := by
  have u3 := Try.underlying3
  have a3 := Try.isAgg3
  have z3 := Try.sizeOf3
  have u2 := Try.underlying24
  have a2 := Try.isAgg24
  have z2 := Try.sizeOf24
  have hS : Try.prog.underlying 26 = some (.struct (Try.prog.fieldsOf 26)) := by kernel_rfl
  have hp : Try.prog.stoodInHeld 26 = false := by kernel_rfl
  rw [run_eql_struct, show (10000 : Nat) = 9999 + 1 from rfl, run_equalIn_agg w 9999 26 _ _ hS hp]
  simp only [Program.fieldsOf, Try.underlying26]
  go_simp
theorem check_raw (a : Option Addr) (n c : Nat) (l : List Dd) (w : World) (hS : Seen w a n l) :
    Calls Try.prog 10 #[.slice a n c] w fun e w' => e = .returned (.agg #[.int .i64 (chkE l), .int .i64 (chkA l)]) ∧ Keeps None w w' := check_ok a n c l w hS
theorem rcheck_raw (a : Option Addr) (n c : Nat) (l : List Dd) (w : World) (hS : Seen w a n l) :
    Calls Try.prog 11 #[.slice a n c] w fun e w' => e = .returned (.agg #[.int .i64 (chkE l), .int .i64 (chkA l)]) ∧ Keeps None w w' := rcheck_ok a n c l w hS
set_option maxHeartbeats 1600000 in
theorem checkPlaced_ok (a : Option Addr) (n c : Nat) (l : List Dd) (w : World) (hS : Seen w a n l) (hn : (n + 2) * 16 ≤ 140737488355328) :
    Calls Try.prog 13 #[.slice a n c] w fun e w' => e = .returned (.bool true) ∧ Keeps None w w' := by
  have HS : Hid (Seen w a n l) := hS
  have HLen : Hid (n = l.length) := hS.len
  clear hS
  go_enter Try.func13, Try.ntmps13
  go_wp2_with fail
  refine (turned_ok a n c l w HS.out hn).mono ?_
  rintro e w1 ⟨v, rfl, hr1, hk1⟩
  obtain ⟨a1, c1, rfl⟩ := row_shape hr1
  have HR1 : Hid (w1.ownsRow w.heap.size 51 2 (.slice a1 n c1) n (ddVals (l.map turnD)) ∧ Keeps None w w1) := ⟨hr1, hk1⟩
  have hs1 := hk1.size
  clear hr1 hk1
  go_wp2_with fail
  refine (tspare_ok _ n (l.map turnD) w1 _ HR1.out.1 (by simpa using HLen.out) hn).mono ?_
  rintro e w2 ⟨g, rfl, hsp, hk2⟩
  have HR2 : Hid (Spare w2 w1.heap.size g n (l.map turnD) ∧ Keeps None w w2 ∧ Keeps None w1 w2) := ⟨hsp, HR1.out.2.trans hk2 (fun _ f _ => f), hk2⟩
  clear hsp hk2
  go_wp2_with fail
  refine (check_raw _ n _ (l.map turnD) w2 HR2.out.1.seen).mono ?_
  rintro e w3 ⟨rfl, hk3⟩
  have HR3 : Hid (Spare w3 w1.heap.size g n (l.map turnD) ∧ Keeps None w w3 ∧ Keeps None w1 w3) := ⟨HR2.out.1.more hk3, HR2.out.2.1.trans hk3 (fun _ f _ => f), HR2.out.2.2.trans hk3 (fun _ f _ => f)⟩
  clear hk3 HR2
  have b4 := heap_alloc_new w3 (.cells #[.int .i64 (chkE (l.map turnD)), .int .i64 (chkA (l.map turnD))] 26)
  have k4 := Keeps.alloc None w3 (.cells #[.int .i64 (chkE (l.map turnD)), .int .i64 (chkA (l.map turnD))] 26)
  obtain ⟨E1, hE1⟩ : ∃ E1, E1 = chkE (l.map turnD) := ⟨_, rfl⟩
  obtain ⟨A1, hA1⟩ : ∃ A1, A1 = chkA (l.map turnD) := ⟨_, rfl⟩
  have HEA : Hid (chkE (l.map turnD) = E1 ∧ chkA (l.map turnD) = A1) := ⟨hE1.symm, hA1.symm⟩
  rw [← hE1, ← hA1] at b4 k4
  rw [← hE1, ← hA1]
  clear hE1 hA1
  go_wp2_with fail
  obtain ⟨w4, hw4⟩ : ∃ w4, w4 = w3.alloc (.cells #[.int .i64 E1, .int .i64 A1] 26) := ⟨_, rfl⟩
  obtain ⟨B, hB⟩ : ∃ B, B = w3.heap.size := ⟨_, rfl⟩
  rw [← hw4] at b4 k4
  rw [← hB] at b4
  rw [← hw4, ← hB]
  have hBg : g ≠ B := by have := HR3.out.1.2.lt; omega
  have HR4 : Hid (Spare w4 w1.heap.size g n (l.map turnD) ∧ Keeps None w w4 ∧ Keeps None w1 w4) := ⟨HR3.out.1.more k4, HR3.out.2.1.trans k4 (fun _ f _ => f), HR3.out.2.2.trans k4 (fun _ f _ => f)⟩
  have g0 : w4.cell? ⟨B, 0, none⟩ = some (.int .i64 E1) := (blk_cell b4 0).trans rfl
  have g1 : w4.cell? ⟨B, 1, none⟩ = some (.int .i64 A1) := (blk_cell b4 1).trans rfl
  have HB4 : Hid (w4.cell? ⟨B, 0, none⟩ = some (.int .i64 E1) ∧ w4.cell? ⟨B, 1, none⟩ = some (.int .i64 A1)) := ⟨g0, g1⟩
  clear HR3 hw4 hB b4 k4 g0 g1
  refine (lay_ok a n c g _ (n + 2) l (l.map turnD) w4 HR4.out.1 (HS.out.more HR4.out.2.1) (fun h0 b e e2 => by have h3 := HS.out.low h0 e; have := HR4.out.1.2.low; omega) (by omega) hn).mono ?_
  rintro e w5 ⟨rfl, hsp4, hk4⟩
  have HR5 : Hid (Spare w5 w1.heap.size g n l ∧ Keeps None w w5 ∧ Keeps None w1 w5) := ⟨hsp4, HR4.out.2.1.trans hk4 (fun i e hi => by have := HR4.out.1.2.low; omega), HR4.out.2.2.trans hk4 (fun i e hi => by have := HR4.out.1.2.low; omega)⟩
  have HB5 : Hid (w5.cell? ⟨B, 0, none⟩ = some (.int .i64 E1) ∧ w5.cell? ⟨B, 1, none⟩ = some (.int .i64 A1)) := ⟨hk4.cell HB4.out.1 (fun e => hBg e.symm), hk4.cell HB4.out.2 (fun e => hBg e.symm)⟩
  clear hsp4 hk4 HR4 HB4 hBg
  go_upto_region 6 with (go_at_call 10; refine Calls.mono (check_raw _ n _ l _ HR5.out.1.seen) ?_; rintro _ w6 ⟨rfl, hk6⟩)
  obtain ⟨E2, hE2⟩ : ∃ E2, E2 = chkE l := ⟨_, rfl⟩
  obtain ⟨A2, hA2⟩ : ∃ A2, A2 = chkA l := ⟨_, rfl⟩
  have HEB : Hid (chkE l = E2 ∧ chkA l = A2) := ⟨hE2.symm, hA2.symm⟩
  rw [← hE2, ← hA2]
  clear hE2 hA2
  have b7 := heap_alloc_new w6 (.cells #[.int .i64 E2, .int .i64 A2] 26)
  have k7 := hk6.andAlloc (.cells #[.int .i64 E2, .int .i64 A2] 26)
  obtain ⟨w7, hw7⟩ : ∃ w7, w7 = w6.alloc (.cells #[.int .i64 E2, .int .i64 A2] 26) := ⟨_, rfl⟩
  obtain ⟨C, hC⟩ : ∃ C, C = w6.heap.size := ⟨_, rfl⟩
  rw [← hw7] at b7 k7
  rw [← hC] at b7
  rw [← hw7, ← hC]
  have g0 : w7.cell? ⟨B, 0, none⟩ = some (.int .i64 E1) := k7.cell HB5.out.1 (fun f => f)
  have g1 : w7.cell? ⟨B, 1, none⟩ = some (.int .i64 A1) := k7.cell HB5.out.2 (fun f => f)
  have g2 : w7.cell? ⟨C, 0, none⟩ = some (.int .i64 E2) := (blk_cell b7 0).trans rfl
  have g3 : w7.cell? ⟨C, 1, none⟩ = some (.int .i64 A2) := (blk_cell b7 1).trans rfl
  have HSA : Hid (∀ w', Keeps None w7 w' → w'.cell? ⟨B, 0, none⟩ = some (.int .i64 E1) ∧ w'.cell? ⟨B, 1, none⟩ = some (.int .i64 A1) ∧ w'.cell? ⟨C, 0, none⟩ = some (.int .i64 E2) ∧ w'.cell? ⟨C, 1, none⟩ = some (.int .i64 A2)) := fun w' hk => ⟨hk.cell g0 (fun f => f), hk.cell g1 (fun f => f), hk.cell g2 (fun f => f), hk.cell g3 (fun f => f)⟩
  have HRN : Hid (∀ w', Keeps None w7 w' → Calls Try.prog 11 #[.slice a1 n c1] w' fun e w'' => e = .returned (.agg #[.int .i64 E1, .int .i64 A1]) ∧ Keeps None w7 w'') := fun w' hk => (rcheck_raw a1 n c1 (l.map turnD) w' ((Seen.of_row (by simpa using HLen.out) HR1.out.1).more (HR5.out.2.2.trans (k7.trans hk (fun _ f _ => f)) (fun _ f _ => f)))).mono fun e w'' hp => by
    rw [HEA.out.1, HEA.out.2] at hp
    exact ⟨hp.1, hk.trans hp.2 (fun _ f _ => f)⟩
  have HRM : Hid (∀ w', Keeps None w7 w' → Calls Try.prog 11 #[.slice a n c] w' fun e w'' => e = .returned (.agg #[.int .i64 E2, .int .i64 A2]) ∧ Keeps None w7 w'') := fun w' hk => (rcheck_raw a n c l w' (HS.out.more (HR5.out.2.1.trans (k7.trans hk (fun _ f _ => f)) (fun _ f _ => f)))).mono fun e w'' hp => by
    rw [HEB.out.1, HEB.out.2] at hp
    exact ⟨hp.1, hk.trans hp.2 (fun _ f _ => f)⟩
  have H7 : Hid (Keeps None w w7) := HR5.out.2.1.trans k7 (fun _ f _ => f)
  have heq1 := eqSpot E1 A1
  have heq2 := eqSpot E2 A2
  clear hw7 hC b7 k7 hk6 HB5 HEA HEB HR5 HR1 HS HLen
  go_region_held3 (fun w' => w'.cell? ⟨B, 0, none⟩ = some (.int .i64 E1) ∧ w'.cell? ⟨B, 1, none⟩ = some (.int .i64 A1) ∧ w'.cell? ⟨C, 0, none⟩ = some (.int .i64 E2) ∧ w'.cell? ⟨C, 1, none⟩ = some (.int .i64 A2)) (first | exact hs9 | exact hs8 | go_keep) (first | (go_at_call_of 11 (Value.slice a1 n c1); refine Calls.mono (HRN.out _ (Keeps.drew None _)) ?_; rintro _ w8 ⟨rfl, hk8⟩; have hs8 := HSA.out _ hk8) | (go_at_call 11; refine Calls.mono (HRM.out _ hk8) ?_; rintro _ w9 ⟨rfl, hk9⟩; have hs9 := HSA.out _ hk9))
  all_goals (go_wp2_with fail; go_ret)
  all_goals exact ⟨rfl, H7.out.trans hk9 (fun _ f _ => f)⟩

set_option maxHeartbeats 1600000 in
theorem racesCheck_walk (a : Option Addr) (n c : Nat) (l : List Dd) (w : World) (hS : Seen w a n l) (hn : (n + 2) * 16 ≤ 140737488355328) :
    Calls Try.prog 3 #[.slice a n c] w fun e w' => e = .returned (.bool true) ∧ Below w.heap.size w w' := by
  have HS : Hid (Seen w a n l) := hS
  clear hS
  go_enter Try.func3, Try.ntmps3
  go_wp2_with fail
  refine (spare_ok a n c l w HS.out hn).mono ?_
  rintro e w1 ⟨g, rfl, hsp, hk1⟩
  have HR1 : Hid (Spare w1 w.heap.size g n l ∧ Keeps None w w1) := ⟨hsp, hk1⟩
  clear hsp hk1
  go_upto_region 3 with (go_at_call 10; refine Calls.mono (check_raw _ n _ l _ HR1.out.1.seen) ?_; rintro _ w6 ⟨rfl, hk6⟩)
  obtain ⟨E2, hE2⟩ : ∃ E2, E2 = chkE l := ⟨_, rfl⟩
  obtain ⟨A2, hA2⟩ : ∃ A2, A2 = chkA l := ⟨_, rfl⟩
  have HEB : Hid (chkE l = E2 ∧ chkA l = A2) := ⟨hE2.symm, hA2.symm⟩
  rw [← hE2, ← hA2]
  clear hE2 hA2
  have b7 := heap_alloc_new w6 (.cells #[.int .i64 E2, .int .i64 A2] 26)
  have k7 := hk6.andAlloc (.cells #[.int .i64 E2, .int .i64 A2] 26)
  obtain ⟨w7, hw7⟩ : ∃ w7, w7 = w6.alloc (.cells #[.int .i64 E2, .int .i64 A2] 26) := ⟨_, rfl⟩
  obtain ⟨C, hC⟩ : ∃ C, C = w6.heap.size := ⟨_, rfl⟩
  rw [← hw7] at b7 k7
  rw [← hC] at b7
  rw [← hw7, ← hC]
  have g2 : w7.cell? ⟨C, 0, none⟩ = some (.int .i64 E2) := (blk_cell b7 0).trans rfl
  have g3 : w7.cell? ⟨C, 1, none⟩ = some (.int .i64 A2) := (blk_cell b7 1).trans rfl
  have HSA : Hid (∀ w', Keeps None w7 w' → w'.cell? ⟨C, 0, none⟩ = some (.int .i64 E2) ∧ w'.cell? ⟨C, 1, none⟩ = some (.int .i64 A2)) := fun w' hk => ⟨hk.cell g2 (fun f => f), hk.cell g3 (fun f => f)⟩
  have HW7 : Hid (Keeps None w w7) := HR1.out.2.trans k7 (fun _ f _ => f)
  have HRM : Hid (∀ w', Keeps None w7 w' → Calls Try.prog 11 #[.slice a n c] w' fun e w'' => e = .returned (.agg #[.int .i64 E2, .int .i64 A2]) ∧ Keeps None w7 w'') := fun w' hk => (rcheck_raw a n c l w' (HS.out.more (HW7.out.trans hk (fun _ f _ => f)))).mono fun e w'' hp => by
    rw [HEB.out.1, HEB.out.2] at hp
    exact ⟨hp.1, hk.trans hp.2 (fun _ f _ => f)⟩
  have HRU : Hid (∀ w', Keeps None w7 w' → Calls Try.prog 12 #[.slice (some ⟨g, 0, none⟩) (n + 2) (n + 2), .slice a n c] w' fun e w'' => e = .returned (.bool true) ∧ Keeps None w7 w'') := fun w' hk => (untouched_ok a g n c _ l w' (HR1.out.1.more (k7.trans hk (fun _ f _ => f))) (HS.out.more (HW7.out.trans hk (fun _ f _ => f))) hn).mono fun e w'' hp => by
    obtain ⟨h1, m, rfl⟩ := hp
    exact ⟨h1, hk.trans (keeps_drewN _ m) (fun _ f _ => f)⟩
  have HRP : Hid (∀ w', Keeps None w7 w' → Calls Try.prog 13 #[.slice a n c] w' fun e w'' => e = .returned (.bool true) ∧ Keeps None w7 w'') := fun w' hk => (checkPlaced_ok a n c l w' (HS.out.more (HW7.out.trans hk (fun _ f _ => f))) hn).mono fun e w'' hp => ⟨hp.1, hk.trans hp.2 (fun _ f _ => f)⟩
  have heq2 := eqSpot E2 A2
  clear hw7 hC b7 k7 hk6 HEB HR1 HS
  go_region_held3 (fun w' => w'.cell? ⟨C, 0, none⟩ = some (.int .i64 E2) ∧ w'.cell? ⟨C, 1, none⟩ = some (.int .i64 A2)) (first | exact hs10 | exact hs9 | exact hs8 | go_keep) (first
    | (go_at_call 11; refine Calls.mono (HRM.out _ (Keeps.drew None _)) ?_; rintro _ w8 ⟨rfl, hk8⟩; have hs8 := HSA.out _ hk8)
    | (go_at_call 12; refine Calls.mono (HRU.out _ hk8) ?_; rintro _ w9 ⟨rfl, hk9⟩; have hs9 := HSA.out _ hk9)
    | (go_at_call 13; refine Calls.mono (HRP.out _ hk9) ?_; rintro _ w10 ⟨rfl, hk10⟩; have hs10 := HSA.out _ hk10))
  all_goals (go_wp2_with fail; go_ret)
  all_goals exact ⟨rfl, (HW7.out.trans hk10 (fun _ f _ => f)).below _ (Nat.le_refl _) (fun _ f => f.elim)⟩
end Go.Proofs.Ytolhojagbiaamaa
