import Derived.Test.YtolhojagbiaamaaPkAP
import Derived.Test.YtolhojagbiaamaaPkAF
import Derived.WalkKit
import Derived.ProofKit
import Derived.OpenShut
import Derived.Deep.Slices
import Derived.Test.YtolhojagbiaamaaPkAA
/-! The walk of RacesFirst. -/
namespace Go.Proofs.Ytolhojagbiaamaa
set_option linter.unusedVariables false
set_option maxRecDepth 20000
set_option linter.unusedSimpArgs false
open Go.RowKit Go.HeapKit

theorem firV_let (l : List Dd) : ∃ (X Y Z : Int) (b : Bool) (E : Int), firV l = .returned (.tuple #[.agg #[.int .i64 X, .int .i64 Y, .int .i64 Z], .bool b, .int .i64 E]) := ⟨_, _, _, _, _, rfl⟩
theorem first_let {l : List Dd} {v : Ending} (h : firV l = v) (a : Option Addr) (n c : Nat) (w : World) (hS : Seen w a n l) :
    Calls Try.prog 23 #[.slice a n c] w fun e w' => e = v ∧ Keeps None w w' := by rw [← h]; exact first_ok a n c l w hS
theorem rfirst_let {l : List Dd} {v : Ending} (h : firV l = v) (a : Option Addr) (n c : Nat) (w : World) (hS : Seen w a n l) :
    Calls Try.prog 24 #[.slice a n c] w fun e w' => e = v ∧ Keeps None w w' := by rw [← h]; exact rfirst_ok a n c l w hS
theorem eqRace (x y z : Int) (w : World) : (binOp .eql 40 (.agg #[.int .i64 x, .int .i64 y, .int .i64 z]) (.agg #[.int .i64 x, .int .i64 y, .int .i64 z])).run Try.prog w = .ok (.bool true) w := by
  have u3 := Try.underlying3
  have a3 := Try.isAgg3
  have z3 := Try.sizeOf3
  have u2 := Try.underlying2
  have a2 := Try.isAgg2
  have z2 := Try.sizeOf2
  have hS : Try.prog.underlying 40 = some (.struct (Try.prog.fieldsOf 40)) := by kernel_rfl
  have hp : Try.prog.stoodInHeld 40 = false := by kernel_rfl
  rw [run_eql_struct, show (10000 : Nat) = 9999 + 1 from rfl, run_equalIn_agg w 9999 40 _ _ hS hp]
  simp only [Program.fieldsOf, Try.underlying40]
  go_simp
set_option maxHeartbeats 1600000 in
theorem firstPlaced_ok (a : Option Addr) (n c : Nat) (l : List Dd) (w : World) (hS : Seen w a n l) (hn : (n + 2) * 16 ≤ 140737488355328) :
    Calls Try.prog 25 #[.slice a n c] w fun e w' => e = .returned (.bool true) ∧ Keeps None w w' := by
  have HS : Hid (Seen w a n l) := hS
  have HLen : Hid (n = l.length) := hS.len
  clear hS
  obtain ⟨X1, Y1, Z1, B1, E1, h1⟩ := firV_let (l.map turnD)
  obtain ⟨X2, Y2, Z2, B2, E2, h2⟩ := firV_let l
  have HV1 : Hid _ := h1
  have HV2 : Hid _ := h2
  clear h1 h2
  go_enter Try.func25, Try.ntmps25
  go_wp2_with fail
  refine (turned_ok a n c l w HS.out hn).mono ?_
  rintro e w1 ⟨v, rfl, hr1, hk1⟩
  obtain ⟨a1, c1, rfl⟩ := row_shape hr1
  have HR1 : Hid (w1.ownsRow w.heap.size 51 2 (.slice a1 n c1) n (ddVals (l.map turnD)) ∧ Keeps None w w1) := ⟨hr1, hk1⟩
  have hs1 := hk1.size
  clear hr1 hk1
  go_wp2_with fail
  refine (tspare_ok _ n (l.map turnD) w1 _ HR1.out.1 (by simpa using HLen.out) hn).mono ?_
  rintro e w2 ⟨g, rfl, hsp, hk2⟩
  have HR2 : Hid (Spare w2 w1.heap.size g n (l.map turnD) ∧ Keeps None w w2 ∧ Keeps None w1 w2) := ⟨hsp, HR1.out.2.trans hk2 (fun _ f _ => f), hk2⟩
  clear hsp hk2
  go_upto_region 4 with (go_at_call 23; refine Calls.mono (first_let HV1.out _ n _ w2 HR2.out.1.seen) ?_; rintro _ w3 ⟨rfl, hk3⟩)
  have b4 := heap_alloc_new w3 (.cells #[.int .i64 X1, .int .i64 Y1, .int .i64 Z1] 40)
  have k4 := hk3.andAlloc (.cells #[.int .i64 X1, .int .i64 Y1, .int .i64 Z1] 40)
  have hD : ¬ w3.heap.size = g := by have := (HR2.out.1.more hk3).2.lt; omega
  obtain ⟨w4, hw4⟩ : ∃ w4, w4 = w3.alloc (.cells #[.int .i64 X1, .int .i64 Y1, .int .i64 Z1] 40) := ⟨_, rfl⟩
  obtain ⟨D, hD0⟩ : ∃ D, D = w3.heap.size := ⟨_, rfl⟩
  rw [← hw4] at b4 k4
  rw [← hD0] at b4 hD
  rw [← hw4, ← hD0]
  have HR4 : Hid (Spare w4 w1.heap.size g n (l.map turnD) ∧ Keeps None w w4 ∧ Keeps None w1 w4) := ⟨HR2.out.1.more k4, HR2.out.2.1.trans k4 (fun _ f _ => f), HR2.out.2.2.trans k4 (fun _ f _ => f)⟩
  have HB4 : Hid _ := b4
  clear HR2 hw4 hD0 b4 k4 hk3
  go_wp2_with fail
  refine (lay_ok a n c g _ (n + 2) l (l.map turnD) w4 HR4.out.1 (HS.out.more HR4.out.2.1) (fun h0 b e e2 => by have h3 := HS.out.low h0 e; have := HR4.out.1.2.low; omega) (by omega) hn).mono ?_
  rintro e w5 ⟨rfl, hsp4, hk4⟩
  have HR5 : Hid (Spare w5 w1.heap.size g n l ∧ Keeps None w w5 ∧ Keeps None w1 w5) := ⟨hsp4, HR4.out.2.1.trans hk4 (fun i e hi => by have := HR4.out.1.2.low; omega), HR4.out.2.2.trans hk4 (fun i e hi => by have := HR4.out.1.2.low; omega)⟩
  have HB5 : Hid _ := blk_kept HB4.out hk4 (fun e => hD e)
  clear hsp4 hk4 HR4 HB4 hD
  go_upto_region 6 with (go_at_call 23; refine Calls.mono (first_let HV2.out _ n _ w5 HR5.out.1.seen) ?_; rintro _ w6 ⟨rfl, hk6⟩)
  have b7 := heap_alloc_new w6 (.cells #[.int .i64 X2, .int .i64 Y2, .int .i64 Z2] 40)
  have k7 := hk6.andAlloc (.cells #[.int .i64 X2, .int .i64 Y2, .int .i64 Z2] 40)
  obtain ⟨w7, hw7⟩ : ∃ w7, w7 = w6.alloc (.cells #[.int .i64 X2, .int .i64 Y2, .int .i64 Z2] 40) := ⟨_, rfl⟩
  obtain ⟨C, hC0⟩ : ∃ C, C = w6.heap.size := ⟨_, rfl⟩
  rw [← hw7] at b7 k7
  rw [← hC0] at b7
  rw [← hw7, ← hC0]
  have HR7 : Hid (Keeps None w w7 ∧ Keeps None w1 w7) := ⟨HR5.out.2.1.trans k7 (fun _ f _ => f), HR5.out.2.2.trans k7 (fun _ f _ => f)⟩
  have HB7 : Hid (_ ∧ _) := And.intro (blk_kept HB5.out k7 (fun f => f)) b7
  clear HR5 HB5 hw7 hC0 b7 k7 hk6
  go_upto_region 7 with (go_at_call 24; refine Calls.mono (rfirst_let HV1.out a1 n c1 w7 ((Seen.of_row (by simpa using HLen.out) HR1.out.1).more HR7.out.2)) ?_; rintro _ w8 ⟨rfl, hk8⟩)
  have b9 := heap_alloc_new w8 (.cells #[.int .i64 X1, .int .i64 Y1, .int .i64 Z1] 40)
  have k9 := hk8.andAlloc (.cells #[.int .i64 X1, .int .i64 Y1, .int .i64 Z1] 40)
  obtain ⟨w9, hw9⟩ : ∃ w9, w9 = w8.alloc (.cells #[.int .i64 X1, .int .i64 Y1, .int .i64 Z1] 40) := ⟨_, rfl⟩
  obtain ⟨F, hF0⟩ : ∃ F, F = w8.heap.size := ⟨_, rfl⟩
  rw [← hw9] at b9 k9
  rw [← hF0] at b9
  rw [← hw9, ← hF0]
  have HR9 : Hid (Keeps None w w9) := HR7.out.1.trans k9 (fun _ f _ => f)
  have HB9 : Hid (_ ∧ _ ∧ _) := And.intro (blk_kept HB7.out.1 k9 (fun f => f)) (And.intro (blk_kept HB7.out.2 k9 (fun f => f)) b9)
  clear HR7 HB7 hw9 hF0 b9 k9 hk8
  go_upto_region 8 with (go_at_call 24; refine Calls.mono (rfirst_let HV2.out a n c w9 (HS.out.more HR9.out)) ?_; rintro _ w10 ⟨rfl, hk10⟩)
  have b11 := heap_alloc_new w10 (.cells #[.int .i64 X2, .int .i64 Y2, .int .i64 Z2] 40)
  have k11 := hk10.andAlloc (.cells #[.int .i64 X2, .int .i64 Y2, .int .i64 Z2] 40)
  obtain ⟨w11, hw11⟩ : ∃ w11, w11 = w10.alloc (.cells #[.int .i64 X2, .int .i64 Y2, .int .i64 Z2] 40) := ⟨_, rfl⟩
  obtain ⟨G, hG0⟩ : ∃ G, G = w10.heap.size := ⟨_, rfl⟩
  rw [← hw11] at b11 k11
  rw [← hG0] at b11
  rw [← hw11, ← hG0]
  have H11 : Hid (Keeps None w w11) := HR9.out.trans k11 (fun _ f _ => f)
  have q1 := blk_kept HB9.out.1 k11 (fun f => f)
  have q2 := blk_kept HB9.out.2.1 k11 (fun f => f)
  have q3 := blk_kept HB9.out.2.2 k11 (fun f => f)
  have c10 : w11.cell? ⟨D, 0, none⟩ = some (.int .i64 X1) := cell_of_heap q1 0
  have c11 : w11.cell? ⟨D, 1, none⟩ = some (.int .i64 Y1) := cell_of_heap q1 1
  have c12 : w11.cell? ⟨D, 2, none⟩ = some (.int .i64 Z1) := cell_of_heap q1 2
  have c20 : w11.cell? ⟨C, 0, none⟩ = some (.int .i64 X2) := cell_of_heap q2 0
  have c21 : w11.cell? ⟨C, 1, none⟩ = some (.int .i64 Y2) := cell_of_heap q2 1
  have c22 : w11.cell? ⟨C, 2, none⟩ = some (.int .i64 Z2) := cell_of_heap q2 2
  have c30 : w11.cell? ⟨F, 0, none⟩ = some (.int .i64 X1) := cell_of_heap q3 0
  have c31 : w11.cell? ⟨F, 1, none⟩ = some (.int .i64 Y1) := cell_of_heap q3 1
  have c32 : w11.cell? ⟨F, 2, none⟩ = some (.int .i64 Z1) := cell_of_heap q3 2
  have c40 : w11.cell? ⟨G, 0, none⟩ = some (.int .i64 X2) := cell_of_heap b11 0
  have c41 : w11.cell? ⟨G, 1, none⟩ = some (.int .i64 Y2) := cell_of_heap b11 1
  have c42 : w11.cell? ⟨G, 2, none⟩ = some (.int .i64 Z2) := cell_of_heap b11 2
  have heq1 := eqRace X1 Y1 Z1
  have heq2 := eqRace X2 Y2 Z2
  clear q1 q2 q3 b11 k11 hk10 hw11 hG0 HB9 HR9 HS HLen HR1 HV1 HV2
  go_wp2
  go_ret
  exact ⟨rfl, H11.out⟩
set_option maxHeartbeats 1600000 in
theorem racesFirst_walk (a : Option Addr) (n c : Nat) (l : List Dd) (w : World) (hS : Seen w a n l) (hn : (n + 2) * 16 ≤ 140737488355328) :
    Calls Try.prog 6 #[.slice a n c] w fun e w' => e = .returned (.bool true) ∧ Below w.heap.size w w' := by
  have HS : Hid (Seen w a n l) := hS
  clear hS
  obtain ⟨X2, Y2, Z2, B2, E2, h2⟩ := firV_let l
  have HV2 : Hid _ := h2
  clear h2
  go_enter Try.func6, Try.ntmps6
  go_wp2_with fail
  refine (spare_ok a n c l w HS.out hn).mono ?_
  rintro e w1 ⟨g, rfl, hsp, hk1⟩
  have HR1 : Hid (Spare w1 w.heap.size g n l ∧ Keeps None w w1) := ⟨hsp, hk1⟩
  clear hsp hk1
  go_upto_region 3 with (go_at_call 23; refine Calls.mono (first_let HV2.out _ n _ w1 HR1.out.1.seen) ?_; rintro _ w2 ⟨rfl, hk2⟩)
  have b3 := heap_alloc_new w2 (.cells #[.int .i64 X2, .int .i64 Y2, .int .i64 Z2] 40)
  have k3 := hk2.andAlloc (.cells #[.int .i64 X2, .int .i64 Y2, .int .i64 Z2] 40)
  obtain ⟨w3, hw3⟩ : ∃ w3, w3 = w2.alloc (.cells #[.int .i64 X2, .int .i64 Y2, .int .i64 Z2] 40) := ⟨_, rfl⟩
  obtain ⟨D, hD0⟩ : ∃ D, D = w2.heap.size := ⟨_, rfl⟩
  rw [← hw3] at b3 k3
  rw [← hD0] at b3
  rw [← hw3, ← hD0]
  have HR3 : Hid (Spare w3 w.heap.size g n l ∧ Keeps None w w3 ∧ _) := ⟨HR1.out.1.more k3, HR1.out.2.trans k3 (fun _ f _ => f), b3⟩
  clear HR1 hw3 hD0 b3 k3 hk2
  go_upto_region 4 with (go_at_call 24; refine Calls.mono (rfirst_let HV2.out a n c w3 (HS.out.more HR3.out.2.1)) ?_; rintro _ w6 ⟨rfl, hk6⟩)
  have b7 := heap_alloc_new w6 (.cells #[.int .i64 X2, .int .i64 Y2, .int .i64 Z2] 40)
  have k7 := hk6.andAlloc (.cells #[.int .i64 X2, .int .i64 Y2, .int .i64 Z2] 40)
  obtain ⟨w7, hw7⟩ : ∃ w7, w7 = w6.alloc (.cells #[.int .i64 X2, .int .i64 Y2, .int .i64 Z2] 40) := ⟨_, rfl⟩
  obtain ⟨C, hC⟩ : ∃ C, C = w6.heap.size := ⟨_, rfl⟩
  rw [← hw7] at b7 k7
  rw [← hC] at b7
  rw [← hw7, ← hC]
  have b8 := blk_kept HR3.out.2.2 k7 (fun f => f)
  have g0 : w7.cell? ⟨D, 0, none⟩ = some (.int .i64 X2) := cell_of_heap b8 0
  have g1 : w7.cell? ⟨D, 1, none⟩ = some (.int .i64 Y2) := cell_of_heap b8 1
  have g2 : w7.cell? ⟨D, 2, none⟩ = some (.int .i64 Z2) := cell_of_heap b8 2
  have g3 : w7.cell? ⟨C, 0, none⟩ = some (.int .i64 X2) := cell_of_heap b7 0
  have g4 : w7.cell? ⟨C, 1, none⟩ = some (.int .i64 Y2) := cell_of_heap b7 1
  have g5 : w7.cell? ⟨C, 2, none⟩ = some (.int .i64 Z2) := cell_of_heap b7 2
  have HW7 : Hid (Keeps None w w7) := HR3.out.2.1.trans k7 (fun _ f _ => f)
  have HRU : Hid (∀ w', Keeps None w7 w' → Calls Try.prog 12 #[.slice (some ⟨g, 0, none⟩) (n + 2) (n + 2), .slice a n c] w' fun e w'' => e = .returned (.bool true) ∧ Keeps None w7 w'') := fun w' hk => (untouched_ok a g n c _ l w' (HR3.out.1.more (k7.trans hk (fun _ f _ => f))) (HS.out.more (HW7.out.trans hk (fun _ f _ => f))) hn).mono fun e w'' hp => by
    obtain ⟨h1, m, rfl⟩ := hp
    exact ⟨h1, hk.trans (keeps_drewN _ m) (fun _ f _ => f)⟩
  have HRP : Hid (∀ w', Keeps None w7 w' → Calls Try.prog 25 #[.slice a n c] w' fun e w'' => e = .returned (.bool true) ∧ Keeps None w7 w'') := fun w' hk => (firstPlaced_ok a n c l w' (HS.out.more (HW7.out.trans hk (fun _ f _ => f))) hn).mono fun e w'' hp => ⟨hp.1, hk.trans hp.2 (fun _ f _ => f)⟩
  have heq2 := eqRace X2 Y2 Z2
  clear hw7 hC b7 b8 k7 hk6 HR3 HS HV2
  go_wp2_with fail
  refine Calls.mono (HRU.out w7 (Keeps.refl _ _)) ?_
  rintro _ w9 ⟨rfl, hk9⟩
  go_wp2_with fail
  refine Calls.mono (HRP.out _ hk9) ?_
  rintro _ w10 ⟨rfl, hk10⟩
  go_wp2
  go_ret
  exact ⟨rfl, (HW7.out.trans hk10 (fun _ f _ => f)).below _ (Nat.le_refl _) (fun _ f => f.elim)⟩
end Go.Proofs.Ytolhojagbiaamaa
/-! head: two lists written out. -/
namespace Go.Proofs.Ytolhojagbiaamaa
set_option linter.unusedVariables false
set_option maxRecDepth 20000
set_option linter.unusedSimpArgs false
open Go.RowKit Go.HeapKit

def hdA : List Dd := [⟨0, 0⟩, ⟨4, 7⟩, ⟨1, 0⟩, ⟨3, 7⟩]
def hdB : List Dd := [⟨0, 0⟩, ⟨4, 7⟩, ⟨1, 0⟩, ⟨2, 0⟩, ⟨3, 7⟩]
theorem hdA_chk : chkE hdA = 0 := by decide
theorem hdB_chk : chkE hdB = 0 := by decide
/-- Ahead, by the row. -/
theorem ah_row {l : List Dd} (hc : chkE l = 0) {i : Nat} (hi : i < l.length) (m : Nat) : Ah l m i ↔ (m < i ∧ (Lof (stN l l.length)).idxOf m < (Lof (stN l l.length)).idxOf i) := by
  obtain ⟨_, hf⟩ := chk_fine hc
  obtain ⟨d, _, _, hI⟩ := hf.at l.length (Nat.le_refl _)
  exact hI.ah i hi m
theorem hdA_race : RaceW hdA 1 3 := by
  refine ⟨by decide, by decide, by decide, by decide, ?_⟩
  rw [ah_row hdA_chk (by decide)]
  decide
theorem hdB_ah : Ah hdB 1 4 := by
  rw [ah_row hdB_chk (by decide)]
  decide
theorem hdA_no (k : Nat) (hk : k < 3) : rcB hdA k = false := by
  cases hb : rcB hdA k with
  | false => rfl
  | true =>
    obtain ⟨z, hz, h1, h2, _⟩ := (rcB_iff _ _).1 hb
    have e : k = 0 ∨ k = 1 ∨ k = 2 := by omega
    rcases e with rfl | rfl | rfl
    · omega
    · obtain rfl : z = 0 := by omega
      exact absurd h1 (by decide)
    · exact absurd h2 (by decide)
theorem hdB_no (k : Nat) (hk : k < 5) : rcB hdB k = false := by
  cases hb : rcB hdB k with
  | false => rfl
  | true =>
    obtain ⟨z, hz, h1, h2, _, _, h5⟩ := (rcB_iff _ _).1 hb
    have e : k = 0 ∨ k = 1 ∨ k = 2 ∨ k = 3 ∨ k = 4 := by omega
    rcases e with rfl | rfl | rfl | rfl | rfl
    · omega
    · obtain rfl : z = 0 := by omega
      exact absurd h1 (by decide)
    · exact absurd h2 (by decide)
    · exact absurd h2 (by decide)
    · have e : z = 0 ∨ z = 1 ∨ z = 2 ∨ z = 3 := by omega
      rcases e with rfl | rfl | rfl | rfl
      · exact absurd h1 (by decide)
      · exact absurd hdB_ah h5
      · exact absurd h1 (by decide)
      · exact absurd h1 (by decide)
theorem hdA_first : firV hdA = .returned (.tuple #[.agg #[.int .i64 3, .int .i64 1, .int .i64 7], .bool true, .int .i64 0]) :=
  firV_some (n := 3) (m := 1) hdA_chk ⟨by decide, hdA_no, by decide, hdA_race, fun k hk h => by
    obtain rfl : k = 0 := by omega
    exact absurd h.1 (by decide)⟩
theorem hdA_det {Z : List Int} (h : DetL hdA Z) : Z = [7] := by
  obtain ⟨h1, h2⟩ := h.1 hdA_chk
  have hm : ∀ L, L ∈ Z ↔ L = 7 := fun L => by
    rw [h2 L]
    constructor
    · rintro ⟨k, hk, hr, rfl⟩
      have hk4 : k < 4 := hk
      by_cases e : k = 3
      · subst e; rfl
      · rw [hdA_no k (by omega)] at hr; cases hr
    · rintro rfl
      exact ⟨3, by decide, (rcB_iff _ _).2 ⟨1, by decide, hdA_race⟩, rfl⟩
  cases Z with
  | nil => exact absurd ((hm 7).2 rfl) (by simp)
  | cons x xs =>
    have hx : x = 7 := (hm x).1 (by simp)
    subst hx
    cases xs with
    | nil => rfl
    | cons y ys =>
      have hy : y = 7 := (hm y).1 (by simp)
      subst hy
      rw [List.pairwise_cons] at h1
      have := h1.1 7 (by simp)
      omega
theorem hdB_det {Z : List Int} (h : DetL hdB Z) : Z = [] := by
  obtain ⟨h1, h2⟩ := h.1 hdB_chk
  cases Z with
  | nil => rfl
  | cons x xs =>
    obtain ⟨k, hk, hr, _⟩ := (h2 x).1 (by simp)
    rw [hdB_no k hk] at hr
    cases hr
def hdAV : Array Value := #[.int .i64 0, .int .i64 0, .int .i64 4, .int .i64 7, .int .i64 1, .int .i64 0, .int .i64 3, .int .i64 7]
def hdBV : Array Value := #[.int .i64 0, .int .i64 0, .int .i64 4, .int .i64 7, .int .i64 1, .int .i64 0, .int .i64 2, .int .i64 0, .int .i64 3, .int .i64 7]
theorem seenA {w : World} {g : Nat} (h : w.heap[g]? = some (.cells hdAV 51 (0, 0))) : Seen w (some ⟨g, 0, none⟩) 4 hdA := by
  refine ⟨rfl, fun _ => ⟨g, 0, rfl, blk_lt h, fun k x hx => ?_⟩⟩
  have hk : k < 4 := (List.getElem?_eq_some_iff.1 hx).1
  have e : k = 0 ∨ k = 1 ∨ k = 2 ∨ k = 3 := by omega
  rcases e with rfl | rfl | rfl | rfl <;> (injection hx with hx; subst hx; exact ⟨(cell_of_heap h _).trans rfl, (cell_of_heap h _).trans rfl⟩)
theorem seenB {w : World} {g : Nat} (h : w.heap[g]? = some (.cells hdBV 51 (0, 0))) : Seen w (some ⟨g, 0, none⟩) 5 hdB := by
  refine ⟨rfl, fun _ => ⟨g, 0, rfl, blk_lt h, fun k x hx => ?_⟩⟩
  have hk : k < 5 := (List.getElem?_eq_some_iff.1 hx).1
  have e : k = 0 ∨ k = 1 ∨ k = 2 ∨ k = 3 ∨ k = 4 := by omega
  rcases e with rfl | rfl | rfl | rfl | rfl <;> (injection hx with hx; subst hx; exact ⟨(cell_of_heap h _).trans rfl, (cell_of_heap h _).trans rfl⟩)
theorem detA_ok (g c : Nat) (w : World) (h : w.heap[g]? = some (.cells hdAV 51 (0, 0))) :
    Calls Try.prog 29 #[.slice (some ⟨g, 0, none⟩) 4 c] w fun e w' => ∃ g2 c2, e = .returned (.tuple #[.slice (some ⟨g2, 0, none⟩) 1 c2, .int .i64 0]) ∧ w'.cell? ⟨g2, 0, none⟩ = some (.int .i64 7) ∧ Keeps None w w' := by
  refine (detect_ok _ 4 c hdA w (seenA h)).mono ?_
  rintro e w' ⟨v, Z, rfl, hr, hd, hk⟩
  rw [hdA_chk]
  obtain rfl := hdA_det hd
  obtain ⟨a, c2, rfl, ha⟩ := hr.shape
  obtain ⟨g2, rfl⟩ := ha (by decide)
  exact ⟨g2, c2, rfl, hr.cell (k := 0) (by decide), hk⟩
theorem detB_ok (g c : Nat) (w : World) (h : w.heap[g]? = some (.cells hdBV 51 (0, 0))) :
    Calls Try.prog 29 #[.slice (some ⟨g, 0, none⟩) 5 c] w fun e w' => ∃ a2 c2, e = .returned (.tuple #[.slice a2 0 c2, .int .i64 0]) ∧ Keeps None w w' := by
  refine (detect_ok _ 5 c hdB w (seenB h)).mono ?_
  rintro e w' ⟨v, Z, rfl, hr, hd, hk⟩
  rw [hdB_chk]
  obtain rfl := hdB_det hd
  obtain ⟨a, c2, rfl, ha⟩ := hr.shape
  exact ⟨a, c2, rfl, hk⟩
theorem firA_ok (g c : Nat) (w : World) (h : w.heap[g]? = some (.cells hdAV 51 (0, 0))) :
    Calls Try.prog 23 #[.slice (some ⟨g, 0, none⟩) 4 c] w fun e w' => e = .returned (.tuple #[.agg #[.int .i64 3, .int .i64 1, .int .i64 7], .bool true, .int .i64 0]) ∧ Keeps None w w' :=
  first_let hdA_first _ 4 c w (seenA h)
theorem five_at (w : World) (o1 o2 o3 o4 o5 : Obj) : ((((((w.alloc o1).alloc o2).alloc o3).alloc o4).alloc o5).heap[w.heap.size]? = some o1) ∧ ((((((w.alloc o1).alloc o2).alloc o3).alloc o4).alloc o5).heap[w.heap.size + 1]? = some o2) ∧ ((((((w.alloc o1).alloc o2).alloc o3).alloc o4).alloc o5).heap[w.heap.size + 1 + 1]? = some o3) ∧ ((((((w.alloc o1).alloc o2).alloc o3).alloc o4).alloc o5).heap[w.heap.size + 1 + 1 + 1]? = some o4) ∧ ((((((w.alloc o1).alloc o2).alloc o3).alloc o4).alloc o5).heap[w.heap.size + 1 + 1 + 1 + 1]? = some o5) := by
  have k : ∀ {v : World} {o : Obj} {p : Nat} {x : Obj}, v.heap[p]? = some x → (v.alloc o).heap[p]? = some x := fun {v o p x} h => blk_kept h (Keeps.alloc None v o) (fun f => f)
  have e2 := heap_alloc_new (w.alloc o1) o2
  have e3 := heap_alloc_new ((w.alloc o1).alloc o2) o3
  have e4 := heap_alloc_new (((w.alloc o1).alloc o2).alloc o3) o4
  have e5 := heap_alloc_new ((((w.alloc o1).alloc o2).alloc o3).alloc o4) o5
  simp only [World.size_alloc] at e2 e3 e4 e5
  exact ⟨k (k (k (k (heap_alloc_new w o1)))), k (k (k e2)), k (k e3), k e4, e5⟩
set_option maxHeartbeats 1600000 in
theorem head_ok (w : World) : Calls Try.prog 27 #[] w fun e w' => e = .returned (.bool true) ∧ Keeps None w w' := by
  have h5 := five_at w (.cells #[.int .i64 0, .int .i64 0] 51) (.cells #[.int .i64 4, .int .i64 7] 51) (.cells #[.int .i64 1, .int .i64 0] 51) (.cells #[.int .i64 2, .int .i64 0] 51) (.cells #[.int .i64 3, .int .i64 7] 51)
  obtain ⟨s, hs⟩ : ∃ s, s = w.heap.size := ⟨_, rfl⟩
  obtain ⟨W, hW⟩ : ∃ W, W = ((((w.alloc (.cells #[.int .i64 0, .int .i64 0] 51)).alloc (.cells #[.int .i64 4, .int .i64 7] 51)).alloc (.cells #[.int .i64 1, .int .i64 0] 51)).alloc (.cells #[.int .i64 2, .int .i64 0] 51)).alloc (.cells #[.int .i64 3, .int .i64 7] 51) := ⟨_, rfl⟩
  rw [← hW, ← hs] at h5
  obtain ⟨b1, b2, b3, b4, b5⟩ := h5
  have HC : Hid (∀ w', Keeps None W w' → w'.cell? ⟨s, 0, none⟩ = some (.int .i64 0) ∧ w'.cell? ⟨s, 1, none⟩ = some (.int .i64 0) ∧ w'.cell? ⟨s + 1, 0, none⟩ = some (.int .i64 4) ∧ w'.cell? ⟨s + 1, 1, none⟩ = some (.int .i64 7) ∧ w'.cell? ⟨s + 1 + 1, 0, none⟩ = some (.int .i64 1) ∧ w'.cell? ⟨s + 1 + 1, 1, none⟩ = some (.int .i64 0) ∧ w'.cell? ⟨s + 1 + 1 + 1, 0, none⟩ = some (.int .i64 2) ∧ w'.cell? ⟨s + 1 + 1 + 1, 1, none⟩ = some (.int .i64 0) ∧ w'.cell? ⟨s + 1 + 1 + 1 + 1, 0, none⟩ = some (.int .i64 3) ∧ w'.cell? ⟨s + 1 + 1 + 1 + 1, 1, none⟩ = some (.int .i64 7)) := fun w' hk =>
    have q := fun {p : Nat} {o : Obj} (h : W.heap[p]? = some o) => blk_kept h hk (fun f => f)
    ⟨cell_of_heap (q b1) 0, cell_of_heap (q b1) 1, cell_of_heap (q b2) 0, cell_of_heap (q b2) 1, cell_of_heap (q b3) 0, cell_of_heap (q b3) 1, cell_of_heap (q b4) 0, cell_of_heap (q b4) 1, cell_of_heap (q b5) 0, cell_of_heap (q b5) 1⟩
  have HW : Hid _ := And.intro hW hs
  have HK : Hid (Keeps None w W) := by
    rw [hW]
    exact ((((Keeps.alloc None w _).andAlloc _).andAlloc _).andAlloc _).andAlloc _
  clear hW hs b1 b2 b3 b4 b5
  go_enter Try.func27, Try.ntmps27
  go_upto_region 6 with fail
  rw [← HW.out.2, ← HW.out.1]
  clear HW
  obtain ⟨c0, c1, c2, c3, c4, c5, c6, c7, c8, c9⟩ := HC.out W (Keeps.refl _ _)
  have HA : Hid _ := detA_ok W.heap.size 4 _ (heap_alloc_new W (.cells hdAV 51))
  go_upto_region 7 with (go_at_call 29; refine Calls.mono HA.out ?_; rintro _ w2 ⟨g2, cc2, rfl, hc2, hk2⟩)
  have kA := (Keeps.alloc None W (.cells hdAV 51)).trans hk2 (fun _ f _ => f)
  have H2 : Hid (Keeps None W w2 ∧ w2.cell? ⟨g2, 0, none⟩ = some (.int .i64 7)) := ⟨kA, hc2⟩
  clear c0 c1 c2 c3 c4 c5 c6 c7 c8 c9 HA hc2 hk2 kA
  obtain ⟨c0, c1, c2, c3, c4, c5, c6, c7, c8, c9⟩ := HC.out w2 H2.out.1
  have HB : Hid _ := detB_ok w2.heap.size 5 _ (heap_alloc_new w2 (.cells hdBV 51))
  go_upto_region 8 with (go_at_call 29; refine Calls.mono HB.out ?_; rintro _ w3 ⟨a3, cc3, rfl, hk3⟩)
  have kB := (Keeps.alloc None w2 (.cells hdBV 51)).trans hk3 (fun _ f _ => f)
  have H3 : Hid (Keeps None W w3 ∧ w3.cell? ⟨g2, 0, none⟩ = some (.int .i64 7)) := ⟨H2.out.1.trans kB (fun _ f _ => f), kB.cell H2.out.2 (fun f => f)⟩
  clear c0 c1 c2 c3 c4 c5 c6 c7 c8 c9 HB hk3 kB H2
  obtain ⟨c0, c1, c2, c3, c4, c5, c6, c7, c8, c9⟩ := HC.out w3 H3.out.1
  have HF : Hid _ := firA_ok w3.heap.size 4 _ (heap_alloc_new w3 (.cells hdAV 51))
  go_upto_region 9 with (go_at_call 23; refine Calls.mono HF.out ?_; rintro _ w4 ⟨rfl, hk4⟩)
  have kC := (Keeps.alloc None w3 (.cells hdAV 51)).trans hk4 (fun _ f _ => f)
  have b6 := heap_alloc_new w4 (.cells #[.int .i64 3, .int .i64 1, .int .i64 7] 40)
  have kD := kC.andAlloc (.cells #[.int .i64 3, .int .i64 1, .int .i64 7] 40)
  obtain ⟨w5, hw5⟩ : ∃ w5, w5 = w4.alloc (.cells #[.int .i64 3, .int .i64 1, .int .i64 7] 40) := ⟨_, rfl⟩
  obtain ⟨D, hD⟩ : ∃ D, D = w4.heap.size := ⟨_, rfl⟩
  rw [← hw5] at b6 kD
  rw [← hD] at b6
  rw [← hw5, ← hD]
  have H5 : Hid (Keeps None w w5) := (HK.out.trans H3.out.1 (fun _ f _ => f)).trans kD (fun _ f _ => f)
  have d0 : w5.cell? ⟨D, 0, none⟩ = some (.int .i64 3) := cell_of_heap b6 0
  have d1 : w5.cell? ⟨D, 1, none⟩ = some (.int .i64 1) := cell_of_heap b6 1
  have d2 : w5.cell? ⟨D, 2, none⟩ = some (.int .i64 7) := cell_of_heap b6 2
  have dg := kD.cell H3.out.2 (fun f => f)
  have heq := eqRace 3 1 7
  clear c0 c1 c2 c3 c4 c5 c6 c7 c8 c9 HF hk4 kC b6 kD hw5 hD H3 HC HK
  go_wp2_with fail
  go_ret
  exact ⟨rfl, H5.out⟩
end Go.Proofs.Ytolhojagbiaamaa
/-! What is told of the first deeds of a list. -/
namespace Go.Proofs.Ytolhojagbiaamaa
set_option linter.unusedVariables false
set_option maxRecDepth 20000
set_option linter.unusedSimpArgs false
open Go.RowKit Go.HeapKit

theorem least_ofP {P : Nat → Prop} (N : Nat) : (∀ n, n < N → ¬ P n) ∨ ∃ n, n < N ∧ P n ∧ ∀ k, k < n → ¬ P k := by
  induction N with
  | zero => exact .inl (fun n h => by omega)
  | succ N ih =>
    rcases ih with ih | ⟨n, h1, h2⟩
    · by_cases h : P N
      · exact .inr ⟨N, by omega, h, ih⟩
      · refine .inl (fun n hn hp => ?_)
        by_cases e : n = N
        · subst e; exact h hp
        · exact ih n (by omega) hp
    · exact .inr ⟨n, by omega, h2⟩
/-- There is a first race, or none. -/
theorem first_casesP (l : List Dd) : (∃ n m, FirstP l n m) ∨ ∀ n, n < l.length → rcB l n = false := by
  rcases least_ofP (P := fun n => rcB l n = true) l.length with h | ⟨n, h1, h2, h3⟩
  · exact .inr (fun n hn => by cases hb : rcB l n with | false => rfl | true => exact absurd hb (h n hn))
  · obtain ⟨z, hz, hr⟩ := (rcB_iff l n).1 h2
    rcases least_ofP (P := fun m => RaceW l m n) n with h | ⟨m, g1, g2, g3⟩
    · exact absurd hr (h z hz)
    · exact .inl ⟨n, m, h1, fun k hk => by cases hb : rcB l k with | false => rfl | true => exact absurd hb (h3 k hk), g1, g2, g3⟩
theorem getD_take {α : Type} (l : List α) {n i : Nat} (d : α) (h : i < n) : (l.take n).getD i d = l.getD i d := by
  simp [List.getD, List.getElem?_take, h]
theorem kd_take (l : List Dd) {n i : Nat} (h : i < n) : kdN (l.take n) i = kdN l i := by unfold kdN; rw [getD_take _ _ h]
theorem lc_take (l : List Dd) {n i : Nat} (h : i < n) : lcN (l.take n) i = lcN l i := by unfold lcN; rw [getD_take _ _ h]
theorem stN_take (l : List Dd) (n : Nat) : ∀ i, i ≤ n → stN (l.take n) i = stN l i
  | 0, _ => rfl
  | i + 1, h => by
    show stepT i _ _ = stepT i _ _
    rw [getD_take _ _ (by omega), stN_take l n i (by omega)]
theorem frm_take (l : List Dd) {n i : Nat} (h : i < n) : frmN (l.take n) i = frmN l i := by
  unfold frmN
  rw [stN_take l n i (by omega), getD_take _ _ h]
theorem ah_ltE {l : List Dd} (hc : chkE l = 0) {m i : Nat} (hi : i < l.length) (h : Ah l m i) : m < i := ((ah_row hc hi m).1 h).1
theorem ah_same {l l' : List Dd} (hc : chkE l = 0) {N m i : Nat} (hN : N ≤ l.length) (hf : ∀ i, i < N → frmN l' i = frmN l i) (h : Ah l m i) : i < N → Ah l' m i := by
  induction h with
  | one h => exact fun hi => .one (by rw [hf _ hi]; exact h)
  | more h1 h2 ih =>
    intro hi
    have := ah_ltE hc (by omega) (.one h1)
    exact .more (by rw [hf _ hi]; exact h1) (ih (by omega))
theorem chkL_take : ∀ (l : List Dd) (n i d : Nat), chkL l i d = none → chkL (l.take n) i d = none
  | [], n, i, d, _ => by simp [chkL]
  | x :: l, 0, i, d, _ => rfl
  | x :: l, n + 1, i, d, h => by
    rw [List.take_succ_cons]
    unfold chkL at h ⊢
    split at h
    · cases h
    · rename_i hb
      rw [if_neg hb]
      exact chkL_take l n _ _ h
theorem chk_take {l : List Dd} (h : chkE l = 0) (n : Nat) : chkE (l.take n) = 0 := by
  obtain ⟨h1, h2⟩ := chk_fine h
  have hc : chkL l 0 0 = none := h2.1
  refine (chk_none ?_ (chkL_take l n 0 0 hc)).1
  rw [List.length_take]
  omega
theorem ah_take {l : List Dd} (hc : chkE l = 0) {n m i : Nat} (hn : n ≤ l.length) (hi : i < n) : Ah (l.take n) m i ↔ Ah l m i := by
  constructor
  · exact fun h => ah_same (chk_take hc n) (N := n) (by rw [List.length_take]; omega) (fun i hi => (frm_take l hi).symm) h hi
  · exact fun h => ah_same hc hn (fun i hi => frm_take l hi) h hi
theorem race_take {l : List Dd} (hc : chkE l = 0) {n m i : Nat} (hn : n ≤ l.length) (hi : i < n) (hm : m < i) : RaceW (l.take n) m i ↔ RaceW l m i := by
  unfold RaceW
  rw [kd_take l hi, kd_take l (show m < n by omega), lc_take l hi, lc_take l (show m < n by omega), ah_take hc hn hi]
theorem rc_take {l : List Dd} (hc : chkE l = 0) {n i : Nat} (hn : n ≤ l.length) (hi : i < n) : rcB (l.take n) i = rcB l i := by
  rw [Bool.eq_iff_iff, rcB_iff, rcB_iff]
  constructor
  · rintro ⟨z, hz, h⟩; exact ⟨z, hz, (race_take hc hn hi hz).1 h⟩
  · rintro ⟨z, hz, h⟩; exact ⟨z, hz, (race_take hc hn hi hz).2 h⟩
theorem len_take {l : List Dd} {n : Nat} (hn : n ≤ l.length) : (l.take n).length = n := by rw [List.length_take]; omega
theorem first_take {l : List Dd} (hc : chkE l = 0) {n p m : Nat} (hn : n ≤ l.length) (h : FirstP l p m) (hp : p < n) : FirstP (l.take n) p m :=
  ⟨by rw [len_take hn]; exact hp, fun k hk => by rw [rc_take hc hn (by omega)]; exact h.no k hk, h.ml, (race_take hc hn hp h.ml).2 h.race, fun k hk hr => h.least k hk ((race_take hc hn hp (by have := h.ml; omega)).1 hr)⟩
theorem none_take {l : List Dd} (hc : chkE l = 0) {n : Nat} (hn : n ≤ l.length) (h : ∀ i, i < n → rcB l i = false) : ∀ i, i < (l.take n).length → rcB (l.take n) i = false := fun i hi => by
  rw [len_take hn] at hi
  rw [rc_take hc hn hi]
  exact h i hi
theorem racy_take {l : List Dd} (hc : chkE l = 0) {n : Nat} (hn : n ≤ l.length) {Y Z : List Int} (hY : RacyL (l.take n) Y) (hZ : RacyL l Z) {L : Int} (h : L ∈ Y) : L ∈ Z := by
  obtain ⟨a, h1, h2, h3⟩ := (hY.2 L).1 h
  rw [len_take hn] at h1
  rw [rc_take hc hn h1] at h2
  rw [lc_take l h1] at h3
  exact (hZ.2 L).2 ⟨a, by omega, h2, h3⟩
/-- What First tells of a list and of its beginning. -/
structure FirTwo (n : Nat) (x y z x2 y2 z2 : Int) (b b2 : Bool) : Prop where
  go : b = true → b2 = true ∧ x = x2 ∧ y = y2 ∧ z = z2
  back : b2 = true → x2 < n → b = true
theorem fir_two {l : List Dd} (hc : chkE l = 0) {n : Nat} (hn : n ≤ l.length) : ∃ x y z x2 y2 z2 b b2, firV (l.take n) = .returned (.tuple #[.agg #[.int .i64 x, .int .i64 y, .int .i64 z], .bool b, .int .i64 0]) ∧ firV l = .returned (.tuple #[.agg #[.int .i64 x2, .int .i64 y2, .int .i64 z2], .bool b2, .int .i64 0]) ∧ FirTwo n x y z x2 y2 z2 b b2 := by
  rcases first_casesP l with ⟨p, m, hF⟩ | hno
  · by_cases hp : p < n
    · exact ⟨_, _, _, _, _, _, _, _, firV_some (chk_take hc n) (first_take hc hn hF hp), firV_some hc hF, ⟨fun _ => ⟨rfl, rfl, rfl, lc_take l hp⟩, fun _ _ => rfl⟩⟩
    · exact ⟨_, _, _, _, _, _, _, _, firV_none (chk_take hc n) (fst_none (none_take hc hn (fun i hi => hF.no i (by omega)))), firV_some hc hF, ⟨fun h => (by cases h), fun _ h => absurd h (by omega)⟩⟩
  · exact ⟨_, _, _, _, _, _, _, _, firV_none (chk_take hc n) (fst_none (none_take hc hn (fun i hi => hno i (by omega)))), firV_none hc (fst_none hno), ⟨fun h => (by cases h), fun h => (by cases h)⟩⟩
theorem Seen.take {w : World} {a : Option Addr} {n k : Nat} {l : List Dd} (h : Seen w a n l) (hk : k ≤ n) : Seen w a k (l.take k) := by
  refine ⟨by rw [len_take (by rw [← h.len]; exact hk)], fun h0 => ?_⟩
  obtain ⟨b, off, rfl, hb, hc⟩ := h.ex (by omega)
  refine ⟨b, off, rfl, hb, fun j x hx => hc j x ?_⟩
  rw [List.getElem?_take] at hx
  split at hx
  · exact hx
  · cases hx
theorem tmod_in (x : Int) (n : Nat) (h0 : 0 < n) : -(n : Int) < x.tmod n ∧ x.tmod n < n := by
  have h1 := Int.natAbs_tmod x n
  have h2 : x.natAbs % (n : Int).natAbs < (n : Int).natAbs := Nat.mod_lt _ (by omega)
  omega
set_option maxHeartbeats 1600000 in
theorem lmod_ok (x : Int) (n : Nat) (w : World) (h0 : 0 < n) (h1 : n ≤ 1099511627776) : Calls Try.prog 28 #[.int .i64 x, .int .i64 n] w fun e w' => ∃ N : Nat, e = .returned (.int .i64 N) ∧ N < n ∧ w' = w := by
  obtain ⟨b0, b1⟩ := tmod_in x n h0
  have hn : ¬ (n : Int) = 0 := by omega
  have hn2 : (n : Int) ≤ 1099511627776 := by omega
  by_cases hr : x.tmod n < 0
  · go_enter Try.func28, Try.ntmps28
    go_wp2
    go_ret
    refine ⟨(x.tmod n + n).toNat, ?_, by omega, rfl⟩
    rw [Int.toNat_of_nonneg (by omega)]
    rfl
  · go_enter Try.func28, Try.ntmps28
    go_wp2
    go_ret
    refine ⟨(x.tmod n).toNat, ?_, by omega, rfl⟩
    rw [Int.toNat_of_nonneg (by omega)]
    rfl
theorem sound_is (E : Int) (b : Bool) (hb : b = decide (E = 0)) (a : Option Addr) (n c : Nat) (l : List Dd) (w : World) (hE : chkE l = E) (hS : Seen w a n l) (hn : (n + 2) * 16 ≤ 140737488355328) :
    Calls Try.prog 26 #[.slice a n c] w fun e w' => e = .returned (.bool b) ∧ w' = w := by
  rw [hb, ← hE]; exact sound_ok a n c l w hS hn
theorem detect_is (E : Int) (a : Option Addr) (n c : Nat) (l : List Dd) (w : World) (hE : chkE l = E) (hS : Seen w a n l) :
    Calls Try.prog 29 #[.slice a n c] w fun e w' => ∃ v Z, e = .returned (.tuple #[v, .int .i64 E]) ∧ RowL w' w.heap.size v Z ∧ DetL l Z ∧ Keeps None w w' := by
  rw [← hE]; exact detect_ok a n c l w hS
end Go.Proofs.Ytolhojagbiaamaa
/-! The walk of RacesPrefix. -/
namespace Go.Proofs.Ytolhojagbiaamaa
set_option linter.unusedVariables false
set_option maxRecDepth 20000
set_option linter.unusedSimpArgs false
open Go.RowKit Go.HeapKit

theorem neqRace (x y z : Int) (w : World) : (binOp .neq 40 (.agg #[.int .i64 x, .int .i64 y, .int .i64 z]) (.agg #[.int .i64 x, .int .i64 y, .int .i64 z])).run Try.prog w = .ok (.bool false) w := by
  have h := eqRace x y z w
  simp [binOp] at h ⊢
  revert h
  generalize Sem.run _ _ w = X
  intro h
  cases X with
  | ok a w' =>
    simp [Result.andThen] at h ⊢
    exact h
  | halt x w' => simp [Result.andThen] at h
set_option maxHeartbeats 1600000 in
theorem prefix_bad (a : Option Addr) (n c : Nat) (l : List Dd) (m : Int) (w : World) (hS : Seen w a n l) (hn : (n + 2) * 16 ≤ 140737488355328) (hE : ¬ chkE l = 0) :
    Calls Try.prog 7 #[.slice a n c, .int .i64 m] w fun e w' => e = .returned (.bool true) ∧ Keeps None w w' := by
  have HSo : Hid _ := sound_is _ false (by simp [hE]) a n c l w rfl hS hn
  have HHe : Hid _ := head_ok w
  clear hS hE
  by_cases h4 : n > 4096
  · have i1 : (n : Int) > 4096 := by omega
    go_enter Try.func7, Try.ntmps7
    go_wp2_with (go_at_call 27; refine Calls.mono HHe.out ?_; rintro _ w2 ⟨rfl, hk2⟩)
    go_ret
    exact ⟨rfl, hk2⟩
  · have i1 : ¬ (n : Int) > 4096 := by omega
    go_enter Try.func7, Try.ntmps7
    go_wp2_with (first | (go_at_call 26; refine Calls.mono HSo.out ?_; rintro _ w1 ⟨rfl, rfl⟩) | (go_at_call 27; refine Calls.mono HHe.out ?_; rintro _ w2 ⟨rfl, hk2⟩))
    go_ret
    exact ⟨rfl, hk2⟩
set_option maxHeartbeats 8000000 in
theorem prefix_good (a : Option Addr) (n c : Nat) (l : List Dd) (m : Int) (w : World) (hS : Seen w a n l) (hnc : n ≤ c) (hn : (n + 2) * 16 ≤ 140737488355328) (hE : chkE l = 0) :
    Calls Try.prog 7 #[.slice a n c, .int .i64 m] w fun e w' => e = .returned (.bool true) ∧ Keeps None w w' := by
  have HS : Hid (Seen w a n l ∧ chkE l = 0 ∧ n = l.length ∧ n ≤ c) := ⟨hS, hE, hS.len, hnc⟩
  have HSo : Hid _ := sound_is 0 true rfl a n c l w hE hS hn
  have hn4 : n ≤ 4096 := by rw [hS.len]; exact (chk_fine hE).1
  have i1 : ¬ (n : Int) > 4096 := by omega
  have hmo := lmod_ok m (n + 1) w (by omega) (by omega)
  have HMo : Hid _ := hmo
  clear hS hE hmo
  go_enter Try.func7, Try.ntmps7
  go_upto_region 3 with (go_at_call 26; refine Calls.mono HSo.out ?_; rintro _ w1 ⟨rfl, rfl⟩)
  go_upto_region 4 with (go_at_call 28; refine Calls.mono HMo.out ?_; rintro _ w1 ⟨N, rfl, hN, rfl⟩)
  clear HSo HMo i1
  have j1 : (N : Int) ≤ (c : Int) := by omega
  have j2 : N ≤ c := by omega
  obtain ⟨x1, y1, z1, x2, y2, z2, b1, b2, hv1, hv2, hft⟩ := fir_two HS.out.2.1 (n := N) (by have := HS.out.2.2.1; omega)
  have HDe : Hid _ := detect_is 0 a N c (l.take N) w1 (chk_take HS.out.2.1 N) (HS.out.1.take (by omega))
  have HDl : Hid (∀ w', Keeps None w1 w' → Calls Try.prog 29 #[.slice a n c] w' _) := fun w' hk => detect_is 0 a n c l w' HS.out.2.1 (HS.out.1.more hk)
  have HFe : Hid (∀ w', Keeps None w1 w' → Calls Try.prog 23 #[.slice a N c] w' _) := fun w' hk => first_let hv1 a N c w' ((HS.out.1.take (by omega)).more hk)
  have HFl : Hid (∀ w', Keeps None w1 w' → Calls Try.prog 23 #[.slice a n c] w' _) := fun w' hk => first_let hv2 a n c w' (HS.out.1.more hk)
  have HFt : Hid (FirTwo N x1 y1 z1 x2 y2 z2 b1 b2) := hft
  clear hv1 hv2 hft
  go_upto_region 5 with (go_at_call 29; refine Calls.mono HDe.out ?_; rintro _ w2 ⟨v, Z, rfl, hr, hd, hk2⟩)
  have HD2 : Hid _ := HDl.out w2 hk2
  have HZ : Hid (RowL w2 w1.heap.size v Z ∧ DetL (l.take N) Z ∧ Keeps None w1 w2) := ⟨hr, hd, hk2⟩
  clear hr hd hk2
  go_upto_region 6 with (go_at_call 29; refine Calls.mono HD2.out ?_; rintro _ w3 ⟨v2, Z2, rfl, hr, hd, hk3⟩)
  have HY : Hid (RowL w3 w1.heap.size v Z ∧ RowL w3 w2.heap.size v2 Z2 ∧ (∀ L, L ∈ Z → L ∈ Z2) ∧ Keeps None w1 w3 ∧ Z.length ≤ 4096 ∧ Z2.length ≤ 4096) :=
    ⟨HZ.out.1.kept hk3 (fun _ _ f => f), hr, fun L hL => racy_take HS.out.2.1 (by have := HS.out.2.2.1; omega) (HZ.out.2.1.1 (chk_take HS.out.2.1 N)) (hd.1 HS.out.2.1) hL, HZ.out.2.2.trans hk3 (fun _ f _ => f), HZ.out.2.1.2.2, hd.2.2⟩
  have HF3 : Hid _ := HFe.out w3 HY.out.2.2.2.1
  clear hr hd hk3 HZ HD2 HDl HDe HFe
  go_upto_region 7 with (go_at_call 23; refine Calls.mono HF3.out ?_; rintro _ w4 ⟨rfl, hk4⟩)
  have b4 := heap_alloc_new w4 (.cells #[.int .i64 x1, .int .i64 y1, .int .i64 z1] 40)
  have k4 := hk4.andAlloc (.cells #[.int .i64 x1, .int .i64 y1, .int .i64 z1] 40)
  obtain ⟨w5, hw5⟩ : ∃ w5, w5 = w4.alloc (.cells #[.int .i64 x1, .int .i64 y1, .int .i64 z1] 40) := ⟨_, rfl⟩
  obtain ⟨D, hD⟩ : ∃ D, D = w4.heap.size := ⟨_, rfl⟩
  rw [← hw5] at b4 k4
  rw [← hD] at b4
  rw [← hw5, ← hD]
  have H5 : Hid (w5.heap[D]? = some (.cells #[.int .i64 x1, .int .i64 y1, .int .i64 z1] 40 (0, 0)) ∧ Keeps None w3 w5) := ⟨b4, k4⟩
  have HF5 : Hid _ := HFl.out w5 (HY.out.2.2.2.1.trans k4 (fun _ f _ => f))
  clear b4 k4 hw5 hD hk4 HF3 HFl
  go_upto_region 8 with (go_at_call 23; refine Calls.mono HF5.out ?_; rintro _ w6 ⟨rfl, hk6⟩)
  have b6 := heap_alloc_new w6 (.cells #[.int .i64 x2, .int .i64 y2, .int .i64 z2] 40)
  have k6 := hk6.andAlloc (.cells #[.int .i64 x2, .int .i64 y2, .int .i64 z2] 40)
  obtain ⟨w7, hw7⟩ : ∃ w7, w7 = w6.alloc (.cells #[.int .i64 x2, .int .i64 y2, .int .i64 z2] 40) := ⟨_, rfl⟩
  obtain ⟨D2, hD2⟩ : ∃ D2, D2 = w6.heap.size := ⟨_, rfl⟩
  rw [← hw7] at b6 k6
  rw [← hD2] at b6
  rw [← hw7, ← hD2]
  have k37 := H5.out.2.trans k6 (fun _ f _ => f)
  have H7 : Hid (w7.heap[D]? = some (.cells #[.int .i64 x1, .int .i64 y1, .int .i64 z1] 40 (0, 0)) ∧ w7.heap[D2]? = some (.cells #[.int .i64 x2, .int .i64 y2, .int .i64 z2] 40 (0, 0)) ∧ Keeps None w1 w7 ∧ RowL w7 w1.heap.size v Z ∧ RowL w7 w2.heap.size v2 Z2) :=
    ⟨blk_kept H5.out.1 k6 (fun f => f), b6, HY.out.2.2.2.1.trans k37 (fun _ f _ => f), HY.out.1.kept k37 (fun _ _ f => f), HY.out.2.1.kept k37 (fun _ _ f => f)⟩
  clear b6 k6 hw7 hD2 hk6 HF5 H5 k37
  obtain ⟨az, cz, rfl, hsa⟩ := H7.out.2.2.2.1.shape
  obtain ⟨nz, hnz⟩ : ∃ nz, nz = Z.length := ⟨_, rfl⟩
  rw [← hnz] at H7 HY
  rw [← hnz]
  have HNz : Hid (nz = Z.length ∧ (0 < nz → ∃ g, az = some ⟨g, 0, none⟩)) := ⟨hnz, fun h => hsa (by omega)⟩
  have hz4 : nz ≤ 4096 := HY.out.2.2.2.2.1
  clear hnz hsa
  go_wp2_with fail
  go_loopw [15, 16] (fun s15 _ wr => ∃ q : Nat, q ≤ nz ∧ s15 = .int .i64 (q : Int) ∧ wr = w7) (fun s15 _ _ => nz - (intOf s15).toNat)
  case atStart => exact ⟨0, by omega, rfl, rfl⟩
  case round =>
    obtain ⟨q, hq, rfl, rfl⟩ := hrel
    by_cases hqn : q < nz
    · obtain ⟨g, rfl⟩ := HNz.out.2 (by omega)
      have hrow := H7.out.2.2.2.1
      rw [HNz.out.1] at hrow
      have e0 := hrow.cell (k := q) (by have := HNz.out.1; omega)
      have hin : Z.getD q 0 ∈ Z2 := HY.out.2.2.1 _ (by rw [getD_at (by have := HNz.out.1; omega)]; exact List.getElem_mem _)
      obtain ⟨z, hz⟩ : ∃ z, z = Z.getD q 0 := ⟨_, rfl⟩
      rw [← hz] at e0 hin
      have i1 : (q : Int) < (nz : Int) := by omega
      have HHa : Hid (Calls Try.prog 30 #[v2, .int .i64 z] wr fun e w' => e = .returned (.bool true) ∧ w' = wr) := by
        have := has_ok _ Z2 z _ wr H7.out.2.2.2.2 HY.out.2.2.2.2.2
        rw [show decide (z ∈ Z2) = true by simp [hin]] at this
        exact this
      clear hrow hin hz
      go_wp2_with (go_at_call 30; refine Calls.mono HHa.out ?_; rintro _ w8 ⟨rfl, rfl⟩)
      go_roundw
      case rel => exact ⟨q + 1, by omega, by simp, by first | trivial | rfl⟩
      case measure => simp [intOf]; omega
    · obtain rfl : q = nz := by omega
      have i1 : ¬ (q : Int) < (q : Int) := by omega
      have HHe : Hid _ := head_ok wr
      have d0 : wr.cell? ⟨D, 0, none⟩ = some (.int .i64 x1) := cell_of_heap H7.out.1 0
      have d1 : wr.cell? ⟨D, 1, none⟩ = some (.int .i64 y1) := cell_of_heap H7.out.1 1
      have d2 : wr.cell? ⟨D, 2, none⟩ = some (.int .i64 z1) := cell_of_heap H7.out.1 2
      have f0 : wr.cell? ⟨D2, 0, none⟩ = some (.int .i64 x2) := cell_of_heap H7.out.2.1 0
      have f1 : wr.cell? ⟨D2, 1, none⟩ = some (.int .i64 y2) := cell_of_heap H7.out.2.1 1
      have f2 : wr.cell? ⟨D2, 2, none⟩ = some (.int .i64 z2) := cell_of_heap H7.out.2.1 2
      have HK : Hid (Keeps None w1 wr) := H7.out.2.2.1
      cases b1 with
      | true =>
        obtain ⟨rfl, rfl, rfl, rfl⟩ := HFt.out.go rfl
        have heq := neqRace x1 y1 z1
        clear HFt
        go_wp2_with (go_at_call 27; refine Calls.mono HHe.out ?_; rintro _ w9 ⟨rfl, hk9⟩)
        all_goals go_ret
        all_goals exact ⟨rfl, HK.out.trans hk9 (fun _ f _ => f)⟩
      | false =>
        cases b2 with
        | false =>
          clear HFt
          go_wp2_with (go_at_call 27; refine Calls.mono HHe.out ?_; rintro _ w9 ⟨rfl, hk9⟩)
          all_goals go_ret
          all_goals exact ⟨rfl, HK.out.trans hk9 (fun _ f _ => f)⟩
        | true =>
          have i2 : ¬ x2 < (N : Int) := fun h => by have := HFt.out.back rfl h; cases this
          clear HFt
          go_wp2_with (go_at_call 27; refine Calls.mono HHe.out ?_; rintro _ w9 ⟨rfl, hk9⟩)
          all_goals go_ret
          all_goals exact ⟨rfl, HK.out.trans hk9 (fun _ f _ => f)⟩
theorem racesPrefix_walk (a : Option Addr) (n c : Nat) (l : List Dd) (m : Int) (w : World) (hS : Seen w a n l) (hnc : n ≤ c) (hn : (n + 2) * 16 ≤ 140737488355328) :
    Calls Try.prog 7 #[.slice a n c, .int .i64 m] w fun e w' => e = .returned (.bool true) ∧ Below w.heap.size w w' := by
  have h : Calls Try.prog 7 #[.slice a n c, .int .i64 m] w fun e w' => e = .returned (.bool true) ∧ Keeps None w w' := by
    by_cases hE : chkE l = 0
    · exact prefix_good a n c l m w hS hnc hn hE
    · exact prefix_bad a n c l m w hS hn hE
  exact h.mono fun e w' hp => ⟨hp.1, hp.2.below _ (Nat.le_refl _) (fun _ f => f.elim)⟩
end Go.Proofs.Ytolhojagbiaamaa
/-! Structs of 64-bit numbers among the arguments, and slices of them. Whatever the program. -/
namespace Go.HeapKit
open Go.ChangeShapes Go.WideShapes Go.ChangeAt Go.RowKit Go.Deep

section
variable {H : Type} {enc : TypeId × Value → H} {P : Program} {w : World} {base : Nat} {spare : Nat → Bool} {held : Bool}

/-- All fields are 64-bit numbers, one cell each, in order. -/
def allInts (P : Program) (fs : List Field) : Bool :=
  (List.range fs.length).all fun i => match fs[i]? with
    | some f => f.offset == i && (match P.underlying f.type with | some (.int .i64) => true | _ => false) && P.cellsOf f.type == 1
    | none => false
theorem allInts_at {fs : List Field} (h : allInts P fs = true) {i : Nat} {f : Field} (hf : fs[i]? = some f) : f.offset = i ∧ P.underlying f.type = some (.int .i64) ∧ P.cellsOf f.type = 1 := by
  have hi : i < fs.length := (List.getElem?_eq_some_iff.1 hf).1
  have := List.all_eq_true.1 h i (List.mem_range.2 hi)
  rw [hf] at this
  simp only [Bool.and_eq_true, beq_iff_eq] at this
  obtain ⟨⟨h1, h2⟩, h3⟩ := this
  refine ⟨h1, ?_, h3⟩
  split at h2
  · assumption
  · cases h2

theorem struct_ints {t : TypeId} {fs : Array Field} {fuel : Nat} {cs : List Value} {x : DataW H × List MemPlace} (ht : P.underlying t = some (.struct fs)) (ha : allInts P fs.toList = true) (hc : P.cellsOf t = fs.size)
    (h : DataW.trod enc P w base spare held fuel t cs = some x) : ∃ ns : List Int, ns.length = fs.size ∧ cs = ns.map (Value.int .i64) ∧ ∀ n ∈ ns, (Lit.int .i64 n).wf = true := by
  obtain ⟨xs, n, _, rfl, hl, hlen, hf⟩ := DataW.trod_struct ht h
  rw [hc] at hl
  have hat : ∀ i, i < fs.size → ∃ m : Int, cs[i]? = some (.int .i64 m) ∧ (Lit.int .i64 m).wf = true := by
    intro i hi
    have hfi : fs[i]? = some fs[i] := by simp [hi]
    obtain ⟨h1, h2, h3⟩ := allInts_at ha (i := i) (f := fs[i]) (by simp)
    have hq := hf i fs[i] hfi
    rw [h1, h3, show xs[i]? = some xs[i] by simp] at hq
    obtain ⟨m, hm, _, hw⟩ := DataW.trod_int h2 hq
    refine ⟨m, ?_, hw⟩
    have : (List.take 1 (List.drop i cs))[0]? = some (.int .i64 m) := by rw [hm]; rfl
    simpa [List.getElem?_take, List.getElem?_drop] using this
  have hall : ∀ v ∈ cs, ∃ m : Int, v = .int .i64 m ∧ (Lit.int .i64 m).wf = true := by
    intro v hv
    obtain ⟨i, hi, rfl⟩ := List.mem_iff_getElem.1 hv
    obtain ⟨m, hm, hw⟩ := hat i (by omega)
    exact ⟨m, by simpa [hi] using hm, hw⟩
  have hex : ∀ cs : List Value, (∀ v ∈ cs, ∃ m : Int, v = .int .i64 m ∧ (Lit.int .i64 m).wf = true) → ∃ ns : List Int, cs = ns.map (Value.int .i64) ∧ ∀ n ∈ ns, (Lit.int .i64 n).wf = true := by
    intro cs
    induction cs with
    | nil => exact fun _ => ⟨[], rfl, fun _ h => by cases h⟩
    | cons v cs ih =>
      intro hv
      obtain ⟨ns, rfl, hw⟩ := ih (fun u hu => hv u (List.mem_cons_of_mem _ hu))
      obtain ⟨m, rfl, hm⟩ := hv v (List.mem_cons_self ..)
      refine ⟨m :: ns, rfl, ?_⟩
      intro n hn
      rcases List.mem_cons.1 hn with rfl | hn
      · exact hm
      · exact hw n hn
  obtain ⟨ns, rfl, hw⟩ := hex cs hall
  exact ⟨ns, by simpa using hl, rfl, hw⟩

theorem open_struct_ints {r : Reach} {b0 : Nat} {t : TypeId} {fs : Array Field} {v : Value} {d : DataW H} {ps : List MemPlace} (ht : P.underlying t = some (.struct fs)) (ha : allInts P fs.toList = true) (hc : P.cellsOf t = fs.size)
    (hval : Value.okWide P w r b0 t v) (hd : DataW.Trod enc P w base spare held t v d ps) : ∃ ns : List Int, ns.length = fs.size ∧ v = .agg (ns.map (Value.int .i64)).toArray ∧ ∀ n ∈ ns, (Lit.int .i64 n).wf = true := by
  obtain ⟨cs, rfl, hs⟩ := okWide_struct ht hval
  obtain ⟨fuel, hf⟩ := hd
  obtain ⟨ns, hl, he, hw⟩ := struct_ints ht ha hc hf
  refine ⟨ns, hl, ?_, hw⟩
  have : cs.toList = ns.map (Value.int .i64) := by simpa [Value.cells] using he
  rw [← this]

/-- A slice of structs of numbers that came in: nil; or a grid of 'cap' rows, 'size' cells each. -/
def IsGrid (size : Nat) (w : World) (a : Option Addr) (len cap : Nat) (rows : List (List Int)) : Prop :=
  (a = none ∧ len = 0 ∧ cap = 0 ∧ rows = []) ∨
  ∃ x : Addr, a = some x ∧ len ≤ cap ∧ cap ≤ maxLen ∧ rows.length = cap ∧ (∀ i, i < cap → ∃ ns : List Int, rows[i]? = some ns ∧ ns.length = size ∧ (∀ n ∈ ns, (Lit.int .i64 n).wf = true) ∧ ∀ j m, ns[j]? = some m → w.cell? ((x.add (i * size)).add j) = some (.int .i64 m))

theorem grid_slice {t e : TypeId} {x : Addr} {len cap : Nat} {d : DataW H} {ps : List MemPlace} (ht : P.underlying t = some (.slice e)) (hd : DataW.Trod enc P w base spare held t (.slice (some x) len cap) d ps) : ∃ elems sp, d = .slice elems sp := by
  obtain ⟨fuel, hf⟩ := hd
  rcases open_slice ht hf with ⟨h0, _⟩ | ⟨x, l, c, m, n, D, Pl, hcs, _, _, _, _, hx, _⟩
  · simp [Value.cells] at h0
  · simp only [Prod.mk.injEq] at hx
    exact ⟨_, _, hx.1⟩
theorem open_grid {t e : TypeId} {fs : Array Field} {a : Option Addr} {len cap : Nat} {d : DataW H} {ps : List MemPlace} (ht : P.underlying t = some (.slice e)) (he : P.underlying e = some (.struct fs)) (ha : allInts P fs.toList = true) (hc : P.cellsOf e = fs.size)
    (hd : DataW.Trod enc P w base (fun _ => true) held t (.slice a len cap) d ps) : (∃ rows, IsGrid fs.size w a len cap rows) ∧ ∀ elems sp, d = .slice elems sp → elems.length + sp.length = cap := by
  obtain ⟨fuel, hf⟩ := hd
  rcases open_slice ht hf with ⟨h0, hx⟩ | ⟨x, l, c, m, n, D, Pl, hcs, _, hl, hm, hmm, hx, hall⟩
  · simp [Value.cells] at h0
    obtain ⟨rfl, rfl, rfl⟩ := h0
    simp only [Prod.mk.injEq] at hx
    exact ⟨⟨[], .inl ⟨rfl, rfl, rfl, rfl⟩⟩, fun elems sp e => by rw [hx.1] at e; cases e⟩
  · simp [Value.cells] at hcs
    obtain ⟨rfl, rfl, rfl⟩ := hcs
    have hmc : m = cap := by simpa using hmm
    subst hmc
    simp only [Prod.mk.injEq] at hx
    refine ⟨?_, fun elems sp e => by rw [hx.1] at e; injection e with e1 e2; rw [← e1, ← e2]; simp; omega⟩
    have hrow : ∀ i, i < m → ∃ ns : List Int, ns.length = fs.size ∧ (∀ n ∈ ns, (Lit.int .i64 n).wf = true) ∧ ∀ j m, ns[j]? = some m → w.cell? ((x.add (i * fs.size)).add j) = some (.int .i64 m) := by
      intro i hi
      obtain ⟨cs', h1, h2⟩ := hall i hi
      rw [hc] at h1
      obtain ⟨ns, hl, rfl, hw⟩ := struct_ints he ha hc h2
      refine ⟨ns, hl, hw, ?_⟩
      intro j m hj
      obtain ⟨_, hlen, hcell⟩ := World.cells?_some h1
      rw [hcell j (by have := (List.getElem?_eq_some_iff.1 hj).1; omega)]
      simp [hj]
    have hex : ∀ k, k ≤ m → ∃ rows : List (List Int), rows.length = k ∧ ∀ i, i < k → ∃ ns : List Int, rows[i]? = some ns ∧ ns.length = fs.size ∧ (∀ n ∈ ns, (Lit.int .i64 n).wf = true) ∧ ∀ j m, ns[j]? = some m → w.cell? ((x.add (i * fs.size)).add j) = some (.int .i64 m) := by
      intro k
      induction k with
      | zero => exact fun _ => ⟨[], rfl, fun _ h => by omega⟩
      | succ k ih =>
        intro hk
        obtain ⟨rows, hrl, hr⟩ := ih (by omega)
        obtain ⟨ns, h1, h2, h3⟩ := hrow k (by omega)
        refine ⟨rows ++ [ns], by simp [hrl], ?_⟩
        intro i hi
        by_cases hik : i < k
        · obtain ⟨ns', e, r⟩ := hr i hik
          exact ⟨ns', by rw [List.getElem?_append_left (by omega)]; exact e, r⟩
        · obtain rfl : i = k := by omega
          exact ⟨ns, by rw [List.getElem?_append_right (by omega), hrl]; simp, h1, h2, h3⟩
    obtain ⟨rows, hrl, hr⟩ := hex m (Nat.le_refl _)
    exact ⟨rows, .inr ⟨x, rfl, hl, hm, hrl, hr⟩⟩
end
end Go.HeapKit
/-! A slice of deeds that came in. -/
namespace Go.Proofs.Ytolhojagbiaamaa
open Go.RowKit Go.HeapKit

def ddOf (ns : List Int) : Dd := ⟨ns.getD 0 0, ns.getD 1 0⟩
theorem spot_of_cell {w : World} {x : Addr} {v : Value} (h : w.cell? x = some v) : x.spot = none := by
  unfold World.cell? at h
  split at h
  · split at h
    · cases h
    · rename_i hs; simpa using hs
  · cases h
theorem lt_of_cell {w : World} {b o : Nat} {v : Value} (h : w.cell? ⟨b, o, none⟩ = some v) : b < w.heap.size := by
  cases hb : w.heap[b]? with
  | none => simp [World.cell?, hb] at h
  | some o => exact (Array.getElem?_eq_some_iff.1 hb).1
theorem grid_deeds {w : World} {ao : Option Addr} {len cap : Nat} {g : List (List Int)} (h : IsGrid 2 w ao len cap g) : len ≤ cap ∧ Seen w ao len ((g.take len).map ddOf) := by
  rcases h with ⟨rfl, rfl, rfl, rfl⟩ | ⟨x, rfl, hl, hm, hlen, hrow⟩
  · exact ⟨Nat.le_refl _, rfl, fun h => by omega⟩
  · refine ⟨hl, by simp; omega, fun hpos => ?_⟩
    have hspot : x.spot = none := by
      obtain ⟨ns, h1, h2, h3, h4⟩ := hrow 0 (by omega)
      match ns, h2 with
      | m0 :: _, _ =>
        have := h4 0 m0 rfl
        rw [Nat.zero_mul] at this
        have e : (x.add 0).add 0 = x := by unfold Addr.add; simp
        rw [e] at this
        exact spot_of_cell this
    obtain ⟨b0, off, sp⟩ := x
    simp only at hspot
    subst hspot
    have hat : ∀ i j, (((⟨b0, off, none⟩ : Addr).add (i * 2)).add j) = ⟨b0, off + i * 2 + j, none⟩ := by
      intro i j
      unfold Addr.add
      split <;> split <;> simp_all
    have hcell : ∀ i, i < len → ∀ j, j < 2 → w.cell? ⟨b0, off + i * 2 + j, none⟩ = some (.int .i64 ((g.getD i []).getD j 0)) := by
      intro i hi j hj
      obtain ⟨ns, h1, h2, h3, h4⟩ := hrow i (by omega)
      have hg : g.getD i [] = ns := by simp [List.getD, h1]
      rw [hg, ← hat i j]
      exact h4 j _ (by simp [List.getD, h2, hj])
    refine ⟨b0, off, rfl, lt_of_cell (hcell 0 hpos 0 (by decide)), fun k x hx => ?_⟩
    have hk : k < len := by have := (List.getElem?_eq_some_iff.1 hx).1; simp at this; omega
    have hx2 : x = ddOf (g.getD k []) := by
      rw [List.getElem?_map, List.getElem?_take, if_pos hk] at hx
      obtain ⟨ns, h1, _⟩ := hrow k (by omega)
      rw [h1] at hx
      simp at hx
      rw [← hx]
      simp [List.getD, h1]
    subst hx2
    exact ⟨hcell k hk 0 (by decide), hcell k hk 1 (by decide)⟩
end Go.Proofs.Ytolhojagbiaamaa
