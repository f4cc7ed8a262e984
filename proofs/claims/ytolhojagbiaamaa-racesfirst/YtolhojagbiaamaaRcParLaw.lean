import Derived.Test.YtolhojagbiaamaaRcParallel
/-! The walk of RacesParallel. -/
namespace Go.Proofs.Ytolhojagbiaamaa
set_option linter.unusedVariables false
set_option maxRecDepth 20000
set_option linter.unusedSimpArgs false
open Go.RowKit Go.HeapKit

set_option maxHeartbeats 1600000 in
theorem parallelPlaced_ok (a : Option Addr) (n c : Nat) (l : List Dd) (i j : Int) (w : World) (hS : Seen w a n l) (hn : (n + 2) * 16 ≤ 140737488355328) :
    Calls Try.prog 16 #[.slice a n c, .int .i64 i, .int .i64 j] w fun e w' => e = .returned (.bool true) ∧ Keeps None w w' := by
  have HS : Hid (Seen w a n l) := hS
  have HLen : Hid (n = l.length) := hS.len
  clear hS
  go_enter Try.func16, Try.ntmps16
  go_wp2_with fail
  refine (turned_ok a n c l w HS.out hn).mono ?_
  rintro e w1 ⟨v, rfl, hr1, hk1⟩
  obtain ⟨a1, c1, rfl⟩ := row_shape hr1
  have HR1 : Hid (w1.ownsRow w.heap.size 51 2 (.slice a1 n c1) n (ddVals (l.map turnD)) ∧ Keeps None w w1) := ⟨hr1, hk1⟩
  have hs1 := hk1.size
  clear hr1 hk1
  go_wp2_with fail
  refine (tspare_ok _ n (l.map turnD) w1 _ HR1.out.1 (by simpa using HLen.out) hn).mono ?_
  rintro e w2 ⟨g, rfl, hsp, hk2⟩
  have HR2 : Hid (Spare w2 w1.heap.size g n (l.map turnD) ∧ Keeps None w w2 ∧ Keeps None w1 w2) := ⟨hsp, HR1.out.2.trans hk2 (fun _ f _ => f), hk2⟩
  clear hsp hk2
  go_wp2_with fail
  refine (parallel_ok _ n _ (l.map turnD) i j w2 HR2.out.1.seen).mono ?_
  rintro e w3 ⟨rfl, hk3⟩
  have HR3 : Hid (Spare w3 w1.heap.size g n (l.map turnD) ∧ Keeps None w w3 ∧ Keeps None w1 w3) := ⟨HR2.out.1.more hk3, HR2.out.2.1.trans hk3 (fun _ f _ => f), HR2.out.2.2.trans hk3 (fun _ f _ => f)⟩
  clear hk3 HR2
  go_wp2_with fail
  refine (lay_ok a n c g _ (n + 2) l (l.map turnD) w3 HR3.out.1 (HS.out.more HR3.out.2.1) (fun h0 b e e2 => by have h3 := HS.out.low h0 e; have := HR3.out.1.2.low; omega) (by omega) hn).mono ?_
  rintro e w5 ⟨rfl, hsp4, hk4⟩
  have HR5 : Hid (Spare w5 w1.heap.size g n l ∧ Keeps None w w5 ∧ Keeps None w1 w5) := ⟨hsp4, HR3.out.2.1.trans hk4 (fun i e hi => by have := HR3.out.1.2.low; omega), HR3.out.2.2.trans hk4 (fun i e hi => by have := HR3.out.1.2.low; omega)⟩
  clear hsp4 hk4 HR3
  go_wp2_with fail
  refine (parallel_ok _ n _ l i j w5 HR5.out.1.seen).mono ?_
  rintro e w6 ⟨rfl, hk6⟩
  have HR6 : Hid (Keeps None w w6 ∧ Keeps None w1 w6) := ⟨HR5.out.2.1.trans hk6 (fun _ f _ => f), HR5.out.2.2.trans hk6 (fun _ f _ => f)⟩
  clear hk6 HR5
  go_wp2_with fail
  refine (rparallel_ok a1 n c1 (l.map turnD) i j w6 ((Seen.of_row (by simpa using HLen.out) HR1.out.1).more HR6.out.2)).mono ?_
  rintro e w7 ⟨rfl, hk7⟩
  have HR7 : Hid (Keeps None w w7) := HR6.out.1.trans hk7 (fun _ f _ => f)
  clear hk7 HR6
  go_wp2_with fail
  refine (rparallel_ok a n c l i j w7 (HS.out.more HR7.out)).mono ?_
  rintro e w8 ⟨rfl, hk8⟩
  go_wp2
  go_ret
  exact ⟨rfl, HR7.out.trans hk8 (fun _ f _ => f)⟩
set_option maxHeartbeats 1600000 in
theorem racesParallel_walk (a : Option Addr) (n c : Nat) (l : List Dd) (i j : Int) (w : World) (hS : Seen w a n l) (hn : (n + 2) * 16 ≤ 140737488355328) :
    Calls Try.prog 4 #[.slice a n c, .int .i64 i, .int .i64 j] w fun e w' => e = .returned (.bool true) ∧ Below w.heap.size w w' := by
  have HS : Hid (Seen w a n l) := hS
  clear hS
  go_enter Try.func4, Try.ntmps4
  go_wp2_with fail
  refine (spare_ok a n c l w HS.out hn).mono ?_
  rintro e w1 ⟨g, rfl, hsp, hk1⟩
  have HR1 : Hid (Spare w1 w.heap.size g n l ∧ Keeps None w w1) := ⟨hsp, hk1⟩
  clear hsp hk1
  go_wp2_with fail
  refine (parallel_ok _ n _ l i j w1 HR1.out.1.seen).mono ?_
  rintro e w2 ⟨rfl, hk2⟩
  have HR2 : Hid (Spare w2 w.heap.size g n l ∧ Keeps None w w2) := ⟨HR1.out.1.more hk2, HR1.out.2.trans hk2 (fun _ f _ => f)⟩
  clear hk2 HR1
  go_wp2_with fail
  refine (rparallel_ok a n c l i j w2 (HS.out.more HR2.out.2)).mono ?_
  rintro e w3 ⟨rfl, hk3⟩
  have HR3 : Hid (Spare w3 w.heap.size g n l ∧ Keeps None w w3) := ⟨HR2.out.1.more hk3, HR2.out.2.trans hk3 (fun _ f _ => f)⟩
  clear hk3 HR2
  go_wp2_with fail
  refine (untouched_ok a g n c _ l w3 HR3.out.1 (HS.out.more HR3.out.2) hn).mono ?_
  rintro e w4 ⟨rfl, m, hw4⟩
  have hk4 : Keeps None w w4 := by rw [hw4]; exact HR3.out.2.trans (keeps_drewN _ m) (fun _ f _ => f)
  have HR4 : Hid (Keeps None w w4) := hk4
  clear hk4 hw4 HR3
  go_wp2_with fail
  refine (parallelPlaced_ok a n c l i j w4 (HS.out.more HR4.out) hn).mono ?_
  rintro e w5 ⟨rfl, hk5⟩
  go_wp2
  go_ret
  exact ⟨rfl, (HR4.out.trans hk5 (fun _ f _ => f)).below _ (Nat.le_refl _) (fun _ f => f.elim)⟩
end Go.Proofs.Ytolhojagbiaamaa
