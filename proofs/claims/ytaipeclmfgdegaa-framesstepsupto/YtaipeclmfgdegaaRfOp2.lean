import Derived.Test.YtaipeclmfgdegaaRfOp
/-! The document's ops: behind, Step. -/
namespace Go.Proofs.Ytaipeclmfgdegaa
open Go.RowKit Go.HeapKit Go.IntWalk

theorem cells9 {w : World} {g : Nat} {t : TypeId} {v0 v1 v2 v3 v4 v5 v6 v7 v8 : Value} (h : w.heap[g]? = some (.cells #[v0, v1, v2, v3, v4, v5, v6, v7, v8] t (0, 0))) : w.cell? ⟨g, 0, none⟩ = some v0 ∧ w.cell? ⟨g, 1, none⟩ = some v1 ∧ w.cell? ⟨g, 2, none⟩ = some v2 ∧ w.cell? ⟨g, 3, none⟩ = some v3 ∧ w.cell? ⟨g, 4, none⟩ = some v4 ∧ w.cell? ⟨g, 5, none⟩ = some v5 ∧ w.cell? ⟨g, 6, none⟩ = some v6 ∧ w.cell? ⟨g, 7, none⟩ = some v7 ∧ w.cell? ⟨g, 8, none⟩ = some v8 :=
  ⟨cell_of_block h 0, cell_of_block h 1, cell_of_block h 2, cell_of_block h 3, cell_of_block h 4, cell_of_block h 5, cell_of_block h 6, cell_of_block h 7, cell_of_block h 8⟩
theorem free9 {w : World} {g : Nat} {t : TypeId} {c : Array Value} (h : w.heap[g]? = some (.cells c t (0, 0))) : w.frozen? ⟨g, 0, none⟩ = false ∧ w.frozen? ⟨g, 1, none⟩ = false ∧ w.frozen? ⟨g, 2, none⟩ = false ∧ w.frozen? ⟨g, 3, none⟩ = false ∧ w.frozen? ⟨g, 4, none⟩ = false ∧ w.frozen? ⟨g, 5, none⟩ = false ∧ w.frozen? ⟨g, 6, none⟩ = false ∧ w.frozen? ⟨g, 7, none⟩ = false ∧ w.frozen? ⟨g, 8, none⟩ = false :=
  ⟨free_of_block h 0, free_of_block h 1, free_of_block h 2, free_of_block h 3, free_of_block h 4, free_of_block h 5, free_of_block h 6, free_of_block h 7, free_of_block h 8⟩
set_option maxHeartbeats 4000000 in
set_option maxRecDepth 100000 in
theorem beh_0 (j c v nx fr m n : Int) (w : World) (hm0 : 0 ≤ m) (hm2 : m ≤ 2) (h1 : 1 ≤ n) (h2 : n ≤ fr) : Calls Try.prog 52 #[.agg #[.int .i64 0, .int .i64 j, .int .i64 c, .int .i64 v, .int .i64 nx, .int .i64 fr, .int .i64 m, .int .i64 0, .int .i64 0], .int .i64 n] w fun e w' => e = .returned (.agg #[.int .i64 0, .int .i64 j, .int .i64 c, .int .i64 v, .int .i64 nx, .int .i64 fr, .int .i64 (m + 1), .int .i64 4, .int .i64 (wrap64 (n - 1))]) ∧ Keeps None w w' := by
  go_enter Try.func52, Try.ntmps52
  go_wp2_with fail
  refine (fin_any 0 j c v nx fr (m + 1) 0 0 4 (wrap64 (n - 1)) _).mono ?_
  rintro e w1 ⟨rfl, hk1⟩
  have hb1 := (hk1.block (w.heap.size + 1) (by simp) (fun f => f)).trans (two_at w _ _).2
  obtain ⟨z0, z1, z2, z3, z4, z5, z6, z7, z8⟩ := cells9 hb1
  obtain ⟨f0, f1, f2, f3, f4, f5, f6, f7, f8⟩ := free9 hb1
  have HK1 : Hid _ := And.intro hk1 hb1
  clear hk1 hb1
  go_wp2
  exact rop_end 4 rfl rfl HK1.out.2 rfl rfl _ _ _ _ _ _ _ _ _ (fun w' hk => ⟨rfl, ((((Keeps.refl None w).andAlloc _).andAlloc _).trans HK1.out.1 (fun _ f _ => f)).trans hk (fun i e hi => by omega)⟩)
set_option maxHeartbeats 4000000 in
set_option maxRecDepth 100000 in
theorem beh_0a (j c v nx fr m n : Int) (w : World) (hm0 : 0 ≤ m) (hm2 : m ≤ 2) (h1 : ¬ 1 ≤ n) : Calls Try.prog 52 #[.agg #[.int .i64 0, .int .i64 j, .int .i64 c, .int .i64 v, .int .i64 nx, .int .i64 fr, .int .i64 m, .int .i64 0, .int .i64 0], .int .i64 n] w fun e w' => e = .returned (.agg #[.int .i64 0, .int .i64 j, .int .i64 c, .int .i64 v, .int .i64 nx, .int .i64 fr, .int .i64 (m + 1), .int .i64 3, .int .i64 0]) ∧ Keeps None w w' := by
  go_enter Try.func52, Try.ntmps52
  go_wp2_with fail
  refine (fin_any 0 j c v nx fr (m + 1) 0 0 3 0 _).mono ?_
  rintro e w1 ⟨rfl, hk1⟩
  have hb1 := (hk1.block (w.heap.size + 1) (by simp) (fun f => f)).trans (two_at w _ _).2
  obtain ⟨z0, z1, z2, z3, z4, z5, z6, z7, z8⟩ := cells9 hb1
  obtain ⟨f0, f1, f2, f3, f4, f5, f6, f7, f8⟩ := free9 hb1
  have HK1 : Hid _ := And.intro hk1 hb1
  clear hk1 hb1
  go_wp2
  exact rop_end 4 rfl rfl HK1.out.2 rfl rfl _ _ _ _ _ _ _ _ _ (fun w' hk => ⟨rfl, ((((Keeps.refl None w).andAlloc _).andAlloc _).trans HK1.out.1 (fun _ f _ => f)).trans hk (fun i e hi => by omega)⟩)
set_option maxHeartbeats 4000000 in
set_option maxRecDepth 100000 in
theorem beh_0b (j c v nx fr m n : Int) (w : World) (hm0 : 0 ≤ m) (hm2 : m ≤ 2) (h1 : 1 ≤ n) (h2 : ¬ n ≤ fr) : Calls Try.prog 52 #[.agg #[.int .i64 0, .int .i64 j, .int .i64 c, .int .i64 v, .int .i64 nx, .int .i64 fr, .int .i64 m, .int .i64 0, .int .i64 0], .int .i64 n] w fun e w' => e = .returned (.agg #[.int .i64 0, .int .i64 j, .int .i64 c, .int .i64 v, .int .i64 nx, .int .i64 fr, .int .i64 (m + 1), .int .i64 3, .int .i64 0]) ∧ Keeps None w w' := by
  go_enter Try.func52, Try.ntmps52
  go_wp2_with fail
  refine (fin_any 0 j c v nx fr (m + 1) 0 0 3 0 _).mono ?_
  rintro e w1 ⟨rfl, hk1⟩
  have hb1 := (hk1.block (w.heap.size + 1) (by simp) (fun f => f)).trans (two_at w _ _).2
  obtain ⟨z0, z1, z2, z3, z4, z5, z6, z7, z8⟩ := cells9 hb1
  obtain ⟨f0, f1, f2, f3, f4, f5, f6, f7, f8⟩ := free9 hb1
  have HK1 : Hid _ := And.intro hk1 hb1
  clear hk1 hb1
  go_wp2
  exact rop_end 4 rfl rfl HK1.out.2 rfl rfl _ _ _ _ _ _ _ _ _ (fun w' hk => ⟨rfl, ((((Keeps.refl None w).andAlloc _).andAlloc _).trans HK1.out.1 (fun _ f _ => f)).trans hk (fun i e hi => by omega)⟩)
set_option maxHeartbeats 4000000 in
set_option maxRecDepth 100000 in
theorem beh_1 (j c v nx fr m n : Int) (w : World) (hm0 : 0 ≤ m) (hm2 : m ≤ 2) : Calls Try.prog 52 #[.agg #[.int .i64 1, .int .i64 j, .int .i64 c, .int .i64 v, .int .i64 nx, .int .i64 fr, .int .i64 m, .int .i64 0, .int .i64 0], .int .i64 n] w fun e w' => e = .returned (.agg #[.int .i64 1, .int .i64 j, .int .i64 c, .int .i64 v, .int .i64 nx, .int .i64 fr, .int .i64 (m + 1), .int .i64 9, .int .i64 n]) ∧ Keeps None w w' := by
  go_enter Try.func52, Try.ntmps52
  go_wp2_with fail
  refine (fin_any 1 j c v nx fr (m + 1) 0 0 9 n _).mono ?_
  rintro e w1 ⟨rfl, hk1⟩
  have hb1 := (hk1.block (w.heap.size + 1) (by simp) (fun f => f)).trans (two_at w _ _).2
  obtain ⟨z0, z1, z2, z3, z4, z5, z6, z7, z8⟩ := cells9 hb1
  obtain ⟨f0, f1, f2, f3, f4, f5, f6, f7, f8⟩ := free9 hb1
  have HK1 : Hid _ := And.intro hk1 hb1
  clear hk1 hb1
  go_wp2
  exact rop_end 4 rfl rfl HK1.out.2 rfl rfl _ _ _ _ _ _ _ _ _ (fun w' hk => ⟨rfl, ((((Keeps.refl None w).andAlloc _).andAlloc _).trans HK1.out.1 (fun _ f _ => f)).trans hk (fun i e hi => by omega)⟩)
set_option maxHeartbeats 4000000 in
set_option maxRecDepth 100000 in
theorem beh_20 (j c v nx fr n : Int) (w : World)  : Calls Try.prog 52 #[.agg #[.int .i64 2, .int .i64 j, .int .i64 c, .int .i64 v, .int .i64 nx, .int .i64 fr, .int .i64 0, .int .i64 0, .int .i64 0], .int .i64 n] w fun e w' => e = .returned (.agg #[.int .i64 2, .int .i64 j, .int .i64 c, .int .i64 v, .int .i64 nx, .int .i64 fr, .int .i64 1, .int .i64 0, .int .i64 0]) ∧ Keeps None w w' := by
  go_enter Try.func52, Try.ntmps52
  go_wp2
  exact rop_ret 4 rfl (two_at w _ _).2 rfl rfl ⟨rfl, ((Keeps.refl None w).andAlloc _).andAlloc _⟩
set_option maxHeartbeats 4000000 in
set_option maxRecDepth 100000 in
theorem beh_21 (j c v nx fr n : Int) (w : World) (h : (n == 0) = false) : Calls Try.prog 52 #[.agg #[.int .i64 2, .int .i64 j, .int .i64 c, .int .i64 v, .int .i64 nx, .int .i64 fr, .int .i64 1, .int .i64 0, .int .i64 0], .int .i64 n] w fun e w' => e = .returned (.agg #[.int .i64 2, .int .i64 j, .int .i64 c, .int .i64 v, .int .i64 nx, .int .i64 fr, .int .i64 2, .int .i64 10, .int .i64 n]) ∧ Keeps None w w' := by
  go_enter Try.func52, Try.ntmps52
  go_wp2_with fail
  refine (fin_any 2 j c v nx fr 2 0 0 10 n _).mono ?_
  rintro e w1 ⟨rfl, hk1⟩
  have hb1 := (hk1.block (w.heap.size + 1) (by simp) (fun f => f)).trans (two_at w _ _).2
  obtain ⟨z0, z1, z2, z3, z4, z5, z6, z7, z8⟩ := cells9 hb1
  obtain ⟨f0, f1, f2, f3, f4, f5, f6, f7, f8⟩ := free9 hb1
  have HK1 : Hid _ := And.intro hk1 hb1
  clear hk1 hb1
  go_wp2
  exact rop_end 4 rfl rfl HK1.out.2 rfl rfl _ _ _ _ _ _ _ _ _ (fun w' hk => ⟨rfl, ((((Keeps.refl None w).andAlloc _).andAlloc _).trans HK1.out.1 (fun _ f _ => f)).trans hk (fun i e hi => by omega)⟩)
set_option maxHeartbeats 4000000 in
set_option maxRecDepth 100000 in
theorem beh_21z (j c v nx fr : Int) (w : World)  : Calls Try.prog 52 #[.agg #[.int .i64 2, .int .i64 j, .int .i64 c, .int .i64 v, .int .i64 nx, .int .i64 fr, .int .i64 1, .int .i64 0, .int .i64 0], .int .i64 0] w fun e w' => e = .returned (.agg #[.int .i64 2, .int .i64 j, .int .i64 c, .int .i64 v, .int .i64 nx, .int .i64 fr, .int .i64 2, .int .i64 0, .int .i64 0]) ∧ Keeps None w w' := by
  go_enter Try.func52, Try.ntmps52
  go_wp2
  exact rop_ret 4 rfl (two_at w _ _).2 rfl rfl ⟨rfl, ((Keeps.refl None w).andAlloc _).andAlloc _⟩
set_option maxHeartbeats 4000000 in
set_option maxRecDepth 100000 in
theorem beh_22 (j c v nx fr n : Int) (w : World)  : Calls Try.prog 52 #[.agg #[.int .i64 2, .int .i64 j, .int .i64 c, .int .i64 v, .int .i64 nx, .int .i64 fr, .int .i64 2, .int .i64 0, .int .i64 0], .int .i64 n] w fun e w' => e = .returned (.agg #[.int .i64 2, .int .i64 j, .int .i64 c, .int .i64 v, .int .i64 nx, .int .i64 fr, .int .i64 3, .int .i64 11, .int .i64 0]) ∧ Keeps None w w' := by
  go_enter Try.func52, Try.ntmps52
  go_wp2_with fail
  refine (fin_any 2 j c v nx fr 3 0 0 11 0 _).mono ?_
  rintro e w1 ⟨rfl, hk1⟩
  have hb1 := (hk1.block (w.heap.size + 1) (by simp) (fun f => f)).trans (two_at w _ _).2
  obtain ⟨z0, z1, z2, z3, z4, z5, z6, z7, z8⟩ := cells9 hb1
  obtain ⟨f0, f1, f2, f3, f4, f5, f6, f7, f8⟩ := free9 hb1
  have HK1 : Hid _ := And.intro hk1 hb1
  clear hk1 hb1
  go_wp2
  exact rop_end 4 rfl rfl HK1.out.2 rfl rfl _ _ _ _ _ _ _ _ _ (fun w' hk => ⟨rfl, ((((Keeps.refl None w).andAlloc _).andAlloc _).trans HK1.out.1 (fun _ f _ => f)).trans hk (fun i e hi => by omega)⟩)
set_option maxHeartbeats 4000000 in
set_option maxRecDepth 100000 in
theorem beh_30 (j c v nx fr n : Int) (w : World) (h : (n == 0) = false) : Calls Try.prog 52 #[.agg #[.int .i64 3, .int .i64 j, .int .i64 c, .int .i64 v, .int .i64 nx, .int .i64 fr, .int .i64 0, .int .i64 0, .int .i64 0], .int .i64 n] w fun e w' => e = .returned (.agg #[.int .i64 3, .int .i64 j, .int .i64 c, .int .i64 v, .int .i64 nx, .int .i64 fr, .int .i64 1, .int .i64 12, .int .i64 n]) ∧ Keeps None w w' := by
  go_enter Try.func52, Try.ntmps52
  go_wp2_with fail
  refine (fin_any 3 j c v nx fr 1 0 0 12 n _).mono ?_
  rintro e w1 ⟨rfl, hk1⟩
  have hb1 := (hk1.block (w.heap.size + 1) (by simp) (fun f => f)).trans (two_at w _ _).2
  obtain ⟨z0, z1, z2, z3, z4, z5, z6, z7, z8⟩ := cells9 hb1
  obtain ⟨f0, f1, f2, f3, f4, f5, f6, f7, f8⟩ := free9 hb1
  have HK1 : Hid _ := And.intro hk1 hb1
  clear hk1 hb1
  go_wp2
  exact rop_end 4 rfl rfl HK1.out.2 rfl rfl _ _ _ _ _ _ _ _ _ (fun w' hk => ⟨rfl, ((((Keeps.refl None w).andAlloc _).andAlloc _).trans HK1.out.1 (fun _ f _ => f)).trans hk (fun i e hi => by omega)⟩)
set_option maxHeartbeats 4000000 in
set_option maxRecDepth 100000 in
theorem beh_30z (j c v nx fr : Int) (w : World)  : Calls Try.prog 52 #[.agg #[.int .i64 3, .int .i64 j, .int .i64 c, .int .i64 v, .int .i64 nx, .int .i64 fr, .int .i64 0, .int .i64 0, .int .i64 0], .int .i64 0] w fun e w' => e = .returned (.agg #[.int .i64 3, .int .i64 j, .int .i64 c, .int .i64 v, .int .i64 nx, .int .i64 fr, .int .i64 1, .int .i64 0, .int .i64 0]) ∧ Keeps None w w' := by
  go_enter Try.func52, Try.ntmps52
  go_wp2
  exact rop_ret 4 rfl (two_at w _ _).2 rfl rfl ⟨rfl, ((Keeps.refl None w).andAlloc _).andAlloc _⟩
set_option maxHeartbeats 4000000 in
set_option maxRecDepth 100000 in
theorem beh_31 (j c v nx fr n : Int) (w : World)  : Calls Try.prog 52 #[.agg #[.int .i64 3, .int .i64 j, .int .i64 c, .int .i64 v, .int .i64 nx, .int .i64 fr, .int .i64 1, .int .i64 0, .int .i64 0], .int .i64 n] w fun e w' => e = .returned (.agg #[.int .i64 3, .int .i64 j, .int .i64 c, .int .i64 v, .int .i64 nx, .int .i64 fr, .int .i64 2, .int .i64 13, .int .i64 0]) ∧ Keeps None w w' := by
  go_enter Try.func52, Try.ntmps52
  go_wp2_with fail
  refine (fin_any 3 j c v nx fr 2 0 0 13 0 _).mono ?_
  rintro e w1 ⟨rfl, hk1⟩
  have hb1 := (hk1.block (w.heap.size + 1) (by simp) (fun f => f)).trans (two_at w _ _).2
  obtain ⟨z0, z1, z2, z3, z4, z5, z6, z7, z8⟩ := cells9 hb1
  obtain ⟨f0, f1, f2, f3, f4, f5, f6, f7, f8⟩ := free9 hb1
  have HK1 : Hid _ := And.intro hk1 hb1
  clear hk1 hb1
  go_wp2
  exact rop_end 4 rfl rfl HK1.out.2 rfl rfl _ _ _ _ _ _ _ _ _ (fun w' hk => ⟨rfl, ((((Keeps.refl None w).andAlloc _).andAlloc _).trans HK1.out.1 (fun _ f _ => f)).trans hk (fun i e hi => by omega)⟩)
set_option maxHeartbeats 4000000 in
set_option maxRecDepth 100000 in
theorem beh_32 (j c v nx fr n : Int) (w : World)  : Calls Try.prog 52 #[.agg #[.int .i64 3, .int .i64 j, .int .i64 c, .int .i64 v, .int .i64 nx, .int .i64 fr, .int .i64 2, .int .i64 0, .int .i64 0], .int .i64 n] w fun e w' => e = .returned (.agg #[.int .i64 3, .int .i64 j, .int .i64 c, .int .i64 v, .int .i64 nx, .int .i64 fr, .int .i64 3, .int .i64 0, .int .i64 0]) ∧ Keeps None w w' := by
  go_enter Try.func52, Try.ntmps52
  go_wp2
  exact rop_ret 4 rfl (two_at w _ _).2 rfl rfl ⟨rfl, ((Keeps.refl None w).andAlloc _).andAlloc _⟩
set_option maxHeartbeats 4000000 in
set_option maxRecDepth 100000 in
theorem beh_4 (j c v nx fr m n : Int) (w : World) (hm0 : 0 ≤ m) (hm2 : m ≤ 2) : Calls Try.prog 52 #[.agg #[.int .i64 4, .int .i64 j, .int .i64 c, .int .i64 v, .int .i64 nx, .int .i64 fr, .int .i64 m, .int .i64 0, .int .i64 0], .int .i64 n] w fun e w' => e = .returned (.agg #[.int .i64 4, .int .i64 j, .int .i64 c, .int .i64 v, .int .i64 nx, .int .i64 fr, .int .i64 (m + 1), .int .i64 14, .int .i64 n]) ∧ Keeps None w w' := by
  go_enter Try.func52, Try.ntmps52
  go_wp2_with fail
  refine (fin_any 4 j c v nx fr (m + 1) 0 0 14 n _).mono ?_
  rintro e w1 ⟨rfl, hk1⟩
  have hb1 := (hk1.block (w.heap.size + 1) (by simp) (fun f => f)).trans (two_at w _ _).2
  obtain ⟨z0, z1, z2, z3, z4, z5, z6, z7, z8⟩ := cells9 hb1
  obtain ⟨f0, f1, f2, f3, f4, f5, f6, f7, f8⟩ := free9 hb1
  have HK1 : Hid _ := And.intro hk1 hb1
  clear hk1 hb1
  go_wp2
  exact rop_end 4 rfl rfl HK1.out.2 rfl rfl _ _ _ _ _ _ _ _ _ (fun w' hk => ⟨rfl, ((((Keeps.refl None w).andAlloc _).andAlloc _).trans HK1.out.1 (fun _ f _ => f)).trans hk (fun i e hi => by omega)⟩)
set_option maxHeartbeats 4000000 in
set_option maxRecDepth 100000 in
theorem beh_5 (j c v nx fr m n k : Int) (w : World) (hm0 : 0 ≤ m) (hm2 : m ≤ 2) (a0 : (k == 0) = false) (a1 : (k == 1) = false) (a2 : (k == 2) = false) (a3 : (k == 3) = false) (a4 : (k == 4) = false) : Calls Try.prog 52 #[.agg #[.int .i64 k, .int .i64 j, .int .i64 c, .int .i64 v, .int .i64 nx, .int .i64 fr, .int .i64 m, .int .i64 0, .int .i64 0], .int .i64 n] w fun e w' => e = .returned (.agg #[.int .i64 k, .int .i64 j, .int .i64 c, .int .i64 v, .int .i64 nx, .int .i64 fr, .int .i64 (m + 1), .int .i64 15, .int .i64 n]) ∧ Keeps None w w' := by
  go_enter Try.func52, Try.ntmps52
  go_wp2_with fail
  refine (fin_any k j c v nx fr (m + 1) 0 0 15 n _).mono ?_
  rintro e w1 ⟨rfl, hk1⟩
  have hb1 := (hk1.block (w.heap.size + 1) (by simp) (fun f => f)).trans (two_at w _ _).2
  obtain ⟨z0, z1, z2, z3, z4, z5, z6, z7, z8⟩ := cells9 hb1
  obtain ⟨f0, f1, f2, f3, f4, f5, f6, f7, f8⟩ := free9 hb1
  have HK1 : Hid _ := And.intro hk1 hb1
  clear hk1 hb1
  go_wp2
  exact rop_end 4 rfl rfl HK1.out.2 rfl rfl _ _ _ _ _ _ _ _ _ (fun w' hk => ⟨rfl, ((((Keeps.refl None w).andAlloc _).andAlloc _).trans HK1.out.1 (fun _ f _ => f)).trans hk (fun i e hi => by omega)⟩)
theorem behind_any (k j c v nx fr m n : Int) (w : World) (hm0 : 0 ≤ m) (hm2 : m ≤ 2) : Calls Try.prog 52 #[(ROp.mk k j c v nx fr m 0 0).value, .int .i64 n] w fun e w' => e = .returned ((ROp.mk k j c v nx fr m 0 0).behind n).value ∧ Keeps None w w' := by
  by_cases h0 : k = 0
  · subst h0
    by_cases h1 : 1 ≤ n
    · by_cases h2 : n ≤ fr
      · have e : (ROp.mk 0 j c v nx fr m 0 0).behind n = ⟨0, j, c, v, nx, fr, m + 1, 4, wrap64 (n - 1)⟩ := by simp [ROp.behind, ROp.fin, h1, h2]
        rw [e]; exact beh_0 j c v nx fr m n w hm0 hm2 h1 h2
      · have e : (ROp.mk 0 j c v nx fr m 0 0).behind n = ⟨0, j, c, v, nx, fr, m + 1, 3, 0⟩ := by simp [ROp.behind, ROp.fin, h1, h2]
        rw [e]; exact beh_0b j c v nx fr m n w hm0 hm2 h1 h2
    · have e : (ROp.mk 0 j c v nx fr m 0 0).behind n = ⟨0, j, c, v, nx, fr, m + 1, 3, 0⟩ := by simp [ROp.behind, ROp.fin, h1]
      rw [e]; exact beh_0a j c v nx fr m n w hm0 hm2 h1
  by_cases h1 : k = 1
  · subst h1
    have e : (ROp.mk 1 j c v nx fr m 0 0).behind n = ⟨1, j, c, v, nx, fr, m + 1, 9, n⟩ := by simp [ROp.behind, ROp.fin]
    rw [e]; exact beh_1 j c v nx fr m n w hm0 hm2
  by_cases h2 : k = 2
  · subst h2
    rcases (show m = 0 ∨ m = 1 ∨ m = 2 by omega) with rfl | rfl | rfl
    · have e : (ROp.mk 2 j c v nx fr 0 0 0).behind n = ⟨2, j, c, v, nx, fr, 1, 0, 0⟩ := by simp [ROp.behind]
      rw [e]; exact beh_20 j c v nx fr n w
    · by_cases hn : n = 0
      · subst hn
        have e : (ROp.mk 2 j c v nx fr 1 0 0).behind 0 = ⟨2, j, c, v, nx, fr, 2, 0, 0⟩ := by simp [ROp.behind]
        rw [e]; exact beh_21z j c v nx fr w
      · have e : (ROp.mk 2 j c v nx fr 1 0 0).behind n = ⟨2, j, c, v, nx, fr, 2, 10, n⟩ := by simp [ROp.behind, ROp.fin, hn]
        rw [e]; exact beh_21 j c v nx fr n w (by simpa using hn)
    · have e : (ROp.mk 2 j c v nx fr 2 0 0).behind n = ⟨2, j, c, v, nx, fr, 3, 11, 0⟩ := by simp [ROp.behind, ROp.fin]
      rw [e]; exact beh_22 j c v nx fr n w
  by_cases h3 : k = 3
  · subst h3
    rcases (show m = 0 ∨ m = 1 ∨ m = 2 by omega) with rfl | rfl | rfl
    · by_cases hn : n = 0
      · subst hn
        have e : (ROp.mk 3 j c v nx fr 0 0 0).behind 0 = ⟨3, j, c, v, nx, fr, 1, 0, 0⟩ := by simp [ROp.behind]
        rw [e]; exact beh_30z j c v nx fr w
      · have e : (ROp.mk 3 j c v nx fr 0 0 0).behind n = ⟨3, j, c, v, nx, fr, 1, 12, n⟩ := by simp [ROp.behind, ROp.fin, hn]
        rw [e]; exact beh_30 j c v nx fr n w (by simpa using hn)
    · have e : (ROp.mk 3 j c v nx fr 1 0 0).behind n = ⟨3, j, c, v, nx, fr, 2, 13, 0⟩ := by simp [ROp.behind, ROp.fin]
      rw [e]; exact beh_31 j c v nx fr n w
    · have e : (ROp.mk 3 j c v nx fr 2 0 0).behind n = ⟨3, j, c, v, nx, fr, 3, 0, 0⟩ := by simp [ROp.behind]
      rw [e]; exact beh_32 j c v nx fr n w
  by_cases h4 : k = 4
  · subst h4
    have e : (ROp.mk 4 j c v nx fr m 0 0).behind n = ⟨4, j, c, v, nx, fr, m + 1, 14, n⟩ := by simp [ROp.behind, ROp.fin]
    rw [e]; exact beh_4 j c v nx fr m n w hm0 hm2
  have e : (ROp.mk k j c v nx fr m 0 0).behind n = ⟨k, j, c, v, nx, fr, m + 1, 15, n⟩ := by simp [ROp.behind, ROp.fin, h0, h1, h2, h3, h4]
  rw [e]; exact beh_5 j c v nx fr m n k w hm0 hm2 (by simpa using h0) (by simpa using h1) (by simpa using h2) (by simpa using h3) (by simpa using h4)
end Go.Proofs.Ytaipeclmfgdegaa
