import Derived.Test.YtaipeclmfgdegaaRfSim
/-! The document's ops: Begin. -/
namespace Go.Proofs.Ytaipeclmfgdegaa
open Go.RowKit Go.HeapKit Go.IntWalk

theorem three_at (w : World) (o1 o2 o3 : Obj) : (((w.alloc o1).alloc o2).alloc o3).heap[w.heap.size + 1]? = some o2 := (Below.heap_alloc _ _ _ (by simp)).trans (two_at w o1 o2).2
set_option maxHeartbeats 4000000 in
set_option maxRecDepth 100000 in
theorem begin_a (k b f fr sl v : Int) (w : World) (h1 : b < 0) : Calls Try.prog 41 #[.int .i64 k, .agg #[.int .i64 b, .int .i64 f], .int .i64 fr, .int .i64 sl, .int .i64 v] w fun e w' => e = .returned (ROp.mk k 0 0 v b f 0 1 0).value ∧ Keeps None w w' := by
  go_enter Try.func41, Try.ntmps41
  go_wp2
  exact rop_ret 10 rfl (three_at w _ _ _) rfl rfl ⟨rfl, (((Keeps.refl None w).andAlloc _).andAlloc _).andAlloc _⟩
set_option maxHeartbeats 4000000 in
set_option maxRecDepth 100000 in
theorem begin_b (k b f fr sl v : Int) (w : World) (h1 : ¬ b < 0) (h2 : f < 1) : Calls Try.prog 41 #[.int .i64 k, .agg #[.int .i64 b, .int .i64 f], .int .i64 fr, .int .i64 sl, .int .i64 v] w fun e w' => e = .returned (ROp.mk k 0 0 v b f 0 1 0).value ∧ Keeps None w w' := by
  go_enter Try.func41, Try.ntmps41
  go_wp2
  exact rop_ret 10 rfl (three_at w _ _ _) rfl rfl ⟨rfl, (((Keeps.refl None w).andAlloc _).andAlloc _).andAlloc _⟩
set_option maxHeartbeats 4000000 in
set_option maxRecDepth 100000 in
theorem begin_c (k b f fr sl v : Int) (w : World) (h1 : ¬ b < 0) (h2 : ¬ f < 1) (h3 : 4096 < f) : Calls Try.prog 41 #[.int .i64 k, .agg #[.int .i64 b, .int .i64 f], .int .i64 fr, .int .i64 sl, .int .i64 v] w fun e w' => e = .returned (ROp.mk k 0 0 v b f 0 1 0).value ∧ Keeps None w w' := by
  go_enter Try.func41, Try.ntmps41
  go_wp2
  exact rop_ret 10 rfl (three_at w _ _ _) rfl rfl ⟨rfl, (((Keeps.refl None w).andAlloc _).andAlloc _).andAlloc _⟩
set_option maxHeartbeats 4000000 in
set_option maxRecDepth 100000 in
theorem begin_d (b f fr sl v : Int) (w : World) (h1 : ¬ b < 0) (h2 : ¬ f < 1) (h3 : ¬ 4096 < f) : Calls Try.prog 41 #[.int .i64 0, .agg #[.int .i64 b, .int .i64 f], .int .i64 fr, .int .i64 sl, .int .i64 v] w fun e w' => e = .returned (ROp.mk 0 0 0 v b f 0 0 0).value ∧ Keeps None w w' := by
  go_enter Try.func41, Try.ntmps41
  go_wp2
  exact rop_ret 10 rfl (three_at w _ _ _) rfl rfl ⟨rfl, (((Keeps.refl None w).andAlloc _).andAlloc _).andAlloc _⟩
set_option maxHeartbeats 4000000 in
set_option maxRecDepth 100000 in
theorem begin_e (k b f fr sl v : Int) (w : World) (h1 : ¬ b < 0) (h2 : ¬ f < 1) (h3 : ¬ 4096 < f) (a0 : (k == 0) = false) (h4 : fr < 0) : Calls Try.prog 41 #[.int .i64 k, .agg #[.int .i64 b, .int .i64 f], .int .i64 fr, .int .i64 sl, .int .i64 v] w fun e w' => e = .returned (ROp.mk k 0 0 v b f 0 1 0).value ∧ Keeps None w w' := by
  go_enter Try.func41, Try.ntmps41
  go_wp2
  exact rop_ret 10 rfl (three_at w _ _ _) rfl rfl ⟨rfl, (((Keeps.refl None w).andAlloc _).andAlloc _).andAlloc _⟩
set_option maxHeartbeats 4000000 in
set_option maxRecDepth 100000 in
theorem begin_f (k b f fr sl v : Int) (w : World) (h1 : ¬ b < 0) (h2 : ¬ f < 1) (h3 : ¬ 4096 < f) (a0 : (k == 0) = false) (h4 : ¬ fr < 0) (h5 : f ≤ fr) : Calls Try.prog 41 #[.int .i64 k, .agg #[.int .i64 b, .int .i64 f], .int .i64 fr, .int .i64 sl, .int .i64 v] w fun e w' => e = .returned (ROp.mk k 0 0 v b f 0 1 0).value ∧ Keeps None w w' := by
  go_enter Try.func41, Try.ntmps41
  go_wp2
  exact rop_ret 10 rfl (three_at w _ _ _) rfl rfl ⟨rfl, (((Keeps.refl None w).andAlloc _).andAlloc _).andAlloc _⟩
set_option maxHeartbeats 4000000 in
set_option maxRecDepth 100000 in
theorem begin_g2 (b f fr sl v : Int) (w : World) (h1 : ¬ b < 0) (h2 : ¬ f < 1) (h3 : ¬ 4096 < f) (h4 : ¬ fr < 0) (h5 : ¬ f ≤ fr) (h6 : sl < 0) : Calls Try.prog 41 #[.int .i64 2, .agg #[.int .i64 b, .int .i64 f], .int .i64 fr, .int .i64 sl, .int .i64 v] w fun e w' => e = .returned (ROp.mk 2 0 0 v b f 0 1 0).value ∧ Keeps None w w' := by
  go_enter Try.func41, Try.ntmps41
  go_wp2
  exact rop_ret 10 rfl (three_at w _ _ _) rfl rfl ⟨rfl, (((Keeps.refl None w).andAlloc _).andAlloc _).andAlloc _⟩
set_option maxHeartbeats 4000000 in
set_option maxRecDepth 100000 in
theorem begin_i2 (b f fr sl v : Int) (w : World) (h1 : ¬ b < 0) (h2 : ¬ f < 1) (h3 : ¬ 4096 < f) (h4 : ¬ fr < 0) (h5 : ¬ f ≤ fr) (h6 : ¬ sl < 0) (h7 : 8 ≤ sl) : Calls Try.prog 41 #[.int .i64 2, .agg #[.int .i64 b, .int .i64 f], .int .i64 fr, .int .i64 sl, .int .i64 v] w fun e w' => e = .returned (ROp.mk 2 0 0 v b f 0 1 0).value ∧ Keeps None w w' := by
  go_enter Try.func41, Try.ntmps41
  go_wp2
  exact rop_ret 10 rfl (three_at w _ _ _) rfl rfl ⟨rfl, (((Keeps.refl None w).andAlloc _).andAlloc _).andAlloc _⟩
set_option maxHeartbeats 4000000 in
set_option maxRecDepth 100000 in
theorem begin_g5 (b f fr sl v : Int) (w : World) (h1 : ¬ b < 0) (h2 : ¬ f < 1) (h3 : ¬ 4096 < f) (h4 : ¬ fr < 0) (h5 : ¬ f ≤ fr) (h6 : sl < 0) : Calls Try.prog 41 #[.int .i64 5, .agg #[.int .i64 b, .int .i64 f], .int .i64 fr, .int .i64 sl, .int .i64 v] w fun e w' => e = .returned (ROp.mk 5 0 0 v b f 0 1 0).value ∧ Keeps None w w' := by
  go_enter Try.func41, Try.ntmps41
  go_wp2
  exact rop_ret 10 rfl (three_at w _ _ _) rfl rfl ⟨rfl, (((Keeps.refl None w).andAlloc _).andAlloc _).andAlloc _⟩
set_option maxHeartbeats 4000000 in
set_option maxRecDepth 100000 in
theorem begin_i5 (b f fr sl v : Int) (w : World) (h1 : ¬ b < 0) (h2 : ¬ f < 1) (h3 : ¬ 4096 < f) (h4 : ¬ fr < 0) (h5 : ¬ f ≤ fr) (h6 : ¬ sl < 0) (h7 : 8 ≤ sl) : Calls Try.prog 41 #[.int .i64 5, .agg #[.int .i64 b, .int .i64 f], .int .i64 fr, .int .i64 sl, .int .i64 v] w fun e w' => e = .returned (ROp.mk 5 0 0 v b f 0 1 0).value ∧ Keeps None w w' := by
  go_enter Try.func41, Try.ntmps41
  go_wp2
  exact rop_ret 10 rfl (three_at w _ _ _) rfl rfl ⟨rfl, (((Keeps.refl None w).andAlloc _).andAlloc _).andAlloc _⟩
set_option maxHeartbeats 4000000 in
set_option maxRecDepth 100000 in
theorem begin_h2 (b f fr sl v : Int) (w : World) (h1 : ¬ b < 0) (h2 : ¬ f < 1) (h3 : ¬ 4096 < f) (h4 : ¬ fr < 0) (h5 : ¬ f ≤ fr) (h6 : ¬ sl < 0) (h7 : ¬ 8 ≤ sl) : Calls Try.prog 41 #[.int .i64 2, .agg #[.int .i64 b, .int .i64 f], .int .i64 fr, .int .i64 sl, .int .i64 v] w fun e w' => e = .returned (ROp.mk 2 (beginAt b fr) (slotAt b fr sl) v b f 0 0 0).value ∧ Keeps None w w' := by
  have l1 : 0 ≤ fr := by omega
  have l2 : fr ≤ 4095 := by omega
  go_enter Try.func41, Try.ntmps41
  go_wp2
  refine rop_ret 10 rfl (three_at w _ _ _) rfl rfl ⟨?_, (((Keeps.refl None w).andAlloc _).andAlloc _).andAlloc _⟩
  have e1 : beginAt b fr = wrap64 (wrap64 (b + 1) + fr * 10) := by unfold beginAt; rw [wrap_small (x := fr * 10) (by omega) (by omega)]
  simp only [ROp.value, ROp.vals, slotAt, e1]
set_option maxHeartbeats 4000000 in
set_option maxRecDepth 100000 in
theorem begin_h5 (b f fr sl v : Int) (w : World) (h1 : ¬ b < 0) (h2 : ¬ f < 1) (h3 : ¬ 4096 < f) (h4 : ¬ fr < 0) (h5 : ¬ f ≤ fr) (h6 : ¬ sl < 0) (h7 : ¬ 8 ≤ sl) : Calls Try.prog 41 #[.int .i64 5, .agg #[.int .i64 b, .int .i64 f], .int .i64 fr, .int .i64 sl, .int .i64 v] w fun e w' => e = .returned (ROp.mk 5 (beginAt b fr) (slotAt b fr sl) v b f 0 0 0).value ∧ Keeps None w w' := by
  have l1 : 0 ≤ fr := by omega
  have l2 : fr ≤ 4095 := by omega
  go_enter Try.func41, Try.ntmps41
  go_wp2
  refine rop_ret 10 rfl (three_at w _ _ _) rfl rfl ⟨?_, (((Keeps.refl None w).andAlloc _).andAlloc _).andAlloc _⟩
  have e1 : beginAt b fr = wrap64 (wrap64 (b + 1) + fr * 10) := by unfold beginAt; rw [wrap_small (x := fr * 10) (by omega) (by omega)]
  simp only [ROp.value, ROp.vals, slotAt, e1]
set_option maxHeartbeats 4000000 in
set_option maxRecDepth 100000 in
theorem begin_j (k b f fr sl v : Int) (w : World) (h1 : ¬ b < 0) (h2 : ¬ f < 1) (h3 : ¬ 4096 < f) (h4 : ¬ fr < 0) (h5 : ¬ f ≤ fr) (a0 : (k == 0) = false) (a2 : (k == 2) = false) (a5 : (k == 5) = false) : Calls Try.prog 41 #[.int .i64 k, .agg #[.int .i64 b, .int .i64 f], .int .i64 fr, .int .i64 sl, .int .i64 v] w fun e w' => e = .returned (ROp.mk k (beginAt b fr) (slotAt b fr sl) v b f 0 0 0).value ∧ Keeps None w w' := by
  have l1 : 0 ≤ fr := by omega
  have l2 : fr ≤ 4095 := by omega
  go_enter Try.func41, Try.ntmps41
  go_wp2
  refine rop_ret 10 rfl (three_at w _ _ _) rfl rfl ⟨?_, (((Keeps.refl None w).andAlloc _).andAlloc _).andAlloc _⟩
  have e1 : beginAt b fr = wrap64 (wrap64 (b + 1) + fr * 10) := by unfold beginAt; rw [wrap_small (x := fr * 10) (by omega) (by omega)]
  simp only [ROp.value, ROp.vals, slotAt, e1]
theorem rbegin_any (k b f fr sl v : Int) (w : World) : Calls Try.prog 41 #[.int .i64 k, .agg #[.int .i64 b, .int .i64 f], .int .i64 fr, .int .i64 sl, .int .i64 v] w fun e w' => e = .returned (ROp.beg k b f fr sl v).value ∧ Keeps None w w' := by
  unfold ROp.beg
  by_cases h1 : b < 0
  · rw [if_pos (.inl h1)]; exact begin_a k b f fr sl v w h1
  by_cases h2 : f < 1
  · rw [if_pos (.inr (.inl h2))]; exact begin_b k b f fr sl v w h1 h2
  by_cases h3 : 4096 < f
  · rw [if_pos (.inr (.inr h3))]; exact begin_c k b f fr sl v w h1 h2 h3
  rw [if_neg (by omega)]
  by_cases h0 : k = 0
  · subst h0; rw [if_pos rfl]; exact begin_d b f fr sl v w h1 h2 h3
  have a0 : (k == 0) = false := by simpa using h0
  rw [if_neg h0]
  by_cases h4 : fr < 0
  · rw [if_pos (.inl h4)]; exact begin_e k b f fr sl v w h1 h2 h3 a0 h4
  by_cases h5 : f ≤ fr
  · rw [if_pos (.inr h5)]; exact begin_f k b f fr sl v w h1 h2 h3 a0 h4 h5
  rw [if_neg (by omega)]
  by_cases k2 : k = 2
  · subst k2
    by_cases h6 : sl < 0
    · rw [if_pos ⟨.inl rfl, .inl h6⟩]; exact begin_g2 b f fr sl v w h1 h2 h3 h4 h5 h6
    by_cases h7 : 8 ≤ sl
    · rw [if_pos ⟨.inl rfl, .inr h7⟩]; exact begin_i2 b f fr sl v w h1 h2 h3 h4 h5 h6 h7
    rw [if_neg (by omega)]; exact begin_h2 b f fr sl v w h1 h2 h3 h4 h5 h6 h7
  by_cases k5 : k = 5
  · subst k5
    by_cases h6 : sl < 0
    · rw [if_pos ⟨.inr rfl, .inl h6⟩]; exact begin_g5 b f fr sl v w h1 h2 h3 h4 h5 h6
    by_cases h7 : 8 ≤ sl
    · rw [if_pos ⟨.inr rfl, .inr h7⟩]; exact begin_i5 b f fr sl v w h1 h2 h3 h4 h5 h6 h7
    rw [if_neg (by omega)]; exact begin_h5 b f fr sl v w h1 h2 h3 h4 h5 h6 h7
  rw [if_neg (by omega)]
  exact begin_j k b f fr sl v w h1 h2 h3 h4 h5 a0 (by simpa using k2) (by simpa using k5)
end Go.Proofs.Ytaipeclmfgdegaa
