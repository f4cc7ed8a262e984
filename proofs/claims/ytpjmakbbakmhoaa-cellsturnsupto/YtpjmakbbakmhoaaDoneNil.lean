import Derived.Test.YtpjmakbbakmhoaaSameWalks
/-! The law's 'done' on an arena that is not there. -/
namespace Go.Proofs.Ytpjmakbbakmhoaa
open Go.RowKit Go.HeapKit

theorem nil_block {w w1 : World} {o1 o2 : Obj} (hk : Keeps None ((w.alloc o1).alloc o2) w1) : w1.heap[w.heap.size + 1]? = some o2 :=
  (hk.block _ (by simp) (fun f => f)).trans (new_at _ _ _ (by simp))
theorem nil_drop {w w1 w2 : World} {o1 o2 : Obj} (hk : Keeps None ((w.alloc o1).alloc o2) w1) (hk2 : Keeps (· = w.heap.size + 1) w1 w2) : Keeps None w w2 :=
  ((((Keeps.refl None w).andAlloc o1).andAlloc o2).trans hk (fun _ f _ => f)).trans hk2 (fun i e hi => by omega)
theorem eq_keeps {P : Program} {f : Nat} {args : Array Value} {w : World} {v : Value} (h : Calls P f args w fun e w' => e = .returned v ∧ w' = w) : Calls P f args w fun e w' => e = .returned v ∧ Keeps None w w' :=
  h.mono (by rintro e w' ⟨rfl, rfl⟩; exact ⟨rfl, Keeps.refl _ _⟩)
theorem done_nil0 (s x a b : Int) (w : World) :
    Calls Try.prog 55 #[.pointer none, .agg #[.int .i64 s, .int .i64 0, .int .i64 x, .int .i64 a, .int .i64 b]] w fun e w' => e = .returned (bad 20).value ∧ Keeps None w w' := by
  go_enter Try.func55, Try.ntmps55
  go_wp2_with fail
  refine (eq_keeps (load_nil _ _)).mono ?_
  rintro e w1 ⟨rfl, hk1⟩
  have hb := nil_block hk1
  have r0 := (cell_of_block hb 0).trans rfl
  have r1 := (cell_of_block hb 1).trans rfl
  have r2 := (cell_of_block hb 2).trans rfl
  have q0 := free_of_block hb 0
  have q1 := free_of_block hb 1
  have q2 := free_of_block hb 2
  go_wp2
  exact eff_end 4 rfl rfl hb rfl rfl _ _ _ (fun w' hk => ⟨rfl, nil_drop hk1 hk⟩)
theorem done_nil1 (s x a b : Int) (w : World) :
    Calls Try.prog 55 #[.pointer none, .agg #[.int .i64 s, .int .i64 1, .int .i64 x, .int .i64 a, .int .i64 b]] w fun e w' => e = .returned (bad 20).value ∧ Keeps None w w' := by
  go_enter Try.func55, Try.ntmps55
  go_wp2_with fail
  refine (eq_keeps (store_nil _ _ _)).mono ?_
  rintro e w1 ⟨rfl, hk1⟩
  have hb := nil_block hk1
  have r0 := (cell_of_block hb 0).trans rfl
  have r1 := (cell_of_block hb 1).trans rfl
  have r2 := (cell_of_block hb 2).trans rfl
  have q0 := free_of_block hb 0
  have q1 := free_of_block hb 1
  have q2 := free_of_block hb 2
  go_wp2
  exact eff_end 4 rfl rfl hb rfl rfl _ _ _ (fun w' hk => ⟨rfl, nil_drop hk1 hk⟩)
theorem done_nil2 (s x a b : Int) (w : World) :
    Calls Try.prog 55 #[.pointer none, .agg #[.int .i64 s, .int .i64 2, .int .i64 x, .int .i64 a, .int .i64 b]] w fun e w' => e = .returned (bad 20).value ∧ Keeps None w w' := by
  go_enter Try.func55, Try.ntmps55
  go_wp2_with fail
  refine (eq_keeps (cas_nil _ _ _ _)).mono ?_
  rintro e w1 ⟨rfl, hk1⟩
  have hb := nil_block hk1
  have r0 := (cell_of_block hb 0).trans rfl
  have r1 := (cell_of_block hb 1).trans rfl
  have r2 := (cell_of_block hb 2).trans rfl
  have q0 := free_of_block hb 0
  have q1 := free_of_block hb 1
  have q2 := free_of_block hb 2
  go_wp2
  exact eff_end 4 rfl rfl hb rfl rfl _ _ _ (fun w' hk => ⟨rfl, nil_drop hk1 hk⟩)
theorem done_nil3 (s x a b : Int) (w : World) :
    Calls Try.prog 55 #[.pointer none, .agg #[.int .i64 s, .int .i64 3, .int .i64 x, .int .i64 a, .int .i64 b]] w fun e w' => e = .returned (bad 20).value ∧ Keeps None w w' := by
  go_enter Try.func55, Try.ntmps55
  go_wp2_with fail
  refine (eq_keeps (add_nil _ _ _)).mono ?_
  rintro e w1 ⟨rfl, hk1⟩
  have hb := nil_block hk1
  have r0 := (cell_of_block hb 0).trans rfl
  have r1 := (cell_of_block hb 1).trans rfl
  have r2 := (cell_of_block hb 2).trans rfl
  have q0 := free_of_block hb 0
  have q1 := free_of_block hb 1
  have q2 := free_of_block hb 2
  go_wp2
  exact eff_end 4 rfl rfl hb rfl rfl _ _ _ (fun w' hk => ⟨rfl, nil_drop hk1 hk⟩)
theorem done_nilF (s kind x a b : Int) (hk : Other kind) (ha : a < 1) (w : World) :
    Calls Try.prog 55 #[.pointer none, .agg #[.int .i64 s, .int .i64 kind, .int .i64 x, .int .i64 a, .int .i64 b]] w fun e w' => e = .returned (bad 21).value ∧ Keeps None w w' := by
  obtain ⟨k0, k1, k2, k3⟩ := hk
  go_enter Try.func55, Try.ntmps55
  go_wp2_with fail
  refine (reserve_nil_few _ _ ha).mono ?_
  rintro e w1 ⟨rfl, hk1⟩
  have hb := nil_block hk1
  have r0 := (cell_of_block hb 0).trans rfl
  have r1 := (cell_of_block hb 1).trans rfl
  have r2 := (cell_of_block hb 2).trans rfl
  have q0 := free_of_block hb 0
  have q1 := free_of_block hb 1
  have q2 := free_of_block hb 2
  go_wp2
  exact eff_end 4 rfl rfl hb rfl rfl _ _ _ (fun w' hk => ⟨rfl, nil_drop hk1 hk⟩)
theorem done_nilM (s kind x a b : Int) (hk : Other kind) (ha : ¬ a < 1) (w : World) :
    Calls Try.prog 55 #[.pointer none, .agg #[.int .i64 s, .int .i64 kind, .int .i64 x, .int .i64 a, .int .i64 b]] w fun e w' => e = .returned (bad 22).value ∧ Keeps None w w' := by
  obtain ⟨k0, k1, k2, k3⟩ := hk
  go_enter Try.func55, Try.ntmps55
  go_wp2_with fail
  refine (reserve_nil_many a _ (by omega)).mono ?_
  rintro e w1 ⟨rfl, hk1⟩
  have hb := nil_block hk1
  have r0 := (cell_of_block hb 0).trans rfl
  have r1 := (cell_of_block hb 1).trans rfl
  have r2 := (cell_of_block hb 2).trans rfl
  have q0 := free_of_block hb 0
  have q1 := free_of_block hb 1
  have q2 := free_of_block hb 2
  go_wp2
  exact eff_end 4 rfl rfl hb rfl rfl _ _ _ (fun w' hk => ⟨rfl, nil_drop hk1 hk⟩)
theorem done_nil (A : Ar) (hs : A.size = 0) (hc : A.cells = []) (s kind x a b : Int) (w : World) :
    Calls Try.prog 55 #[.pointer none, .agg #[.int .i64 s, .int .i64 kind, .int .i64 x, .int .i64 a, .int .i64 b]] w fun e w' => e = .returned (A.did kind x a b).1.value ∧ Keeps None w w' := by
  have hh : A.has x = false := by simp [Ar.has, hc]
  by_cases k0 : kind = 0
  · subst k0; simpa [Ar.did, hh] using done_nil0 s x a b w
  by_cases k1 : kind = 1
  · subst k1; simpa [Ar.did, hh] using done_nil1 s x a b w
  by_cases k2 : kind = 2
  · subst k2; simpa [Ar.did, hh] using done_nil2 s x a b w
  by_cases k3 : kind = 3
  · subst k3; simpa [Ar.did, hh] using done_nil3 s x a b w
  by_cases ha : a < 1
  · simpa [Ar.did, k0, k1, k2, k3, ha] using done_nilF s kind x a b ⟨k0, k1, k2, k3⟩ ha w
  · have h2 : (A.size : Int) - A.cells.length < a := by rw [hs, hc]; simp; omega
    simpa only [Ar.did, k0, k1, k2, k3, ha, h2, if_true, if_false] using done_nilM s kind x a b ⟨k0, k1, k2, k3⟩ ha w
theorem did_nil (A : Ar) (hs : A.size = 0) (hc : A.cells = []) (kind x a b : Int) : (A.did kind x a b).2 = A := by
  have hh : A.has x = false := by simp [Ar.has, hc]
  by_cases ha : a < 1
  · simp only [Ar.did, hh, ha]; repeat' split
    all_goals first | rfl | contradiction
  · have h2 : (A.size : Int) - A.cells.length < a := by rw [hs, hc]; simp; omega
    simp only [Ar.did, hh, ha, h2]; repeat' split
    all_goals first | rfl | contradiction
end Go.Proofs.Ytpjmakbbakmhoaa
