import Derived.Test.YtncbejpefokhhaaDoneWalks
/-! The program's own 'do', through the interface, on an arena. -/
namespace Go.Proofs.Ytncbejpefokhhaa
open Go.RowKit Go.HeapKit

theorem Ar.did_bad (A : Ar) (kind x a b : Int) (h : ¬ (A.did kind x a b).1.err = 0) : (A.did kind x a b).1.v = 0 ∧ (A.did kind x a b).1.ok = false := by
  unfold Ar.did at h ⊢
  repeat' split
  all_goals first | exact ⟨rfl, rfl⟩ | (exfalso; simp_all)

theorem meth_load (p : Nat) (w : World) : (method 224 58 (.pointer (some ⟨p, 0, none⟩)) "Load").run Try.prog w = .ok (54, .pointer (some ⟨p, 0, none⟩)) w := by kernel_rfl
theorem meth_store (p : Nat) (w : World) : (method 224 58 (.pointer (some ⟨p, 0, none⟩)) "Store").run Try.prog w = .ok (57, .pointer (some ⟨p, 0, none⟩)) w := by kernel_rfl
theorem meth_cas (p : Nat) (w : World) : (method 224 58 (.pointer (some ⟨p, 0, none⟩)) "CAS").run Try.prog w = .ok (53, .pointer (some ⟨p, 0, none⟩)) w := by kernel_rfl
theorem meth_add (p : Nat) (w : World) : (method 224 58 (.pointer (some ⟨p, 0, none⟩)) "Add").run Try.prog w = .ok (52, .pointer (some ⟨p, 0, none⟩)) w := by kernel_rfl
theorem meth_reserve (p : Nat) (w : World) : (method 224 58 (.pointer (some ⟨p, 0, none⟩)) "Reserve").run Try.prog w = .ok (56, .pointer (some ⟨p, 0, none⟩)) w := by kernel_rfl

theorem do_load (p : Nat) (vc vl : Value) (A : Ar) (s x a b : Int) (w : World) (h : IsArena w p vc vl A) (hlog : A.log.length < 1000000000000) :
    Calls Try.prog 23 #[.iface 58 (.pointer (some ⟨p, 0, none⟩)), .agg #[.int .i64 s, .int .i64 0, .int .i64 x, .int .i64 a, .int .i64 b]] w fun e w' =>
      e = .returned (A.did 0 x a b).1.value ∧ After w w' p vc vl (A.did 0 x a b).2 := by
  have hm := meth_load p
  have hok := A.did_ok 0 x a b (by decide)
  have hbad := A.did_bad 0 x a b
  have hc := load_did p vc vl A x a b _ ((h.alloc (.cells #[.int .i64 s, .int .i64 0, .int .i64 x, .int .i64 a, .int .i64 b] 53)).alloc (.cells #[.int .i64 0, .bool false, .int .i64 0] 41)) hlog
  generalize A.did 0 x a b = D at hok hbad hc ⊢
  obtain ⟨⟨v, ok, err⟩, B⟩ := D
  simp only at hok hbad hc ⊢
  by_cases he : err = 0
  · subst he
    clear hbad
    go_enter Try.func23, Try.ntmps23
    go_wp2_with fail
    refine hc.mono ?_
    rintro e w1 ⟨rfl, hA⟩
    have hb := res_block h hA.choose_spec.choose_spec.2.1
    have r0 := (cell_of_block hb 0).trans rfl
    have r1 := (cell_of_block hb 1).trans rfl
    have r2 := (cell_of_block hb 2).trans rfl
    have q0 := free_of_block hb 0
    have q1 := free_of_block hb 1
    have q2 := free_of_block hb 2
    go_wp2
    exact eff_end 4 rfl rfl hb rfl rfl _ _ _ (fun w' hk => ⟨by simp_all [Eff.value], After.drop h hA hk⟩)
  · have he' : (err != 0) = true := by simpa using he
    have hz := hbad he
    go_enter Try.func23, Try.ntmps23
    go_wp2_with fail
    refine hc.mono ?_
    rintro e w1 ⟨rfl, hA⟩
    have hb := res_block h hA.choose_spec.choose_spec.2.1
    have r0 := (cell_of_block hb 0).trans rfl
    have r1 := (cell_of_block hb 1).trans rfl
    have r2 := (cell_of_block hb 2).trans rfl
    have q0 := free_of_block hb 0
    have q1 := free_of_block hb 1
    have q2 := free_of_block hb 2
    go_wp2
    exact eff_end 4 rfl rfl hb rfl rfl _ _ _ (fun w' hk => ⟨by simp_all [Eff.value], After.drop h hA hk⟩)
theorem do_store (p : Nat) (vc vl : Value) (A : Ar) (s x a b : Int) (w : World) (h : IsArena w p vc vl A) (hlog : A.log.length < 1000000000000) :
    Calls Try.prog 23 #[.iface 58 (.pointer (some ⟨p, 0, none⟩)), .agg #[.int .i64 s, .int .i64 1, .int .i64 x, .int .i64 a, .int .i64 b]] w fun e w' =>
      e = .returned (A.did 1 x a b).1.value ∧ After w w' p vc vl (A.did 1 x a b).2 := by
  have hm := meth_store p
  have hok := A.did_ok 1 x a b (by decide)
  have hv := A.did_v1 x a b
  have hbad := A.did_bad 1 x a b
  have hc := store_did p vc vl A x a b _ ((h.alloc (.cells #[.int .i64 s, .int .i64 1, .int .i64 x, .int .i64 a, .int .i64 b] 53)).alloc (.cells #[.int .i64 0, .bool false, .int .i64 0] 41)) hlog
  generalize A.did 1 x a b = D at hok hv hbad hc ⊢
  obtain ⟨⟨v, ok, err⟩, B⟩ := D
  simp only at hok hv hbad hc ⊢
  by_cases he : err = 0
  · subst he
    clear hbad
    go_enter Try.func23, Try.ntmps23
    go_wp2_with fail
    refine hc.mono ?_
    rintro e w1 ⟨rfl, hA⟩
    have hb := res_block h hA.choose_spec.choose_spec.2.1
    have r0 := (cell_of_block hb 0).trans rfl
    have r1 := (cell_of_block hb 1).trans rfl
    have r2 := (cell_of_block hb 2).trans rfl
    have q0 := free_of_block hb 0
    have q1 := free_of_block hb 1
    have q2 := free_of_block hb 2
    go_wp2
    exact eff_end 4 rfl rfl hb rfl rfl _ _ _ (fun w' hk => ⟨by simp_all [Eff.value], After.drop h hA hk⟩)
  · have he' : (err != 0) = true := by simpa using he
    have hz := hbad he
    go_enter Try.func23, Try.ntmps23
    go_wp2_with fail
    refine hc.mono ?_
    rintro e w1 ⟨rfl, hA⟩
    have hb := res_block h hA.choose_spec.choose_spec.2.1
    have r0 := (cell_of_block hb 0).trans rfl
    have r1 := (cell_of_block hb 1).trans rfl
    have r2 := (cell_of_block hb 2).trans rfl
    have q0 := free_of_block hb 0
    have q1 := free_of_block hb 1
    have q2 := free_of_block hb 2
    go_wp2
    exact eff_end 4 rfl rfl hb rfl rfl _ _ _ (fun w' hk => ⟨by simp_all [Eff.value], After.drop h hA hk⟩)
theorem do_cas (p : Nat) (vc vl : Value) (A : Ar) (s x a b : Int) (w : World) (h : IsArena w p vc vl A) (hlog : A.log.length < 1000000000000) :
    Calls Try.prog 23 #[.iface 58 (.pointer (some ⟨p, 0, none⟩)), .agg #[.int .i64 s, .int .i64 2, .int .i64 x, .int .i64 a, .int .i64 b]] w fun e w' =>
      e = .returned (A.did 2 x a b).1.value ∧ After w w' p vc vl (A.did 2 x a b).2 := by
  have hm := meth_cas p
  have hv := A.did_v2 x a b
  have hbad := A.did_bad 2 x a b
  have hc := cas_did p vc vl A x a b _ ((h.alloc (.cells #[.int .i64 s, .int .i64 2, .int .i64 x, .int .i64 a, .int .i64 b] 53)).alloc (.cells #[.int .i64 0, .bool false, .int .i64 0] 41)) hlog
  generalize A.did 2 x a b = D at hv hbad hc ⊢
  obtain ⟨⟨v, ok, err⟩, B⟩ := D
  simp only at hv hbad hc ⊢
  by_cases he : err = 0
  · subst he
    clear hbad
    go_enter Try.func23, Try.ntmps23
    go_wp2_with fail
    refine hc.mono ?_
    rintro e w1 ⟨rfl, hA⟩
    have hb := res_block h hA.choose_spec.choose_spec.2.1
    have r0 := (cell_of_block hb 0).trans rfl
    have r1 := (cell_of_block hb 1).trans rfl
    have r2 := (cell_of_block hb 2).trans rfl
    have q0 := free_of_block hb 0
    have q1 := free_of_block hb 1
    have q2 := free_of_block hb 2
    go_wp2
    exact eff_end 4 rfl rfl hb rfl rfl _ _ _ (fun w' hk => ⟨by simp_all [Eff.value], After.drop h hA hk⟩)
  · have he' : (err != 0) = true := by simpa using he
    have hz := hbad he
    go_enter Try.func23, Try.ntmps23
    go_wp2_with fail
    refine hc.mono ?_
    rintro e w1 ⟨rfl, hA⟩
    have hb := res_block h hA.choose_spec.choose_spec.2.1
    have r0 := (cell_of_block hb 0).trans rfl
    have r1 := (cell_of_block hb 1).trans rfl
    have r2 := (cell_of_block hb 2).trans rfl
    have q0 := free_of_block hb 0
    have q1 := free_of_block hb 1
    have q2 := free_of_block hb 2
    go_wp2
    exact eff_end 4 rfl rfl hb rfl rfl _ _ _ (fun w' hk => ⟨by simp_all [Eff.value], After.drop h hA hk⟩)
theorem do_add (p : Nat) (vc vl : Value) (A : Ar) (s x a b : Int) (w : World) (h : IsArena w p vc vl A) (hlog : A.log.length < 1000000000000) :
    Calls Try.prog 23 #[.iface 58 (.pointer (some ⟨p, 0, none⟩)), .agg #[.int .i64 s, .int .i64 3, .int .i64 x, .int .i64 a, .int .i64 b]] w fun e w' =>
      e = .returned (A.did 3 x a b).1.value ∧ After w w' p vc vl (A.did 3 x a b).2 := by
  have hm := meth_add p
  have hok := A.did_ok 3 x a b (by decide)
  have hbad := A.did_bad 3 x a b
  have hc := add_did p vc vl A x a b _ ((h.alloc (.cells #[.int .i64 s, .int .i64 3, .int .i64 x, .int .i64 a, .int .i64 b] 53)).alloc (.cells #[.int .i64 0, .bool false, .int .i64 0] 41)) hlog
  generalize A.did 3 x a b = D at hok hbad hc ⊢
  obtain ⟨⟨v, ok, err⟩, B⟩ := D
  simp only at hok hbad hc ⊢
  by_cases he : err = 0
  · subst he
    clear hbad
    go_enter Try.func23, Try.ntmps23
    go_wp2_with fail
    refine hc.mono ?_
    rintro e w1 ⟨rfl, hA⟩
    have hb := res_block h hA.choose_spec.choose_spec.2.1
    have r0 := (cell_of_block hb 0).trans rfl
    have r1 := (cell_of_block hb 1).trans rfl
    have r2 := (cell_of_block hb 2).trans rfl
    have q0 := free_of_block hb 0
    have q1 := free_of_block hb 1
    have q2 := free_of_block hb 2
    go_wp2
    exact eff_end 4 rfl rfl hb rfl rfl _ _ _ (fun w' hk => ⟨by simp_all [Eff.value], After.drop h hA hk⟩)
  · have he' : (err != 0) = true := by simpa using he
    have hz := hbad he
    go_enter Try.func23, Try.ntmps23
    go_wp2_with fail
    refine hc.mono ?_
    rintro e w1 ⟨rfl, hA⟩
    have hb := res_block h hA.choose_spec.choose_spec.2.1
    have r0 := (cell_of_block hb 0).trans rfl
    have r1 := (cell_of_block hb 1).trans rfl
    have r2 := (cell_of_block hb 2).trans rfl
    have q0 := free_of_block hb 0
    have q1 := free_of_block hb 1
    have q2 := free_of_block hb 2
    go_wp2
    exact eff_end 4 rfl rfl hb rfl rfl _ _ _ (fun w' hk => ⟨by simp_all [Eff.value], After.drop h hA hk⟩)
theorem do_take (p : Nat) (vc vl : Value) (A : Ar) (s x a b : Int) (w : World) (h : IsArena w p vc vl A) (hlog : A.log.length < 1000000000000) :
    Calls Try.prog 23 #[.iface 58 (.pointer (some ⟨p, 0, none⟩)), .agg #[.int .i64 s, .int .i64 4, .int .i64 x, .int .i64 a, .int .i64 b]] w fun e w' =>
      e = .returned (A.did 4 x a b).1.value ∧ After w w' p vc vl (A.did 4 x a b).2 := by
  have hm := meth_reserve p
  have hok := A.did_ok 4 x a b (by decide)
  have hbad := A.did_bad 4 x a b
  have hc := reserve_did p vc vl A 4 x a b ⟨by decide, by decide, by decide, by decide⟩ _ ((h.alloc (.cells #[.int .i64 s, .int .i64 4, .int .i64 x, .int .i64 a, .int .i64 b] 53)).alloc (.cells #[.int .i64 0, .bool false, .int .i64 0] 41)) hlog
  generalize A.did 4 x a b = D at hok hbad hc ⊢
  obtain ⟨⟨v, ok, err⟩, B⟩ := D
  simp only at hok hbad hc ⊢
  by_cases he : err = 0
  · subst he
    clear hbad
    go_enter Try.func23, Try.ntmps23
    go_wp2_with fail
    refine hc.mono ?_
    rintro e w1 ⟨rfl, hA⟩
    have hb := res_block h hA.choose_spec.choose_spec.2.1
    have r0 := (cell_of_block hb 0).trans rfl
    have r1 := (cell_of_block hb 1).trans rfl
    have r2 := (cell_of_block hb 2).trans rfl
    have q0 := free_of_block hb 0
    have q1 := free_of_block hb 1
    have q2 := free_of_block hb 2
    go_wp2
    exact eff_end 4 rfl rfl hb rfl rfl _ _ _ (fun w' hk => ⟨by simp_all [Eff.value], After.drop h hA hk⟩)
  · have he' : (err != 0) = true := by simpa using he
    have hz := hbad he
    go_enter Try.func23, Try.ntmps23
    go_wp2_with fail
    refine hc.mono ?_
    rintro e w1 ⟨rfl, hA⟩
    have hb := res_block h hA.choose_spec.choose_spec.2.1
    have r0 := (cell_of_block hb 0).trans rfl
    have r1 := (cell_of_block hb 1).trans rfl
    have r2 := (cell_of_block hb 2).trans rfl
    have q0 := free_of_block hb 0
    have q1 := free_of_block hb 1
    have q2 := free_of_block hb 2
    go_wp2
    exact eff_end 4 rfl rfl hb rfl rfl _ _ _ (fun w' hk => ⟨by simp_all [Eff.value], After.drop h hA hk⟩)

/-- Every act: a kind that is none does nothing. -/
def Ar.acted (A : Ar) (kind x a b : Int) : Eff × Ar := if 0 ≤ kind ∧ kind ≤ 4 then A.did kind x a b else (bad 23, A)
theorem do_none (p : Nat) (vc vl : Value) (A : Ar) (s kind x a b : Int) (w : World) (h : IsArena w p vc vl A) (hk : ¬ (0 ≤ kind ∧ kind ≤ 4)) :
    Calls Try.prog 23 #[.iface 58 (.pointer (some ⟨p, 0, none⟩)), .agg #[.int .i64 s, .int .i64 kind, .int .i64 x, .int .i64 a, .int .i64 b]] w fun e w' =>
      e = .returned (bad 23).value ∧ After w w' p vc vl A := by
  have k0 : (kind == 0) = false := by simp; omega
  have k1 : (kind == 1) = false := by simp; omega
  have k2 : (kind == 2) = false := by simp; omega
  have k3 : (kind == 3) = false := by simp; omega
  have k4 : (kind == 4) = false := by simp; omega
  go_enter Try.func23, Try.ntmps23
  go_wp2
  refine bodyPost_ret (results_row (q := 4) (ty := 41) rfl rfl (run_loadVar_row _ (w.heap.size + 1) 41 41 _ _ _ (new_at _ _ _ (by simp)) Try.underlying41 rfl (by kernel_rfl))) rfl ?_
  exact ⟨rfl, vc, vl, (h.alloc _).alloc _, ((Keeps.refl _ _).andAlloc _).andAlloc _, .refl _ _, .refl _ _⟩
theorem do_arena (p : Nat) (vc vl : Value) (A : Ar) (s kind x a b : Int) (w : World) (h : IsArena w p vc vl A) (hlog : A.log.length < 1000000000000) :
    Calls Try.prog 23 #[.iface 58 (.pointer (some ⟨p, 0, none⟩)), .agg #[.int .i64 s, .int .i64 kind, .int .i64 x, .int .i64 a, .int .i64 b]] w fun e w' =>
      e = .returned (A.acted kind x a b).1.value ∧ After w w' p vc vl (A.acted kind x a b).2 := by
  by_cases hk : 0 ≤ kind ∧ kind ≤ 4
  · simp only [Ar.acted, if_pos hk]
    rcases (show kind = 0 ∨ kind = 1 ∨ kind = 2 ∨ kind = 3 ∨ kind = 4 by omega) with rfl | rfl | rfl | rfl | rfl
    · exact do_load p vc vl A s x a b w h hlog
    · exact do_store p vc vl A s x a b w h hlog
    · exact do_cas p vc vl A s x a b w h hlog
    · exact do_add p vc vl A s x a b w h hlog
    · exact do_take p vc vl A s x a b w h hlog
  · simp only [Ar.acted, if_neg hk]
    exact do_none p vc vl A s kind x a b w h hk
end Go.Proofs.Ytncbejpefokhhaa
