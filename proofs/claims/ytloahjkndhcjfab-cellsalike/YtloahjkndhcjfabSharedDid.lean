import Derived.Test.YtloahjkndhcjfabSharedReserve
import Derived.Test.YtloahjkndhcjfabDoneWalks
/-! Shared cells, there or not: one move as an effect. -/
namespace Go.Proofs.Ytloahjkndhcjfab
open Go.RowKit Go.HeapKit

/-- Shared cells behind a pointer, or none behind a nil one; F: their blocks. -/
structure IsSh (w : World) (sv : Value) (F : Nat → Prop) (A : Ar) : Prop where
  ex : (sv = .pointer none ∧ A = Ar.new 0 ∧ ∀ k, ¬ F k) ∨ ∃ p vs, sv = .pointer (some ⟨p, 0, none⟩) ∧ IsShared w p vs A ∧ ∀ k, F k ↔ SFoot p vs k
section
variable {w : World} {sv : Value} {F : Nat → Prop} {A : Ar}
theorem IsSh.lt (h : IsSh w sv F A) {k : Nat} (hk : F k) : k < w.heap.size := by
  rcases h.ex with ⟨_, _, hn⟩ | ⟨p, vs, _, hs, hF⟩
  · exact absurd hk (hn k)
  · exact hs.foot_lt ((hF k).1 hk)
theorem IsSh.plain (h : IsSh w sv F A) : A.on = false := by
  rcases h.ex with ⟨_, rfl, _⟩ | ⟨p, vs, _, hs, hF⟩
  · rfl
  · exact hs.plain
theorem IsSh.kept {w' : World} {S : Nat → Prop} (h : IsSh w sv F A) (hk : Keeps S w w') (hS : ∀ k, F k → ¬ S k) : IsSh w' sv F A := by
  rcases h.ex with h0 | ⟨p, vs, rfl, hs, hF⟩
  · exact ⟨.inl h0⟩
  · exact ⟨.inr ⟨p, vs, rfl, hs.kept hk (fun k f => hS k ((hF k).2 f)), hF⟩⟩
theorem IsSh.alloc (h : IsSh w sv F A) (o : Obj) : IsSh (w.alloc o) sv F A := h.kept (Keeps.alloc None w o) (fun _ _ f => f)
theorem noted_off {A : Ar} (h : A.on = false) (x : Acc) : A.noted x = A := by simp [Ar.noted, h]
theorem put_off {A : Ar} (h : A.on = false) (k : Nat) (v : Int) (x : Acc) : (A.put k v).noted x = A.put k v := noted_off (A := A.put k v) h x
theorem more_off {A : Ar} (h : A.on = false) (n : Nat) (x : Acc) : (A.more n).noted x = A.more n := noted_off (A := A.more n) h x
theorem has_none (x : Int) : (Ar.new 0).has x = false := by
  cases h : (Ar.new 0).has x with
  | false => rfl
  | true =>
    obtain ⟨k, _, hk⟩ := Ar.has_nat h
    simp [Ar.new] at hk

theorem sload_did (x a b : Int) (h : IsSh w sv F A) :
    Calls Try.prog 38 #[sv, .int .i64 x] w fun e w' => e = .returned (.tuple #[.int .i64 (A.did 0 x a b).1.v, .int .i64 (A.did 0 x a b).1.err]) ∧ IsSh w' sv F (A.did 0 x a b).2 ∧ Keeps F w w' := by
  have hp := h.plain
  rcases h.ex with ⟨rfl, rfl, _⟩ | ⟨p, vs, rfl, hs, hF⟩
  · refine (sload_nil x w).mono ?_
    rintro e w' ⟨rfl, rfl⟩
    simpa [Ar.did, has_none, bad] using ⟨h, Keeps.refl F w'⟩
  cases hx : A.has x with
  | false =>
    refine (sload_out p vs A x w hs hx).mono ?_
    rintro e w' ⟨rfl, rfl⟩
    simpa [Ar.did, hx, bad] using ⟨h, Keeps.refl F w'⟩
  | true =>
    obtain ⟨k, rfl, hk⟩ := Ar.has_nat hx
    refine (sload_in p vs A k w hs hk).mono ?_
    rintro e w' ⟨rfl, rfl⟩
    simpa [Ar.did, hx, noted_off hp] using ⟨h, Keeps.refl F w'⟩
theorem of_shared {w' : World} {p : Nat} {vs : Value} {B : Ar} (hF : ∀ k, F k ↔ SFoot p vs k) (h : IsShared w' p vs B ∧ Keeps (SFoot p vs) w w') : IsSh w' (.pointer (some ⟨p, 0, none⟩)) F B ∧ Keeps F w w' :=
  ⟨⟨.inr ⟨p, vs, rfl, h.1, hF⟩⟩, h.2.mono (fun k f _ => (hF k).2 f)⟩
theorem sstore_did (x a b : Int) (h : IsSh w sv F A) :
    Calls Try.prog 39 #[sv, .int .i64 x, .int .i64 a] w fun e w' => e = .returned (.int .i64 (A.did 1 x a b).1.err) ∧ IsSh w' sv F (A.did 1 x a b).2 ∧ Keeps F w w' := by
  have hp := h.plain
  rcases h.ex with ⟨rfl, rfl, _⟩ | ⟨p, vs, rfl, hs, hF⟩
  · refine (sstore_nil x a w).mono ?_
    rintro e w' ⟨rfl, rfl⟩
    simpa [Ar.did, has_none, bad] using ⟨h, Keeps.refl F w'⟩
  cases hx : A.has x with
  | false =>
    refine (sstore_out p vs A x a w hs hx).mono ?_
    rintro e w' ⟨rfl, rfl⟩
    simpa [Ar.did, hx, bad] using ⟨h, Keeps.refl F w'⟩
  | true =>
    obtain ⟨k, rfl, hk⟩ := Ar.has_nat hx
    refine (sstore_in p vs A k a w hs hk).mono ?_
    rintro e w' ⟨rfl, hA⟩
    simpa [Ar.did, hx, put_off hp] using of_shared hF hA
theorem scas_did (x a b : Int) (h : IsSh w sv F A) :
    Calls Try.prog 40 #[sv, .int .i64 x, .int .i64 a, .int .i64 b] w fun e w' => e = .returned (.tuple #[.bool (A.did 2 x a b).1.ok, .int .i64 (A.did 2 x a b).1.err]) ∧ IsSh w' sv F (A.did 2 x a b).2 ∧ Keeps F w w' := by
  have hp := h.plain
  rcases h.ex with ⟨rfl, rfl, _⟩ | ⟨p, vs, rfl, hs, hF⟩
  · refine (scas_nil x a b w).mono ?_
    rintro e w' ⟨rfl, rfl⟩
    simpa [Ar.did, has_none, bad] using ⟨h, Keeps.refl F w'⟩
  cases hx : A.has x with
  | false =>
    refine (scas_out p vs A x a b w hs hx).mono ?_
    rintro e w' ⟨rfl, rfl⟩
    simpa [Ar.did, hx, bad] using ⟨h, Keeps.refl F w'⟩
  | true =>
    obtain ⟨k, rfl, hk⟩ := Ar.has_nat hx
    by_cases hv : A.val k = a
    · subst hv
      refine (scas_hit p vs A k b w hs hk).mono ?_
      rintro e w' ⟨rfl, hA⟩
      simpa [Ar.did, hx, put_off hp] using of_shared hF hA
    · refine (scas_miss p vs A k a b w hs hk hv).mono ?_
      rintro e w' ⟨rfl, hA⟩
      simpa [Ar.did, hx, hv, noted_off hp] using of_shared hF hA
theorem sadd_did (x a b : Int) (h : IsSh w sv F A) :
    Calls Try.prog 41 #[sv, .int .i64 x, .int .i64 a] w fun e w' => e = .returned (.tuple #[.int .i64 (A.did 3 x a b).1.v, .int .i64 (A.did 3 x a b).1.err]) ∧ IsSh w' sv F (A.did 3 x a b).2 ∧ Keeps F w w' := by
  have hp := h.plain
  rcases h.ex with ⟨rfl, rfl, _⟩ | ⟨p, vs, rfl, hs, hF⟩
  · refine (sadd_nil x a w).mono ?_
    rintro e w' ⟨rfl, rfl⟩
    simpa [Ar.did, has_none, bad] using ⟨h, Keeps.refl F w'⟩
  cases hx : A.has x with
  | false =>
    refine (sadd_out p vs A x a w hs hx).mono ?_
    rintro e w' ⟨rfl, rfl⟩
    simpa [Ar.did, hx, bad] using ⟨h, Keeps.refl F w'⟩
  | true =>
    obtain ⟨k, rfl, hk⟩ := Ar.has_nat hx
    refine (sadd_in p vs A k a w hs hk).mono ?_
    rintro e w' ⟨rfl, hA⟩
    simpa [Ar.did, hx, put_off hp] using of_shared hF hA
theorem sreserve_did (kind x a b : Int) (hk : Other kind) (h : IsSh w sv F A) :
    Calls Try.prog 42 #[sv, .int .i64 a] w fun e w' => e = .returned (.tuple #[.int .i64 (A.did kind x a b).1.v, .int .i64 (A.did kind x a b).1.err]) ∧ IsSh w' sv F (A.did kind x a b).2 ∧ Keeps F w w' := by
  obtain ⟨k0, k1, k2, k3⟩ := hk
  have hp := h.plain
  by_cases h1 : a < 1
  · rcases h.ex with ⟨rfl, rfl, _⟩ | ⟨p, vs, rfl, hs, hF⟩
    · refine (sreserve_nil_few a w h1).mono ?_
      rintro e w' ⟨rfl, hk⟩
      simpa [Ar.did, k0, k1, k2, k3, h1, bad] using ⟨h.kept hk (fun _ _ f => f), hk.mono (T := F) (fun _ f _ => f.elim)⟩
    · refine (sreserve_few p vs A a w hs h1).mono ?_
      rintro e w' ⟨rfl, hA⟩
      simpa [Ar.did, k0, k1, k2, k3, h1, bad] using of_shared hF hA
  by_cases h2 : (A.size : Int) - A.cells.length < a
  · rcases h.ex with ⟨rfl, rfl, _⟩ | ⟨p, vs, rfl, hs, hF⟩
    · refine (sreserve_nil_many a w h1).mono ?_
      rintro e w' ⟨rfl, hk⟩
      simpa [Ar.did, k0, k1, k2, k3, h1, h2, bad] using ⟨h.kept hk (fun _ _ f => f), hk.mono (T := F) (fun _ f _ => f.elim)⟩
    · refine (sreserve_many p vs A a w hs h1 h2).mono ?_
      rintro e w' ⟨rfl, hA⟩
      simpa [Ar.did, k0, k1, k2, k3, h1, h2, bad] using of_shared hF hA
  · rcases h.ex with ⟨rfl, rfl, _⟩ | ⟨p, vs, rfl, hs, hF⟩
    · exact absurd (show ((Ar.new 0).size : Int) - (Ar.new 0).cells.length < a by simp [Ar.new]; omega) h2
    · obtain ⟨n, rfl⟩ : ∃ n : Nat, a = n := ⟨a.toNat, by omega⟩
      refine (sreserve_fits p vs A n w hs (by omega) (by have := hs.fit; omega)).mono ?_
      rintro e w' ⟨rfl, hA⟩
      simpa [Ar.did, k0, k1, k2, k3, h1, h2, more_off hp] using of_shared hF hA
end
theorem sh_res {w w1 : World} {sv : Value} {F : Nat → Prop} {A : Ar} {o1 o2 : Obj} (h : IsSh w sv F A) (hk : Keeps F ((w.alloc o1).alloc o2) w1) : w1.heap[w.heap.size + 1]? = some o2 :=
  (hk.block _ (by simp) (fun f => by have := h.lt f; omega)).trans (new_at _ _ _ (by simp))
theorem sh_drop {w w1 w2 : World} {sv : Value} {F : Nat → Prop} {A B : Ar} {o1 o2 : Obj} (h : IsSh w sv F A) (hA : IsSh w1 sv F B ∧ Keeps F ((w.alloc o1).alloc o2) w1) (hk : Keeps (· = w.heap.size + 1) w1 w2) : IsSh w2 sv F B ∧ Keeps F w w2 :=
  ⟨hA.1.kept hk (fun k f e => by have := h.lt f; omega), ((((Keeps.refl F w).andAlloc o1).andAlloc o2).trans hA.2 (fun _ f _ => f)).trans hk (fun i e hi => by omega)⟩

/-- An access by 'shared': the box, the result's block. -/
theorem shared_load (sv : Value) (F : Nat → Prop) (A : Ar) (s x a b : Int) (w : World) (h : IsSh w sv F A) :
    Calls Try.prog 13 #[sv, .agg #[.int .i64 s, .int .i64 0, .int .i64 x, .int .i64 a, .int .i64 b]] w fun e w' =>
      e = .returned (A.did 0 x a b).1.value ∧ IsSh w' sv F (A.did 0 x a b).2 ∧ Keeps F w w' := by
  have hok := A.did_ok 0 x a b (by decide)
  have hc := sload_did x a b ((h.alloc (.cells #[.int .i64 s, .int .i64 0, .int .i64 x, .int .i64 a, .int .i64 b] 33)).alloc (.cells #[.int .i64 0, .bool false, .int .i64 0] 36))
  generalize A.did 0 x a b = D at hok hc ⊢
  obtain ⟨⟨v, ok, err⟩, B⟩ := D
  simp only at hok hc ⊢
  subst hok
  go_enter Try.func13, Try.ntmps13
  go_wp2_with fail
  refine hc.mono ?_
  rintro e w1 ⟨rfl, hA⟩
  have hb := sh_res h hA.2
  have r0 := (cell_of_block hb 0).trans rfl
  have r1 := (cell_of_block hb 1).trans rfl
  have r2 := (cell_of_block hb 2).trans rfl
  have q0 := free_of_block hb 0
  have q1 := free_of_block hb 1
  have q2 := free_of_block hb 2
  go_wp2
  exact eff_end 4 rfl rfl hb rfl rfl _ _ _ (fun w' hk => ⟨rfl, sh_drop h hA hk⟩)
theorem shared_store (sv : Value) (F : Nat → Prop) (A : Ar) (s x a b : Int) (w : World) (h : IsSh w sv F A) :
    Calls Try.prog 13 #[sv, .agg #[.int .i64 s, .int .i64 1, .int .i64 x, .int .i64 a, .int .i64 b]] w fun e w' =>
      e = .returned (A.did 1 x a b).1.value ∧ IsSh w' sv F (A.did 1 x a b).2 ∧ Keeps F w w' := by
  have hok := A.did_ok 1 x a b (by decide)
  have hv := A.did_v1 x a b
  have hc := sstore_did x a b ((h.alloc (.cells #[.int .i64 s, .int .i64 1, .int .i64 x, .int .i64 a, .int .i64 b] 33)).alloc (.cells #[.int .i64 0, .bool false, .int .i64 0] 36))
  generalize A.did 1 x a b = D at hok hv hc ⊢
  obtain ⟨⟨v, ok, err⟩, B⟩ := D
  simp only at hok hv hc ⊢
  subst hok hv
  go_enter Try.func13, Try.ntmps13
  go_wp2_with fail
  refine hc.mono ?_
  rintro e w1 ⟨rfl, hA⟩
  have hb := sh_res h hA.2
  have r0 := (cell_of_block hb 0).trans rfl
  have r1 := (cell_of_block hb 1).trans rfl
  have r2 := (cell_of_block hb 2).trans rfl
  have q0 := free_of_block hb 0
  have q1 := free_of_block hb 1
  have q2 := free_of_block hb 2
  go_wp2
  exact eff_end 4 rfl rfl hb rfl rfl _ _ _ (fun w' hk => ⟨rfl, sh_drop h hA hk⟩)
theorem shared_cas (sv : Value) (F : Nat → Prop) (A : Ar) (s x a b : Int) (w : World) (h : IsSh w sv F A) :
    Calls Try.prog 13 #[sv, .agg #[.int .i64 s, .int .i64 2, .int .i64 x, .int .i64 a, .int .i64 b]] w fun e w' =>
      e = .returned (A.did 2 x a b).1.value ∧ IsSh w' sv F (A.did 2 x a b).2 ∧ Keeps F w w' := by
  have hv := A.did_v2 x a b
  have hc := scas_did x a b ((h.alloc (.cells #[.int .i64 s, .int .i64 2, .int .i64 x, .int .i64 a, .int .i64 b] 33)).alloc (.cells #[.int .i64 0, .bool false, .int .i64 0] 36))
  generalize A.did 2 x a b = D at hv hc ⊢
  obtain ⟨⟨v, ok, err⟩, B⟩ := D
  simp only at hv hc ⊢
  subst hv
  go_enter Try.func13, Try.ntmps13
  go_wp2_with fail
  refine hc.mono ?_
  rintro e w1 ⟨rfl, hA⟩
  have hb := sh_res h hA.2
  have r0 := (cell_of_block hb 0).trans rfl
  have r1 := (cell_of_block hb 1).trans rfl
  have r2 := (cell_of_block hb 2).trans rfl
  have q0 := free_of_block hb 0
  have q1 := free_of_block hb 1
  have q2 := free_of_block hb 2
  go_wp2
  exact eff_end 4 rfl rfl hb rfl rfl _ _ _ (fun w' hk => ⟨rfl, sh_drop h hA hk⟩)
theorem shared_add (sv : Value) (F : Nat → Prop) (A : Ar) (s x a b : Int) (w : World) (h : IsSh w sv F A) :
    Calls Try.prog 13 #[sv, .agg #[.int .i64 s, .int .i64 3, .int .i64 x, .int .i64 a, .int .i64 b]] w fun e w' =>
      e = .returned (A.did 3 x a b).1.value ∧ IsSh w' sv F (A.did 3 x a b).2 ∧ Keeps F w w' := by
  have hok := A.did_ok 3 x a b (by decide)
  have hc := sadd_did x a b ((h.alloc (.cells #[.int .i64 s, .int .i64 3, .int .i64 x, .int .i64 a, .int .i64 b] 33)).alloc (.cells #[.int .i64 0, .bool false, .int .i64 0] 36))
  generalize A.did 3 x a b = D at hok hc ⊢
  obtain ⟨⟨v, ok, err⟩, B⟩ := D
  simp only at hok hc ⊢
  subst hok
  go_enter Try.func13, Try.ntmps13
  go_wp2_with fail
  refine hc.mono ?_
  rintro e w1 ⟨rfl, hA⟩
  have hb := sh_res h hA.2
  have r0 := (cell_of_block hb 0).trans rfl
  have r1 := (cell_of_block hb 1).trans rfl
  have r2 := (cell_of_block hb 2).trans rfl
  have q0 := free_of_block hb 0
  have q1 := free_of_block hb 1
  have q2 := free_of_block hb 2
  go_wp2
  exact eff_end 4 rfl rfl hb rfl rfl _ _ _ (fun w' hk => ⟨rfl, sh_drop h hA hk⟩)
theorem shared_reserve (sv : Value) (F : Nat → Prop) (A : Ar) (s kind x a b : Int) (hk : Other kind) (w : World) (h : IsSh w sv F A) :
    Calls Try.prog 13 #[sv, .agg #[.int .i64 s, .int .i64 kind, .int .i64 x, .int .i64 a, .int .i64 b]] w fun e w' =>
      e = .returned (A.did kind x a b).1.value ∧ IsSh w' sv F (A.did kind x a b).2 ∧ Keeps F w w' := by
  obtain ⟨k0, k1, k2, k3⟩ := hk
  have hok := A.did_ok kind x a b k2
  have hc := sreserve_did kind x a b ⟨k0, k1, k2, k3⟩ ((h.alloc (.cells #[.int .i64 s, .int .i64 kind, .int .i64 x, .int .i64 a, .int .i64 b] 33)).alloc (.cells #[.int .i64 0, .bool false, .int .i64 0] 36))
  generalize A.did kind x a b = D at hok hc ⊢
  obtain ⟨⟨v, ok, err⟩, B⟩ := D
  simp only at hok hc ⊢
  subst hok
  go_enter Try.func13, Try.ntmps13
  go_wp2_with fail
  refine hc.mono ?_
  rintro e w1 ⟨rfl, hA⟩
  have hb := sh_res h hA.2
  have r0 := (cell_of_block hb 0).trans rfl
  have r1 := (cell_of_block hb 1).trans rfl
  have r2 := (cell_of_block hb 2).trans rfl
  have q0 := free_of_block hb 0
  have q1 := free_of_block hb 1
  have q2 := free_of_block hb 2
  go_wp2
  exact eff_end 4 rfl rfl hb rfl rfl _ _ _ (fun w' hk => ⟨rfl, sh_drop h hA hk⟩)
theorem shared_any (sv : Value) (F : Nat → Prop) (A : Ar) (s kind x a b : Int) (w : World) (h : IsSh w sv F A) :
    Calls Try.prog 13 #[sv, .agg #[.int .i64 s, .int .i64 kind, .int .i64 x, .int .i64 a, .int .i64 b]] w fun e w' =>
      e = .returned (A.did kind x a b).1.value ∧ IsSh w' sv F (A.did kind x a b).2 ∧ Keeps F w w' := by
  by_cases k0 : kind = 0
  · subst k0; exact shared_load sv F A s x a b w h
  by_cases k1 : kind = 1
  · subst k1; exact shared_store sv F A s x a b w h
  by_cases k2 : kind = 2
  · subst k2; exact shared_cas sv F A s x a b w h
  by_cases k3 : kind = 3
  · subst k3; exact shared_add sv F A s x a b w h
  exact shared_reserve sv F A s kind x a b ⟨k0, k1, k2, k3⟩ w h
theorem smark_nil (w : World) : Calls Try.prog 17 #[.pointer none] w fun e w' => e = .returned (.int .i64 0) ∧ w' = w := by
  go_enter Try.func17, Try.ntmps17
  go_wp2
  go_ret
  exact ⟨rfl, rfl⟩
theorem smark_any (p : Nat) (vs : Value) (A : Ar) (w : World) (h : IsShared w p vs A) :
    Calls Try.prog 17 #[.pointer (some ⟨p, 0, none⟩)] w fun e w' => e = .returned (.int .i64 A.cells.length) ∧ w' = w := by
  go_enter Try.func17, Try.ntmps17
  go_wp2_with (go_at_call 46; refine (used_any p 0 _ w h.c1).mono ?_; rintro e w' ⟨rfl, rfl⟩)
  go_ret
  exact ⟨rfl, rfl⟩
theorem ssize_nil (w : World) : Calls Try.prog 16 #[.pointer none] w fun e w' => e = .returned (.int .i64 0) ∧ w' = w := by
  go_enter Try.func16, Try.ntmps16
  go_wp2
  go_ret
  exact ⟨rfl, rfl⟩
theorem ssize_any (p : Nat) (vs : Value) (A : Ar) (w : World) (h : IsShared w p vs A) :
    Calls Try.prog 16 #[.pointer (some ⟨p, 0, none⟩)] w fun e w' => e = .returned (.int .i64 A.size) ∧ w' = w := by
  have c0 := h.c0
  go_enter Try.func16, Try.ntmps16
  go_wp2
  go_ret
  exact ⟨rfl, rfl⟩
theorem shsize_any (sv : Value) (F : Nat → Prop) (A : Ar) (w : World) (h : IsSh w sv F A) : Calls Try.prog 16 #[sv] w fun e w' => e = .returned (.int .i64 A.size) ∧ w' = w := by
  rcases h.ex with ⟨rfl, rfl, _⟩ | ⟨p, vs, rfl, hs, hF⟩
  · exact ssize_nil w
  · exact ssize_any p vs A w hs
theorem shmark_any (sv : Value) (F : Nat → Prop) (A : Ar) (w : World) (h : IsSh w sv F A) : Calls Try.prog 17 #[sv] w fun e w' => e = .returned (.int .i64 A.cells.length) ∧ w' = w := by
  rcases h.ex with ⟨rfl, rfl, _⟩ | ⟨p, vs, rfl, hs, hF⟩
  · exact smark_nil w
  · exact smark_any p vs A w hs
end Go.Proofs.Ytloahjkndhcjfab
