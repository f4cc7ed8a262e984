import Derived.Test.YtaipeclmfgdegaaRefWalks
import Derived.Deep.DeepCutAuto
import Derived.Deep.RegionHeld3
/-! The document's arena: one act. -/
namespace Go.Proofs.Ytaipeclmfgdegaa
open Go.RowKit Go.HeapKit

theorem RAfter.dropN {w W w1 w2 : World} {p : Nat} {vc vl : Value} {A B : Ar} (h : IsRef w p vc vl A) (hW : Keeps None w W) (hA : RAfter W w1 p vc vl B) (hk : Keeps (fun i => w.heap.size ≤ i ∧ i < W.heap.size) w1 w2) : RAfter w w2 p vc vl B := by
  obtain ⟨vc', vl', hB, hk1, mc, ml⟩ := hA
  have hs := hW.size
  have hd : ∀ {v v'}, (∀ k, v.ownBlock = some k → k < w.heap.size) → Moved W v v' → ∀ k, v'.ownBlock = some k → ¬ (w.heap.size ≤ k ∧ k < W.heap.size) := by
    intro v v' hv hm k e
    rcases hm with hm | ⟨g, hm, hg⟩
    · have := hv k (hm ▸ e); omega
    · rw [e] at hm; injection hm with hm; omega
  have hm2 : ∀ {v v'}, Moved W v v' → Moved w v v' := by
    intro v v' hm
    rcases hm with hm | ⟨g, hm, hg⟩
    · exact .inl hm
    · exact .inr ⟨g, hm, by omega⟩
  refine ⟨vc', vl', hB.kept hk ?_, ((hW.mono (fun _ f _ => f.elim)).trans hk1 (fun _ f _ => f)).trans hk (fun i e hi => by omega), hm2 mc, hm2 ml⟩
  rintro k (rfl | hk | hk)
  · have := h.lt; omega
  · exact hd (fun k e => own_lt h.cells e) mc k hk
  · exact hd (fun k e => own_lt h.log e) ml k hk
theorem ref_new {w W w1 : World} {p : Nat} {vc vl : Value} {A : Ar} {o : Obj} {g : Nat} (h : IsRef w p vc vl A) (hg : W.heap[g]? = some o) (hw : w.heap.size ≤ g) (hk : Keeps (Foot p vc vl) W w1) : w1.heap[g]? = some o :=
  (hk.block _ (Array.getElem?_eq_some_iff.1 hg).1 (fun f => by have := h.foot_lt f; omega)).trans hg

/-- What 'Do' begins with: the act's box, the result's block. -/
abbrev boxed (w : World) (u k x a b : Int) : World := (w.alloc (.cells #[.int .i64 u, .int .i64 k, .int .i64 x, .int .i64 a, .int .i64 b] 54)).alloc (.cells #[.int .i64 0, .bool false, .int .i64 0] 51)

theorem do_bad (p : Nat) (vc vl : Value) (A : Ar) (u k x a b : Int) (w : World) (h : IsRef w p vc vl A) (hk : k < 0 ∨ 4 < k) :
    Calls Try.prog 19 #[.pointer (some ⟨p, 0, none⟩), .agg #[.int .i64 u, .int .i64 k, .int .i64 x, .int .i64 a, .int .i64 b]] w fun e w' => e = .returned (bad 23).value ∧ RAfter w w' p vc vl A := by
  have hk' : k < 0 ∨ (¬ k < 0 ∧ 4 < k) := by omega
  rcases hk' with h0 | ⟨h0, h4⟩
  all_goals
    go_enter Try.func19, Try.ntmps19
    go_wp2_with fail
    refine (refused_any 23 _).mono ?_
    rintro e w1 ⟨rfl, hk⟩
    have hb := (hk.block (w.heap.size + 1) (by simp) (fun f => f)).trans (new_at _ _ _ (by simp))
    have r0 := (cell_of_block hb 0).trans rfl
    have r1 := (cell_of_block hb 1).trans rfl
    have r2 := (cell_of_block hb 2).trans rfl
    have q0 := free_of_block hb 0
    have q1 := free_of_block hb 1
    have q2 := free_of_block hb 2
    go_wp2
    exact eff_end 4 rfl rfl hb rfl rfl _ _ _ (fun w' hk2 => ⟨rfl, RAfter.dropN (W := boxed w u k x a b) h (((Keeps.refl _ _).andAlloc _).andAlloc _) ⟨_, vl, ((h.alloc _).alloc _).kept hk (fun _ _ f => f), hk.mono (fun _ f _ => f.elim), .refl _ _, .refl _ _⟩ (hk2.mono (fun i e _ => by subst e; simp))⟩)

theorem rreserve_did (p : Nat) (vc vl : Value) (A : Ar) (x a b : Int) (w : World) (h : IsRef w p vc vl A) (hlog : A.log.length < 1000000000000) :
    Calls Try.prog 31 #[.pointer (some ⟨p, 0, none⟩), .int .i64 a] w fun e w' => e = .returned (A.did 4 x a b).1.value ∧ RAfter w w' p vc vl (A.did 4 x a b).2 := by
  by_cases h1 : a < 1
  · refine (rreserve_few p vc vl A a w h h1).mono ?_
    rintro e w' ⟨rfl, hA⟩
    simpa [Ar.did, h1] using hA
  by_cases h2 : (A.size : Int) - A.cells.length < a
  · refine (rreserve_many p vc vl A a w h h1 h2).mono ?_
    rintro e w' ⟨rfl, hA⟩
    simpa [Ar.did, h1, h2] using hA
  · obtain ⟨n, rfl⟩ : ∃ n : Nat, a = n := ⟨a.toNat, by omega⟩
    refine (rreserve_fits p vc vl A n w h (by omega) (by have := h.fit; omega) hlog).mono ?_
    rintro e w' ⟨rfl, hA⟩
    simpa [Ar.did, h1, h2] using hA

theorem eff_endA {Q : Ending → World → Prop} {a : Act} {w1 : World} {g : Nat} {c : Array Value} {t : TypeId} {fn : Func} (q : Tmp) (hfn : fn.results = #[.cell q 51]) (hc : c.size = 3) (hb : w1.heap[g]? = some (.cells c t (0, 0)))
    (ha : a.tmps.getD q undef = .pointer (some ⟨g, 0, none⟩)) (hd : a.defers = []) (v0 v1 v2 : Value) (o : Obj)
    (hQ : ∀ w', Keeps (· = g) w1 w' → Q (.returned (.agg #[v0, v1, v2])) w') :
    bodyPost Try.prog fn Q .ret a ((((w1.setCell ⟨g, 0, none⟩ v0).setCell ⟨g, 1, none⟩ v1).setCell ⟨g, 2, none⟩ v2).alloc o) := by
  have hb2 := setCell_block (i := 2) (setCell_block (i := 1) (setCell_block (i := 0) hb v0) v1) v2
  have hc3 : ((c.setIfInBounds 0 v0).setIfInBounds 1 v1).setIfInBounds 2 v2 = #[v0, v1, v2] := by
    obtain ⟨l⟩ := c
    match l, hc with
    | [_, _, _], _ => rfl
  rw [hc3] at hb2
  have hb3 := (Below.heap_alloc _ o g (Array.getElem?_eq_some_iff.1 hb2).1).trans hb2
  refine bodyPost_ret (results_row (q := q) (ty := 51) hfn ha (run_loadVar_row _ g t 51 _ _ _ hb3 Try.underlying51 rfl (by kernel_rfl))) hd ?_
  exact hQ _ ((((Keeps.setCell (S := (· = g)) w1 (a := ⟨g, 0, none⟩) rfl _).andSet (x := ⟨g, 1, none⟩) (.inl rfl) _).andSet (x := ⟨g, 2, none⟩) (.inl rfl) _).andAlloc o)

theorem do_reserve (p : Nat) (vc vl : Value) (A : Ar) (u x a b : Int) (w : World) (h : IsRef w p vc vl A) (hlog : A.log.length < 1000000000000) :
    Calls Try.prog 19 #[.pointer (some ⟨p, 0, none⟩), .agg #[.int .i64 u, .int .i64 4, .int .i64 x, .int .i64 a, .int .i64 b]] w fun e w' => e = .returned (A.did 4 x a b).1.value ∧ RAfter w w' p vc vl (A.did 4 x a b).2 := by
  have hc := rreserve_did p vc vl A x a b (boxed w u 4 x a b) ((h.alloc _).alloc _) hlog
  generalize A.did 4 x a b = D at hc ⊢
  obtain ⟨⟨v, ok, err⟩, B⟩ := D
  simp only [Eff.value] at hc ⊢
  go_enter Try.func19, Try.ntmps19
  go_wp2_with fail
  refine hc.mono ?_
  rintro e w1 ⟨rfl, hA⟩
  have hb := ref_new h (new_at (w.alloc _) _ (w.heap.size + 1) (by simp)) (by omega) hA.choose_spec.choose_spec.2.1
  have hlt := (Array.getElem?_eq_some_iff.1 hb).1
  have ne1 : ¬ w.heap.size + 1 = w1.heap.size := by omega
  have ne2 : ¬ w1.heap.size = w.heap.size + 1 := by omega
  have r0 := (cell_of_block hb 0).trans rfl
  have r1 := (cell_of_block hb 1).trans rfl
  have r2 := (cell_of_block hb 2).trans rfl
  have q0 := free_of_block hb 0
  have q1 := free_of_block hb 1
  have q2 := free_of_block hb 2
  have hb4 := (Below.heap_alloc w1 (.cells #[.int .i64 v, .bool ok, .int .i64 err] 51) _ hlt).trans hb
  have s0 := (cell_of_block hb4 0).trans rfl
  have s1 := (cell_of_block hb4 1).trans rfl
  have s2 := (cell_of_block hb4 2).trans rfl
  have z0 := free_of_block hb4 0
  have z1 := free_of_block hb4 1
  have z2 := free_of_block hb4 2
  go_wp2
  exact eff_endA 4 rfl rfl hb rfl rfl _ _ _ _ (fun w' hk2 => ⟨rfl, RAfter.dropN (W := boxed w u 4 x a b) h (((Keeps.refl _ _).andAlloc _).andAlloc _) hA (hk2.mono (fun i e _ => by subst e; simp))⟩)

theorem do_out (p : Nat) (vc vl : Value) (A : Ar) (u k x a b : Int) (w : World) (h : IsRef w p vc vl A) (hk0 : ¬ k < 0) (hk4 : k < 4) (hx : A.has x = false) :
    Calls Try.prog 19 #[.pointer (some ⟨p, 0, none⟩), .agg #[.int .i64 u, .int .i64 k, .int .i64 x, .int .i64 a, .int .i64 b]] w fun e w' => e = .returned (bad 20).value ∧ RAfter w w' p vc vl A := by
  have hk4' : ¬ 4 < k := by omega
  have hk5 : (k == 4) = false := by simp; omega
  have hx' : x < 0 ∨ (¬ x < 0 ∧ (A.cells.length : Int) ≤ x) := by simp [Ar.has] at hx; omega
  have c1 := ((h.alloc (.cells #[.int .i64 u, .int .i64 k, .int .i64 x, .int .i64 a, .int .i64 b] 54)).alloc (.cells #[.int .i64 0, .bool false, .int .i64 0] 51)).c1
  have HH : Hid (IsRef w p vc vl A) := h
  obtain ⟨ao, cap, rfl⟩ := own_shape h.cells
  clear h hx
  rcases hx' with h0 | ⟨h0, h4⟩
  · have d0 : decide (x < 0) = true := by simp [h0]
    go_enter Try.func19, Try.ntmps19
    go_wp2_with fail
    go_quiet (fail)
    go_wp2_with fail
    refine (refused_any 20 _).mono ?_
    rintro e w1 ⟨rfl, hk⟩
    have hk1 : Keeps None (boxed w u k x a b) w1 := (Keeps.drewN None _ _).trans hk (fun _ f _ => f)
    have hb := (hk1.block (w.heap.size + 1) (by simp) (fun f => f)).trans (new_at _ _ _ (by simp))
    have r0 := (cell_of_block hb 0).trans rfl
    have r1 := (cell_of_block hb 1).trans rfl
    have r2 := (cell_of_block hb 2).trans rfl
    have q0 := free_of_block hb 0
    have q1 := free_of_block hb 1
    have q2 := free_of_block hb 2
    go_wp2
    exact eff_end 4 rfl rfl hb rfl rfl _ _ _ (fun w' hk2 => ⟨rfl, RAfter.dropN (W := boxed w u k x a b) HH.out (((Keeps.refl _ _).andAlloc _).andAlloc _) ⟨_, vl, ((HH.out.alloc _).alloc _).kept hk1 (fun _ _ f => f), hk1.mono (fun _ f _ => f.elim), .refl _ _, .refl _ _⟩ (hk2.mono (fun i e _ => by subst e; simp))⟩)
  · have d0 : decide (x < 0) = false := by simp; omega
    go_enter Try.func19, Try.ntmps19
    go_wp2_with fail
    go_quiet (fail)
    go_wp2_with fail
    refine (refused_any 20 _).mono ?_
    rintro e w1 ⟨rfl, hk⟩
    have hk1 : Keeps None (boxed w u k x a b) w1 := (Keeps.drewN None _ _).trans hk (fun _ f _ => f)
    have hb := (hk1.block (w.heap.size + 1) (by simp) (fun f => f)).trans (new_at _ _ _ (by simp))
    have r0 := (cell_of_block hb 0).trans rfl
    have r1 := (cell_of_block hb 1).trans rfl
    have r2 := (cell_of_block hb 2).trans rfl
    have q0 := free_of_block hb 0
    have q1 := free_of_block hb 1
    have q2 := free_of_block hb 2
    go_wp2
    exact eff_end 4 rfl rfl hb rfl rfl _ _ _ (fun w' hk2 => ⟨rfl, RAfter.dropN (W := boxed w u k x a b) HH.out (((Keeps.refl _ _).andAlloc _).andAlloc _) ⟨_, vl, ((HH.out.alloc _).alloc _).kept hk1 (fun _ _ f => f), hk1.mono (fun _ f _ => f.elim), .refl _ _, .refl _ _⟩ (hk2.mono (fun i e _ => by subst e; simp))⟩)
end Go.Proofs.Ytaipeclmfgdegaa
