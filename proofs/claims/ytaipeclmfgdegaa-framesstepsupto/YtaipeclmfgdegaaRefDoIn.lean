import Derived.Test.YtaipeclmfgdegaaRefDo
/-! The document's arena: an act on a cell in use. -/
namespace Go.Proofs.Ytaipeclmfgdegaa
open Go.RowKit Go.HeapKit

theorem IsRef.drewN {w : World} {p : Nat} {vc vl : Value} {A : Ar} (h : IsRef w p vc vl A) (n : Nat) : IsRef (w.drewN n) p vc vl A := h.kept (Keeps.drewN None w n) (fun _ _ f => f)

/-- Ahead of the switch: the act's box, the result, the entry. -/
abbrev entered (w : World) (u k x a b actor : Int) : World := (boxed w u k x a b).alloc (.cells #[.int .i64 actor, .int .i64 k, .int .i64 x, .int .i64 0, .int .i64 0, .bool true] 89)

theorem do_fin {w X w1 w2 : World} {p : Nat} {vc vl : Value} {A B : Ar} (h : IsRef w p vc vl A) (hK : Keeps (Foot p vc vl) w X) (hA : RAfter X w1 p vc vl B) (r : Nat) (hr : w.heap.size ≤ r) (hr2 : r < X.heap.size)
    (hk2 : Keeps (· = r) w1 w2) : RAfter w w2 p vc vl B := by
  obtain ⟨vc', vl', hB, hk1, mc, ml⟩ := RAfter.trans hK (.refl _ _) (.refl _ _) hA
  obtain ⟨vc2, vl2, hB2, hk12, mc2, ml2⟩ := hA
  refine ⟨vc2, vl2, hB2.kept hk2 ?_, hk1.trans hk2 (fun i e hi => by omega), (Moved.refl _ _).trans mc2 hK.size, (Moved.refl _ _).trans ml2 hK.size⟩
  have hd : ∀ {v v' : Value}, (∀ k, v.ownBlock = some k → k < w.heap.size) → Moved X v v' → ∀ k, v'.ownBlock = some k → k ≠ r := by
    intro v v' hv hm k e
    rcases hm with hm | ⟨g, hm, hg⟩
    · have := hv k (hm ▸ e); omega
    · rw [e] at hm; injection hm with hm; omega
  rintro k (rfl | e | e)
  · have := h.lt; omega
  · exact hd (fun k e => own_lt h.cells e) mc2 k e
  · exact hd (fun k e => own_lt h.log e) ml2 k e
theorem four_at (w0 : World) (o1 o2 o3 o4 : Obj) : ((((w0.alloc o1).alloc o2).alloc o3).alloc o4).heap[w0.heap.size + 1]? = some o2 ∧ ((((w0.alloc o1).alloc o2).alloc o3).alloc o4).heap[w0.heap.size + 1 + 1 + 1]? = some o4 :=
  ⟨(Below.heap_alloc _ _ _ (by simp)).trans ((Below.heap_alloc _ _ _ (by simp)).trans (new_at _ _ _ (by simp))), new_at _ _ _ (by simp)⟩
theorem set_at {w0 : World} {g j r : Nat} {o : Obj} (h : w0.heap[r]? = some o) (hne : r ≠ g) (v : Value) : (w0.setCell ⟨g, j, none⟩ v).heap[r]? = some o := (Below.heap_setCell w0 ⟨g, j, none⟩ v r hne).trans h

set_option maxHeartbeats 4000000 in
set_option maxRecDepth 100000 in
theorem do_in (p : Nat) (vc vl : Value) (A : Ar) (u k a b : Int) (j : Nat) (w : World) (h : IsRef w p vc vl A) (hj : j < A.cells.length) (hlog : A.log.length < 1000000000000) (hk0 : ¬ k < 0) (hk4 : k < 4) :
    Calls Try.prog 19 #[.pointer (some ⟨p, 0, none⟩), .agg #[.int .i64 u, .int .i64 k, .int .i64 j, .int .i64 a, .int .i64 b]] w fun e w' => e = .returned (A.did k j a b).1.value ∧ RAfter w w' p vc vl (A.did k j a b).2 := by
  have hk4' : ¬ 4 < k := by omega
  have hk5 : (k == 4) = false := by simp; omega
  have d0 : decide ((j : Int) < 0) = false := by simp
  have d1 : decide ((j : Int) ≥ A.cells.length) = false := by simp; omega
  have d2 : (j : Int) < (A.cells.length : Int) := by omega
  have h2 := ((h.alloc (.cells #[.int .i64 u, .int .i64 k, .int .i64 j, .int .i64 a, .int .i64 b] 54)).alloc (.cells #[.int .i64 0, .bool false, .int .i64 0] 51))
  have c1 := h2.c1
  have c3 := h2.c3
  have HH : Hid (IsRef w p vc vl A) := h
  have hlt := h.lt
  have ne1 : ¬ p = w.heap.size + 2 := by omega
  have ne2 : ¬ p = w.heap.size + 1 + 1 := by omega
  obtain ⟨g, cap, rfl, hcap, hgp, hv, hfz⟩ := h2.at j hj
  change (boxed w u k j a b).cell? ⟨g, j, none⟩ = some (.int .i64 (A.val j)) at hv
  have e1 : (boxed w u k j a b).cell? ⟨w.heap.size, 1, none⟩ = some (.int .i64 k) := by rw [cell_of_block ((Below.heap_alloc _ _ _ (by simp)).trans (new_at w _ _ rfl))]; rfl
  have e2 : (boxed w u k j a b).cell? ⟨w.heap.size, 2, none⟩ = some (.int .i64 j) := by rw [cell_of_block ((Below.heap_alloc _ _ _ (by simp)).trans (new_at w _ _ rfl))]; rfl
  clear h h2
  go_enter Try.func19, Try.ntmps19
  go_wp2_with fail
  go_quiet (fail)
  go_wp2_with fail
  go_quiet (fail)
  go_upto_region 9 with fail
  go_cut [7] (fun s7 wc => s7 = .pointer (some ⟨w.heap.size + 2, 0, none⟩) ∧ ∃ m, wc = (((w.drewN m).alloc (.cells #[.int .i64 u, .int .i64 k, .int .i64 j, .int .i64 a, .int .i64 b] 54)).alloc (.cells #[.int .i64 0, .bool false, .int .i64 0] 51)).alloc (.cells #[.int .i64 A.actor, .int .i64 k, .int .i64 j, .int .i64 0, .int .i64 0, .bool true] 89))
  case first =>
    go_region_held3 (fun w' => w'.cell? ⟨p, 3, none⟩ = some (.int .i64 A.actor) ∧ w'.cell? ⟨w.heap.size, 1, none⟩ = some (.int .i64 k) ∧ w'.cell? ⟨w.heap.size, 2, none⟩ = some (.int .i64 j)) (go_keep) (fail)
    go_wp2_with fail
    go_meet
    case rel => exact ⟨rfl, _, rfl⟩
  case rest =>
    obtain ⟨rfl, m, rfl⟩ := hcut
    have f1 := (HH.out.drewN m)
    have HK : Hid (Keeps None w (w.drewN m)) := Keeps.drewN None w m
    clear c1 c3 hv hfz e1 e2 d0 d1 ne1 ne2 hlt
    obtain ⟨w0, hw0, hs0⟩ : ∃ w0, w0 = w.drewN m ∧ w.heap.size = w0.heap.size := ⟨_, rfl, rfl⟩
    rw [← hw0] at f1 HK ⊢
    rw [hs0]
    clear hs0 hw0
    have hlt := f1.lt
    have c1 := ((((f1.alloc (.cells #[.int .i64 u, .int .i64 k, .int .i64 j, .int .i64 a, .int .i64 b] 54)).alloc (.cells #[.int .i64 0, .bool false, .int .i64 0] 51)).alloc (.cells #[.int .i64 A.actor, .int .i64 k, .int .i64 j, .int .i64 0, .int .i64 0, .bool true] 89)).alloc (.cells #[.int .i64 0, .bool true, .int .i64 0] 51)).c1
    have hhas : A.has (j : Int) = true := by simp [Ar.has]; omega
    have hsz := HK.out.size
    rcases (show k = 0 ∨ k = 1 ∨ k = 2 ∨ k = 3 by omega) with rfl | rfl | rfl | rfl
    · skip
      go_wp2_with fail
      refine (rnote_any p _ vl A 0 j (A.val j) 0 true _ (f1.alloc _ |>.alloc _ |>.alloc _ |>.alloc _) hlog).mono ?_
      rintro e w1 ⟨rfl, hA⟩
      have hb := ref_new HH.out (four_at w0 _ _ _ _).1 (by omega) hA.choose_spec.choose_spec.2.1
      have he := ref_new HH.out (four_at w0 _ _ _ _).2 (by omega) hA.choose_spec.choose_spec.2.1
      have s0 := (cell_of_block he 0).trans rfl
      have s1 := (cell_of_block he 1).trans rfl
      have s2 := (cell_of_block he 2).trans rfl
      have r0 := (cell_of_block hb 0).trans rfl
      have r1 := (cell_of_block hb 1).trans rfl
      have r2 := (cell_of_block hb 2).trans rfl
      have q0 := free_of_block hb 0
      have q1 := free_of_block hb 1
      have q2 := free_of_block hb 2
      have HA : Hid _ := hA
      clear hA he
      go_wp2
      refine eff_end 4 rfl rfl hb rfl rfl _ _ _ (fun w' hk2 => ⟨?_, ?_⟩)
      · simp [Ar.did, hhas, Eff.value]
      · have := do_fin HH.out ((((HK.out.mono (fun _ f _ => f.elim)).andAlloc _ |>.andAlloc _).andAlloc _).andAlloc _) HA.out (w0.heap.size + 1) (by omega) (by simp) hk2
        simpa [Ar.did, hhas] using this
    · skip
      have hX := (((f1.alloc (.cells #[.int .i64 u, .int .i64 1, .int .i64 j, .int .i64 a, .int .i64 b] 54)).alloc (.cells #[.int .i64 0, .bool false, .int .i64 0] 51)).alloc (.cells #[.int .i64 A.actor, .int .i64 1, .int .i64 j, .int .i64 a, .int .i64 0, .bool true] 89)).alloc (.cells #[.int .i64 0, .bool true, .int .i64 0] 51)
      have x1 := hX.c1
      obtain ⟨g', cap', hg', _, _, x2, x3⟩ := hX.at j hj
      obtain ⟨rfl, rfl⟩ : g' = g ∧ cap' = cap := by injection hg' with e1 e2 e3; injection e1 with e1; injection e1 with e1; exact ⟨e1.symm, e3.symm⟩
      clear hg'
      have ng0 := own_lt f1.cells (g := g') rfl
      have ng1 : ¬ g' = w0.heap.size := by omega
      have ng2 : ¬ w0.heap.size = g' := by omega
      have ng3 : ¬ p = g' := fun e => hgp e.symm
      have HX : Hid _ := hX
      clear hX
      go_wp2_with fail
      go_region_held3 (fun w' => w'.cell? ⟨p, 1, none⟩ = some (.slice (some ⟨g', 0, none⟩) A.cells.length cap') ∧ w'.cell? ⟨w0.heap.size, 2, none⟩ = some (.int .i64 j) ∧ w'.cell? ⟨w0.heap.size, 3, none⟩ = some (.int .i64 a)) (go_keep) (fail)
      go_wp2_with fail
      refine (rnote_any p _ vl (A.put j a) 1 j a 0 true _ (HX.out.put j rfl a).drew hlog).mono ?_
      rintro e w1 ⟨rfl, hA⟩
      have hb := ref_new (g := w0.heap.size + 1) (o := .cells #[.int .i64 0, .bool false, .int .i64 0] 51 (0, 0)) HH.out (by refine set_at ?_ (by omega) _; exact (four_at w0 _ _ _ _).1) (by omega) hA.choose_spec.choose_spec.2.1
      have he := ref_new (g := w0.heap.size + 1 + 1 + 1) (o := .cells #[.int .i64 0, .bool true, .int .i64 0] 51 (0, 0)) HH.out (by refine set_at ?_ (by omega) _; exact (four_at w0 _ _ _ _).2) (by omega) hA.choose_spec.choose_spec.2.1
      have s0 := (cell_of_block he 0).trans rfl
      have s1 := (cell_of_block he 1).trans rfl
      have s2 := (cell_of_block he 2).trans rfl
      have r0 := (cell_of_block hb 0).trans rfl
      have r1 := (cell_of_block hb 1).trans rfl
      have r2 := (cell_of_block hb 2).trans rfl
      have q0 := free_of_block hb 0
      have q1 := free_of_block hb 1
      have q2 := free_of_block hb 2
      have HA : Hid _ := hA
      clear hA he
      go_wp2
      refine eff_end 4 rfl rfl hb rfl rfl _ _ _ (fun w' hk2 => ⟨?_, ?_⟩)
      · simp [Ar.did, hhas, Eff.value]
      · have := do_fin HH.out ((((((HK.out.mono (fun _ f _ => f.elim)).andAlloc _ |>.andAlloc _).andAlloc _).andAlloc _).andSet (x := ⟨g', j, none⟩) (.inl (.inr (.inl rfl))) _).andDrew) HA.out (w0.heap.size + 1) (by omega) (by simp) hk2
        simpa [Ar.did, hhas] using this
    · by_cases hva : A.val j = a
      · subst hva
        have hX := (((f1.alloc (.cells #[.int .i64 u, .int .i64 2, .int .i64 j, .int .i64 (A.val j), .int .i64 b] 54)).alloc (.cells #[.int .i64 0, .bool false, .int .i64 0] 51)).alloc (.cells #[.int .i64 A.actor, .int .i64 2, .int .i64 j, .int .i64 (A.val j), .int .i64 b, .bool true] 89)).alloc (.cells #[.int .i64 0, .bool true, .int .i64 0] 51)
        have x1 := hX.c1
        obtain ⟨g', cap', hg', _, _, x2, x3⟩ := hX.at j hj
        obtain ⟨rfl, rfl⟩ : g' = g ∧ cap' = cap := by injection hg' with e1 e2 e3; injection e1 with e1; injection e1 with e1; exact ⟨e1.symm, e3.symm⟩
        clear hg'
        have ng0 := own_lt f1.cells (g := g') rfl
        have ng1 : ¬ g' = w0.heap.size := by omega
        have ng2 : ¬ w0.heap.size = g' := by omega
        have ng3 : ¬ p = g' := fun e => hgp e.symm
        have HX : Hid _ := hX
        clear hX
        go_wp2_with fail
        go_region_held3 (fun w' => w'.cell? ⟨p, 1, none⟩ = some (.slice (some ⟨g', 0, none⟩) A.cells.length cap') ∧ w'.cell? ⟨w0.heap.size, 2, none⟩ = some (.int .i64 j) ∧ w'.cell? ⟨w0.heap.size, 4, none⟩ = some (.int .i64 b)) (go_keep) (fail)
        go_wp2_with fail
        refine (rnote_any p _ vl (A.put j b) 2 j (A.val j) b true _ (HX.out.put j rfl b).drew hlog).mono ?_
        rintro e w1 ⟨rfl, hA⟩
        have hb := ref_new (g := w0.heap.size + 1) (o := .cells #[.int .i64 0, .bool false, .int .i64 0] 51 (0, 0)) HH.out (by refine set_at ?_ (by omega) _; exact (four_at w0 _ _ _ _).1) (by omega) hA.choose_spec.choose_spec.2.1
        have he := ref_new (g := w0.heap.size + 1 + 1 + 1) (o := .cells #[.int .i64 0, .bool true, .int .i64 0] 51 (0, 0)) HH.out (by refine set_at ?_ (by omega) _; exact (four_at w0 _ _ _ _).2) (by omega) hA.choose_spec.choose_spec.2.1
        have s0 := (cell_of_block he 0).trans rfl
        have s1 := (cell_of_block he 1).trans rfl
        have s2 := (cell_of_block he 2).trans rfl
        have r0 := (cell_of_block hb 0).trans rfl
        have r1 := (cell_of_block hb 1).trans rfl
        have r2 := (cell_of_block hb 2).trans rfl
        have q0 := free_of_block hb 0
        have q1 := free_of_block hb 1
        have q2 := free_of_block hb 2
        have HA : Hid _ := hA
        clear hA he
        go_wp2
        refine eff_end 4 rfl rfl hb rfl rfl _ _ _ (fun w' hk2 => ⟨?_, ?_⟩)
        · simp [Ar.did, hhas, Eff.value]
        · have := do_fin HH.out ((((((HK.out.mono (fun _ f _ => f.elim)).andAlloc _ |>.andAlloc _).andAlloc _).andAlloc _).andSet (x := ⟨g', j, none⟩) (.inl (.inr (.inl rfl))) _).andDrew) HA.out (w0.heap.size + 1) (by omega) (by simp) hk2
          simpa [Ar.did, hhas] using this
      · skip
        have hvb : (A.val j == a) = false := by simpa using hva
        go_wp2_with fail
        refine (rnote_any p _ vl A 2 j a b false _ (f1.alloc _ |>.alloc _ |>.alloc _ |>.alloc _) hlog).mono ?_
        rintro e w1 ⟨rfl, hA⟩
        have hb := ref_new HH.out (four_at w0 _ _ _ _).1 (by omega) hA.choose_spec.choose_spec.2.1
        have he := ref_new HH.out (four_at w0 _ _ _ _).2 (by omega) hA.choose_spec.choose_spec.2.1
        have s0 := (cell_of_block he 0).trans rfl
        have s1 := (cell_of_block he 1).trans rfl
        have s2 := (cell_of_block he 2).trans rfl
        have r0 := (cell_of_block hb 0).trans rfl
        have r1 := (cell_of_block hb 1).trans rfl
        have r2 := (cell_of_block hb 2).trans rfl
        have q0 := free_of_block hb 0
        have q1 := free_of_block hb 1
        have q2 := free_of_block hb 2
        have HA : Hid _ := hA
        clear hA he
        go_wp2
        refine eff_end 4 rfl rfl hb rfl rfl _ _ _ (fun w' hk2 => ⟨?_, ?_⟩)
        · simp [Ar.did, hhas, hva, Eff.value]
        · have := do_fin HH.out ((((HK.out.mono (fun _ f _ => f.elim)).andAlloc _ |>.andAlloc _).andAlloc _).andAlloc _) HA.out (w0.heap.size + 1) (by omega) (by simp) hk2
          simpa [Ar.did, hhas, hva] using this
    · skip
      have hX := (((f1.alloc (.cells #[.int .i64 u, .int .i64 3, .int .i64 j, .int .i64 a, .int .i64 b] 54)).alloc (.cells #[.int .i64 0, .bool false, .int .i64 0] 51)).alloc (.cells #[.int .i64 A.actor, .int .i64 3, .int .i64 j, .int .i64 a, .int .i64 (wrap64 (A.val j + a)), .bool true] 89)).alloc (.cells #[.int .i64 (wrap64 (A.val j + a)), .bool true, .int .i64 0] 51)
      have x1 := hX.c1
      obtain ⟨g', cap', hg', _, _, x2, x3⟩ := hX.at j hj
      obtain ⟨rfl, rfl⟩ : g' = g ∧ cap' = cap := by injection hg' with e1 e2 e3; injection e1 with e1; injection e1 with e1; exact ⟨e1.symm, e3.symm⟩
      clear hg'
      have ng0 := own_lt f1.cells (g := g') rfl
      have ng1 : ¬ g' = w0.heap.size := by omega
      have ng2 : ¬ w0.heap.size = g' := by omega
      have ng3 : ¬ p = g' := fun e => hgp e.symm
      have HX : Hid _ := hX
      clear hX
      go_wp2_with fail
      go_region_held3 (fun w' => w'.cell? ⟨p, 1, none⟩ = some (.slice (some ⟨g', 0, none⟩) A.cells.length cap') ∧ w'.cell? ⟨w0.heap.size, 2, none⟩ = some (.int .i64 j) ∧ w'.cell? ⟨w0.heap.size, 3, none⟩ = some (.int .i64 a)) (go_keep) (fail)
      go_wp2_with fail
      refine (rnote_any p _ vl (A.put j (wrap64 (A.val j + a))) 3 j a (wrap64 (A.val j + a)) true _ (HX.out.put j rfl (wrap64 (A.val j + a))).drew hlog).mono ?_
      rintro e w1 ⟨rfl, hA⟩
      have hb := ref_new (g := w0.heap.size + 1) (o := .cells #[.int .i64 0, .bool false, .int .i64 0] 51 (0, 0)) HH.out (by refine set_at ?_ (by omega) _; exact (four_at w0 _ _ _ _).1) (by omega) hA.choose_spec.choose_spec.2.1
      have he := ref_new (g := w0.heap.size + 1 + 1 + 1) (o := .cells #[.int .i64 (wrap64 (A.val j + a)), .bool true, .int .i64 0] 51 (0, 0)) HH.out (by refine set_at ?_ (by omega) _; exact (four_at w0 _ _ _ _).2) (by omega) hA.choose_spec.choose_spec.2.1
      have s0 := (cell_of_block he 0).trans rfl
      have s1 := (cell_of_block he 1).trans rfl
      have s2 := (cell_of_block he 2).trans rfl
      have r0 := (cell_of_block hb 0).trans rfl
      have r1 := (cell_of_block hb 1).trans rfl
      have r2 := (cell_of_block hb 2).trans rfl
      have q0 := free_of_block hb 0
      have q1 := free_of_block hb 1
      have q2 := free_of_block hb 2
      have HA : Hid _ := hA
      clear hA he
      go_wp2
      refine eff_end 4 rfl rfl hb rfl rfl _ _ _ (fun w' hk2 => ⟨?_, ?_⟩)
      · simp [Ar.did, hhas, Eff.value]
      · have := do_fin HH.out ((((((HK.out.mono (fun _ f _ => f.elim)).andAlloc _ |>.andAlloc _).andAlloc _).andAlloc _).andSet (x := ⟨g', j, none⟩) (.inl (.inr (.inl rfl))) _).andDrew) HA.out (w0.heap.size + 1) (by omega) (by simp) hk2
        simpa [Ar.did, hhas] using this

/-- Every act. -/
theorem do_any (p : Nat) (vc vl : Value) (A : Ar) (u k x a b : Int) (w : World) (h : IsRef w p vc vl A) (hlog : A.log.length < 1000000000000) (hk : 0 ≤ k ∧ k ≤ 4) :
    Calls Try.prog 19 #[.pointer (some ⟨p, 0, none⟩), .agg #[.int .i64 u, .int .i64 k, .int .i64 x, .int .i64 a, .int .i64 b]] w fun e w' => e = .returned (A.did k x a b).1.value ∧ RAfter w w' p vc vl (A.did k x a b).2 := by
  by_cases h4 : k = 4
  · subst h4
    exact do_reserve p vc vl A u x a b w h hlog
  · cases hx : A.has x with
    | false =>
      refine (do_out p vc vl A u k x a b w h (by omega) (by omega) hx).mono ?_
      rintro e w' ⟨rfl, hA⟩
      have e1 : A.did k x a b = (bad 20, A) := by
        unfold Ar.did
        rw [hx]
        rcases (show k = 0 ∨ k = 1 ∨ k = 2 ∨ k = 3 by omega) with rfl | rfl | rfl | rfl <;> simp
      rw [e1]
      exact ⟨rfl, hA⟩
    | true =>
      obtain ⟨j, rfl, hj⟩ := Ar.has_nat hx
      exact do_in p vc vl A u k a b j w h hj hlog (by omega) (by omega)
end Go.Proofs.Ytaipeclmfgdegaa
