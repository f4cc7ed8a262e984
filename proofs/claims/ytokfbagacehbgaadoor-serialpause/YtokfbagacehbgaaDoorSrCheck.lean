import Derived.Test.YtokfbagacehbgaaDoorSrRoot2
/-! check: what comes ahead of a run; what is thrown is caught. -/
namespace Go.Proofs.YtokfbagacehbgaaDoor
set_option linter.unusedVariables false
set_option maxRecDepth 20000
open Go.RowKit Go.HeapKit Go.PlainOps

theorem put_same {K : Act → World → Prop} {a : Act} {d : Option Tmp} {v v' : Value} {w : World} (h : v = v') (k : K (a.put d v') w) : K (a.put d v) w := h ▸ k
set_option maxHeartbeats 2000000 in
theorem scheck_any (a : Option Addr) (n c : Nat) (l : List Fn) (aa : Option Addr) (an ac : Nat) (zs : List Int) (fuel : Int) (w : World) (hT : Tabs w) (hS : SeenF w a n l) (hok : ∀ f ∈ l, f.Ok) (hZ : an = zs.length) (hZ2 : an ≤ 9223372036854775807) (hfu : okI fuel) :
    Calls Tryd.prog 9 #[.agg #[.slice a n c], .slice aa an ac, .int .i64 fuel] w fun e w' => e = (if refusedV l zs fuel = 0 then .returned (.tuple #[]) else .panicked (thrownE (refusedV l zs fuel))) ∧ Keeps None w w' := by
  have bP := heap_alloc_new w (.cells #[.slice a n c] 24)
  have hal := Keeps.alloc None w (.cells #[.slice a n c] 24)
  obtain ⟨W, hW⟩ : ∃ W, W = w.alloc (.cells #[.slice a n c] 24) := ⟨_, rfl⟩
  obtain ⟨B, hB⟩ : ∃ B, B = w.heap.size := ⟨_, rfl⟩
  rw [← hW] at bP hal
  rw [← hB] at bP
  have c0 : W.cell? ⟨B, 0, none⟩ = some (.slice a n c) := (blk_cell bP 0).trans rfl
  have hck := check_any a n c l W (hT.more hal) (hS.more hal) hok
  unfold checkF faultV at hck
  have HX : Hid (Keeps None w W ∧ W.heap[B]? = some (.cells #[.slice a n c] 24 (0, 0)) ∧ SeenF w a n l) := ⟨hal, bP, hS⟩
  by_cases h1 : (checkV l).1 = 0
  · have hcz := check_zero h1
    obtain ⟨hl1, hl2, hall⟩ := check_valid hcz
    rw [hcz] at hck
    obtain ⟨f, hf⟩ : ∃ f, l[0]? = some f := ⟨l[0], by simp⟩
    have hpar : parV l 0 = f.params := by simp [parV, hf]
    have hV := hall f (List.mem_of_getElem? hf)
    obtain ⟨np, hnp⟩ := Int.eq_ofNat_of_zero_le (valid_bounds hV).1.1
    have hln := hS.len
    obtain ⟨b, off, rfl, hb, hfn⟩ := hS.ex (by omega)
    obtain ⟨ca, cc, hat⟩ := hfn 0 f hf
    have p0 : w.cell? ⟨b, off, none⟩ = some (.int .i64 (np : Int)) := by rw [← hnp]; simpa using hat.params
    have i1 : (0 : Int) < (n : Int) := by omega
    have HP : Hid (w.cell? ⟨b, off, none⟩ = some (.int .i64 (np : Int))) := p0
    by_cases h2 : ((zs.length : Int)) = parV l 0
    · have h2n : (an : Int) = (np : Int) := by rw [hZ, h2, hpar, hnp]
      by_cases h3 : fuel < 0 ∨ 4194304 < fuel
      · have hr : refusedV l zs fuel = 3 := by unfold refusedV; rw [if_neg (by simpa using h1), if_neg (by simpa using h2), if_pos h3]
        rw [hr]
        have HF : Hid (fuel < 0 ∨ 4194304 < fuel) := h3
        obtain rfl : an = np := by omega
        clear hcz hl1 hl2 hall hf hpar hV hnp hln hb hfn hat p0 h1 h2 h2n hr hZ hS hal bP hT hok h3
        go_enter Tryd.func9, Tryd.ntmps9
        go_upto_region 1 with fail
        rw [← hW, ← hB]
        clear hW hB
        go_wp2_with (go_at_call 13; refine hck.mono ?_; rintro _ w3 ⟨rfl, hk3⟩)
        refine put_same (v' := .int .i64 0) rfl ?_
        simp only [Act.put, List.setIfInBounds_toArray, List.set_cons_zero, List.set_cons_succ]
        go_upto_region 3 with fail
        have d0 := (blk_cell (blk_kept HX.out.2.1 hk3 (fun f => f)) 0).trans rfl
        have d1 := (HX.out.1.trans hk3 (fun _ f _ => f)).cell HP.out (fun f => f)
        have HK : Hid (Keeps None w w3) := HX.out.1.trans hk3 (fun _ f _ => f)
        clear hck c0
        rcases HF.out with hf | hf
        · go_wp2_with (go_at_call 14; refine (sgiveUp_any _ _).mono ?_; rintro _ w4 ⟨rfl, hw4⟩; have hw5 := hw4.symm; subst hw5)
          exact ⟨rfl, rfl, HK.out⟩
        · have hf2 : ¬ fuel < 0 := by omega
          go_wp2_with (go_at_call 14; refine (sgiveUp_any _ _).mono ?_; rintro _ w4 ⟨rfl, hw4⟩; have hw5 := hw4.symm; subst hw5)
          exact ⟨rfl, rfl, HK.out⟩
      · have hr : refusedV l zs fuel = 0 := by unfold refusedV; rw [if_neg (by simpa using h1), if_neg (by simpa using h2), if_neg h3]
        rw [hr]
        have f1 : ¬ fuel < 0 := by omega
        have f2 : ¬ 4194304 < fuel := by omega
        obtain rfl : an = np := by omega
        clear hcz hl1 hl2 hall hf hpar hV hnp hln hb hfn hat p0 h1 h2 h2n hr hZ hS hal bP hT hok h3
        go_enter Tryd.func9, Tryd.ntmps9
        go_upto_region 1 with fail
        rw [← hW, ← hB]
        clear hW hB
        go_wp2_with (go_at_call 13; refine hck.mono ?_; rintro _ w3 ⟨rfl, hk3⟩)
        refine put_same (v' := .int .i64 0) rfl ?_
        simp only [Act.put, List.setIfInBounds_toArray, List.set_cons_zero, List.set_cons_succ]
        go_upto_region 3 with fail
        have d0 := (blk_cell (blk_kept HX.out.2.1 hk3 (fun f => f)) 0).trans rfl
        have d1 := (HX.out.1.trans hk3 (fun _ f _ => f)).cell HP.out (fun f => f)
        have HK : Hid (Keeps None w w3) := HX.out.1.trans hk3 (fun _ f _ => f)
        clear hck c0
        go_wp2_with fail
        go_end0
        exact ⟨rfl, HK.out⟩
    · have hr : refusedV l zs fuel = 61 := by unfold refusedV; rw [if_neg (by simpa using h1), if_pos (by simpa using h2)]
      rw [hr]
      have h2n : ¬ (an : Int) = (np : Int) := by rw [hZ, ← hnp, ← hpar]; exact h2
      have h2b : ((an : Int) != (np : Int)) = true := by simpa using h2n
      have hnp8 : np ≤ 8 := by have := (valid_bounds hV).1.2; omega
      have h2c : ¬ an = np := by omega
      clear hcz hl1 hl2 hall hf hpar hV hnp hln hb hfn hat p0 h1 h2 hr hZ hS hal bP hT hok h2n
      go_enter Tryd.func9, Tryd.ntmps9
      go_upto_region 1 with fail
      rw [← hW, ← hB]
      clear hW hB
      go_wp2_with (go_at_call 13; refine hck.mono ?_; rintro _ w3 ⟨rfl, hk3⟩)
      refine put_same (v' := .int .i64 0) rfl ?_
      simp only [Act.put, List.setIfInBounds_toArray, List.set_cons_zero, List.set_cons_succ]
      go_upto_region 3 with fail
      have d0 := (blk_cell (blk_kept HX.out.2.1 hk3 (fun f => f)) 0).trans rfl
      have d1 := (HX.out.1.trans hk3 (fun _ f _ => f)).cell HP.out (fun f => f)
      have HK : Hid (Keeps None w w3) := HX.out.1.trans hk3 (fun _ f _ => f)
      clear hck c0
      go_wp2_with (go_at_call 14; refine (sgiveUp_any _ _).mono ?_; rintro _ w4 ⟨rfl, hw4⟩; have hw5 := hw4.symm; subst hw5)
      exact ⟨rfl, rfl, HK.out⟩
  · have hr : refusedV l zs fuel = 60 := by unfold refusedV; rw [if_pos h1]
    rw [hr]
    have h1b : ((checkV l).1 != 0) = true := by simpa using h1
    generalize (checkV l).1 = x at *
    generalize (checkV l).2.1 = y at *
    generalize (checkV l).2.2 = z at *
    clear hr hZ hS hal bP hT hok h1
    go_enter Tryd.func9, Tryd.ntmps9
    go_upto_region 1 with fail
    rw [← hW, ← hB]
    clear hW hB
    go_wp2_with (go_at_call 13; refine hck.mono ?_; rintro _ w3 ⟨rfl, hk3⟩)
    refine put_same (v' := .int .i64 x) rfl ?_
    simp only [Act.put, List.setIfInBounds_toArray, List.set_cons_zero, List.set_cons_succ]
    go_wp2_with (go_at_call 14; refine (sgiveUp_any _ _).mono ?_; rintro _ w4 ⟨rfl, hw4⟩; have hw5 := hw4.symm; subst hw5)
    exact ⟨rfl, rfl, HX.out.1.trans hk3 (fun _ f _ => f)⟩
theorem scaught_nil (w : World) : Calls Tryd.prog 8 #[.nilIface] w fun e w' => e = .returned (.int .i64 0) ∧ w' = w := by
  go_enter Tryd.func8, Tryd.ntmps8
  go_wp2
  go_ret
  exact ⟨rfl, rfl⟩
theorem scaught_err (e : Int) (w : World) : Calls Tryd.prog 8 #[.iface 28 (.int .i64 e)] w fun e' w' => e' = .returned (.int .i64 e) ∧ w' = w := by
  have ht : ∀ wx, (Instr.typeAssert (.iface 28 (.int .i64 e)) 20 28 true).run Tryd.prog wx = .ok (.tuple #[.int .i64 e, .bool true]) wx := fun _ => rfl
  go_enter Tryd.func8, Tryd.ntmps8
  go_wp2
  go_ret
  exact ⟨rfl, rfl⟩
theorem ecatch_panic (q : Nat) (e0 e : Int) (w : World) (hc : w.heap[q]? = some (.cells #[.int .i64 e0] 28 (0, 0))) :
    CallsD Tryd.prog 7 #[.pointer (some ⟨q, 0, none⟩)] (.panicking (thrownE e)) w fun e' u' w' => e' = .returned (.tuple #[]) ∧ u' = .panicking [{ v := .iface 28 (.int .i64 e), recovered := true }] ∧
      w'.heap[q]? = some (.cells #[.int .i64 e] 28 (0, 0)) ∧ Keeps (· = q) w w' := by
  refine callsD_of_wpS Tryd.func7 rfl fun c₀ cs hu => ?_
  unfold thrownE at hu
  apply wpS_region
  simp [wpOpsS, go_sem, recoverD, hu, Tryd.ntmps7]
  refine (scaught_err e w).mono ?_
  rintro _ w2 ⟨rfl, hw2⟩
  subst hw2
  have c0 := (cell_of_heap hc 0).trans rfl
  have z0 := blk_free hc 0
  have b3 := blk_set (i := 0) hc (.int .i64 e)
  have k3 : Keeps (· = q) w2 (w2.setCell ⟨q, 0, none⟩ (.int .i64 e)) := Keeps.setCell (S := (· = q)) w2 (a := ⟨q, 0, none⟩) rfl _
  simp [go_sem, c0, z0, bodyPostS, results, Tryd.results7]
  exact ⟨b3, k3⟩
theorem ecatch_none (q : Nat) (e0 : Int) (w : World) (hc : w.heap[q]? = some (.cells #[.int .i64 e0] 28 (0, 0))) :
    CallsD Tryd.prog 7 #[.pointer (some ⟨q, 0, none⟩)] .returning w fun e' u' w' => e' = .returned (.tuple #[]) ∧ u' = .returning ∧
      w'.heap[q]? = some (.cells #[.int .i64 0] 28 (0, 0)) ∧ Keeps (· = q) w w' := by
  refine callsD_of_wpS Tryd.func7 rfl fun c₀ cs hu => ?_
  apply wpS_region
  simp [wpOpsS, go_sem, recoverD, hu, Tryd.ntmps7]
  refine (scaught_nil w).mono ?_
  rintro _ w2 ⟨rfl, hw2⟩
  subst hw2
  have c0 := (cell_of_heap hc 0).trans rfl
  have z0 := blk_free hc 0
  have b3 := blk_set (i := 0) hc (.int .i64 0)
  have k3 : Keeps (· = q) w2 (w2.setCell ⟨q, 0, none⟩ (.int .i64 0)) := Keeps.setCell (S := (· = q)) w2 (a := ⟨q, 0, none⟩) rfl _
  simp [go_sem, c0, z0, bodyPostS, results, Tryd.results7]
  exact ⟨.returning, by cases c₀; simp_all, rfl, b3, k3⟩
end Go.Proofs.YtokfbagacehbgaaDoor
