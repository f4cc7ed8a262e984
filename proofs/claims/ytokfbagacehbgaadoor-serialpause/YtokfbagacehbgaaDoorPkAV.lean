import Derived.Test.YtokfbagacehbgaaDoorPkAU
import Derived.Test.YtokfbagacehbgaaDoorPkAN
import Derived.Test.YtokfbagacehbgaaDoorPkAP
/-! root. -/
namespace Go.Proofs.YtokfbagacehbgaaDoor
set_option linter.unusedVariables false
set_option maxRecDepth 20000
open Go.RowKit Go.HeapKit Go.PlainOps

theorem wpList_build_eq {P : Program} {ops : Array Oper} {rest : List Oper} {o : Oper} {a : Act} {w : World} {Q : Exit → Act → World → Prop} (hg : o.guard = none) (t : TypeId) (parts : Array (Nat × Operand)) (ho : o.op = .build t parts) (cells : Array Value)
    (hf : P.built t (parts.map fun (i, x) => (i, a.eval x)).toList = some cells) (h : wpList P ops Q rest (a.put o.dst (.agg cells)) w) : wpList P ops Q (o :: rest) a w :=
  wpList_build hg t parts ho (by rw [hf]; rfl) (by rw [hf]; exact h)
def blankT (d : Int) : Tk := { regs := List.replicate 16 0, slots := List.replicate 8 0, node := ⟨0, 0, 0, 0, 0, 0, 0⟩, number := 0, depth := d, spawned := 0, span := 0, due := 0 }
theorem rootT_l (zs : List Int) : (rootT zs).l 0 0 0 = (rootK zs).l ++ (List.replicate 8 0 ++ [-1, 0, 0, 0, 0, 0, 0, 0, 1, 0, 0]) := rfl
set_option maxHeartbeats 2000000 in
theorem root_any (a : Option Addr) (n c : Nat) (zs : List Int) (w : World) (hS : SeenA w a n zs) (hn : n ≤ 16) :
    Calls Tryd.prog 11 #[.slice a n c] w fun e w' => e = .returned (tkV (rootT zs)) ∧ Keeps None w w' := by
  have hal := Keeps.alloc None w (.cells (ints ((blankT 0).l 0 0 0)).toArray 53)
  have bR := heap_alloc_new w (.cells (ints ((blankT 0).l 0 0 0)).toArray 53)
  obtain ⟨W, hW⟩ : ∃ W, W = w.alloc (.cells (ints ((blankT 0).l 0 0 0)).toArray 53) := ⟨_, rfl⟩
  obtain ⟨B, hB⟩ : ∃ B, B = w.heap.size := ⟨_, rfl⟩
  rw [← hW] at hal bR
  rw [← hB] at bR
  have hrt := troot_any a n c zs W (hS.more hal) hn
  have hbt := built_task (rootK zs) (args_len _ _ _) (-1) 0 1
  have hsz : (ints ((rootT zs).l 0 0 0)).toArray.size = 39 := tk_len (args_len _ _ _) rfl
  unfold tkV
  rw [rootT_l] at hsz ⊢
  have hone := ints_one ((rootK zs).l ++ (List.replicate 8 0 ++ [-1, 0, 0, 0, 0, 0, 0, 0, 1, 0, 0]))
  generalize (ints ((rootK zs).l ++ (List.replicate 8 0 ++ [-1, 0, 0, 0, 0, 0, 0, 0, 1, 0, 0]))).toArray = cw at *
  generalize (ints (rootK zs).l).toArray = cv at *
  have HX : Hid (Keeps None w W ∧ B = w.heap.size) := ⟨hal, hB⟩
  have HB : Hid _ := bR
  have HBT : Hid _ := hbt
  have HSZ : Hid _ := hsz
  have HON : Hid _ := hone
  clear hal bR hS hbt hsz hone
  go_enter Tryd.func11, Tryd.ntmps11
  go_upto_region 1 with fail
  change Code.wp _ _ _ _ (w.alloc (.cells (ints ((blankT 0).l 0 0 0)).toArray 53))
  rw [← hW, ← hB]
  clear hW hB
  go_wp2_with (first | (go_at_call 21; refine hrt.mono ?_; rintro _ w2 ⟨rfl, hk2⟩; have bB := blk_kept HB.out hk2 (fun f => f)) | (refine wpList_build_eq rfl 53 #[(0, .tmp 4), (2, .tmp 5), (4, .const (.int .i64 1))] rfl cw (by simpa [Act.eval] using HBT.out) ?_) | (refine wpList_store_row rfl 53 (.tmp 2) (.tmp 6) rfl B cw rfl rfl 53 (ints ((blankT 0).l 0 0 0)).toArray bB (by rw [HSZ.out]; exact Tryd.infoTk) (by rw [HSZ.out]; rfl) HON.out ?_))
  exact bodyPost_ret (results_one (q := 2) (ty := 53) rfl rfl (run_loadVar_row _ B _ 53 _ _ _ (setRow_heap bB) Tryd.underlying53 rfl (by rw [HSZ.out]; exact Tryd.infoTk))) rfl ⟨rfl, (HX.out.1.trans hk2 (fun _ f _ => f)).trans (setRow_keeps _ _ _) (fun i e hi => by have := HX.out.2; omega)⟩
end Go.Proofs.YtokfbagacehbgaaDoor
/-! check: what comes ahead of a run; what is thrown is caught. -/
namespace Go.Proofs.YtokfbagacehbgaaDoor
set_option linter.unusedVariables false
set_option maxRecDepth 20000
open Go.RowKit Go.HeapKit Go.PlainOps

theorem put_same {K : Act → World → Prop} {a : Act} {d : Option Tmp} {v v' : Value} {w : World} (h : v = v') (k : K (a.put d v') w) : K (a.put d v) w := h ▸ k
set_option maxHeartbeats 2000000 in
theorem scheck_any (a : Option Addr) (n c : Nat) (l : List Fn) (aa : Option Addr) (an ac : Nat) (zs : List Int) (fuel : Int) (w : World) (hT : Tabs w) (hS : SeenF w a n l) (hok : ∀ f ∈ l, f.Ok) (hZ : an = zs.length) (hZ2 : an ≤ 9223372036854775807) (hfu : okI fuel) :
    Calls Tryd.prog 9 #[.agg #[.slice a n c], .slice aa an ac, .int .i64 fuel] w fun e w' => e = (if refusedV l zs fuel = 0 then .returned (.tuple #[]) else .panicked (thrownE (refusedV l zs fuel))) ∧ Keeps None w w' := by
  have bP := heap_alloc_new w (.cells #[.slice a n c] 24)
  have hal := Keeps.alloc None w (.cells #[.slice a n c] 24)
  obtain ⟨W, hW⟩ : ∃ W, W = w.alloc (.cells #[.slice a n c] 24) := ⟨_, rfl⟩
  obtain ⟨B, hB⟩ : ∃ B, B = w.heap.size := ⟨_, rfl⟩
  rw [← hW] at bP hal
  rw [← hB] at bP
  have c0 : W.cell? ⟨B, 0, none⟩ = some (.slice a n c) := (blk_cell bP 0).trans rfl
  have hck := check_any a n c l W (hT.more hal) (hS.more hal) hok
  unfold checkF faultV at hck
  have HX : Hid (Keeps None w W ∧ W.heap[B]? = some (.cells #[.slice a n c] 24 (0, 0)) ∧ SeenF w a n l) := ⟨hal, bP, hS⟩
  by_cases h1 : (checkV l).1 = 0
  · have hcz := check_zero h1
    obtain ⟨hl1, hl2, hall⟩ := check_valid hcz
    rw [hcz] at hck
    obtain ⟨f, hf⟩ : ∃ f, l[0]? = some f := ⟨l[0], by simp⟩
    have hpar : parV l 0 = f.params := by simp [parV, hf]
    have hV := hall f (List.mem_of_getElem? hf)
    obtain ⟨np, hnp⟩ := Int.eq_ofNat_of_zero_le (valid_bounds hV).1.1
    have hln := hS.len
    obtain ⟨b, off, rfl, hb, hfn⟩ := hS.ex (by omega)
    obtain ⟨ca, cc, hat⟩ := hfn 0 f hf
    have p0 : w.cell? ⟨b, off, none⟩ = some (.int .i64 (np : Int)) := by rw [← hnp]; simpa using hat.params
    have i1 : (0 : Int) < (n : Int) := by omega
    have HP : Hid (w.cell? ⟨b, off, none⟩ = some (.int .i64 (np : Int))) := p0
    by_cases h2 : ((zs.length : Int)) = parV l 0
    · have h2n : (an : Int) = (np : Int) := by rw [hZ, h2, hpar, hnp]
      by_cases h3 : fuel < 0 ∨ 4194304 < fuel
      · have hr : refusedV l zs fuel = 3 := by unfold refusedV; rw [if_neg (by simpa using h1), if_neg (by simpa using h2), if_pos h3]
        rw [hr]
        have HF : Hid (fuel < 0 ∨ 4194304 < fuel) := h3
        obtain rfl : an = np := by omega
        clear hcz hl1 hl2 hall hf hpar hV hnp hln hb hfn hat p0 h1 h2 h2n hr hZ hS hal bP hT hok h3
        go_enter Tryd.func9, Tryd.ntmps9
        go_upto_region 1 with fail
        rw [← hW, ← hB]
        clear hW hB
        go_wp2_with (go_at_call 13; refine hck.mono ?_; rintro _ w3 ⟨rfl, hk3⟩)
        refine put_same (v' := .int .i64 0) rfl ?_
        simp only [Act.put, List.setIfInBounds_toArray, List.set_cons_zero, List.set_cons_succ]
        go_upto_region 3 with fail
        have d0 := (blk_cell (blk_kept HX.out.2.1 hk3 (fun f => f)) 0).trans rfl
        have d1 := (HX.out.1.trans hk3 (fun _ f _ => f)).cell HP.out (fun f => f)
        have HK : Hid (Keeps None w w3) := HX.out.1.trans hk3 (fun _ f _ => f)
        clear hck c0
        rcases HF.out with hf | hf
        · go_wp2_with (go_at_call 14; refine (sgiveUp_any _ _).mono ?_; rintro _ w4 ⟨rfl, hw4⟩; have hw5 := hw4.symm; subst hw5)
          exact ⟨rfl, rfl, HK.out⟩
        · have hf2 : ¬ fuel < 0 := by omega
          go_wp2_with (go_at_call 14; refine (sgiveUp_any _ _).mono ?_; rintro _ w4 ⟨rfl, hw4⟩; have hw5 := hw4.symm; subst hw5)
          exact ⟨rfl, rfl, HK.out⟩
      · have hr : refusedV l zs fuel = 0 := by unfold refusedV; rw [if_neg (by simpa using h1), if_neg (by simpa using h2), if_neg h3]
        rw [hr]
        have f1 : ¬ fuel < 0 := by omega
        have f2 : ¬ 4194304 < fuel := by omega
        obtain rfl : an = np := by omega
        clear hcz hl1 hl2 hall hf hpar hV hnp hln hb hfn hat p0 h1 h2 h2n hr hZ hS hal bP hT hok h3
        go_enter Tryd.func9, Tryd.ntmps9
        go_upto_region 1 with fail
        rw [← hW, ← hB]
        clear hW hB
        go_wp2_with (go_at_call 13; refine hck.mono ?_; rintro _ w3 ⟨rfl, hk3⟩)
        refine put_same (v' := .int .i64 0) rfl ?_
        simp only [Act.put, List.setIfInBounds_toArray, List.set_cons_zero, List.set_cons_succ]
        go_upto_region 3 with fail
        have d0 := (blk_cell (blk_kept HX.out.2.1 hk3 (fun f => f)) 0).trans rfl
        have d1 := (HX.out.1.trans hk3 (fun _ f _ => f)).cell HP.out (fun f => f)
        have HK : Hid (Keeps None w w3) := HX.out.1.trans hk3 (fun _ f _ => f)
        clear hck c0
        go_wp2_with fail
        go_end0
        exact ⟨rfl, HK.out⟩
    · have hr : refusedV l zs fuel = 61 := by unfold refusedV; rw [if_neg (by simpa using h1), if_pos (by simpa using h2)]
      rw [hr]
      have h2n : ¬ (an : Int) = (np : Int) := by rw [hZ, ← hnp, ← hpar]; exact h2
      have h2b : ((an : Int) != (np : Int)) = true := by simpa using h2n
      have hnp8 : np ≤ 8 := by have := (valid_bounds hV).1.2; omega
      have h2c : ¬ an = np := by omega
      clear hcz hl1 hl2 hall hf hpar hV hnp hln hb hfn hat p0 h1 h2 hr hZ hS hal bP hT hok h2n
      go_enter Tryd.func9, Tryd.ntmps9
      go_upto_region 1 with fail
      rw [← hW, ← hB]
      clear hW hB
      go_wp2_with (go_at_call 13; refine hck.mono ?_; rintro _ w3 ⟨rfl, hk3⟩)
      refine put_same (v' := .int .i64 0) rfl ?_
      simp only [Act.put, List.setIfInBounds_toArray, List.set_cons_zero, List.set_cons_succ]
      go_upto_region 3 with fail
      have d0 := (blk_cell (blk_kept HX.out.2.1 hk3 (fun f => f)) 0).trans rfl
      have d1 := (HX.out.1.trans hk3 (fun _ f _ => f)).cell HP.out (fun f => f)
      have HK : Hid (Keeps None w w3) := HX.out.1.trans hk3 (fun _ f _ => f)
      clear hck c0
      go_wp2_with (go_at_call 14; refine (sgiveUp_any _ _).mono ?_; rintro _ w4 ⟨rfl, hw4⟩; have hw5 := hw4.symm; subst hw5)
      exact ⟨rfl, rfl, HK.out⟩
  · have hr : refusedV l zs fuel = 60 := by unfold refusedV; rw [if_pos h1]
    rw [hr]
    have h1b : ((checkV l).1 != 0) = true := by simpa using h1
    generalize (checkV l).1 = x at *
    generalize (checkV l).2.1 = y at *
    generalize (checkV l).2.2 = z at *
    clear hr hZ hS hal bP hT hok h1
    go_enter Tryd.func9, Tryd.ntmps9
    go_upto_region 1 with fail
    rw [← hW, ← hB]
    clear hW hB
    go_wp2_with (go_at_call 13; refine hck.mono ?_; rintro _ w3 ⟨rfl, hk3⟩)
    refine put_same (v' := .int .i64 x) rfl ?_
    simp only [Act.put, List.setIfInBounds_toArray, List.set_cons_zero, List.set_cons_succ]
    go_wp2_with (go_at_call 14; refine (sgiveUp_any _ _).mono ?_; rintro _ w4 ⟨rfl, hw4⟩; have hw5 := hw4.symm; subst hw5)
    exact ⟨rfl, rfl, HX.out.1.trans hk3 (fun _ f _ => f)⟩
theorem scaught_nil (w : World) : Calls Tryd.prog 8 #[.nilIface] w fun e w' => e = .returned (.int .i64 0) ∧ w' = w := by
  go_enter Tryd.func8, Tryd.ntmps8
  go_wp2
  go_ret
  exact ⟨rfl, rfl⟩
theorem scaught_err (e : Int) (w : World) : Calls Tryd.prog 8 #[.iface 28 (.int .i64 e)] w fun e' w' => e' = .returned (.int .i64 e) ∧ w' = w := by
  have ht : ∀ wx, (Instr.typeAssert (.iface 28 (.int .i64 e)) 20 28 true).run Tryd.prog wx = .ok (.tuple #[.int .i64 e, .bool true]) wx := fun _ => rfl
  go_enter Tryd.func8, Tryd.ntmps8
  go_wp2
  go_ret
  exact ⟨rfl, rfl⟩
theorem ecatch_panic (q : Nat) (e0 e : Int) (w : World) (hc : w.heap[q]? = some (.cells #[.int .i64 e0] 28 (0, 0))) :
    CallsD Tryd.prog 7 #[.pointer (some ⟨q, 0, none⟩)] (.panicking (thrownE e)) w fun e' u' w' => e' = .returned (.tuple #[]) ∧ u' = .panicking [{ v := .iface 28 (.int .i64 e), recovered := true }] ∧
      w'.heap[q]? = some (.cells #[.int .i64 e] 28 (0, 0)) ∧ Keeps (· = q) w w' := by
  refine callsD_of_wpS Tryd.func7 rfl fun c₀ cs hu => ?_
  unfold thrownE at hu
  apply wpS_region
  simp [wpOpsS, go_sem, recoverD, hu, Tryd.ntmps7]
  refine (scaught_err e w).mono ?_
  rintro _ w2 ⟨rfl, hw2⟩
  subst hw2
  have c0 := (cell_of_heap hc 0).trans rfl
  have z0 := blk_free hc 0
  have b3 := blk_set (i := 0) hc (.int .i64 e)
  have k3 : Keeps (· = q) w2 (w2.setCell ⟨q, 0, none⟩ (.int .i64 e)) := Keeps.setCell (S := (· = q)) w2 (a := ⟨q, 0, none⟩) rfl _
  simp [go_sem, c0, z0, bodyPostS, results, Tryd.results7]
  exact ⟨b3, k3⟩
theorem ecatch_none (q : Nat) (e0 : Int) (w : World) (hc : w.heap[q]? = some (.cells #[.int .i64 e0] 28 (0, 0))) :
    CallsD Tryd.prog 7 #[.pointer (some ⟨q, 0, none⟩)] .returning w fun e' u' w' => e' = .returned (.tuple #[]) ∧ u' = .returning ∧
      w'.heap[q]? = some (.cells #[.int .i64 0] 28 (0, 0)) ∧ Keeps (· = q) w w' := by
  refine callsD_of_wpS Tryd.func7 rfl fun c₀ cs hu => ?_
  apply wpS_region
  simp [wpOpsS, go_sem, recoverD, hu, Tryd.ntmps7]
  refine (scaught_nil w).mono ?_
  rintro _ w2 ⟨rfl, hw2⟩
  subst hw2
  have c0 := (cell_of_heap hc 0).trans rfl
  have z0 := blk_free hc 0
  have b3 := blk_set (i := 0) hc (.int .i64 0)
  have k3 : Keeps (· = q) w2 (w2.setCell ⟨q, 0, none⟩ (.int .i64 0)) := Keeps.setCell (S := (· = q)) w2 (a := ⟨q, 0, none⟩) rfl _
  simp [go_sem, c0, z0, bodyPostS, results, Tryd.results7]
  exact ⟨.returning, by cases c₀; simp_all, rfl, b3, k3⟩
end Go.Proofs.YtokfbagacehbgaaDoor
/-! Eval. -/
namespace Go.Proofs.YtokfbagacehbgaaDoor
set_option linter.unusedVariables false
set_option maxRecDepth 20000
open Go.RowKit Go.HeapKit Go.PlainOps

def valC (v : Val) : Array Value := #[.int .i64 v.v, .int .i64 v.work, .int .i64 v.tasks, .int .i64 v.depth, .int .i64 v.span]
theorem results_two' {P : Program} {fn : Func} {q r : Tmp} {t u : TypeId} (h : fn.results = #[.cell q t, .cell r u]) {tmps : Array Value} {w : World} {g k : Nat} (ha : tmps.getD q undef = .pointer (some ⟨g, 0, none⟩)) (hb : tmps.getD r undef = .pointer (some ⟨k, 0, none⟩)) {v x : Value}
    (hl : (loadVar t ⟨g, 0, none⟩).run P w = .ok v w) (hm : (loadVar u ⟨k, 0, none⟩).run P w = .ok x w) : (results fn tmps).run P w = .ok (.tuple #[v, x]) w := by
  have ha' : tmps[q]?.getD undef = .pointer (some ⟨g, 0, none⟩) := by simpa using ha
  have hb' : tmps[r]?.getD undef = .pointer (some ⟨k, 0, none⟩) := by simpa using hb
  simp [results, h, ha', hb', asAddr, hl, hm]
theorem load_err (w : World) (q : Nat) (e : Int) (h : w.heap[q]? = some (.cells #[.int .i64 e] 28 (0, 0))) : (loadVar 28 ⟨q, 0, none⟩).run Tryd.prog w = .ok (.int .i64 e) w := by
  have hc : w.cell? ⟨q, 0, none⟩ = some (.int .i64 e) := (cell_of_heap h 0).trans rfl
  have hu := Tryd.underlying28
  have ha := Tryd.isAgg28
  have hz := Tryd.sizeOf28
  go_simp
theorem load_val (w : World) (p : Nat) (v : Val) (h : w.heap[p]? = some (.cells (valC v) 27 (0, 0))) : (loadVar 27 ⟨p, 0, none⟩).run Tryd.prog w = .ok (.agg (valC v)) w :=
  run_loadVar_row _ p _ 27 _ _ _ h Tryd.underlying27 rfl (by kernel_rfl)
theorem eout_panic {Q : Ending → World → Prop} {tmps : Array Value} {w3 : World} {p q : Nat} {v : Val} {e0 e : Int} (ha : tmps.getD 6 undef = .pointer (some ⟨p, 0, none⟩)) (hb : tmps.getD 7 undef = .pointer (some ⟨q, 0, none⟩))
    (hp : w3.heap[p]? = some (.cells (valC v) 27 (0, 0))) (hq : w3.heap[q]? = some (.cells #[.int .i64 e0] 28 (0, 0)))
    (hQ : ∀ w', Keeps (· = q) w3 w' → Q (.returned (.tuple #[.agg (valC v), .int .i64 e])) w') :
    bodyPostD Tryd.prog Tryd.f4 Q (.panic (thrownE e)) { tmps := tmps, defers := [{ target := .fn (.func 7) #[.pointer (some ⟨q, 0, none⟩)], args := #[] }] } w3 := by
  refine leaves_cons (f := 7) (args := #[.pointer (some ⟨q, 0, none⟩)]) (by simp) (by simp [go_sem]) ?_
  refine (ecatch_panic q e0 e w3 hq).mono ?_
  rintro _ u' w4 ⟨rfl, rfl, hb4, hk4⟩
  have npq : p ≠ q := blk_ne hp hq (by decide)
  have hr := results_two' (P := Tryd.prog) (fn := Tryd.f4) (q := 6) (r := 7) (t := 27) (u := 28) rfl ha hb (load_val w4 p v (blk_kept hp hk4 npq)) (load_err w4 q e hb4)
  simp [Leaves, settle, hr]
  exact hQ w4 hk4
theorem eout_ret {Q : Ending → World → Prop} {tmps : Array Value} {w3 : World} {p q : Nat} {v : Val} {e0 : Int} (ha : tmps.getD 6 undef = .pointer (some ⟨p, 0, none⟩)) (hb : tmps.getD 7 undef = .pointer (some ⟨q, 0, none⟩))
    (hp : w3.heap[p]? = some (.cells (valC v) 27 (0, 0))) (hq : w3.heap[q]? = some (.cells #[.int .i64 e0] 28 (0, 0)))
    (hQ : ∀ w', Keeps (· = q) w3 w' → Q (.returned (.tuple #[.agg (valC v), .int .i64 0])) w') :
    bodyPostD Tryd.prog Tryd.f4 Q .ret { tmps := tmps, defers := [{ target := .fn (.func 7) #[.pointer (some ⟨q, 0, none⟩)], args := #[] }] } w3 := by
  refine leaves_cons (f := 7) (args := #[.pointer (some ⟨q, 0, none⟩)]) (by simp) (by simp [go_sem]) ?_
  refine (ecatch_none q e0 w3 hq).mono ?_
  rintro _ u' w4 ⟨rfl, rfl, hb4, hk4⟩
  have npq : p ≠ q := blk_ne hp hq (by decide)
  have hr := results_two' (P := Tryd.prog) (fn := Tryd.f4) (q := 6) (r := 7) (t := 27) (u := 28) rfl ha hb (load_val w4 p v (blk_kept hp hk4 npq)) (load_err w4 q 0 hb4)
  simp [Leaves, settle, hr]
  exact hQ w4 hk4
/-! ### The root begins -/
theorem refused_zero {fs : List Fn} {zs : List Int} {fuel : Int} (h : refusedV fs zs fuel = 0) : checkV fs = (0, 0, 0) ∧ ((zs.length : Int)) = parV fs 0 ∧ 0 ≤ fuel ∧ fuel ≤ 4194304 := by
  unfold refusedV at h
  by_cases h1 : (checkV fs).1 ≠ 0
  · rw [if_pos h1] at h; cases h
  · rw [if_neg h1] at h
    by_cases h2 : ((zs.length : Int)) ≠ parV fs 0
    · rw [if_pos h2] at h; cases h
    · rw [if_neg h2] at h
      by_cases h3 : fuel < 0 ∨ 4194304 < fuel
      · rw [if_pos h3] at h; cases h
      · exact ⟨check_zero (by simpa using h1), by simpa using h2, by omega, by omega⟩
theorem allV_of {fs : List Fn} (h : checkV fs = (0, 0, 0)) (hok : ∀ f ∈ fs, f.Ok) : AllV fs := by
  obtain ⟨h1, h2, h3⟩ := check_valid h
  exact ⟨⟨h1, h2⟩, h3, hok⟩
theorem root_begins {fs : List Fn} (hA : AllV fs) (L : Bool) {zs : List Int} (hz : ∀ x ∈ zs, okI x) (F : Nat) (hF : F ≤ 4194304) : Begins fs L (startS F) (rootT zs) := by
  refine ⟨args_len _ _ _, rfl, by show 0 + F < _; omega, by cases L <;> rfl, by simp [startS], fun _ => ?_⟩
  have hl := hA.len
  refine ⟨args_len _ _ _, rfl, args_ok hz _ _, fun x hx => by simp [enterT, rootT] at hx; subst hx; simp [okI], ?_, ?_, by simp [enterT, rootT, okI], by simp [enterT, rootT], ?_, ?_, ?_, ?_⟩
  · show (0 : Int) ≤ 0 ∧ (0 : Int) < fs.length
    omega
  · show (0 : Int) ≤ 0 ∧ (0 : Int) + (F : Int) ≤ 8388608
    omega
  · show (0 : Int) ≤ 0 ∧ (0 : Int) + (F : Int) ≤ 8388608
    omega
  · show (0 : Int) ≤ 0 ∧ (0 : Int) + (F : Int) ≤ 8388608
    omega
  · show (0 : Int) ≤ 0 ∧ (0 : Int) + (F : Int) ≤ 8388608
    omega
  · show (0 : Int) ≤ ((0 : Nat) : Int) ∧ ((0 : Nat) : Int) ≤ 8388608
    omega
theorem root_le {fs : List Fn} (hA : AllV fs) {zs : List Int} (h : ((zs.length : Int)) = parV fs 0) : zs.length ≤ 8 := by
  obtain ⟨f, hf, hm, _, hV, _⟩ := hA.fn (k := 0) (by have := hA.len; omega)
  have hp : parV fs 0 = f.params := by
    have : fs[0]? = some f := by simpa using hf
    simp [parV, this]
  have := (valid_bounds hV).1
  omega
theorem three_boxes (w : World) (c1 c2 c3 : Array Value) (t1 t2 t3 : TypeId) : (((w.alloc (.cells c1 t1)).alloc (.cells c2 t2)).alloc (.cells c3 t3)).heap[w.heap.size]? = some (.cells c1 t1 (0, 0)) ∧ (((w.alloc (.cells c1 t1)).alloc (.cells c2 t2)).alloc (.cells c3 t3)).heap[w.heap.size + 1]? = some (.cells c2 t2 (0, 0)) ∧ (((w.alloc (.cells c1 t1)).alloc (.cells c2 t2)).alloc (.cells c3 t3)).heap[w.heap.size + 2]? = some (.cells c3 t3 (0, 0)) := by
  obtain ⟨h1, h2⟩ := two_boxes w c1 c2 t1 t2
  have hk := Keeps.alloc None ((w.alloc (.cells c1 t1)).alloc (.cells c2 t2)) (.cells c3 t3)
  refine ⟨blk_kept h1 hk (fun f => f), blk_kept h2 hk (fun f => f), ?_⟩
  have := heap_alloc_new ((w.alloc (.cells c1 t1)).alloc (.cells c2 t2)) (.cells c3 t3)
  simpa using this
set_option maxHeartbeats 2000000 in
theorem eval_any (a : Option Addr) (n c : Nat) (l : List Fn) (aa : Option Addr) (an ac : Nat) (zs : List Int) (fuel : Int) (w : World) (hT : Tabs w) (hS : SeenF w a n l) (hok : ∀ f ∈ l, f.Ok) (hZ : SeenA w aa an zs) (hZ2 : an ≤ 9223372036854775807) (hfu : okI fuel) :
    Calls Tryd.prog 4 #[.agg #[.slice a n c], .slice aa an ac, .int .i64 fuel] w fun e w' => e = .returned (.tuple #[.agg (valC (evalV l zs fuel).1), .int .i64 (evalV l zs fuel).2]) ∧ Keeps None w w' := by
  have hmf : ∀ (fn : Go.Fn) (first cap : Array Value) (w : World), (Instr.makeFunc fn first cap).run Tryd.prog w = .ok (.func fn first cap) w := fun _ _ _ _ => rfl
  obtain ⟨B, hB⟩ : ∃ B, B = w.heap.size := ⟨_, rfl⟩
  obtain ⟨b1, b2, b3⟩ := three_boxes w #[.slice a n c] #[.int .i64 0, .int .i64 0, .int .i64 0, .int .i64 0, .int .i64 0] #[.int .i64 0] 24 27 28
  have hk3 : Keeps None w (((w.alloc (.cells #[.slice a n c] 24)).alloc (.cells #[.int .i64 0, .int .i64 0, .int .i64 0, .int .i64 0, .int .i64 0] 27)).alloc (.cells #[.int .i64 0] 28)) := (((Keeps.refl _ w).andAlloc _).andAlloc _).andAlloc _
  obtain ⟨W, hW⟩ : ∃ W, W = ((w.alloc (.cells #[.slice a n c] 24)).alloc (.cells #[.int .i64 0, .int .i64 0, .int .i64 0, .int .i64 0, .int .i64 0] 27)).alloc (.cells #[.int .i64 0] 28) := ⟨_, rfl⟩
  rw [← hW, ← hB] at b1 b2 b3
  rw [← hW] at hk3
  have hck := scheck_any a n c l aa an ac zs fuel W (hT.more hk3) (hS.more hk3) hok hZ.len hZ2 hfu
  have d0 : W.cell? ⟨B, 0, none⟩ = some (.slice a n c) := (blk_cell b1 0).trans rfl
  have HX : Hid (B = w.heap.size ∧ Keeps None w W ∧ W.heap[B]? = some (.cells #[.slice a n c] 24 (0, 0)) ∧ W.heap[B + 1]? = some (.cells (valC zeroVal) 27 (0, 0)) ∧ W.heap[B + 2]? = some (.cells #[.int .i64 0] 28 (0, 0)) ∧ SeenF w a n l ∧ (∀ f ∈ l, f.Ok) ∧ SeenA w aa an zs) := ⟨hB, hk3, b1, b2, b3, hS, hok, hZ⟩
  by_cases hr0 : refusedV l zs fuel = 0
  · rw [if_pos hr0] at hck
    obtain ⟨hcz, hpz, hf0, hf1⟩ := refused_zero hr0
    have hA := allV_of hcz hok
    obtain ⟨F, rfl⟩ := Int.eq_ofNat_of_zero_le hf0
    have hz8 := root_le hA hpz
    have hBg := root_begins hA false hZ.ok F (by omega)
    have hev : evalV l zs (F : Int) = (match runV l false zs F with
      | .gave e => (zeroVal, e)
      | .done v sp s => (⟨v, (F : Int) - s.fuel, s.tasks, s.depth, sp⟩, 0)) := by
      unfold evalV
      rw [if_neg (by simpa using hr0)]
      rfl
    have hpl := fun (R : Nat) (wx : World) (hRx : w.heap.size ≤ R) (hkx : Keeps None w wx) (hrx : IsRn wx R (.slice a n c) false (startS F) (.slice none 0 0)) => play_any l hA false a n c w R F (F + 1) (startS F) (rootT zs) (.slice none 0 0) wx (Nat.lt_succ_self _) (Nat.le_refl _) hrx ⟨hS, hkx, hRx, fun g e => by simp [Value.ownBlock] at e⟩ hBg
    have hrt := fun (wx : World) (hkx : Keeps None w wx) => root_any aa an ac zs wx (hZ.more hkx) (by have := hZ.len; omega)
    have hdn : ∀ v sp s, runV l false zs F = .done v sp s → s.fuel ≤ F ∧ s.tasks ≤ 8388608 := by
      intro v sp s e
      obtain ⟨_, _, _, h4, h5, _⟩ := child_done hA hBg rfl e
      exact ⟨h4, by have := h5.tasks; omega⟩
    have HPL : Hid (∀ (R : Nat) (wx : World) (hRx : w.heap.size ≤ R) (hkx : Keeps None w wx) (hrx : IsRn wx R (.slice a n c) false (startS F) (.slice none 0 0)), Calls Tryd.prog 10 #[.pointer (some ⟨R, 0, none⟩), tkV (rootT zs)] wx (PlaysTo R (.slice a n c) false (.slice none 0 0) wx (runV l false zs F))) := hpl
    have HRT : Hid _ := hrt
    have HEV : Hid _ := hev
    have HDN : Hid _ := hdn
    clear hpl hrt hev hdn hBg hz8 hA hcz hpz hr0 hT hS hok hZ hk3 b1 b2 b3
    obtain ⟨EV, hEV⟩ : ∃ EV, EV = evalV l zs (F : Int) := ⟨_, rfl⟩
    rw [← hEV] at HEV ⊢
    clear hEV
    generalize runV l false zs F = rr at *
    unfold tkV at HPL HRT
    generalize Value.agg (ints ((rootT zs).l 0 0 0)).toArray = tv at *
    go_enter_defers Tryd.func4, Tryd.ntmps4
    go_upto_region 2 with fail
    rw [← hW, ← hB]
    clear hW hB
    go_upto_region 3 with (go_at_call 9; refine hck.mono ?_; rintro _ w3 ⟨rfl, hk3⟩)
    have e0 := hk3.cell d0 (fun f => f)
    have hkw3 : Keeps None w w3 := HX.out.2.1.trans hk3 (fun _ f _ => f)
    have hal := Keeps.alloc None w3 (.cells #[.slice a n c, .int .i64 F, .int .i64 0, .int .i64 0, .bool false, .slice none 0 0] 43)
    have bR := heap_alloc_new w3 (.cells #[.slice a n c, .int .i64 F, .int .i64 0, .int .i64 0, .bool false, .slice none 0 0] 43)
    obtain ⟨V, hV⟩ : ∃ V, V = w3.alloc (.cells #[.slice a n c, .int .i64 F, .int .i64 0, .int .i64 0, .bool false, .slice none 0 0] 43) := ⟨_, rfl⟩
    obtain ⟨R, hR⟩ : ∃ R, R = w3.heap.size := ⟨_, rfl⟩
    rw [← hV] at hal bR
    rw [← hR] at bR
    have hRw : w.heap.size ≤ R := by rw [hR]; exact hkw3.size
    have hRB : B + 2 < R := by rw [hR]; exact blk_lt (blk_kept HX.out.2.2.2.2.1 hk3 (fun f => f))
    have hkV := hkw3.trans hal (fun _ f _ => f)
    have hkWV := hk3.trans hal (fun _ f _ => f)
    have hrn : IsRn V R (.slice a n c) false (startS F) (.slice none 0 0) := ⟨bR, ⟨by simp [startS, ndVals], .inl ⟨rfl, rfl⟩⟩⟩
    have HV : Hid (Keeps None w V ∧ Keeps None W V ∧ IsRn V R (.slice a n c) false (startS F) (.slice none 0 0) ∧ w.heap.size ≤ R ∧ B + 2 < R) := ⟨hkV, hkWV, hrn, hRw, hRB⟩
    have hrt := HRT.out V hkV
    clear hck d0 hk3 hkw3 hal bR hRw hRB hkV hkWV hrn
    go_upto_region 4 with fail
    rw [← hV, ← hR]
    clear hV hR e0
    have hpl := fun wx (hx : Keeps None V wx) => HPL.out R wx HV.out.2.2.2.1 (HV.out.1.trans hx (fun _ f _ => f)) (HV.out.2.2.1.kept hx (fun _ _ f => f))
    have HPL2 : Hid _ := hpl
    clear hpl HPL HRT
    cases rr with
    | gave e =>
      go_wp2_with (first | (go_at_call 11; refine hrt.mono ?_; rintro _ w5 ⟨rfl, hk5⟩) | (go_at_call 10; refine (HPL2.out _ hk5).mono ?_; rintro _ w6 ⟨rfl, hk6⟩))
      have hk56 : Keeps (RFoot R (.slice none 0 0)) V w6 := (hk5.mono (T := RFoot R (.slice none 0 0)) (fun _ f _ => f.elim)).trans hk6 (fun _ e _ => e)
      have nf : ∀ k, k < R → ¬ RFoot R (.slice none 0 0) k := fun k hk e => by rcases e with e | e; omega; simp [Value.ownBlock] at e
      refine eout_panic (v := zeroVal) rfl rfl (blk_kept (blk_kept HX.out.2.2.2.1 HV.out.2.1 (fun f => f)) hk56 (nf _ (by have := HV.out.2.2.2.2; omega))) (blk_kept (blk_kept HX.out.2.2.2.2.1 HV.out.2.1 (fun f => f)) hk56 (nf _ (by have := HV.out.2.2.2.2; omega))) (fun w' hk => ?_)
      rw [HEV.out]
      exact ⟨rfl, (HV.out.1.trans hk56 (fun i e hi => by rcases e with e | e; have := HV.out.2.2.2.1; omega; simp [Value.ownBlock] at e)).trans hk (fun i e hi => by have := HX.out.1; omega)⟩
    | done v sp s =>
      go_upto_region 5 with (first | (go_at_call 11; refine hrt.mono ?_; rintro _ w5 ⟨rfl, hk5⟩) | (go_at_call 10; refine (HPL2.out _ hk5).mono ?_; rintro _ w6 ⟨rfl, nv6, hr6, hk6, hm6⟩))
      have hk56 : Keeps (RFoot R (.slice none 0 0)) V w6 := (hk5.mono (T := RFoot R (.slice none 0 0)) (fun _ f _ => f.elim)).trans hk6 (fun _ e _ => e)
      have nf : ∀ k, k < R → ¬ RFoot R (.slice none 0 0) k := fun k hk e => by rcases e with e | e; omega; simp [Value.ownBlock] at e
      have hp6 := blk_kept (blk_kept HX.out.2.2.2.1 HV.out.2.1 (fun f => f)) hk56 (nf _ (by have := HV.out.2.2.2.2; omega))
      have hq6 := blk_kept (blk_kept HX.out.2.2.2.2.1 HV.out.2.1 (fun f => f)) hk56 (nf _ (by have := HV.out.2.2.2.2; omega))
      have hkw6 : Keeps None w w6 := HV.out.1.trans hk56 (fun i e hi => by rcases e with e | e; have := HV.out.2.2.2.1; omega; simp [Value.ownBlock] at e)
      obtain ⟨q1, q2⟩ := HDN.out v sp s rfl
      have g1 : w6.cell? ⟨R, 1, none⟩ = some (.int .i64 s.fuel) := (blk_cell hr6.blk 1).trans rfl
      have g2 : w6.cell? ⟨R, 2, none⟩ = some (.int .i64 s.tasks) := (blk_cell hr6.blk 2).trans rfl
      have g3 : w6.cell? ⟨R, 3, none⟩ = some (.int .i64 s.depth) := (blk_cell hr6.blk 3).trans rfl
      have i1 : (s.fuel : Int) ≤ (F : Int) := by omega
      unfold valC zeroVal at hp6
      have v0 : w6.cell? ⟨B + 1, 0, none⟩ = some (.int .i64 0) := (blk_cell hp6 0).trans rfl
      have v1 : w6.cell? ⟨B + 1, 1, none⟩ = some (.int .i64 0) := (blk_cell hp6 1).trans rfl
      have v2 : w6.cell? ⟨B + 1, 2, none⟩ = some (.int .i64 0) := (blk_cell hp6 2).trans rfl
      have v3 : w6.cell? ⟨B + 1, 3, none⟩ = some (.int .i64 0) := (blk_cell hp6 3).trans rfl
      have v4 : w6.cell? ⟨B + 1, 4, none⟩ = some (.int .i64 0) := (blk_cell hp6 4).trans rfl
      have z0 := blk_free hp6 0
      have z1 := blk_free hp6 1
      have z2 := blk_free hp6 2
      have z3 := blk_free hp6 3
      have z4 := blk_free hp6 4
      have u0 : w6.cell? ⟨B + 2, 0, none⟩ = some (.int .i64 0) := (blk_cell hq6 0).trans rfl
      have u1 := blk_free hq6 0
      have n1 : R ≠ B + 1 := by have := HV.out.2.2.2.2; omega
      have n2 : R ≠ B + 2 := by have := HV.out.2.2.2.2; omega
      obtain ⟨w7, hw7⟩ : ∃ w7, w7 = (((((w6.setCell ⟨B + 1, 0, none⟩ (.int .i64 v)).setCell ⟨B + 1, 1, none⟩ (.int .i64 ((F : Int) - s.fuel))).setCell ⟨B + 1, 2, none⟩ (.int .i64 s.tasks)).setCell ⟨B + 1, 3, none⟩ (.int .i64 s.depth)).setCell ⟨B + 1, 4, none⟩ (.int .i64 sp)) := ⟨_, rfl⟩
      have bV : w7.heap[B + 1]? = some (.cells (valC ⟨v, (F : Int) - s.fuel, s.tasks, s.depth, sp⟩) 27 (0, 0)) := by
        rw [hw7, blk_set (blk_set (blk_set (blk_set (blk_set hp6 _) _) _) _) _]
        rfl
      have k7 : Keeps (· = B + 1) w6 w7 := by
        rw [hw7]
        exact (((((Keeps.refl (· = B + 1) w6).andSet (x := ⟨B + 1, 0, none⟩) (.inl rfl) _).andSet (x := ⟨B + 1, 1, none⟩) (.inl rfl) _).andSet (x := ⟨B + 1, 2, none⟩) (.inl rfl) _).andSet (x := ⟨B + 1, 3, none⟩) (.inl rfl) _).andSet (x := ⟨B + 1, 4, none⟩) (.inl rfl) _
      have bE := blk_kept hq6 k7 (by omega)
      have k8 := Keeps.setCell (S := (· = B + 2)) w7 (a := ⟨B + 2, 0, none⟩) rfl (.int .i64 0)
      have bV8 := blk_kept bV k8 (by omega)
      have bE8 : (w7.setCell ⟨B + 2, 0, none⟩ (.int .i64 0)).heap[B + 2]? = some (.cells #[.int .i64 0] 28 (0, 0)) := by rw [blk_set bE]; rfl
      have kk : Keeps None w (w7.setCell ⟨B + 2, 0, none⟩ (.int .i64 0)) := (hkw6.trans k7 (fun i e hi => by have := HX.out.1; omega)).trans k8 (fun i e hi => by have := HX.out.1; omega)
      rw [hw7] at bV8 bE8 kk
      have H8 : Hid _ := And.intro bV8 (And.intro bE8 kk)
      clear hw7 bV k7 bE k8 bV8 bE8 kk hp6 hq6 hkw6 hk56 nf hk5 hk6 hr6 hm6 hrt
      go_wp2_with fail
      refine eout_ret (v := ⟨v, (F : Int) - s.fuel, s.tasks, s.depth, sp⟩) rfl rfl H8.out.1 H8.out.2.1 (fun w' hk => ?_)
      rw [HEV.out]
      exact ⟨rfl, H8.out.2.2.trans hk (fun i e hi => by have := HX.out.1; omega)⟩
  · rw [if_neg hr0] at hck
    have hev : evalV l zs fuel = (zeroVal, refusedV l zs fuel) := by
      unfold evalV
      rw [if_pos hr0]
    rw [hev]
    generalize refusedV l zs fuel = er at *
    clear hr0 hT hS hok hZ hk3 b1 b2 b3 hev
    go_enter_defers Tryd.func4, Tryd.ntmps4
    go_upto_region 2 with fail
    rw [← hW, ← hB]
    clear hW hB
    go_wp2_with (go_at_call 9; refine hck.mono ?_; rintro _ w3 ⟨rfl, hk3⟩)
    exact eout_panic (v := zeroVal) rfl rfl (blk_kept HX.out.2.2.2.1 hk3 (fun f => f)) (blk_kept HX.out.2.2.2.2.1 hk3 (fun f => f)) (fun w' hk => ⟨rfl, (HX.out.2.1.trans hk3 (fun _ f _ => f)).trans hk (fun i e hi => by have := HX.out.1; omega)⟩)
end Go.Proofs.YtokfbagacehbgaaDoor
/-! A run that keeps its nodes comes to what one that does not comes to. -/
namespace Go.Proofs.YtokfbagacehbgaaDoor
set_option linter.unusedVariables false
set_option maxRecDepth 20000
open Go.RowKit Go.PlainOps

def Rn.bare (s : Rn) : Rn := { s with nodes := [] }
def Res.bare : Res → Res
  | .gave e => .gave e
  | .done v sp s => .done v sp s.bare
theorem loop_bare (fs : List Fn) : ∀ (g : Nat) (s : Rn) (t : Tk) (at_ : Nat), loopV fs false g s.bare t at_ = (loopV fs true g s t at_).bare
  | 0, s, t, at_ => rfl
  | g + 1, s, t, at_ => by
    have hp : payS s.bare = (payS s).bare := rfl
    have he : ∀ (s : Rn) (c : Tk), enterS false s.bare c = (enterS true s c).bare := fun s c => rfl
    have ht : ∀ (s : Rn) (c : Tk), enterT s.bare c = enterT s c := fun s c => rfl
    have hl : ∀ (s : Rn) (c : Tk), leaveS false s.bare c = (leaveS true s c).bare := fun s c => rfl
    conv => lhs; unfold loopV
    conv => rhs; unfold loopV
    have hf : s.bare.fuel = s.fuel := rfl
    rw [hf, hp]
    by_cases h0 : s.fuel = 0
    · rw [if_pos h0, if_pos h0]; rfl
    · rw [if_neg h0, if_neg h0]
      cases hc : (codeOf fs t.node.func)[at_]? with
      | none => rfl
      | some i =>
        simp only
        by_cases k3 : i.kind = 3
        · rw [if_pos k3, if_pos k3]; exact loop_bare fs g _ _ _
        · rw [if_neg k3, if_neg k3]
          by_cases k4 : i.kind = 4
          · rw [if_pos k4, if_pos k4]; exact loop_bare fs g _ _ _
          · rw [if_neg k4, if_neg k4]
            by_cases k5 : i.kind = 5
            · rw [if_pos k5, if_pos k5]
              by_cases hd : 4096 < (childV fs (payT t) i).depth
              · rw [if_pos hd, if_pos hd]; rfl
              · rw [if_neg hd, if_neg hd, he, ht, loop_bare fs g]
                cases loopV fs true g (enterS true (payS s) (childV fs (payT t) i)) (enterT (payS s) (childV fs (payT t) i)) 0 with
                | gave e => rfl
                | done v sp s2 => exact loop_bare fs g _ _ _
            · rw [if_neg k5, if_neg k5]
              by_cases k6 : i.kind = 6
              · rw [if_pos k6, if_pos k6]; exact loop_bare fs g _ _ _
              · rw [if_neg k6, if_neg k6]
                by_cases k9 : i.kind = 9
                · rw [if_pos k9, if_pos k9, hl]; rfl
                · rw [if_neg k9, if_neg k9]; exact loop_bare fs g _ _ _
theorem run_bare' (fs : List Fn) (zs : List Int) (F : Nat) : runV fs false zs F = (runV fs true zs F).bare := by
  unfold runV playV
  by_cases hd : 4096 < (rootT zs).depth
  · rw [if_pos hd, if_pos hd]; rfl
  · rw [if_neg hd, if_neg hd]
    exact loop_bare fs (F + 1) (enterS true (startS F) (rootT zs)) (enterT (startS F) (rootT zs)) 0
/-- Tree: the nodes. -/
def treeV (fs : List Fn) (zs : List Int) (fuel : Int) : List Nd := match runV fs true zs fuel.toNat with
  | .gave _ => []
  | .done _ _ s => s.nodes
/-- A run is given up for want of fuel, or too deep. -/
theorem loop_gave {fs : List Fn} (hA : AllV fs) (L : Bool) : ∀ (g : Nat) (s : Rn) (t : Tk) (at_ : Nat), s.In L → t.In fs s.fuel → at_ < (codeOf fs t.node.func).length → ∀ e, loopV fs L g s t at_ = .gave e → e = 62 ∨ e = 63
  | 0, s, t, at_, hs, ht, hat, e, h => by
    simp [loopV] at h
    exact .inl h.symm
  | g + 1, s, t, at_, hs, ht, hat, e, h => by
    by_cases h0 : s.fuel = 0
    · rw [loop_out h0] at h
      injection h with h
      exact .inl h.symm
    · obtain ⟨m, hm⟩ : ∃ m, s.fuel = m + 1 := ⟨s.fuel - 1, by omega⟩
      have hpf : (payS s).fuel = m := by simp [payS, hm]
      obtain ⟨f, hf, _, hcf, hV, hok⟩ := hA.fn ht.func
      have hat' := hat
      rw [hcf] at hat'
      obtain ⟨i, hi⟩ : ∃ i, f.code[at_]? = some i := ⟨f.code[at_]'hat', by simp⟩
      have hic : (codeOf fs t.node.func)[at_]? = some i := by rw [hcf]; exact hi
      have so := step_ok hV hi
      have hik := (hok.code i (List.mem_of_getElem? hi)).k
      have ht' := ht
      rw [hm] at ht'
      have hnl : i.kind ≠ 3 → i.kind ≠ 9 → at_ + 1 < (codeOf fs t.node.func).length := fun h3 h9 => by rw [hcf]; exact so.next h3 h9
      have hcases : i.kind = 3 ∨ i.kind = 4 ∨ i.kind = 5 ∨ i.kind = 6 ∨ i.kind = 9 ∨ (i.kind = 0 ∨ i.kind = 1 ∨ i.kind = 2 ∨ i.kind = 7 ∨ i.kind = 8) := by have := so.kind; omega
      rcases hcases with hk | hk | hk | hk | hk | hk
      · rw [loop_jump h0 hic hk] at h
        exact loop_gave hA L g _ _ _ hs.pay (by rw [hpf]; exact ht'.pay) (by show _ < (codeOf fs t.node.func).length; rw [hcf]; have := so.jump hk; omega) e h
      · rw [loop_branch h0 hic hk] at h
        exact loop_gave hA L g _ _ _ hs.pay (by rw [hpf]; exact ht'.pay) (by show _ < (codeOf fs t.node.func).length; have := hnl (by omega) (by omega); rw [hcf] at this ⊢; have := so.branch hk; split <;> omega) e h
      · rw [loop_spawn h0 hic hk] at h
        have hBg := child_begins hs ht h0 so hk
        cases hp : playV fs L g (payS s) (childV fs (payT t) i) with
        | gave e' =>
          rw [hp] at h
          injection h with h
          subst h
          unfold playV at hp
          by_cases hd : 4096 < (childV fs (payT t) i).depth
          · rw [if_pos hd] at hp
            injection hp with hp
            exact .inr hp.symm
          · rw [if_neg hd] at hp
            have hti := hBg.tin hd
            obtain ⟨f2, _, _, hc2, hV2, _⟩ := hA.fn hti.func
            exact loop_gave hA L g _ _ 0 (hBg.sin hd) hti (by rw [hc2]; have := (valid_bounds hV2).2.2.2; omega) _ hp
        | done v sp s2 =>
          rw [hp] at h
          obtain ⟨d1, d2, d3, d4, d5, d6⟩ := child_done hA hBg rfl hp
          exact loop_gave hA L g _ _ _ d5 (ht'.got d1 d2 (by omega)) (by show _ < (codeOf fs t.node.func).length; exact hnl (by omega) (by omega)) e h
      · rw [loop_sync h0 hic hk] at h
        exact loop_gave hA L g _ _ _ hs.pay (by rw [hpf]; exact ht'.wait) (by show _ < (codeOf fs t.node.func).length; exact hnl (by omega) (by omega)) e h
      · rw [loop_ret h0 hic hk] at h
        cases h
      · rw [loop_comp h0 hic hk] at h
        have en : (computeT (payT t) i).node = (payT t).node := by
          unfold computeT setR
          repeat' split
          all_goals rfl
        exact loop_gave hA L g _ _ _ hs.pay (by rw [hpf]; exact ht'.pay.compute i hik) (by rw [en]; show _ < (codeOf fs t.node.func).length; exact hnl (by omega) (by omega)) e h
theorem gave_ne {fs : List Fn} (hA : AllV fs) {L : Bool} {g : Nat} {s : Rn} {t : Tk} {e : Int} (hB : Begins fs L s t) (h : playV fs L g s t = .gave e) : e ≠ 0 := by
  unfold playV at h
  by_cases hd : 4096 < t.depth
  · rw [if_pos hd] at h; injection h with h; omega
  · rw [if_neg hd] at h
    have hti := hB.tin hd
    obtain ⟨f, _, _, hc, hV, _⟩ := hA.fn hti.func
    have := loop_gave hA L g _ _ 0 (hB.sin hd) hti (by rw [hc]; have := (valid_bounds hV).2.2.2; omega) e h
    omega
end Go.Proofs.YtokfbagacehbgaaDoor
/-! Two functions of a program change places: it is valid as before. -/
namespace Go.Proofs.YtokfbagacehbgaaDoor
set_option linter.unusedVariables false
set_option maxRecDepth 20000
open Go.RowKit Go.PlainOps

def sig (F k : Nat) : Nat := if k = 0 then F else if k = F then 0 else k
def rho (F : Nat) (b : Int) : Int := if b = 0 then (F : Int) else if b = (F : Int) then 0 else b
def insR (F : Nat) (i : Ins) : Ins := if i.kind = 5 then { i with b := rho F i.b } else i
def fnR (F : Nat) (f : Fn) : Fn := { f with code := f.code.map (insR F) }
def swapP (l : List Fn) (F : Nat) : List Fn := match l[0]?, l[F]? with
  | some x, some y => (l.set 0 y).set F x
  | _, _ => l
def swapL (l : List Fn) (F : Nat) : List Fn := (swapP l F).map (fnR F)
theorem sig_sig (F k : Nat) : sig F (sig F k) = k := by
  unfold sig
  by_cases h0 : k = 0
  · subst h0
    by_cases hF : F = 0
    · simp [hF]
    · simp [hF]
  · by_cases h1 : k = F
    · subst h1; simp [h0]
    · simp [h0, h1]
theorem swapP_len (l : List Fn) (F : Nat) : (swapP l F).length = l.length := by unfold swapP; split <;> simp
theorem swapL_len (l : List Fn) (F : Nat) : (swapL l F).length = l.length := by rw [swapL, List.length_map, swapP_len]
theorem swapP_at {l : List Fn} {F : Nat} (hF : F < l.length) (k : Nat) : (swapP l F)[k]? = l[sig F k]? := by
  have h0 : l[0]? = some (l[0]'(by omega)) := List.getElem?_eq_getElem _
  have h1 : l[F]? = some (l[F]'hF) := List.getElem?_eq_getElem _
  unfold swapP
  rw [h0, h1]
  simp only
  unfold sig
  by_cases hkF : F = k
  · subst hkF
    rw [List.getElem?_set_self (by simpa using hF)]
    by_cases hF0 : F = 0
    · subst hF0; rw [if_pos rfl, h1]
    · rw [if_neg hF0, if_pos rfl, h0]
  · rw [List.getElem?_set_ne hkF]
    by_cases hk0 : k = 0
    · subst hk0
      rw [List.getElem?_set_self (by omega), if_pos rfl, h1]
    · rw [List.getElem?_set_ne (by omega), if_neg hk0, if_neg (by omega)]
theorem swapL_at {l : List Fn} {F : Nat} (hF : F < l.length) (k : Nat) : (swapL l F)[k]? = (l[sig F k]?).map (fnR F) := by
  rw [swapL, List.getElem?_map, swapP_at hF]
theorem rho_nat {F : Nat} {b : Int} (hb : 0 ≤ b) : (rho F b).toNat = sig F b.toNat ∧ 0 ≤ rho F b := by
  obtain ⟨k, rfl⟩ := Int.eq_ofNat_of_zero_le hb
  unfold rho sig
  by_cases h0 : k = 0
  · subst h0; simp
  · by_cases h1 : k = F
    · subst h1
      rw [if_neg (by omega), if_pos rfl]
      simp [h0]
    · rw [if_neg (by omega), if_neg (by omega)]
      simp [h0, h1]
theorem rho_lt {F : Nat} {b : Int} {n : Nat} (hF : F < n) (hb : 0 ≤ b ∧ b < (n : Int)) : 0 ≤ rho F b ∧ rho F b < (n : Int) := by
  unfold rho
  repeat' split
  all_goals omega
theorem par_swap {l : List Fn} {F : Nat} (hF : F < l.length) {b : Int} (hb : 0 ≤ b) : parV (swapL l F) (rho F b) = parV l b := by
  unfold parV
  rw [(rho_nat hb).1, swapL_at hF, sig_sig]
  cases l[b.toNat]? <;> rfl
theorem code_swap {l : List Fn} {F : Nat} (hF : F < l.length) {f : Int} (hf : 0 ≤ f) : codeOf (swapL l F) (rho F f) = (codeOf l f).map (insR F) := by
  unfold codeOf
  rw [(rho_nat hf).1, swapL_at hF, sig_sig]
  cases l[f.toNat]? <;> rfl
theorem insR_kind (F : Nat) (i : Ins) : (insR F i).kind = i.kind := by unfold insR; split <;> rfl
theorem insR_a (F : Nat) (i : Ins) : (insR F i).a = i.a := by unfold insR; split <;> rfl
theorem insR_c (F : Nat) (i : Ins) : (insR F i).c = i.c := by unfold insR; split <;> rfl
theorem insR_k (F : Nat) (i : Ins) : (insR F i).k = i.k := by unfold insR; split <;> rfl
theorem insR_b {F : Nat} {i : Ins} (h : i.kind ≠ 5) : (insR F i).b = i.b := by unfold insR; rw [if_neg h]
theorem insR_b5 {F : Nat} {i : Ins} (h : i.kind = 5) : (insR F i).b = rho F i.b := by unfold insR; rw [if_pos h]
/-! ### The search does not see it -/
theorem after_swap (F : Nat) (i : Ins) (slot st : Int) : afterV (insR F i) slot st = afterV i slot st := by unfold afterV; rw [insR_kind, insR_a]
theorem exits_swap (F : Nat) (at_ : Int) (i : Ins) : exitsV at_ (insR F i) = exitsV at_ i := by
  unfold exitsV
  rw [insR_kind, insR_a]
  by_cases h : i.kind = 5
  · rw [h]; rfl
  · rw [insR_b h]
theorem run_swap (F : Nat) (f : Fn) (slot : Int) (goal : Pt) : ∀ (k : Nat) (fr op : List Pt), runS (fnR F f) slot goal k fr op = runS f slot goal k fr op
  | 0, _, _ => by cases ‹List Pt› <;> rfl
  | k + 1, fr, [] => rfl
  | k + 1, fr, h :: t => by
    simp only [runS, fnR, List.getElem?_map]
    cases f.code[h.1.toNat]? with
    | none => rfl
    | some i =>
      simp only [Option.map_some, after_swap, exits_swap]
      split
      · rfl
      · exact run_swap F f slot goal k _ _
theorem search_swap (F : Nat) (f : Fn) (slot : Int) (goal : Pt) : searchV (fnR F f) slot goal = searchV f slot goal := by
  unfold searchV
  rw [run_swap]
  simp [fnR]
theorem row_swap (F : Nat) (f : Fn) (n : Nat) : rowV (fnR F f) n = rowV f n := by
  unfold rowV
  simp only [search_swap]
  rfl
theorem misuse_swap (F : Nat) (i : Ins) (row : List Int) : misuseV (insR F i) row = misuseV i row := by
  unfold misuseV
  rw [insR_kind, insR_a]
  by_cases h : i.kind = 5
  · rw [if_pos h, if_pos h]
  · rw [insR_b h]
theorem fits_swap {l : List Fn} {F : Nat} (hF : F < l.length) {f : Fn} {i : Ins} (h : fitsV false l f i = true) : fitsV false (swapL l F) (fnR F f) (insR F i) = true := by
  have hk := fits_kind h
  have hl : (fnR F f).code.length = f.code.length := by simp [fnR]
  have hr : (fnR F f).regs = f.regs := rfl
  have hs : (fnR F f).slots = f.slots := rfl
  unfold fitsV at h ⊢
  by_cases h5 : i.kind = 5
  · simp only [insR_kind, insR_a, insR_c, insR_k, insR_b5 h5, h5] at h ⊢
    simp [fA, fB, fC, fK, allowsV, belowV, holdsV, hr, hs] at h ⊢
    obtain ⟨h1, h2⟩ := h
    have hb : 0 ≤ i.b ∧ i.b < (l.length : Int) := by omega
    have hb2 := rho_lt hF hb
    rw [insR_b5 h5, par_swap hF hb.1, swapL_len]
    refine ⟨⟨h1.1, by omega⟩, h2⟩
  · have e : insR F i = i := by unfold insR; rw [if_neg h5]
    rw [e]
    have ha : ∀ what x, what ≠ 4 → what ≠ 5 → allowsV false (swapL l F) (fnR F f) what x i = allowsV false l f what x i := fun what x h4 h5' => by
      unfold allowsV
      rw [hr, hs, hl]
      simp [h4, h5']
    have hkk : i.kind = 0 ∨ i.kind = 1 ∨ i.kind = 2 ∨ i.kind = 3 ∨ i.kind = 4 ∨ i.kind = 6 ∨ i.kind = 7 ∨ i.kind = 8 ∨ i.kind = 9 := by omega
    have hne : ∀ n : Nat, n = 0 ∨ n = 1 ∨ n = 2 ∨ n = 3 ∨ n = 4 ∨ n = 6 ∨ n = 7 ∨ n = 8 ∨ n = 9 → fA n ≠ 4 ∧ fA n ≠ 5 ∧ fB n ≠ 4 ∧ fB n ≠ 5 ∧ fC n ≠ 4 ∧ fC n ≠ 5 := by
      rintro n (rfl | rfl | rfl | rfl | rfl | rfl | rfl | rfl | rfl) <;> decide
    obtain ⟨n1, n2, n3, n4, n5, n6⟩ := hne i.kind.toNat (by omega)
    rw [ha _ _ n1 n2, ha _ _ n3 n4, ha _ _ n5 n6]
    exact h
theorem valid_swap {l : List Fn} {F : Nat} (hF : F < l.length) {f : Fn} (h : Valid l f) : Valid (swapL l F) (fnR F f) := by
  have hlen : (fnR F f).code.length = f.code.length := by simp [fnR]
  refine ⟨?_, ?_, ?_⟩
  · have := h.shape
    unfold shapeV at this ⊢
    rw [hlen]
    exact this
  · have hc := h.code
    unfold codeFault at hc ⊢
    split at hc
    · cases hc
    · rename_i h1
      have h2 := firstAt_all _ _ _ h1
      rw [firstAt_none]
      · simp only
        have hro : runsOut (fnR F f) = runsOut f := by
          unfold runsOut
          rw [hlen]
          simp only [fnR, List.getElem?_map]
          cases f.code[f.code.length - 1]? with
          | none => rfl
          | some i => simp only [Option.map_some, insR_kind]
        rw [hro]
        split at hc
        · cases hc
        · rename_i h3
          rw [if_neg h3]
      · intro j y hy
        simp only [fnR, List.getElem?_map, Option.map_eq_some_iff] at hy
        obtain ⟨i, hi, rfl⟩ := hy
        have h4 := h2 j i hi
        split at h4
        · rename_i h5
          rw [if_pos (fits_swap hF h5)]
        · cases h4
  · have hc := h.slot
    unfold slotFault at hc ⊢
    simp only [Option.map_eq_none_iff] at hc ⊢
    have h2 := firstAt_all _ _ _ hc
    rw [firstAt_none]
    intro j y hy
    simp only [fnR, List.getElem?_map, Option.map_eq_some_iff] at hy
    obtain ⟨i, hi, rfl⟩ := hy
    have h4 := h2 j i hi
    rw [misuse_swap, row_swap]
    exact h4
theorem valid_check {l : List Fn} (h0 : 1 ≤ l.length ∧ l.length ≤ 32) (h : ∀ f ∈ l, Valid l f) : checkV l = (0, 0, 0) := by
  unfold checkV
  rw [if_neg (by omega), firstAt_none]
  · simp only
    rw [firstAt_none]
    · simp only
      rw [firstAt_none]
      intro j y hy
      exact (h y (List.mem_of_getElem? hy)).slot
    · intro j y hy
      exact (h y (List.mem_of_getElem? hy)).code
  · intro j y hy
    rw [if_pos (h y (List.mem_of_getElem? hy)).shape]
theorem check_swap {l : List Fn} {F : Nat} (hF : F < l.length) (h : checkV l = (0, 0, 0)) : checkV (swapL l F) = (0, 0, 0) := by
  obtain ⟨h1, h2, h3⟩ := check_valid h
  refine valid_check (by rw [swapL_len]; omega) fun f hf => ?_
  obtain ⟨j, hj, e⟩ := List.getElem_of_mem hf
  have h4 : (swapL l F)[j]? = some f := by rw [List.getElem?_eq_getElem hj, e]
  rw [swapL_at hF, Option.map_eq_some_iff] at h4
  obtain ⟨g, hg, rfl⟩ := h4
  exact valid_swap hF (h3 g (List.mem_of_getElem? hg))
theorem ok_swap {l : List Fn} {F : Nat} (hF : F < l.length) (hl : l.length ≤ 32) (h : ∀ f ∈ l, f.Ok) : ∀ f ∈ swapL l F, f.Ok := fun f hf => by
  obtain ⟨j, hj, e⟩ := List.getElem_of_mem hf
  have h4 : (swapL l F)[j]? = some f := by rw [List.getElem?_eq_getElem hj, e]
  rw [swapL_at hF, Option.map_eq_some_iff] at h4
  obtain ⟨g, hg, rfl⟩ := h4
  have hG := h g (List.mem_of_getElem? hg)
  refine ⟨hG.params, hG.regs, hG.slots, fun i hi => ?_⟩
  simp only [fnR, List.mem_map] at hi
  obtain ⟨i0, hi0, rfl⟩ := hi
  have hI := hG.code i0 hi0
  by_cases h5 : i0.kind = 5
  · refine ⟨by rw [insR_kind]; exact hI.kind, by rw [insR_a]; exact hI.a, ?_, by rw [insR_c]; exact hI.c, by rw [insR_k]; exact hI.k⟩
    rw [insR_b5 h5]
    have := hI.b
    unfold rho okI at *
    repeat' split
    all_goals omega
  · rw [show insR F i0 = i0 by unfold insR; rw [if_neg h5]]
    exact hI
end Go.Proofs.YtokfbagacehbgaaDoor
/-! A copied program whose functions change places. -/
namespace Go.Proofs.YtokfbagacehbgaaDoor
set_option linter.unusedVariables false
set_option maxRecDepth 20000
open Go.RowKit Go.HeapKit Go.PlainOps

theorem own_put {w : World} {e : TypeId} {z n c g : Nat} {X : List Value} {i : Nat} (y : Value) (h : w.ownsRow 0 e z (.slice (some ⟨g, 0, none⟩) n c) n X) : (w.setCell ⟨g, i, none⟩ y).ownsRow 0 e z (.slice (some ⟨g, 0, none⟩) n c) n (X.set i y) := by
  rcases h.2 with ⟨e1, _⟩ | ⟨g', cap, cur, he, hb0, hg, hnc, hcm, hcs, htk⟩
  · cases e1
  · have he2 := he
    injection he with e1 e2 e3
    injection e1 with e1
    injection e1 with e1
    subst e1
    refine ⟨by rw [List.length_set]; exact h.1, .inr ⟨g, cap, _, he2, hb0, blk_set hg _, hnc, hcm, by simpa using hcs, ?_⟩⟩
    rw [Array.toList_setIfInBounds, List.take_set, htk]
theorem ins_putB (l : List Ins) (k : Nat) (x : Ins) (y : Int) (hk : l[k]? = some x) : (insVals l).set (k * 5 + 2) (.int .i64 y) = insVals (l.set k { x with b := y }) := by
  induction l generalizing k with
  | nil => simp at hk
  | cons z l ih =>
    have e : insVals (z :: l) = insCells z ++ insVals l := rfl
    have hz : (insCells z).length = 5 := rfl
    cases k with
    | zero =>
      simp at hk
      subst hk
      have e2 : insVals ((z :: l).set 0 { z with b := y }) = insCells { z with b := y } ++ insVals l := rfl
      rw [e, e2, Nat.zero_mul, Nat.zero_add, List.set_append_left _ _ (by omega)]
      rfl
    | succ k =>
      have e2 : insVals ((z :: l).set (k + 1) { x with b := y }) = insCells z ++ insVals (l.set k { x with b := y }) := rfl
      rw [e, e2, ← ih k (by simpa using hk), List.set_append_right _ _ (by omega), hz, show (k + 1) * 5 + 2 - 5 = k * 5 + 2 by omega]
theorem Cp.putB {base : Nat} {w : World} {l : List Fn} {qv : Value} {tv : List At} (h : Cp base w l qv tv) {i k : Nat} {f : Fn} {x : Ins} {t : At} (hf : l[i]? = some f) (hx : f.code[k]? = some x) (ht : tv[i]? = some t) (y : Int) :
    ∃ cb, t.1 = some ⟨cb, 0, none⟩ ∧ InsAt w cb (k * 5) x ∧ (∀ j, w.frozen? ⟨cb, j, none⟩ = false) ∧ Cp base (w.setCell ⟨cb, k * 5 + 2, none⟩ (.int .i64 y)) (l.set i { f with code := f.code.set k { x with b := y } }) qv tv ∧ Keeps (· = cb) w (w.setCell ⟨cb, k * 5 + 2, none⟩ (.int .i64 y)) ∧ base ≤ cb := by
  have hkl := (List.getElem?_eq_some_iff.1 hx).1
  have hil := (List.getElem?_eq_some_iff.1 hf).1
  have hown := h.code i f t hf ht
  rcases hown.2 with ⟨_, h0⟩ | ⟨g, cap, cur, he, hb0, hg, hnc, hcm, hcs, htk⟩
  · omega
  · have he2 := he
    injection he with e1 e2 e3
    have hL := insVals_length f.code
    have hblk : t.blk = some g := by unfold At.blk; rw [e1]; rfl
    have hcell : ∀ j v, (insCells x)[j]? = some v → w.cell? ⟨g, k * 5 + j, none⟩ = some v := fun j v hv => by
      have hj : j < 5 := by have := (List.getElem?_eq_some_iff.1 hv).1; simpa [insCells] using this
      have h1 := insVals_at f.code k x hx j v hv
      rw [← htk, List.getElem?_take, if_pos (by omega)] at h1
      rw [blk_cell hg, ← Array.getElem?_toList]
      exact h1
    have kS : Keeps (· = g) w (w.setCell ⟨g, k * 5 + 2, none⟩ (.int .i64 y)) := Keeps.setCell (S := (· = g)) w (a := ⟨g, k * 5 + 2, none⟩) rfl _
    refine ⟨g, e1, ⟨hcell 0 _ rfl, hcell 1 _ rfl, hcell 2 _ rfl, hcell 3 _ rfl, hcell 4 _ rfl⟩, fun j => blk_free hg j, ?_, kS, h.cl i t g ht hblk⟩
    have hz : List.zipWith tfCells (l.set i { f with code := f.code.set k { x with b := y } }) tv = List.zipWith tfCells l tv := by
      apply List.ext_getElem?
      intro j
      rw [List.getElem?_zipWith, List.getElem?_zipWith]
      by_cases hji : i = j
      · subst hji
        rw [List.getElem?_set_self hil, hf, ht]
        simp [tfCells]
      · rw [List.getElem?_set_ne hji]
    refine ⟨?_, ?_, by rw [List.length_set]; exact h.len, h.low, h.cl, h.nd⟩
    · rw [hz, List.length_set]
      exact kS.own h.row (fun q e hq => by subst hq; exact absurd (own_type h.row e hg) (by decide))
    · intro j f' t' hf' ht'
      by_cases hji : i = j
      · subst hji
        rw [List.getElem?_set_self hil] at hf'
        obtain rfl := Option.some.inj hf'
        rw [ht] at ht'
        obtain rfl := Option.some.inj ht'
        simp only [List.length_set]
        refine ⟨by rw [insVals_length, List.length_set], .inr ⟨g, cap, _, he2, hb0, blk_set hg _, hnc, hcm, by simpa using hcs, ?_⟩⟩
        rw [Array.toList_setIfInBounds, List.take_set, htk]
        exact ins_putB f.code k x y hx
      · rw [List.getElem?_set_ne hji] at hf'
        refine kS.own (h.code j f' t' hf' ht') (fun q e hq => ?_)
        subst hq
        exact hji (h.nd i j t t' q ht ht' hblk (by rw [← e]; exact (At.blk_slice _ _ _ _).symm))

theorem two_at {α : Type} {l : List α} {F : Nat} {x y : α} (h0 : l[0]? = some x) (hF : l[F]? = some y) (k : Nat) : ((l.set 0 y).set F x)[k]? = l[sig F k]? := by
  have hFl := (List.getElem?_eq_some_iff.1 hF).1
  unfold sig
  by_cases hkF : F = k
  · subst hkF
    rw [List.getElem?_set_self (by simpa using hFl)]
    by_cases hF0 : F = 0
    · subst hF0; rw [if_pos rfl, h0]
    · rw [if_neg hF0, if_pos rfl, h0]
  · rw [List.getElem?_set_ne hkF]
    by_cases hk0 : k = 0
    · subst hk0
      rw [List.getElem?_set_self (by omega), if_pos rfl, hF]
    · rw [List.getElem?_set_ne (by omega), if_neg hk0, if_neg (by omega)]
theorem flat4_set (R : List (List Value)) (h : ∀ r ∈ R, r.length = 4) (k : Nat) (hk : k < R.length) (a b c d : Value) : (((R.flatten.set (k * 4) a).set (k * 4 + 1) b).set (k * 4 + 2) c).set (k * 4 + 3) d = (R.set k [a, b, c, d]).flatten := by
  induction R generalizing k with
  | nil => simp at hk
  | cons y R ih =>
    have hy := h y (by simp)
    match y, hy with
    | [y0, y1, y2, y3], _ =>
      cases k with
      | zero => rfl
      | succ k =>
        have h1 := ih (fun r hr => h r (by simp [hr])) k (by simpa using hk)
        rw [List.set_cons_succ, List.flatten_cons, List.flatten_cons, ← h1, show (k + 1) * 4 = k * 4 + 4 by omega]
        rfl
def set4 (w : World) (g k : Nat) (f : Fn) (t : At) : World := (((w.setCell ⟨g, k * 4, none⟩ (.int .i64 f.params)).setCell ⟨g, k * 4 + 1, none⟩ (.int .i64 f.regs)).setCell ⟨g, k * 4 + 2, none⟩ (.int .i64 f.slots)).setCell ⟨g, k * 4 + 3, none⟩ (.slice t.1 f.code.length t.2)
theorem set4_keeps (w : World) (g k : Nat) (f : Fn) (t : At) : Keeps (· = g) w (set4 w g k f t) := by
  unfold set4
  have s : ∀ (w' : World) (i : Nat) (v : Value), Keeps (· = g) w' (w'.setCell ⟨g, i, none⟩ v) := fun w' i v => Keeps.setCell (S := (· = g)) w' (a := ⟨g, i, none⟩) rfl v
  exact (((s _ _ _).trans (s _ _ _) (fun _ f _ => f)).trans (s _ _ _) (fun _ f _ => f)).trans (s _ _ _) (fun _ f _ => f)
theorem zip_four (l : List Fn) (tv : List At) : ∀ r ∈ List.zipWith tfCells l tv, r.length = 4 := fun r hr => by
  obtain ⟨i, hi, rfl⟩ := List.mem_iff_getElem.1 hr
  rw [List.getElem_zipWith]
  rfl
theorem own_set4 {w : World} {n c g : Nat} {R : List (List Value)} (h4 : ∀ r ∈ R, r.length = 4) {k : Nat} (hk : k < R.length) (f : Fn) (t : At) (h : w.ownsRow 0 35 4 (.slice (some ⟨g, 0, none⟩) n c) n R.flatten) : (set4 w g k f t).ownsRow 0 35 4 (.slice (some ⟨g, 0, none⟩) n c) n (R.set k (tfCells f t)).flatten := by
  have := own_put (i := k * 4 + 3) (.slice t.1 f.code.length t.2) (own_put (i := k * 4 + 2) (.int .i64 f.slots) (own_put (i := k * 4 + 1) (.int .i64 f.regs) (own_put (i := k * 4) (.int .i64 f.params) h)))
  rw [flat4_set R h4 k hk] at this
  exact this
/-- The rows of functions. -/
theorem Cp.rows {base : Nat} {w : World} {l : List Fn} {qa : Option Addr} {n qc : Nat} {tv : List At} (h : Cp base w l (.slice qa n qc) tv) (hn : n = l.length) (h0 : 0 < n) : ∃ g C, qa = some ⟨g, 0, none⟩ ∧ w.heap[g]? = some (.cells C 35 (0, 0)) ∧ ∀ i f t, l[i]? = some f → tv[i]? = some t →
    w.cell? ⟨g, i * 4, none⟩ = some (.int .i64 f.params) ∧ w.cell? ⟨g, i * 4 + 1, none⟩ = some (.int .i64 f.regs) ∧ w.cell? ⟨g, i * 4 + 2, none⟩ = some (.int .i64 f.slots) ∧ w.cell? ⟨g, i * 4 + 3, none⟩ = some (.slice t.1 f.code.length t.2) := by
  have hr := h.row
  rw [← hn] at hr
  rcases hr.2 with ⟨_, h1⟩ | ⟨g, cap, cur, he, hb0, hg, hnc, hcm, hcs, htk⟩
  · omega
  · injection he with e1 e2 e3
    refine ⟨g, cur, e1, hg, fun i f t hf ht => ?_⟩
    have hz := zip_at tfCells l tv i f t hf ht
    have hil := (List.getElem?_eq_some_iff.1 hf).1
    have hc : ∀ j, j < 4 → w.cell? ⟨g, i * 4 + j, none⟩ = (tfCells f t)[j]? := fun j hj => by
      have h1 := flat4_at _ (zip_four l tv) i _ hz j hj
      rw [blk_cell hg, ← Array.getElem?_toList, ← h1, ← htk, List.getElem?_take, if_pos (by omega)]
    exact ⟨hc 0 (by omega), hc 1 (by omega), hc 2 (by omega), hc 3 (by omega)⟩
theorem Cp.swap {base : Nat} {w : World} {l : List Fn} {g n qc : Nat} {tv : List At} (h : Cp base w l (.slice (some ⟨g, 0, none⟩) n qc) tv) (hn : n = l.length) {F : Nat} {x y : Fn} {t u : At} (h0 : l[0]? = some x) (hF : l[F]? = some y) (ht : tv[0]? = some t) (hu : tv[F]? = some u) :
    Cp base (set4 (set4 w g 0 y u) g F x t) ((l.set 0 y).set F x) (.slice (some ⟨g, 0, none⟩) n qc) ((tv.set 0 u).set F t) ∧ Keeps (· = g) w (set4 (set4 w g 0 y u) g F x t) := by
  have hFl := (List.getElem?_eq_some_iff.1 hF).1
  have hkk := (set4_keeps w g 0 y u).trans (set4_keeps (set4 w g 0 y u) g F x t) (fun _ e _ => e)
  obtain ⟨g', C, eg, hC, _⟩ := h.rows hn (by omega)
  injection eg with eg
  injection eg with eg
  subst eg
  have hzl : (List.zipWith tfCells l tv).length = l.length := by rw [List.length_zipWith, h.len]; simp
  have hz0 := zip_at tfCells l tv 0 x t h0 ht
  have hzF := zip_at tfCells l tv F y u hF hu
  have hrows : ((List.zipWith tfCells l tv).set 0 (tfCells y u)).set F (tfCells x t) = List.zipWith tfCells ((l.set 0 y).set F x) ((tv.set 0 u).set F t) := by
    apply List.ext_getElem?
    intro k
    rw [two_at hz0 hzF, List.getElem?_zipWith, List.getElem?_zipWith, two_at h0 hF, two_at ht hu]
  refine ⟨⟨?_, ?_, by simp [h.len], h.low, ?_, ?_⟩, hkk⟩
  · have hr := h.row
    rw [← hn] at hr
    have h1 := own_set4 (zip_four l tv) (k := 0) (by omega) y u hr
    have h2 := own_set4 (R := (List.zipWith tfCells l tv).set 0 (tfCells y u)) (fun r hr => by
      rcases List.mem_or_eq_of_mem_set hr with q | q
      · exact zip_four l tv r q
      · rw [q]; rfl) (k := F) (by rw [List.length_set]; omega) x t h1
    rw [hrows] at h2
    have e : ((l.set 0 y).set F x).length = n := by simp [hn]
    rw [e]
    exact h2
  · intro i f' t' hf' ht'
    rw [two_at h0 hF] at hf'
    rw [two_at ht hu] at ht'
    have ho := h.code _ f' t' hf' ht'
    exact hkk.own ho (fun q e hq => by subst hq; exact absurd (own_type ho e hC) (by decide))
  · intro i t' q ht' hq
    rw [two_at ht hu] at ht'
    exact h.cl _ t' q ht' hq
  · intro i j t1 t2 q h1 h2 h3 h4
    rw [two_at ht hu] at h1 h2
    have := h.nd _ _ t1 t2 q h1 h2 h3 h4
    rw [← sig_sig F i, this, sig_sig]
end Go.Proofs.YtokfbagacehbgaaDoor
