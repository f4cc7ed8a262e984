import Derived.Test.YtbdpdojeaahpjaaGreatDoorPkAT
import Derived.Test.YtbdpdojeaahpjaaGreatDoorPkAM
import Derived.Test.YtbdpdojeaahpjaaGreatDoorPkAR
import Derived.Test.YtbdpdojeaahpjaaGreatDoorPkAO
/-! root. -/
namespace Go.Proofs.YtbdpdojeaahpjaaGreatDoor
set_option linter.unusedVariables false
set_option maxRecDepth 20000
open Go.RowKit Go.HeapKit Go.PlainOps

theorem wpList_build_eq {P : Program} {ops : Array Oper} {rest : List Oper} {o : Oper} {a : Act} {w : World} {Q : Exit → Act → World → Prop} (hg : o.guard = none) (t : TypeId) (parts : Array (Nat × Operand)) (ho : o.op = .build t parts) (cells : Array Value)
    (hf : P.built t (parts.map fun (i, x) => (i, a.eval x)).toList = some cells) (h : wpList P ops Q rest (a.put o.dst (.agg cells)) w) : wpList P ops Q (o :: rest) a w :=
  wpList_build hg t parts ho (by rw [hf]; rfl) (by rw [hf]; exact h)
def blankT (d : Int) : Tk := { regs := List.replicate 16 0, slots := List.replicate 8 0, node := ⟨0, 0, 0, 0, 0, 0, 0⟩, number := 0, depth := d, spawned := 0, span := 0, due := 0 }
theorem rootT_l (zs : List Int) : (rootT zs).l 0 0 0 = (rootK zs).l ++ (List.replicate 8 0 ++ [-1, 0, 0, 0, 0, 0, 0, 0, 1, 0, 0]) := rfl
set_option maxHeartbeats 2000000 in
theorem root_any (a : Option Addr) (n c : Nat) (zs : List Int) (w : World) (hS : SeenA w a n zs) (hn : n ≤ 16) :
    Calls Tryz.prog 17 #[.slice a n c] w fun e w' => e = .returned (tkV (rootT zs)) ∧ Keeps None w w' := by
  have hal := Keeps.alloc None w (.cells (ints ((blankT 0).l 0 0 0)).toArray 67)
  have bR := heap_alloc_new w (.cells (ints ((blankT 0).l 0 0 0)).toArray 67)
  obtain ⟨W, hW⟩ : ∃ W, W = w.alloc (.cells (ints ((blankT 0).l 0 0 0)).toArray 67) := ⟨_, rfl⟩
  obtain ⟨B, hB⟩ : ∃ B, B = w.heap.size := ⟨_, rfl⟩
  rw [← hW] at hal bR
  rw [← hB] at bR
  have hrt := troot_any a n c zs W (hS.more hal) hn
  have hbt := built_task (rootK zs) (args_len _ _ _) (-1) 0 1
  have hsz : (ints ((rootT zs).l 0 0 0)).toArray.size = 39 := tk_len (args_len _ _ _) rfl
  unfold tkV
  rw [rootT_l] at hsz ⊢
  have hone := ints_one ((rootK zs).l ++ (List.replicate 8 0 ++ [-1, 0, 0, 0, 0, 0, 0, 0, 1, 0, 0]))
  generalize (ints ((rootK zs).l ++ (List.replicate 8 0 ++ [-1, 0, 0, 0, 0, 0, 0, 0, 1, 0, 0]))).toArray = cw at *
  generalize (ints (rootK zs).l).toArray = cv at *
  have HX : Hid (Keeps None w W ∧ B = w.heap.size) := ⟨hal, hB⟩
  have HB : Hid _ := bR
  have HBT : Hid _ := hbt
  have HSZ : Hid _ := hsz
  have HON : Hid _ := hone
  clear hal bR hS hbt hsz hone
  go_enter Tryz.func17, Tryz.ntmps17
  go_upto_region 1 with fail
  change Code.wp _ _ _ _ (w.alloc (.cells (ints ((blankT 0).l 0 0 0)).toArray 67))
  rw [← hW, ← hB]
  clear hW hB
  go_wp2_with (first | (go_at_call 32; refine hrt.mono ?_; rintro _ w2 ⟨rfl, hk2⟩; have bB := blk_kept HB.out hk2 (fun f => f)) | (refine wpList_build_eq rfl 67 #[(0, .tmp 4), (2, .tmp 5), (4, .const (.int .i64 1))] rfl cw (by simpa [Act.eval] using HBT.out) ?_) | (refine wpList_store_row rfl 67 (.tmp 2) (.tmp 6) rfl B cw rfl rfl 67 (ints ((blankT 0).l 0 0 0)).toArray bB (by rw [HSZ.out]; exact Tryz.infoTk) (by rw [HSZ.out]; rfl) HON.out ?_))
  exact bodyPost_ret (results_one (q := 2) (ty := 67) rfl rfl (run_loadVar_row _ B _ 67 _ _ _ (setRow_heap bB) Tryz.underlying67 rfl (by rw [HSZ.out]; exact Tryz.infoTk))) rfl ⟨rfl, (HX.out.1.trans hk2 (fun _ f _ => f)).trans (setRow_keeps _ _ _) (fun i e hi => by have := HX.out.2; omega)⟩
end Go.Proofs.YtbdpdojeaahpjaaGreatDoor
/-! check: what comes ahead of a run; what is thrown is caught. -/
namespace Go.Proofs.YtbdpdojeaahpjaaGreatDoor
set_option linter.unusedVariables false
set_option maxRecDepth 20000
open Go.RowKit Go.HeapKit Go.PlainOps

theorem put_same {K : Act → World → Prop} {a : Act} {d : Option Tmp} {v v' : Value} {w : World} (h : v = v') (k : K (a.put d v') w) : K (a.put d v) w := h ▸ k
set_option maxHeartbeats 2000000 in
theorem scheck_any (a : Option Addr) (n c : Nat) (l : List Fn) (aa : Option Addr) (an ac : Nat) (zs : List Int) (fuel : Int) (w : World) (hT : Tabs w) (hS : SeenF w a n l) (hok : ∀ f ∈ l, f.Ok) (hZ : an = zs.length) (hZ2 : an ≤ 9223372036854775807) (hfu : okI fuel) :
    Calls Tryz.prog 15 #[.agg #[.slice a n c], .slice aa an ac, .int .i64 fuel] w fun e w' => e = (if refusedV l zs fuel = 0 then .returned (.tuple #[]) else .panicked (thrownE (refusedV l zs fuel))) ∧ Keeps None w w' := by
  have bP := heap_alloc_new w (.cells #[.slice a n c] 24)
  have hal := Keeps.alloc None w (.cells #[.slice a n c] 24)
  obtain ⟨W, hW⟩ : ∃ W, W = w.alloc (.cells #[.slice a n c] 24) := ⟨_, rfl⟩
  obtain ⟨B, hB⟩ : ∃ B, B = w.heap.size := ⟨_, rfl⟩
  rw [← hW] at bP hal
  rw [← hB] at bP
  have c0 : W.cell? ⟨B, 0, none⟩ = some (.slice a n c) := (blk_cell bP 0).trans rfl
  have hck := check_any a n c l W (hT.more hal) (hS.more hal) hok
  unfold checkF faultV at hck
  have HX : Hid (Keeps None w W ∧ W.heap[B]? = some (.cells #[.slice a n c] 24 (0, 0)) ∧ SeenF w a n l) := ⟨hal, bP, hS⟩
  by_cases h1 : (checkV l).1 = 0
  · have hcz := check_zero h1
    obtain ⟨hl1, hl2, hall⟩ := check_valid hcz
    rw [hcz] at hck
    obtain ⟨f, hf⟩ : ∃ f, l[0]? = some f := ⟨l[0], by simp⟩
    have hpar : parV l 0 = f.params := by simp [parV, hf]
    have hV := hall f (List.mem_of_getElem? hf)
    obtain ⟨np, hnp⟩ := Int.eq_ofNat_of_zero_le (valid_bounds hV).1.1
    have hln := hS.len
    obtain ⟨b, off, rfl, hb, hfn⟩ := hS.ex (by omega)
    obtain ⟨ca, cc, hat⟩ := hfn 0 f hf
    have p0 : w.cell? ⟨b, off, none⟩ = some (.int .i64 (np : Int)) := by rw [← hnp]; simpa using hat.params
    have i1 : (0 : Int) < (n : Int) := by omega
    have HP : Hid (w.cell? ⟨b, off, none⟩ = some (.int .i64 (np : Int))) := p0
    by_cases h2 : ((zs.length : Int)) = parV l 0
    · have h2n : (an : Int) = (np : Int) := by rw [hZ, h2, hpar, hnp]
      by_cases h3 : fuel < 0 ∨ 4194304 < fuel
      · have hr : refusedV l zs fuel = 3 := by unfold refusedV; rw [if_neg (by simpa using h1), if_neg (by simpa using h2), if_pos h3]
        rw [hr]
        have HF : Hid (fuel < 0 ∨ 4194304 < fuel) := h3
        obtain rfl : an = np := by omega
        clear hcz hl1 hl2 hall hf hpar hV hnp hln hb hfn hat p0 h1 h2 h2n hr hZ hS hal bP hT hok h3
        go_enter Tryz.func15, Tryz.ntmps15
        go_upto_region 1 with fail
        rw [← hW, ← hB]
        clear hW hB
        go_wp2_with (go_at_call 24; refine hck.mono ?_; rintro _ w3 ⟨rfl, hk3⟩)
        refine put_same (v' := .int .i64 0) rfl ?_
        simp only [Act.put, List.setIfInBounds_toArray, List.set_cons_zero, List.set_cons_succ]
        go_upto_region 3 with fail
        have d0 := (blk_cell (blk_kept HX.out.2.1 hk3 (fun f => f)) 0).trans rfl
        have d1 := (HX.out.1.trans hk3 (fun _ f _ => f)).cell HP.out (fun f => f)
        have HK : Hid (Keeps None w w3) := HX.out.1.trans hk3 (fun _ f _ => f)
        clear hck c0
        rcases HF.out with hf | hf
        · go_wp2_with (go_at_call 25; refine (sgiveUp_any _ _).mono ?_; rintro _ w4 ⟨rfl, hw4⟩; have hw5 := hw4.symm; subst hw5)
          exact ⟨rfl, rfl, HK.out⟩
        · have hf2 : ¬ fuel < 0 := by omega
          go_wp2_with (go_at_call 25; refine (sgiveUp_any _ _).mono ?_; rintro _ w4 ⟨rfl, hw4⟩; have hw5 := hw4.symm; subst hw5)
          exact ⟨rfl, rfl, HK.out⟩
      · have hr : refusedV l zs fuel = 0 := by unfold refusedV; rw [if_neg (by simpa using h1), if_neg (by simpa using h2), if_neg h3]
        rw [hr]
        have f1 : ¬ fuel < 0 := by omega
        have f2 : ¬ 4194304 < fuel := by omega
        obtain rfl : an = np := by omega
        clear hcz hl1 hl2 hall hf hpar hV hnp hln hb hfn hat p0 h1 h2 h2n hr hZ hS hal bP hT hok h3
        go_enter Tryz.func15, Tryz.ntmps15
        go_upto_region 1 with fail
        rw [← hW, ← hB]
        clear hW hB
        go_wp2_with (go_at_call 24; refine hck.mono ?_; rintro _ w3 ⟨rfl, hk3⟩)
        refine put_same (v' := .int .i64 0) rfl ?_
        simp only [Act.put, List.setIfInBounds_toArray, List.set_cons_zero, List.set_cons_succ]
        go_upto_region 3 with fail
        have d0 := (blk_cell (blk_kept HX.out.2.1 hk3 (fun f => f)) 0).trans rfl
        have d1 := (HX.out.1.trans hk3 (fun _ f _ => f)).cell HP.out (fun f => f)
        have HK : Hid (Keeps None w w3) := HX.out.1.trans hk3 (fun _ f _ => f)
        clear hck c0
        go_wp2_with fail
        go_end0
        exact ⟨rfl, HK.out⟩
    · have hr : refusedV l zs fuel = 61 := by unfold refusedV; rw [if_neg (by simpa using h1), if_pos (by simpa using h2)]
      rw [hr]
      have h2n : ¬ (an : Int) = (np : Int) := by rw [hZ, ← hnp, ← hpar]; exact h2
      have h2b : ((an : Int) != (np : Int)) = true := by simpa using h2n
      have hnp8 : np ≤ 8 := by have := (valid_bounds hV).1.2; omega
      have h2c : ¬ an = np := by omega
      clear hcz hl1 hl2 hall hf hpar hV hnp hln hb hfn hat p0 h1 h2 hr hZ hS hal bP hT hok h2n
      go_enter Tryz.func15, Tryz.ntmps15
      go_upto_region 1 with fail
      rw [← hW, ← hB]
      clear hW hB
      go_wp2_with (go_at_call 24; refine hck.mono ?_; rintro _ w3 ⟨rfl, hk3⟩)
      refine put_same (v' := .int .i64 0) rfl ?_
      simp only [Act.put, List.setIfInBounds_toArray, List.set_cons_zero, List.set_cons_succ]
      go_upto_region 3 with fail
      have d0 := (blk_cell (blk_kept HX.out.2.1 hk3 (fun f => f)) 0).trans rfl
      have d1 := (HX.out.1.trans hk3 (fun _ f _ => f)).cell HP.out (fun f => f)
      have HK : Hid (Keeps None w w3) := HX.out.1.trans hk3 (fun _ f _ => f)
      clear hck c0
      go_wp2_with (go_at_call 25; refine (sgiveUp_any _ _).mono ?_; rintro _ w4 ⟨rfl, hw4⟩; have hw5 := hw4.symm; subst hw5)
      exact ⟨rfl, rfl, HK.out⟩
  · have hr : refusedV l zs fuel = 60 := by unfold refusedV; rw [if_pos h1]
    rw [hr]
    have h1b : ((checkV l).1 != 0) = true := by simpa using h1
    generalize (checkV l).1 = x at *
    generalize (checkV l).2.1 = y at *
    generalize (checkV l).2.2 = z at *
    clear hr hZ hS hal bP hT hok h1
    go_enter Tryz.func15, Tryz.ntmps15
    go_upto_region 1 with fail
    rw [← hW, ← hB]
    clear hW hB
    go_wp2_with (go_at_call 24; refine hck.mono ?_; rintro _ w3 ⟨rfl, hk3⟩)
    refine put_same (v' := .int .i64 x) rfl ?_
    simp only [Act.put, List.setIfInBounds_toArray, List.set_cons_zero, List.set_cons_succ]
    go_wp2_with (go_at_call 25; refine (sgiveUp_any _ _).mono ?_; rintro _ w4 ⟨rfl, hw4⟩; have hw5 := hw4.symm; subst hw5)
    exact ⟨rfl, rfl, HX.out.1.trans hk3 (fun _ f _ => f)⟩
theorem scaught_nil (w : World) : Calls Tryz.prog 14 #[.nilIface] w fun e w' => e = .returned (.int .i64 0) ∧ w' = w := by
  go_enter Tryz.func14, Tryz.ntmps14
  go_wp2
  go_ret
  exact ⟨rfl, rfl⟩
theorem scaught_err (e : Int) (w : World) : Calls Tryz.prog 14 #[.iface 30 (.int .i64 e)] w fun e' w' => e' = .returned (.int .i64 e) ∧ w' = w := by
  have ht : ∀ wx, (Instr.typeAssert (.iface 30 (.int .i64 e)) 20 30 true).run Tryz.prog wx = .ok (.tuple #[.int .i64 e, .bool true]) wx := fun _ => rfl
  go_enter Tryz.func14, Tryz.ntmps14
  go_wp2
  go_ret
  exact ⟨rfl, rfl⟩
theorem ecatch_panic (q : Nat) (e0 e : Int) (w : World) (hc : w.heap[q]? = some (.cells #[.int .i64 e0] 30 (0, 0))) :
    CallsD Tryz.prog 13 #[.pointer (some ⟨q, 0, none⟩)] (.panicking (thrownE e)) w fun e' u' w' => e' = .returned (.tuple #[]) ∧ u' = .panicking [{ v := .iface 30 (.int .i64 e), recovered := true }] ∧
      w'.heap[q]? = some (.cells #[.int .i64 e] 30 (0, 0)) ∧ Keeps (· = q) w w' := by
  refine callsD_of_wpS Tryz.func13 rfl fun c₀ cs hu => ?_
  unfold thrownE at hu
  apply wpS_region
  simp [wpOpsS, go_sem, recoverD, hu, Tryz.ntmps13]
  refine (scaught_err e w).mono ?_
  rintro _ w2 ⟨rfl, hw2⟩
  subst hw2
  have c0 := (cell_of_heap hc 0).trans rfl
  have z0 := blk_free hc 0
  have b3 := blk_set (i := 0) hc (.int .i64 e)
  have k3 : Keeps (· = q) w2 (w2.setCell ⟨q, 0, none⟩ (.int .i64 e)) := Keeps.setCell (S := (· = q)) w2 (a := ⟨q, 0, none⟩) rfl _
  simp [go_sem, c0, z0, bodyPostS, results, Tryz.results13]
  exact ⟨b3, k3⟩
theorem ecatch_none (q : Nat) (e0 : Int) (w : World) (hc : w.heap[q]? = some (.cells #[.int .i64 e0] 30 (0, 0))) :
    CallsD Tryz.prog 13 #[.pointer (some ⟨q, 0, none⟩)] .returning w fun e' u' w' => e' = .returned (.tuple #[]) ∧ u' = .returning ∧
      w'.heap[q]? = some (.cells #[.int .i64 0] 30 (0, 0)) ∧ Keeps (· = q) w w' := by
  refine callsD_of_wpS Tryz.func13 rfl fun c₀ cs hu => ?_
  apply wpS_region
  simp [wpOpsS, go_sem, recoverD, hu, Tryz.ntmps13]
  refine (scaught_nil w).mono ?_
  rintro _ w2 ⟨rfl, hw2⟩
  subst hw2
  have c0 := (cell_of_heap hc 0).trans rfl
  have z0 := blk_free hc 0
  have b3 := blk_set (i := 0) hc (.int .i64 0)
  have k3 : Keeps (· = q) w2 (w2.setCell ⟨q, 0, none⟩ (.int .i64 0)) := Keeps.setCell (S := (· = q)) w2 (a := ⟨q, 0, none⟩) rfl _
  simp [go_sem, c0, z0, bodyPostS, results, Tryz.results13]
  exact ⟨.returning, by cases c₀; simp_all, rfl, b3, k3⟩
end Go.Proofs.YtbdpdojeaahpjaaGreatDoor
/-! Eval. -/
namespace Go.Proofs.YtbdpdojeaahpjaaGreatDoor
set_option linter.unusedVariables false
set_option maxRecDepth 20000
open Go.RowKit Go.HeapKit Go.PlainOps

def valC (v : Val) : Array Value := #[.int .i64 v.v, .int .i64 v.work, .int .i64 v.tasks, .int .i64 v.depth, .int .i64 v.span]
theorem results_two' {P : Program} {fn : Func} {q r : Tmp} {t u : TypeId} (h : fn.results = #[.cell q t, .cell r u]) {tmps : Array Value} {w : World} {g k : Nat} (ha : tmps.getD q undef = .pointer (some ⟨g, 0, none⟩)) (hb : tmps.getD r undef = .pointer (some ⟨k, 0, none⟩)) {v x : Value}
    (hl : (loadVar t ⟨g, 0, none⟩).run P w = .ok v w) (hm : (loadVar u ⟨k, 0, none⟩).run P w = .ok x w) : (results fn tmps).run P w = .ok (.tuple #[v, x]) w := by
  have ha' : tmps[q]?.getD undef = .pointer (some ⟨g, 0, none⟩) := by simpa using ha
  have hb' : tmps[r]?.getD undef = .pointer (some ⟨k, 0, none⟩) := by simpa using hb
  simp [results, h, ha', hb', asAddr, hl, hm]
theorem load_err (w : World) (q : Nat) (e : Int) (h : w.heap[q]? = some (.cells #[.int .i64 e] 30 (0, 0))) : (loadVar 30 ⟨q, 0, none⟩).run Tryz.prog w = .ok (.int .i64 e) w := by
  have hc : w.cell? ⟨q, 0, none⟩ = some (.int .i64 e) := (cell_of_heap h 0).trans rfl
  have hu := Tryz.underlying30
  have ha := Tryz.isAgg30
  have hz := Tryz.sizeOf30
  go_simp
theorem load_val (w : World) (p : Nat) (v : Val) (h : w.heap[p]? = some (.cells (valC v) 44 (0, 0))) : (loadVar 44 ⟨p, 0, none⟩).run Tryz.prog w = .ok (.agg (valC v)) w :=
  run_loadVar_row _ p _ 44 _ _ _ h Tryz.underlying44 rfl (by kernel_rfl)
theorem eout_panic {Q : Ending → World → Prop} {tmps : Array Value} {w3 : World} {p q : Nat} {v : Val} {e0 e : Int} (ha : tmps.getD 6 undef = .pointer (some ⟨p, 0, none⟩)) (hb : tmps.getD 7 undef = .pointer (some ⟨q, 0, none⟩))
    (hp : w3.heap[p]? = some (.cells (valC v) 44 (0, 0))) (hq : w3.heap[q]? = some (.cells #[.int .i64 e0] 30 (0, 0)))
    (hQ : ∀ w', Keeps (· = q) w3 w' → Q (.returned (.tuple #[.agg (valC v), .int .i64 e])) w') :
    bodyPostD Tryz.prog Tryz.f9 Q (.panic (thrownE e)) { tmps := tmps, defers := [{ target := .fn (.func 13) #[.pointer (some ⟨q, 0, none⟩)], args := #[] }] } w3 := by
  refine leaves_cons (f := 13) (args := #[.pointer (some ⟨q, 0, none⟩)]) (by simp) (by simp [go_sem]) ?_
  refine (ecatch_panic q e0 e w3 hq).mono ?_
  rintro _ u' w4 ⟨rfl, rfl, hb4, hk4⟩
  have npq : p ≠ q := blk_ne hp hq (by decide)
  have hr := results_two' (P := Tryz.prog) (fn := Tryz.f9) (q := 6) (r := 7) (t := 44) (u := 30) rfl ha hb (load_val w4 p v (blk_kept hp hk4 npq)) (load_err w4 q e hb4)
  simp [Leaves, settle, hr]
  exact hQ w4 hk4
theorem eout_ret {Q : Ending → World → Prop} {tmps : Array Value} {w3 : World} {p q : Nat} {v : Val} {e0 : Int} (ha : tmps.getD 6 undef = .pointer (some ⟨p, 0, none⟩)) (hb : tmps.getD 7 undef = .pointer (some ⟨q, 0, none⟩))
    (hp : w3.heap[p]? = some (.cells (valC v) 44 (0, 0))) (hq : w3.heap[q]? = some (.cells #[.int .i64 e0] 30 (0, 0)))
    (hQ : ∀ w', Keeps (· = q) w3 w' → Q (.returned (.tuple #[.agg (valC v), .int .i64 0])) w') :
    bodyPostD Tryz.prog Tryz.f9 Q .ret { tmps := tmps, defers := [{ target := .fn (.func 13) #[.pointer (some ⟨q, 0, none⟩)], args := #[] }] } w3 := by
  refine leaves_cons (f := 13) (args := #[.pointer (some ⟨q, 0, none⟩)]) (by simp) (by simp [go_sem]) ?_
  refine (ecatch_none q e0 w3 hq).mono ?_
  rintro _ u' w4 ⟨rfl, rfl, hb4, hk4⟩
  have npq : p ≠ q := blk_ne hp hq (by decide)
  have hr := results_two' (P := Tryz.prog) (fn := Tryz.f9) (q := 6) (r := 7) (t := 44) (u := 30) rfl ha hb (load_val w4 p v (blk_kept hp hk4 npq)) (load_err w4 q 0 hb4)
  simp [Leaves, settle, hr]
  exact hQ w4 hk4
/-! ### The root begins -/
theorem refused_zero {fs : List Fn} {zs : List Int} {fuel : Int} (h : refusedV fs zs fuel = 0) : checkV fs = (0, 0, 0) ∧ ((zs.length : Int)) = parV fs 0 ∧ 0 ≤ fuel ∧ fuel ≤ 4194304 := by
  unfold refusedV at h
  by_cases h1 : (checkV fs).1 ≠ 0
  · rw [if_pos h1] at h; cases h
  · rw [if_neg h1] at h
    by_cases h2 : ((zs.length : Int)) ≠ parV fs 0
    · rw [if_pos h2] at h; cases h
    · rw [if_neg h2] at h
      by_cases h3 : fuel < 0 ∨ 4194304 < fuel
      · rw [if_pos h3] at h; cases h
      · exact ⟨check_zero (by simpa using h1), by simpa using h2, by omega, by omega⟩
theorem allV_of {fs : List Fn} (h : checkV fs = (0, 0, 0)) (hok : ∀ f ∈ fs, f.Ok) : AllV fs := by
  obtain ⟨h1, h2, h3⟩ := check_valid h
  exact ⟨⟨h1, h2⟩, h3, hok⟩
theorem root_begins {fs : List Fn} (hA : AllV fs) (L : Bool) {zs : List Int} (hz : ∀ x ∈ zs, okI x) (F : Nat) (hF : F ≤ 4194304) : Begins fs L (startS F) (rootT zs) := by
  refine ⟨args_len _ _ _, rfl, by show 0 + F < _; omega, by cases L <;> rfl, by simp [startS], fun _ => ?_⟩
  have hl := hA.len
  refine ⟨args_len _ _ _, rfl, args_ok hz _ _, fun x hx => by simp [enterT, rootT] at hx; subst hx; simp [okI], ?_, ?_, by simp [enterT, rootT, okI], by simp [enterT, rootT], ?_, ?_, ?_, ?_⟩
  · show (0 : Int) ≤ 0 ∧ (0 : Int) < fs.length
    omega
  · show (0 : Int) ≤ 0 ∧ (0 : Int) + (F : Int) ≤ 8388608
    omega
  · show (0 : Int) ≤ 0 ∧ (0 : Int) + (F : Int) ≤ 8388608
    omega
  · show (0 : Int) ≤ 0 ∧ (0 : Int) + (F : Int) ≤ 8388608
    omega
  · show (0 : Int) ≤ 0 ∧ (0 : Int) + (F : Int) ≤ 8388608
    omega
  · show (0 : Int) ≤ ((0 : Nat) : Int) ∧ ((0 : Nat) : Int) ≤ 8388608
    omega
theorem root_le {fs : List Fn} (hA : AllV fs) {zs : List Int} (h : ((zs.length : Int)) = parV fs 0) : zs.length ≤ 8 := by
  obtain ⟨f, hf, hm, _, hV, _⟩ := hA.fn (k := 0) (by have := hA.len; omega)
  have hp : parV fs 0 = f.params := by
    have : fs[0]? = some f := by simpa using hf
    simp [parV, this]
  have := (valid_bounds hV).1
  omega
theorem three_boxes (w : World) (c1 c2 c3 : Array Value) (t1 t2 t3 : TypeId) : (((w.alloc (.cells c1 t1)).alloc (.cells c2 t2)).alloc (.cells c3 t3)).heap[w.heap.size]? = some (.cells c1 t1 (0, 0)) ∧ (((w.alloc (.cells c1 t1)).alloc (.cells c2 t2)).alloc (.cells c3 t3)).heap[w.heap.size + 1]? = some (.cells c2 t2 (0, 0)) ∧ (((w.alloc (.cells c1 t1)).alloc (.cells c2 t2)).alloc (.cells c3 t3)).heap[w.heap.size + 2]? = some (.cells c3 t3 (0, 0)) := by
  obtain ⟨h1, h2⟩ := two_boxes w c1 c2 t1 t2
  have hk := Keeps.alloc None ((w.alloc (.cells c1 t1)).alloc (.cells c2 t2)) (.cells c3 t3)
  refine ⟨blk_kept h1 hk (fun f => f), blk_kept h2 hk (fun f => f), ?_⟩
  have := heap_alloc_new ((w.alloc (.cells c1 t1)).alloc (.cells c2 t2)) (.cells c3 t3)
  simpa using this
set_option maxHeartbeats 2000000 in
theorem eval_any (a : Option Addr) (n c : Nat) (l : List Fn) (aa : Option Addr) (an ac : Nat) (zs : List Int) (fuel : Int) (w : World) (hT : Tabs w) (hS : SeenF w a n l) (hok : ∀ f ∈ l, f.Ok) (hZ : SeenA w aa an zs) (hZ2 : an ≤ 9223372036854775807) (hfu : okI fuel) :
    Calls Tryz.prog 9 #[.agg #[.slice a n c], .slice aa an ac, .int .i64 fuel] w fun e w' => e = .returned (.tuple #[.agg (valC (evalV l zs fuel).1), .int .i64 (evalV l zs fuel).2]) ∧ Keeps None w w' := by
  have hmf : ∀ (fn : Go.Fn) (first cap : Array Value) (w : World), (Instr.makeFunc fn first cap).run Tryz.prog w = .ok (.func fn first cap) w := fun _ _ _ _ => rfl
  obtain ⟨B, hB⟩ : ∃ B, B = w.heap.size := ⟨_, rfl⟩
  obtain ⟨b1, b2, b3⟩ := three_boxes w #[.slice a n c] #[.int .i64 0, .int .i64 0, .int .i64 0, .int .i64 0, .int .i64 0] #[.int .i64 0] 24 44 30
  have hk3 : Keeps None w (((w.alloc (.cells #[.slice a n c] 24)).alloc (.cells #[.int .i64 0, .int .i64 0, .int .i64 0, .int .i64 0, .int .i64 0] 44)).alloc (.cells #[.int .i64 0] 30)) := (((Keeps.refl _ w).andAlloc _).andAlloc _).andAlloc _
  obtain ⟨W, hW⟩ : ∃ W, W = ((w.alloc (.cells #[.slice a n c] 24)).alloc (.cells #[.int .i64 0, .int .i64 0, .int .i64 0, .int .i64 0, .int .i64 0] 44)).alloc (.cells #[.int .i64 0] 30) := ⟨_, rfl⟩
  rw [← hW, ← hB] at b1 b2 b3
  rw [← hW] at hk3
  have hck := scheck_any a n c l aa an ac zs fuel W (hT.more hk3) (hS.more hk3) hok hZ.len hZ2 hfu
  have d0 : W.cell? ⟨B, 0, none⟩ = some (.slice a n c) := (blk_cell b1 0).trans rfl
  have HX : Hid (B = w.heap.size ∧ Keeps None w W ∧ W.heap[B]? = some (.cells #[.slice a n c] 24 (0, 0)) ∧ W.heap[B + 1]? = some (.cells (valC zeroVal) 44 (0, 0)) ∧ W.heap[B + 2]? = some (.cells #[.int .i64 0] 30 (0, 0)) ∧ SeenF w a n l ∧ (∀ f ∈ l, f.Ok) ∧ SeenA w aa an zs) := ⟨hB, hk3, b1, b2, b3, hS, hok, hZ⟩
  by_cases hr0 : refusedV l zs fuel = 0
  · rw [if_pos hr0] at hck
    obtain ⟨hcz, hpz, hf0, hf1⟩ := refused_zero hr0
    have hA := allV_of hcz hok
    obtain ⟨F, rfl⟩ := Int.eq_ofNat_of_zero_le hf0
    have hz8 := root_le hA hpz
    have hBg := root_begins hA false hZ.ok F (by omega)
    have hev : evalV l zs (F : Int) = (match runV l false zs F with
      | .gave e => (zeroVal, e)
      | .done v sp s => (⟨v, (F : Int) - s.fuel, s.tasks, s.depth, sp⟩, 0)) := by
      unfold evalV
      rw [if_neg (by simpa using hr0)]
      rfl
    have hpl := fun (R : Nat) (wx : World) (hRx : w.heap.size ≤ R) (hkx : Keeps None w wx) (hrx : IsRn wx R (.slice a n c) false (startS F) (.slice none 0 0)) => play_any l hA false a n c w R F (F + 1) (startS F) (rootT zs) (.slice none 0 0) wx (Nat.lt_succ_self _) (Nat.le_refl _) hrx ⟨hS, hkx, hRx, fun g e => by simp [Value.ownBlock] at e⟩ hBg
    have hrt := fun (wx : World) (hkx : Keeps None w wx) => root_any aa an ac zs wx (hZ.more hkx) (by have := hZ.len; omega)
    have hdn : ∀ v sp s, runV l false zs F = .done v sp s → s.fuel ≤ F ∧ s.tasks ≤ 8388608 := by
      intro v sp s e
      obtain ⟨_, _, _, h4, h5, _⟩ := child_done hA hBg rfl e
      exact ⟨h4, by have := h5.tasks; omega⟩
    have HPL : Hid (∀ (R : Nat) (wx : World) (hRx : w.heap.size ≤ R) (hkx : Keeps None w wx) (hrx : IsRn wx R (.slice a n c) false (startS F) (.slice none 0 0)), Calls Tryz.prog 16 #[.pointer (some ⟨R, 0, none⟩), tkV (rootT zs)] wx (PlaysTo R (.slice a n c) false (.slice none 0 0) wx (runV l false zs F))) := hpl
    have HRT : Hid _ := hrt
    have HEV : Hid _ := hev
    have HDN : Hid _ := hdn
    clear hpl hrt hev hdn hBg hz8 hA hcz hpz hr0 hT hS hok hZ hk3 b1 b2 b3
    obtain ⟨EV, hEV⟩ : ∃ EV, EV = evalV l zs (F : Int) := ⟨_, rfl⟩
    rw [← hEV] at HEV ⊢
    clear hEV
    generalize runV l false zs F = rr at *
    unfold tkV at HPL HRT
    generalize Value.agg (ints ((rootT zs).l 0 0 0)).toArray = tv at *
    go_enter_defers Tryz.func9, Tryz.ntmps9
    go_upto_region 2 with fail
    rw [← hW, ← hB]
    clear hW hB
    go_upto_region 3 with (go_at_call 15; refine hck.mono ?_; rintro _ w3 ⟨rfl, hk3⟩)
    have e0 := hk3.cell d0 (fun f => f)
    have hkw3 : Keeps None w w3 := HX.out.2.1.trans hk3 (fun _ f _ => f)
    have hal := Keeps.alloc None w3 (.cells #[.slice a n c, .int .i64 F, .int .i64 0, .int .i64 0, .bool false, .slice none 0 0] 57)
    have bR := heap_alloc_new w3 (.cells #[.slice a n c, .int .i64 F, .int .i64 0, .int .i64 0, .bool false, .slice none 0 0] 57)
    obtain ⟨V, hV⟩ : ∃ V, V = w3.alloc (.cells #[.slice a n c, .int .i64 F, .int .i64 0, .int .i64 0, .bool false, .slice none 0 0] 57) := ⟨_, rfl⟩
    obtain ⟨R, hR⟩ : ∃ R, R = w3.heap.size := ⟨_, rfl⟩
    rw [← hV] at hal bR
    rw [← hR] at bR
    have hRw : w.heap.size ≤ R := by rw [hR]; exact hkw3.size
    have hRB : B + 2 < R := by rw [hR]; exact blk_lt (blk_kept HX.out.2.2.2.2.1 hk3 (fun f => f))
    have hkV := hkw3.trans hal (fun _ f _ => f)
    have hkWV := hk3.trans hal (fun _ f _ => f)
    have hrn : IsRn V R (.slice a n c) false (startS F) (.slice none 0 0) := ⟨bR, ⟨by simp [startS, ndVals], .inl ⟨rfl, rfl⟩⟩⟩
    have HV : Hid (Keeps None w V ∧ Keeps None W V ∧ IsRn V R (.slice a n c) false (startS F) (.slice none 0 0) ∧ w.heap.size ≤ R ∧ B + 2 < R) := ⟨hkV, hkWV, hrn, hRw, hRB⟩
    have hrt := HRT.out V hkV
    clear hck d0 hk3 hkw3 hal bR hRw hRB hkV hkWV hrn
    go_upto_region 4 with fail
    rw [← hV, ← hR]
    clear hV hR e0
    have hpl := fun wx (hx : Keeps None V wx) => HPL.out R wx HV.out.2.2.2.1 (HV.out.1.trans hx (fun _ f _ => f)) (HV.out.2.2.1.kept hx (fun _ _ f => f))
    have HPL2 : Hid _ := hpl
    clear hpl HPL HRT
    cases rr with
    | gave e =>
      go_wp2_with (first | (go_at_call 17; refine hrt.mono ?_; rintro _ w5 ⟨rfl, hk5⟩) | (go_at_call 16; refine (HPL2.out _ hk5).mono ?_; rintro _ w6 ⟨rfl, hk6⟩))
      have hk56 : Keeps (RFoot R (.slice none 0 0)) V w6 := (hk5.mono (T := RFoot R (.slice none 0 0)) (fun _ f _ => f.elim)).trans hk6 (fun _ e _ => e)
      have nf : ∀ k, k < R → ¬ RFoot R (.slice none 0 0) k := fun k hk e => by rcases e with e | e; omega; simp [Value.ownBlock] at e
      refine eout_panic (v := zeroVal) rfl rfl (blk_kept (blk_kept HX.out.2.2.2.1 HV.out.2.1 (fun f => f)) hk56 (nf _ (by have := HV.out.2.2.2.2; omega))) (blk_kept (blk_kept HX.out.2.2.2.2.1 HV.out.2.1 (fun f => f)) hk56 (nf _ (by have := HV.out.2.2.2.2; omega))) (fun w' hk => ?_)
      rw [HEV.out]
      exact ⟨rfl, (HV.out.1.trans hk56 (fun i e hi => by rcases e with e | e; have := HV.out.2.2.2.1; omega; simp [Value.ownBlock] at e)).trans hk (fun i e hi => by have := HX.out.1; omega)⟩
    | done v sp s =>
      go_upto_region 5 with (first | (go_at_call 17; refine hrt.mono ?_; rintro _ w5 ⟨rfl, hk5⟩) | (go_at_call 16; refine (HPL2.out _ hk5).mono ?_; rintro _ w6 ⟨rfl, nv6, hr6, hk6, hm6⟩))
      have hk56 : Keeps (RFoot R (.slice none 0 0)) V w6 := (hk5.mono (T := RFoot R (.slice none 0 0)) (fun _ f _ => f.elim)).trans hk6 (fun _ e _ => e)
      have nf : ∀ k, k < R → ¬ RFoot R (.slice none 0 0) k := fun k hk e => by rcases e with e | e; omega; simp [Value.ownBlock] at e
      have hp6 := blk_kept (blk_kept HX.out.2.2.2.1 HV.out.2.1 (fun f => f)) hk56 (nf _ (by have := HV.out.2.2.2.2; omega))
      have hq6 := blk_kept (blk_kept HX.out.2.2.2.2.1 HV.out.2.1 (fun f => f)) hk56 (nf _ (by have := HV.out.2.2.2.2; omega))
      have hkw6 : Keeps None w w6 := HV.out.1.trans hk56 (fun i e hi => by rcases e with e | e; have := HV.out.2.2.2.1; omega; simp [Value.ownBlock] at e)
      obtain ⟨q1, q2⟩ := HDN.out v sp s rfl
      have g1 : w6.cell? ⟨R, 1, none⟩ = some (.int .i64 s.fuel) := (blk_cell hr6.blk 1).trans rfl
      have g2 : w6.cell? ⟨R, 2, none⟩ = some (.int .i64 s.tasks) := (blk_cell hr6.blk 2).trans rfl
      have g3 : w6.cell? ⟨R, 3, none⟩ = some (.int .i64 s.depth) := (blk_cell hr6.blk 3).trans rfl
      have i1 : (s.fuel : Int) ≤ (F : Int) := by omega
      unfold valC zeroVal at hp6
      have v0 : w6.cell? ⟨B + 1, 0, none⟩ = some (.int .i64 0) := (blk_cell hp6 0).trans rfl
      have v1 : w6.cell? ⟨B + 1, 1, none⟩ = some (.int .i64 0) := (blk_cell hp6 1).trans rfl
      have v2 : w6.cell? ⟨B + 1, 2, none⟩ = some (.int .i64 0) := (blk_cell hp6 2).trans rfl
      have v3 : w6.cell? ⟨B + 1, 3, none⟩ = some (.int .i64 0) := (blk_cell hp6 3).trans rfl
      have v4 : w6.cell? ⟨B + 1, 4, none⟩ = some (.int .i64 0) := (blk_cell hp6 4).trans rfl
      have z0 := blk_free hp6 0
      have z1 := blk_free hp6 1
      have z2 := blk_free hp6 2
      have z3 := blk_free hp6 3
      have z4 := blk_free hp6 4
      have u0 : w6.cell? ⟨B + 2, 0, none⟩ = some (.int .i64 0) := (blk_cell hq6 0).trans rfl
      have u1 := blk_free hq6 0
      have n1 : R ≠ B + 1 := by have := HV.out.2.2.2.2; omega
      have n2 : R ≠ B + 2 := by have := HV.out.2.2.2.2; omega
      obtain ⟨w7, hw7⟩ : ∃ w7, w7 = (((((w6.setCell ⟨B + 1, 0, none⟩ (.int .i64 v)).setCell ⟨B + 1, 1, none⟩ (.int .i64 ((F : Int) - s.fuel))).setCell ⟨B + 1, 2, none⟩ (.int .i64 s.tasks)).setCell ⟨B + 1, 3, none⟩ (.int .i64 s.depth)).setCell ⟨B + 1, 4, none⟩ (.int .i64 sp)) := ⟨_, rfl⟩
      have bV : w7.heap[B + 1]? = some (.cells (valC ⟨v, (F : Int) - s.fuel, s.tasks, s.depth, sp⟩) 44 (0, 0)) := by
        rw [hw7, blk_set (blk_set (blk_set (blk_set (blk_set hp6 _) _) _) _) _]
        rfl
      have k7 : Keeps (· = B + 1) w6 w7 := by
        rw [hw7]
        exact (((((Keeps.refl (· = B + 1) w6).andSet (x := ⟨B + 1, 0, none⟩) (.inl rfl) _).andSet (x := ⟨B + 1, 1, none⟩) (.inl rfl) _).andSet (x := ⟨B + 1, 2, none⟩) (.inl rfl) _).andSet (x := ⟨B + 1, 3, none⟩) (.inl rfl) _).andSet (x := ⟨B + 1, 4, none⟩) (.inl rfl) _
      have bE := blk_kept hq6 k7 (by omega)
      have k8 := Keeps.setCell (S := (· = B + 2)) w7 (a := ⟨B + 2, 0, none⟩) rfl (.int .i64 0)
      have bV8 := blk_kept bV k8 (by omega)
      have bE8 : (w7.setCell ⟨B + 2, 0, none⟩ (.int .i64 0)).heap[B + 2]? = some (.cells #[.int .i64 0] 30 (0, 0)) := by rw [blk_set bE]; rfl
      have kk : Keeps None w (w7.setCell ⟨B + 2, 0, none⟩ (.int .i64 0)) := (hkw6.trans k7 (fun i e hi => by have := HX.out.1; omega)).trans k8 (fun i e hi => by have := HX.out.1; omega)
      rw [hw7] at bV8 bE8 kk
      have H8 : Hid _ := And.intro bV8 (And.intro bE8 kk)
      clear hw7 bV k7 bE k8 bV8 bE8 kk hp6 hq6 hkw6 hk56 nf hk5 hk6 hr6 hm6 hrt
      go_wp2_with fail
      refine eout_ret (v := ⟨v, (F : Int) - s.fuel, s.tasks, s.depth, sp⟩) rfl rfl H8.out.1 H8.out.2.1 (fun w' hk => ?_)
      rw [HEV.out]
      exact ⟨rfl, H8.out.2.2.trans hk (fun i e hi => by have := HX.out.1; omega)⟩
  · rw [if_neg hr0] at hck
    have hev : evalV l zs fuel = (zeroVal, refusedV l zs fuel) := by
      unfold evalV
      rw [if_pos hr0]
    rw [hev]
    generalize refusedV l zs fuel = er at *
    clear hr0 hT hS hok hZ hk3 b1 b2 b3 hev
    go_enter_defers Tryz.func9, Tryz.ntmps9
    go_upto_region 2 with fail
    rw [← hW, ← hB]
    clear hW hB
    go_wp2_with (go_at_call 15; refine hck.mono ?_; rintro _ w3 ⟨rfl, hk3⟩)
    exact eout_panic (v := zeroVal) rfl rfl (blk_kept HX.out.2.2.2.1 hk3 (fun f => f)) (blk_kept HX.out.2.2.2.2.1 hk3 (fun f => f)) (fun w' hk => ⟨rfl, (HX.out.2.1.trans hk3 (fun _ f _ => f)).trans hk (fun i e hi => by have := HX.out.1; omega)⟩)
end Go.Proofs.YtbdpdojeaahpjaaGreatDoor
/-! A run that keeps its nodes comes to what one that does not comes to. -/
namespace Go.Proofs.YtbdpdojeaahpjaaGreatDoor
set_option linter.unusedVariables false
set_option maxRecDepth 20000
open Go.RowKit Go.PlainOps

def Rn.bare (s : Rn) : Rn := { s with nodes := [] }
def Res.bare : Res → Res
  | .gave e => .gave e
  | .done v sp s => .done v sp s.bare
theorem loop_bare (fs : List Fn) : ∀ (g : Nat) (s : Rn) (t : Tk) (at_ : Nat), loopV fs false g s.bare t at_ = (loopV fs true g s t at_).bare
  | 0, s, t, at_ => rfl
  | g + 1, s, t, at_ => by
    have hp : payS s.bare = (payS s).bare := rfl
    have he : ∀ (s : Rn) (c : Tk), enterS false s.bare c = (enterS true s c).bare := fun s c => rfl
    have ht : ∀ (s : Rn) (c : Tk), enterT s.bare c = enterT s c := fun s c => rfl
    have hl : ∀ (s : Rn) (c : Tk), leaveS false s.bare c = (leaveS true s c).bare := fun s c => rfl
    conv => lhs; unfold loopV
    conv => rhs; unfold loopV
    have hf : s.bare.fuel = s.fuel := rfl
    rw [hf, hp]
    by_cases h0 : s.fuel = 0
    · rw [if_pos h0, if_pos h0]; rfl
    · rw [if_neg h0, if_neg h0]
      cases hc : (codeOf fs t.node.func)[at_]? with
      | none => rfl
      | some i =>
        simp only
        by_cases k3 : i.kind = 3
        · rw [if_pos k3, if_pos k3]; exact loop_bare fs g _ _ _
        · rw [if_neg k3, if_neg k3]
          by_cases k4 : i.kind = 4
          · rw [if_pos k4, if_pos k4]; exact loop_bare fs g _ _ _
          · rw [if_neg k4, if_neg k4]
            by_cases k5 : i.kind = 5
            · rw [if_pos k5, if_pos k5]
              by_cases hd : 4096 < (childV fs (payT t) i).depth
              · rw [if_pos hd, if_pos hd]; rfl
              · rw [if_neg hd, if_neg hd, he, ht, loop_bare fs g]
                cases loopV fs true g (enterS true (payS s) (childV fs (payT t) i)) (enterT (payS s) (childV fs (payT t) i)) 0 with
                | gave e => rfl
                | done v sp s2 => exact loop_bare fs g _ _ _
            · rw [if_neg k5, if_neg k5]
              by_cases k6 : i.kind = 6
              · rw [if_pos k6, if_pos k6]; exact loop_bare fs g _ _ _
              · rw [if_neg k6, if_neg k6]
                by_cases k9 : i.kind = 9
                · rw [if_pos k9, if_pos k9, hl]; rfl
                · rw [if_neg k9, if_neg k9]; exact loop_bare fs g _ _ _
theorem run_bare' (fs : List Fn) (zs : List Int) (F : Nat) : runV fs false zs F = (runV fs true zs F).bare := by
  unfold runV playV
  by_cases hd : 4096 < (rootT zs).depth
  · rw [if_pos hd, if_pos hd]; rfl
  · rw [if_neg hd, if_neg hd]
    exact loop_bare fs (F + 1) (enterS true (startS F) (rootT zs)) (enterT (startS F) (rootT zs)) 0
/-- Tree: the nodes. -/
def treeV (fs : List Fn) (zs : List Int) (fuel : Int) : List Nd := match runV fs true zs fuel.toNat with
  | .gave _ => []
  | .done _ _ s => s.nodes
/-- A run is given up for want of fuel, or too deep. -/
theorem loop_gave {fs : List Fn} (hA : AllV fs) (L : Bool) : ∀ (g : Nat) (s : Rn) (t : Tk) (at_ : Nat), s.In L → t.In fs s.fuel → at_ < (codeOf fs t.node.func).length → ∀ e, loopV fs L g s t at_ = .gave e → e = 62 ∨ e = 63
  | 0, s, t, at_, hs, ht, hat, e, h => by
    simp [loopV] at h
    exact .inl h.symm
  | g + 1, s, t, at_, hs, ht, hat, e, h => by
    by_cases h0 : s.fuel = 0
    · rw [loop_out h0] at h
      injection h with h
      exact .inl h.symm
    · obtain ⟨m, hm⟩ : ∃ m, s.fuel = m + 1 := ⟨s.fuel - 1, by omega⟩
      have hpf : (payS s).fuel = m := by simp [payS, hm]
      obtain ⟨f, hf, _, hcf, hV, hok⟩ := hA.fn ht.func
      have hat' := hat
      rw [hcf] at hat'
      obtain ⟨i, hi⟩ : ∃ i, f.code[at_]? = some i := ⟨f.code[at_]'hat', by simp⟩
      have hic : (codeOf fs t.node.func)[at_]? = some i := by rw [hcf]; exact hi
      have so := step_ok hV hi
      have hik := (hok.code i (List.mem_of_getElem? hi)).k
      have ht' := ht
      rw [hm] at ht'
      have hnl : i.kind ≠ 3 → i.kind ≠ 9 → at_ + 1 < (codeOf fs t.node.func).length := fun h3 h9 => by rw [hcf]; exact so.next h3 h9
      have hcases : i.kind = 3 ∨ i.kind = 4 ∨ i.kind = 5 ∨ i.kind = 6 ∨ i.kind = 9 ∨ (i.kind = 0 ∨ i.kind = 1 ∨ i.kind = 2 ∨ i.kind = 7 ∨ i.kind = 8) := by have := so.kind; omega
      rcases hcases with hk | hk | hk | hk | hk | hk
      · rw [loop_jump h0 hic hk] at h
        exact loop_gave hA L g _ _ _ hs.pay (by rw [hpf]; exact ht'.pay) (by show _ < (codeOf fs t.node.func).length; rw [hcf]; have := so.jump hk; omega) e h
      · rw [loop_branch h0 hic hk] at h
        exact loop_gave hA L g _ _ _ hs.pay (by rw [hpf]; exact ht'.pay) (by show _ < (codeOf fs t.node.func).length; have := hnl (by omega) (by omega); rw [hcf] at this ⊢; have := so.branch hk; split <;> omega) e h
      · rw [loop_spawn h0 hic hk] at h
        have hBg := child_begins hs ht h0 so hk
        cases hp : playV fs L g (payS s) (childV fs (payT t) i) with
        | gave e' =>
          rw [hp] at h
          injection h with h
          subst h
          unfold playV at hp
          by_cases hd : 4096 < (childV fs (payT t) i).depth
          · rw [if_pos hd] at hp
            injection hp with hp
            exact .inr hp.symm
          · rw [if_neg hd] at hp
            have hti := hBg.tin hd
            obtain ⟨f2, _, _, hc2, hV2, _⟩ := hA.fn hti.func
            exact loop_gave hA L g _ _ 0 (hBg.sin hd) hti (by rw [hc2]; have := (valid_bounds hV2).2.2.2; omega) _ hp
        | done v sp s2 =>
          rw [hp] at h
          obtain ⟨d1, d2, d3, d4, d5, d6⟩ := child_done hA hBg rfl hp
          exact loop_gave hA L g _ _ _ d5 (ht'.got d1 d2 (by omega)) (by show _ < (codeOf fs t.node.func).length; exact hnl (by omega) (by omega)) e h
      · rw [loop_sync h0 hic hk] at h
        exact loop_gave hA L g _ _ _ hs.pay (by rw [hpf]; exact ht'.wait) (by show _ < (codeOf fs t.node.func).length; exact hnl (by omega) (by omega)) e h
      · rw [loop_ret h0 hic hk] at h
        cases h
      · rw [loop_comp h0 hic hk] at h
        have en : (computeT (payT t) i).node = (payT t).node := by
          unfold computeT setR
          repeat' split
          all_goals rfl
        exact loop_gave hA L g _ _ _ hs.pay (by rw [hpf]; exact ht'.pay.compute i hik) (by rw [en]; show _ < (codeOf fs t.node.func).length; exact hnl (by omega) (by omega)) e h
theorem gave_ne {fs : List Fn} (hA : AllV fs) {L : Bool} {g : Nat} {s : Rn} {t : Tk} {e : Int} (hB : Begins fs L s t) (h : playV fs L g s t = .gave e) : e ≠ 0 := by
  unfold playV at h
  by_cases hd : 4096 < t.depth
  · rw [if_pos hd] at h; injection h with h; omega
  · rw [if_neg hd] at h
    have hti := hB.tin hd
    obtain ⟨f, _, _, hc, hV, _⟩ := hA.fn hti.func
    have := loop_gave hA L g _ _ 0 (hB.sin hd) hti (by rw [hc]; have := (valid_bounds hV).2.2.2; omega) e h
    omega
end Go.Proofs.YtbdpdojeaahpjaaGreatDoor
/-! The document's run, plainly: what of the nodes stays while a task is on; the greatest end. -/
namespace Go.Proofs.YtbdpdojeaahpjaaGreatDoor
set_option linter.unusedVariables false
set_option maxRecDepth 20000
open Go.RowKit Go.PlainOps

/-- A run leaves the nodes ahead of the task's own as they are, and makes none fewer. -/
theorem loop_front {fs : List Fn} : ∀ (g : Nat) (s : Rn) (t : Tk) (at_ : Nat) (v sp : Int) (s' : Rn), loopV fs true g s t at_ = .done v sp s' → 0 ≤ t.number → s.nodes.length = s.tasks → t.number < s.tasks →
    s'.nodes.length = s'.tasks ∧ s.tasks ≤ s'.tasks ∧ ∀ j : Nat, (j : Int) < t.number → s'.nodes[j]? = s.nodes[j]?
  | 0, s, t, at_, v, sp, s', h, _, _, _ => by simp [loopV] at h
  | g + 1, s, t, at_, v, sp, s', h, h0, hl, hn => by
    unfold loopV at h
    split at h
    · cases h
    · split at h
      · cases h
      · rename_i i hi
        split at h
        · exact loop_front g (payS s) (payT t) _ v sp s' h h0 hl hn
        · split at h
          · exact loop_front g (payS s) (payT t) _ v sp s' h h0 hl hn
          · split at h
            · split at h
              · cases h
              · split at h
                · cases h
                · rename_i v1 sp1 s2 hr
                  have hc := loop_front g _ _ 0 v1 sp1 s2 hr (by show (0 : Int) ≤ ((payS s).tasks : Int); omega) (by
                    show (s.nodes ++ [_]).length = s.tasks + 1
                    simp [hl]) (by
                    show ((s.tasks : Int)) < ((s.tasks + 1 : Nat) : Int)
                    omega)
                  obtain ⟨c1, c2, c3⟩ := hc
                  have c2' : s.tasks + 1 ≤ s2.tasks := c2
                  obtain ⟨d1, d2, d3⟩ := loop_front g s2 _ _ v sp s' h h0 c1 (by show t.number < (s2.tasks : Int); omega)
                  refine ⟨d1, by omega, fun j hj => ?_⟩
                  rw [d3 j hj]
                  have hj2 : (j : Int) < (s.tasks : Int) := by have : (gotT (spawnT (payT t)) i.a.toNat v1 sp1).number = t.number := rfl; omega
                  have := c3 j hj2
                  rw [this]
                  show (s.nodes ++ [_])[j]? = s.nodes[j]?
                  rw [List.getElem?_append_left (by omega)]
            · split at h
              · exact loop_front g (payS s) (waitT (payT t)) _ v sp s' h h0 hl hn
              · split at h
                · injection h with h1 h2 h3
                  subst h3
                  refine ⟨by show (s.nodes.set _ _).length = s.tasks; simpa using hl, Nat.le_refl _, fun j hj => ?_⟩
                  show (s.nodes.set t.number.toNat _)[j]? = s.nodes[j]?
                  rw [List.getElem?_set_ne (by omega)]
                · have e : (computeT (payT t) i).number = t.number := by
                    unfold computeT setR
                    repeat' split
                    all_goals rfl
                  have := loop_front g (payS s) (computeT (payT t) i) _ v sp s' h (by rw [e]; exact h0) hl (by rw [e]; exact hn)
                  rw [e] at this
                  exact this
/-- The greatest end that the document notes against the program's: they differ only where it does not matter. -/
structure SameEnd (t : Tk) (e : Int) : Prop where
  nn : 0 ≤ e
  le : e ≤ t.due
  or : t.due ≤ t.span ∨ e = t.due
theorem SameEnd.pay {t : Tk} {e : Int} (h : SameEnd t e) : SameEnd (payT t) e := ⟨h.nn, h.le, by rcases h.or with h | h; exact .inl (by simp only [payT]; omega); exact .inr h⟩
theorem SameEnd.comp {t : Tk} {e : Int} (h : SameEnd t e) (i : Ins) : SameEnd (computeT t i) e := by
  have e1 : (computeT t i).span = t.span ∧ (computeT t i).due = t.due := by
    unfold computeT setR
    repeat' split
    all_goals exact ⟨rfl, rfl⟩
  exact ⟨h.nn, by rw [e1.2]; exact h.le, by rw [e1.1, e1.2]; exact h.or⟩
theorem SameEnd.wait {t : Tk} {e : Int} (h : SameEnd t e) : imax t.span e + 1 = (waitT (payT t)).span ∧ SameEnd (waitT (payT t)) 0 := by
  have h1 := h.le
  have h2 := h.nn
  have key : imax t.span e + 1 = imax (t.span + 1) (t.due + 1) := by
    unfold imax
    rcases h.or with h3 | h3
    · rw [if_neg (by omega), if_neg (by omega)]
    · subst h3
      by_cases h4 : t.span < t.due
      · rw [if_pos h4, if_pos (by omega)]
      · rw [if_neg h4, if_neg (by omega)]
  refine ⟨key, ⟨Int.le_refl _, by show 0 ≤ t.due; omega, .inl ?_⟩⟩
  show t.due ≤ imax (t.span + 1) (t.due + 1)
  have := (le_imax (t.span + 1) (t.due + 1)).2
  omega
theorem SameEnd.got {t : Tk} {e : Int} (h : SameEnd t e) (a : Nat) (v sp : Int) (h0 : 0 ≤ sp) (hs : 0 ≤ t.span) : imax e ((payT t).span + sp) = (gotT (spawnT (payT t)) a v sp).due ∧ SameEnd (gotT (spawnT (payT t)) a v sp) (imax e ((payT t).span + sp)) := by
  have h1 := h.le
  have key : imax e (t.span + 1 + sp) = imax t.due (t.span + 1 + sp) := by
    rcases h.or with h3 | h3
    · unfold imax
      by_cases h4 : t.due < t.span + 1 + sp
      · rw [if_pos h4, if_pos (by omega)]
      · omega
    · rw [h3]
  refine ⟨key, ⟨?_, ?_, .inr key⟩⟩
  · have := (le_imax e ((payT t).span + sp)).2
    have : (payT t).span = t.span + 1 := rfl
    omega
  · show imax e (t.span + 1 + sp) ≤ imax t.due (t.span + 1 + sp)
    rw [key]
    exact Int.le_refl _
end Go.Proofs.YtbdpdojeaahpjaaGreatDoor
/-! The document's run and its tasks in memory. -/
namespace Go.Proofs.YtbdpdojeaahpjaaGreatDoor
set_option linter.unusedVariables false
set_option maxRecDepth 20000
open Go.RowKit Go.HeapKit Go.PlainOps

def Tk.rt (t : Tk) (at_ e : Int) : List Int := [at_, t.span, e, t.spawned]
def Tk.rl (t : Tk) (at_ e : Int) : List Int := t.number :: t.depth :: (t.regs ++ (t.slots ++ t.rt at_ e))
structure IsRT (w : World) (X : Nat) (at_ e : Int) (t : Tk) : Prop where
  blk : w.heap[X]? = some (.cells (ints (t.rl at_ e)).toArray 117 (0, 0))
  regs : t.regs.length = 16
  slots : t.slots.length = 8
theorem IsRT.kept {w w' : World} {X : Nat} {at_ e : Int} {t : Tk} {S : Nat → Prop} (h : IsRT w X at_ e t) (hk : Keeps S w w') (hS : ¬ S X) : IsRT w' X at_ e t := ⟨blk_kept h.blk hk hS, h.regs, h.slots⟩
theorem IsRT.cl {w : World} {X : Nat} {at_ e : Int} {t : Tk} (h : IsRT w X at_ e t) {k : Nat} {x : Int} (hx : (t.rl at_ e)[k]? = some x) : w.cell? ⟨X, k, none⟩ = some (.int .i64 x) := by
  rw [blk_cell h.blk]
  simpa using ints_at _ _ _ hx
theorem IsRT.num {w : World} {X : Nat} {at_ e : Int} {t : Tk} (h : IsRT w X at_ e t) : w.cell? ⟨X, 0, none⟩ = some (.int .i64 t.number) := h.cl rfl
theorem IsRT.dep {w : World} {X : Nat} {at_ e : Int} {t : Tk} (h : IsRT w X at_ e t) : w.cell? ⟨X, 1, none⟩ = some (.int .i64 t.depth) := h.cl rfl
theorem IsRT.reg {w : World} {X : Nat} {at_ e : Int} {t : Tk} (h : IsRT w X at_ e t) {k : Nat} (hk : k < 16) : w.cell? ⟨X, 2 + k, none⟩ = some (.int .i64 (t.regs.getD k 0)) := by
  have h1 := h.regs
  refine h.cl ?_
  unfold Tk.rl
  rw [show 2 + k = k + 2 by omega]
  simp only [List.getElem?_cons_succ]
  rw [List.getElem?_append_left (by omega), List.getD_eq_getElem?_getD, List.getElem?_eq_getElem (by omega)]
  rfl
theorem IsRT.slot {w : World} {X : Nat} {at_ e : Int} {t : Tk} (h : IsRT w X at_ e t) {k : Nat} (hk : k < 8) : w.cell? ⟨X, 18 + k, none⟩ = some (.int .i64 (t.slots.getD k 0)) := by
  have h1 := h.regs
  have h2 := h.slots
  refine h.cl ?_
  unfold Tk.rl
  rw [show 18 + k = (16 + k) + 2 by omega]
  simp only [List.getElem?_cons_succ]
  rw [List.getElem?_append_right (by omega), List.getElem?_append_left (by omega), h1, show 16 + k - 16 = k by omega, List.getD_eq_getElem?_getD, List.getElem?_eq_getElem (by omega)]
  rfl
theorem IsRT.tail {w : World} {X : Nat} {at_ e : Int} {t : Tk} (h : IsRT w X at_ e t) (j : Nat) {x : Int} (hx : (t.rt at_ e)[j]? = some x) : w.cell? ⟨X, 26 + j, none⟩ = some (.int .i64 x) := by
  have h1 := h.regs
  have h2 := h.slots
  refine h.cl ?_
  unfold Tk.rl
  rw [show 26 + j = (24 + j) + 2 by omega]
  simp only [List.getElem?_cons_succ]
  rw [List.getElem?_append_right (by omega), List.getElem?_append_right (by omega), h1, h2, show 24 + j - 16 - 8 = j by omega]
  exact hx
theorem IsRT.free {w : World} {X : Nat} {at_ e : Int} {t : Tk} (h : IsRT w X at_ e t) (k : Nat) : w.frozen? ⟨X, k, none⟩ = false := blk_free h.blk k
theorem IsRT.put {w : World} {X : Nat} {at_ e at' e' : Int} {t t' : Tk} (h : IsRT w X at_ e t) {k : Nat} {x : Int} (ht : t'.rl at' e' = (t.rl at_ e).set k x) (hr : t'.regs.length = 16) (hs : t'.slots.length = 8) : IsRT (w.setCell ⟨X, k, none⟩ (.int .i64 x)) X at' e' t' :=
  ⟨by rw [blk_set h.blk, ht, ← ints_set]; simp, hr, hs⟩
theorem IsRT.putTail {w : World} {X : Nat} {at_ e at' e' : Int} {t t' : Tk} (h : IsRT w X at_ e t) {j : Nat} {x : Int} (hn : t'.number = t.number) (hd : t'.depth = t.depth) (hr : t'.regs = t.regs) (hs : t'.slots = t.slots) (ht : t'.rt at' e' = (t.rt at_ e).set j x) : IsRT (w.setCell ⟨X, 26 + j, none⟩ (.int .i64 x)) X at' e' t' := by
  have h1 := h.regs
  have h2 := h.slots
  refine h.put ?_ (by rw [hr]; exact h1) (by rw [hs]; exact h2)
  unfold Tk.rl
  rw [show 26 + j = (24 + j) + 2 by omega, hn, hd, hr, hs, ht]
  simp only [List.set_cons_succ]
  rw [List.set_append_right _ _ (by omega), List.set_append_right _ _ (by omega), h1, h2, show 24 + j - 16 - 8 = j by omega]
theorem IsRT.putReg {w : World} {X : Nat} {at_ e : Int} {t : Tk} (h : IsRT w X at_ e t) {j : Nat} (hj : j < 16) {x : Int} : IsRT (w.setCell ⟨X, 2 + j, none⟩ (.int .i64 x)) X at_ e (setR t j x) := by
  have h1 := h.regs
  refine h.put ?_ (by simpa [setR] using h1) h.slots
  unfold Tk.rl setR
  rw [show 2 + j = j + 2 by omega]
  simp only [List.set_cons_succ]
  rw [List.set_append_left _ _ (by omega)]
  rfl
theorem IsRT.putSlot {w : World} {X : Nat} {at_ e : Int} {t : Tk} (h : IsRT w X at_ e t) {j : Nat} (hj : j < 8) {x : Int} : IsRT (w.setCell ⟨X, 18 + j, none⟩ (.int .i64 x)) X at_ e { t with slots := t.slots.set j x } := by
  have h1 := h.regs
  have h2 := h.slots
  refine h.put ?_ h1 (by simpa using h2)
  unfold Tk.rl
  rw [show 18 + j = (16 + j) + 2 by omega]
  simp only [List.set_cons_succ]
  rw [List.set_append_right _ _ (by omega), List.set_append_left _ _ (by omega), h1, show 16 + j - 16 = j by omega]
  rfl

/-! ### The nodes -/
theorem ndVals_put (M : List Nd) (k j : Nat) (nd nd' : Nd) (x : Int) (hk : M[k]? = some nd) (hj : j < 7) (he : nd'.l = nd.l.set j x) : (ndVals M).set (k * 7 + j) (.int .i64 x) = ndVals (M.set k nd') := by
  induction M generalizing k with
  | nil => simp at hk
  | cons y l ih =>
    have e : ndVals (y :: l) = ints y.l ++ ndVals l := rfl
    have hy : (ints y.l).length = 7 := rfl
    cases k with
    | zero =>
      simp at hk
      subst hk
      have e2 : ndVals ((y :: l).set 0 nd') = ints nd'.l ++ ndVals l := rfl
      rw [e, e2, he, ← ints_set, Nat.zero_mul, Nat.zero_add, List.set_append_left _ _ (by omega)]
    | succ k =>
      have e2 : ndVals ((y :: l).set (k + 1) nd') = ints y.l ++ ndVals (l.set k nd') := rfl
      rw [e, e2, ← ih k (by simpa using hk), List.set_append_right _ _ (by omega), hy, show (k + 1) * 7 + j - 7 = k * 7 + j by omega]
/-- A run of the document's: the functions, the fuel, the error, the nodes, the depth. -/
structure IsRR (w : World) (R : Nat) (fv : Value) (fuel : Nat) (er depth : Int) (M : List Nd) (nv : Value) : Prop where
  blk : w.heap[R]? = some (.cells #[fv, .int .i64 fuel, .int .i64 er, nv, .int .i64 depth] 102 (0, 0))
  row : w.ownsRow 0 65 7 nv M.length (ndVals M)
section
variable {w w' : World} {R : Nat} {fv nv : Value} {fuel : Nat} {er depth : Int} {M : List Nd}
theorem IsRR.nR (h : IsRR w R fv fuel er depth M nv) : nv.ownBlock ≠ some R := fun e => by
  have := own_type h.row e h.blk
  exact absurd this (by decide)
theorem IsRR.nX (h : IsRR w R fv fuel er depth M nv) {X : Nat} {at_ e : Int} {t : Tk} (hx : IsRT w X at_ e t) : nv.ownBlock ≠ some X := fun e => by
  have := own_type h.row e hx.blk
  exact absurd this (by decide)
theorem IsRR.ne (h : IsRR w R fv fuel er depth M nv) {X : Nat} {at_ e : Int} {t : Tk} (hx : IsRT w X at_ e t) : R ≠ X := blk_ne h.blk hx.blk (by decide)
theorem IsRR.off (h : IsRR w R fv fuel er depth M nv) {X : Nat} {at_ e : Int} {t : Tk} (hx : IsRT w X at_ e t) : ∀ k, RFoot R nv k → ¬ k = X := fun k hk e => by
  subst e
  rcases hk with hk | hk
  · exact (h.ne hx) hk.symm
  · exact h.nX hx hk
theorem IsRR.kept {S : Nat → Prop} (h : IsRR w R fv fuel er depth M nv) (hk : Keeps S w w') (hS : ∀ k, RFoot R nv k → ¬ S k) : IsRR w' R fv fuel er depth M nv :=
  ⟨blk_kept h.blk hk (hS R (.inl rfl)), hk.own h.row (fun k e => hS k (.inr e))⟩
theorem IsRR.put (h : IsRR w R fv fuel er depth M nv) {k : Nat} {x : Int} {fuel' : Nat} {er' depth' : Int}
    (hc : (#[fv, .int .i64 fuel, .int .i64 er, nv, .int .i64 depth] : Array Value).setIfInBounds k (.int .i64 x) = #[fv, .int .i64 fuel', .int .i64 er', nv, .int .i64 depth']) :
    IsRR (w.setCell ⟨R, k, none⟩ (.int .i64 x)) R fv fuel' er' depth' M nv :=
  ⟨by rw [blk_set h.blk, hc], (Keeps.setCell (S := (· = R)) w (a := ⟨R, k, none⟩) rfl _).own h.row (fun q e hq => h.nR (hq ▸ e))⟩
/-- A node of it, where it lies. -/
theorem IsRR.node (h : IsRR w R fv fuel er depth M nv) {k : Nat} {nd : Nd} (hk : M[k]? = some nd) :
    ∃ g cap, nv = .slice (some ⟨g, 0, none⟩) M.length cap ∧ k < M.length ∧ (∀ j x, nd.l[j]? = some x → w.cell? ⟨g, k * 7 + j, none⟩ = some (.int .i64 x)) ∧ (∀ j, w.frozen? ⟨g, j, none⟩ = false) ∧
      ∀ j x nd', j < 7 → nd'.l = nd.l.set j x → IsRR (w.setCell ⟨g, k * 7 + j, none⟩ (.int .i64 x)) R fv fuel er depth (M.set k nd') nv ∧ Keeps (fun i => nv.ownBlock = some i) w (w.setCell ⟨g, k * 7 + j, none⟩ (.int .i64 x)) := by
  have hkl : k < M.length := (List.getElem?_eq_some_iff.1 hk).1
  have nR := h.nR
  obtain ⟨hb, hrow⟩ := h
  rcases hrow.2 with ⟨_, h0⟩ | ⟨g, cap, cur, rfl, hb0, hg, hnc, hcm, hcs, htk⟩
  · omega
  · have hL := ndVals_length M
    refine ⟨g, cap, rfl, hkl, ?_, fun j => blk_free hg j, ?_⟩
    · intro j x hx
      have hj : j < 7 := (List.getElem?_eq_some_iff.1 hx).1
      have h1 := ndVals_at M k nd hk j x hx
      rw [← htk, List.getElem?_take] at h1
      rw [if_pos (by omega)] at h1
      rw [blk_cell hg, ← Array.getElem?_toList]
      exact h1
    · intro j x nd' hj he
      have kS : Keeps (fun i => (Value.slice (some ⟨g, 0, none⟩) M.length cap).ownBlock = some i) w (w.setCell ⟨g, k * 7 + j, none⟩ (.int .i64 x)) := Keeps.setCell (S := fun i => (Value.slice (some ⟨g, 0, none⟩) M.length cap).ownBlock = some i) w (a := ⟨g, k * 7 + j, none⟩) rfl _
      have ngR : g ≠ R := fun e => nR (by rw [← e]; rfl)
      refine ⟨⟨blk_kept hb kS (fun e => ngR (by simpa [Value.ownBlock] using e)), ?_⟩, kS⟩
      have hlen : (M.set k nd').length = M.length := by simp
      rw [hlen]
      refine ⟨by rw [ndVals_length, hlen], .inr ⟨g, cap, _, rfl, hb0, blk_set hg _, hnc, hcm, by simpa using hcs, ?_⟩⟩
      rw [← ndVals_put M k j nd nd' x hk hj he, Array.toList_setIfInBounds, List.take_set, htk]
end
end Go.Proofs.YtbdpdojeaahpjaaGreatDoor
/-! The statements' own: two lists of nodes that are the same. -/
namespace Go.Proofs.YtbdpdojeaahpjaaGreatDoor
set_option linter.unusedVariables false
set_option maxRecDepth 20000
open Go.RowKit Go.HeapKit Go.PlainOps

end Go.Proofs.YtbdpdojeaahpjaaGreatDoor
/-! The statements' own: a program with a mark behind each of its lists. -/
namespace Go.Proofs.YtbdpdojeaahpjaaGreatDoor
set_option linter.unusedVariables false
set_option maxRecDepth 20000
open Go.RowKit Go.HeapKit

end Go.Proofs.YtbdpdojeaahpjaaGreatDoor
/-! A program laid with marks behind its lists: the walk. -/
namespace Go.Proofs.YtbdpdojeaahpjaaGreatDoor
set_option linter.unusedVariables false
set_option maxRecDepth 20000
open Go.RowKit Go.HeapKit

end Go.Proofs.YtbdpdojeaahpjaaGreatDoor
/-! The marks behind a program's lists, looked up: the walk. -/
namespace Go.Proofs.YtbdpdojeaahpjaaGreatDoor
set_option linter.unusedVariables false
set_option maxRecDepth 20000
open Go.RowKit Go.HeapKit

end Go.Proofs.YtbdpdojeaahpjaaGreatDoor
