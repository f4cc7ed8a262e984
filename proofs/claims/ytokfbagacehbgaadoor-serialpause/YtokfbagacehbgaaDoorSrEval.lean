import Derived.Test.YtokfbagacehbgaaDoorSrCheck
/-! Eval. -/
namespace Go.Proofs.YtokfbagacehbgaaDoor
set_option linter.unusedVariables false
set_option maxRecDepth 20000
open Go.RowKit Go.HeapKit Go.PlainOps

def valC (v : Val) : Array Value := #[.int .i64 v.v, .int .i64 v.work, .int .i64 v.tasks, .int .i64 v.depth, .int .i64 v.span]
theorem results_two' {P : Program} {fn : Func} {q r : Tmp} {t u : TypeId} (h : fn.results = #[.cell q t, .cell r u]) {tmps : Array Value} {w : World} {g k : Nat} (ha : tmps.getD q undef = .pointer (some ⟨g, 0, none⟩)) (hb : tmps.getD r undef = .pointer (some ⟨k, 0, none⟩)) {v x : Value}
    (hl : (loadVar t ⟨g, 0, none⟩).run P w = .ok v w) (hm : (loadVar u ⟨k, 0, none⟩).run P w = .ok x w) : (results fn tmps).run P w = .ok (.tuple #[v, x]) w := by
  have ha' : tmps[q]?.getD undef = .pointer (some ⟨g, 0, none⟩) := by simpa using ha
  have hb' : tmps[r]?.getD undef = .pointer (some ⟨k, 0, none⟩) := by simpa using hb
  simp [results, h, ha', hb', asAddr, hl, hm]
theorem load_err (w : World) (q : Nat) (e : Int) (h : w.heap[q]? = some (.cells #[.int .i64 e] 28 (0, 0))) : (loadVar 28 ⟨q, 0, none⟩).run Tryd.prog w = .ok (.int .i64 e) w := by
  have hc : w.cell? ⟨q, 0, none⟩ = some (.int .i64 e) := (cell_of_heap h 0).trans rfl
  have hu := Tryd.underlying28
  have ha := Tryd.isAgg28
  have hz := Tryd.sizeOf28
  go_simp
theorem load_val (w : World) (p : Nat) (v : Val) (h : w.heap[p]? = some (.cells (valC v) 27 (0, 0))) : (loadVar 27 ⟨p, 0, none⟩).run Tryd.prog w = .ok (.agg (valC v)) w :=
  run_loadVar_row _ p _ 27 _ _ _ h Tryd.underlying27 rfl (by kernel_rfl)
theorem eout_panic {Q : Ending → World → Prop} {tmps : Array Value} {w3 : World} {p q : Nat} {v : Val} {e0 e : Int} (ha : tmps.getD 6 undef = .pointer (some ⟨p, 0, none⟩)) (hb : tmps.getD 7 undef = .pointer (some ⟨q, 0, none⟩))
    (hp : w3.heap[p]? = some (.cells (valC v) 27 (0, 0))) (hq : w3.heap[q]? = some (.cells #[.int .i64 e0] 28 (0, 0)))
    (hQ : ∀ w', Keeps (· = q) w3 w' → Q (.returned (.tuple #[.agg (valC v), .int .i64 e])) w') :
    bodyPostD Tryd.prog Tryd.f4 Q (.panic (thrownE e)) { tmps := tmps, defers := [{ target := .fn (.func 7) #[.pointer (some ⟨q, 0, none⟩)], args := #[] }] } w3 := by
  refine leaves_cons (f := 7) (args := #[.pointer (some ⟨q, 0, none⟩)]) (by simp) (by simp [go_sem]) ?_
  refine (ecatch_panic q e0 e w3 hq).mono ?_
  rintro _ u' w4 ⟨rfl, rfl, hb4, hk4⟩
  have npq : p ≠ q := blk_ne hp hq (by decide)
  have hr := results_two' (P := Tryd.prog) (fn := Tryd.f4) (q := 6) (r := 7) (t := 27) (u := 28) rfl ha hb (load_val w4 p v (blk_kept hp hk4 npq)) (load_err w4 q e hb4)
  simp [Leaves, settle, hr]
  exact hQ w4 hk4
theorem eout_ret {Q : Ending → World → Prop} {tmps : Array Value} {w3 : World} {p q : Nat} {v : Val} {e0 : Int} (ha : tmps.getD 6 undef = .pointer (some ⟨p, 0, none⟩)) (hb : tmps.getD 7 undef = .pointer (some ⟨q, 0, none⟩))
    (hp : w3.heap[p]? = some (.cells (valC v) 27 (0, 0))) (hq : w3.heap[q]? = some (.cells #[.int .i64 e0] 28 (0, 0)))
    (hQ : ∀ w', Keeps (· = q) w3 w' → Q (.returned (.tuple #[.agg (valC v), .int .i64 0])) w') :
    bodyPostD Tryd.prog Tryd.f4 Q .ret { tmps := tmps, defers := [{ target := .fn (.func 7) #[.pointer (some ⟨q, 0, none⟩)], args := #[] }] } w3 := by
  refine leaves_cons (f := 7) (args := #[.pointer (some ⟨q, 0, none⟩)]) (by simp) (by simp [go_sem]) ?_
  refine (ecatch_none q e0 w3 hq).mono ?_
  rintro _ u' w4 ⟨rfl, rfl, hb4, hk4⟩
  have npq : p ≠ q := blk_ne hp hq (by decide)
  have hr := results_two' (P := Tryd.prog) (fn := Tryd.f4) (q := 6) (r := 7) (t := 27) (u := 28) rfl ha hb (load_val w4 p v (blk_kept hp hk4 npq)) (load_err w4 q 0 hb4)
  simp [Leaves, settle, hr]
  exact hQ w4 hk4
/-! ### The root begins -/
theorem refused_zero {fs : List Fn} {zs : List Int} {fuel : Int} (h : refusedV fs zs fuel = 0) : checkV fs = (0, 0, 0) ∧ ((zs.length : Int)) = parV fs 0 ∧ 0 ≤ fuel ∧ fuel ≤ 4194304 := by
  unfold refusedV at h
  by_cases h1 : (checkV fs).1 ≠ 0
  · rw [if_pos h1] at h; cases h
  · rw [if_neg h1] at h
    by_cases h2 : ((zs.length : Int)) ≠ parV fs 0
    · rw [if_pos h2] at h; cases h
    · rw [if_neg h2] at h
      by_cases h3 : fuel < 0 ∨ 4194304 < fuel
      · rw [if_pos h3] at h; cases h
      · exact ⟨check_zero (by simpa using h1), by simpa using h2, by omega, by omega⟩
theorem allV_of {fs : List Fn} (h : checkV fs = (0, 0, 0)) (hok : ∀ f ∈ fs, f.Ok) : AllV fs := by
  obtain ⟨h1, h2, h3⟩ := check_valid h
  exact ⟨⟨h1, h2⟩, h3, hok⟩
theorem root_begins {fs : List Fn} (hA : AllV fs) (L : Bool) {zs : List Int} (hz : ∀ x ∈ zs, okI x) (F : Nat) (hF : F ≤ 4194304) : Begins fs L (startS F) (rootT zs) := by
  refine ⟨args_len _ _ _, rfl, by show 0 + F < _; omega, by cases L <;> rfl, by simp [startS], fun _ => ?_⟩
  have hl := hA.len
  refine ⟨args_len _ _ _, rfl, args_ok hz _ _, fun x hx => by simp [enterT, rootT] at hx; subst hx; simp [okI], ?_, ?_, by simp [enterT, rootT, okI], by simp [enterT, rootT], ?_, ?_, ?_, ?_⟩
  · show (0 : Int) ≤ 0 ∧ (0 : Int) < fs.length
    omega
  · show (0 : Int) ≤ 0 ∧ (0 : Int) + (F : Int) ≤ 8388608
    omega
  · show (0 : Int) ≤ 0 ∧ (0 : Int) + (F : Int) ≤ 8388608
    omega
  · show (0 : Int) ≤ 0 ∧ (0 : Int) + (F : Int) ≤ 8388608
    omega
  · show (0 : Int) ≤ 0 ∧ (0 : Int) + (F : Int) ≤ 8388608
    omega
  · show (0 : Int) ≤ ((0 : Nat) : Int) ∧ ((0 : Nat) : Int) ≤ 8388608
    omega
theorem root_le {fs : List Fn} (hA : AllV fs) {zs : List Int} (h : ((zs.length : Int)) = parV fs 0) : zs.length ≤ 8 := by
  obtain ⟨f, hf, hm, _, hV, _⟩ := hA.fn (k := 0) (by have := hA.len; omega)
  have hp : parV fs 0 = f.params := by
    have : fs[0]? = some f := by simpa using hf
    simp [parV, this]
  have := (valid_bounds hV).1
  omega
theorem three_boxes (w : World) (c1 c2 c3 : Array Value) (t1 t2 t3 : TypeId) : (((w.alloc (.cells c1 t1)).alloc (.cells c2 t2)).alloc (.cells c3 t3)).heap[w.heap.size]? = some (.cells c1 t1 (0, 0)) ∧ (((w.alloc (.cells c1 t1)).alloc (.cells c2 t2)).alloc (.cells c3 t3)).heap[w.heap.size + 1]? = some (.cells c2 t2 (0, 0)) ∧ (((w.alloc (.cells c1 t1)).alloc (.cells c2 t2)).alloc (.cells c3 t3)).heap[w.heap.size + 2]? = some (.cells c3 t3 (0, 0)) := by
  obtain ⟨h1, h2⟩ := two_boxes w c1 c2 t1 t2
  have hk := Keeps.alloc None ((w.alloc (.cells c1 t1)).alloc (.cells c2 t2)) (.cells c3 t3)
  refine ⟨blk_kept h1 hk (fun f => f), blk_kept h2 hk (fun f => f), ?_⟩
  have := heap_alloc_new ((w.alloc (.cells c1 t1)).alloc (.cells c2 t2)) (.cells c3 t3)
  simpa using this
set_option maxHeartbeats 2000000 in
theorem eval_any (a : Option Addr) (n c : Nat) (l : List Fn) (aa : Option Addr) (an ac : Nat) (zs : List Int) (fuel : Int) (w : World) (hT : Tabs w) (hS : SeenF w a n l) (hok : ∀ f ∈ l, f.Ok) (hZ : SeenA w aa an zs) (hZ2 : an ≤ 9223372036854775807) (hfu : okI fuel) :
    Calls Tryd.prog 4 #[.agg #[.slice a n c], .slice aa an ac, .int .i64 fuel] w fun e w' => e = .returned (.tuple #[.agg (valC (evalV l zs fuel).1), .int .i64 (evalV l zs fuel).2]) ∧ Keeps None w w' := by
  have hmf : ∀ (fn : Go.Fn) (first cap : Array Value) (w : World), (Instr.makeFunc fn first cap).run Tryd.prog w = .ok (.func fn first cap) w := fun _ _ _ _ => rfl
  obtain ⟨B, hB⟩ : ∃ B, B = w.heap.size := ⟨_, rfl⟩
  obtain ⟨b1, b2, b3⟩ := three_boxes w #[.slice a n c] #[.int .i64 0, .int .i64 0, .int .i64 0, .int .i64 0, .int .i64 0] #[.int .i64 0] 24 27 28
  have hk3 : Keeps None w (((w.alloc (.cells #[.slice a n c] 24)).alloc (.cells #[.int .i64 0, .int .i64 0, .int .i64 0, .int .i64 0, .int .i64 0] 27)).alloc (.cells #[.int .i64 0] 28)) := (((Keeps.refl _ w).andAlloc _).andAlloc _).andAlloc _
  obtain ⟨W, hW⟩ : ∃ W, W = ((w.alloc (.cells #[.slice a n c] 24)).alloc (.cells #[.int .i64 0, .int .i64 0, .int .i64 0, .int .i64 0, .int .i64 0] 27)).alloc (.cells #[.int .i64 0] 28) := ⟨_, rfl⟩
  rw [← hW, ← hB] at b1 b2 b3
  rw [← hW] at hk3
  have hck := scheck_any a n c l aa an ac zs fuel W (hT.more hk3) (hS.more hk3) hok hZ.len hZ2 hfu
  have d0 : W.cell? ⟨B, 0, none⟩ = some (.slice a n c) := (blk_cell b1 0).trans rfl
  have HX : Hid (B = w.heap.size ∧ Keeps None w W ∧ W.heap[B]? = some (.cells #[.slice a n c] 24 (0, 0)) ∧ W.heap[B + 1]? = some (.cells (valC zeroVal) 27 (0, 0)) ∧ W.heap[B + 2]? = some (.cells #[.int .i64 0] 28 (0, 0)) ∧ SeenF w a n l ∧ (∀ f ∈ l, f.Ok) ∧ SeenA w aa an zs) := ⟨hB, hk3, b1, b2, b3, hS, hok, hZ⟩
  by_cases hr0 : refusedV l zs fuel = 0
  · rw [if_pos hr0] at hck
    obtain ⟨hcz, hpz, hf0, hf1⟩ := refused_zero hr0
    have hA := allV_of hcz hok
    obtain ⟨F, rfl⟩ := Int.eq_ofNat_of_zero_le hf0
    have hz8 := root_le hA hpz
    have hBg := root_begins hA false hZ.ok F (by omega)
    have hev : evalV l zs (F : Int) = (match runV l false zs F with
      | .gave e => (zeroVal, e)
      | .done v sp s => (⟨v, (F : Int) - s.fuel, s.tasks, s.depth, sp⟩, 0)) := by
      unfold evalV
      rw [if_neg (by simpa using hr0)]
      rfl
    have hpl := fun (R : Nat) (wx : World) (hRx : w.heap.size ≤ R) (hkx : Keeps None w wx) (hrx : IsRn wx R (.slice a n c) false (startS F) (.slice none 0 0)) => play_any l hA false a n c w R F (F + 1) (startS F) (rootT zs) (.slice none 0 0) wx (Nat.lt_succ_self _) (Nat.le_refl _) hrx ⟨hS, hkx, hRx, fun g e => by simp [Value.ownBlock] at e⟩ hBg
    have hrt := fun (wx : World) (hkx : Keeps None w wx) => root_any aa an ac zs wx (hZ.more hkx) (by have := hZ.len; omega)
    have hdn : ∀ v sp s, runV l false zs F = .done v sp s → s.fuel ≤ F ∧ s.tasks ≤ 8388608 := by
      intro v sp s e
      obtain ⟨_, _, _, h4, h5, _⟩ := child_done hA hBg rfl e
      exact ⟨h4, by have := h5.tasks; omega⟩
    have HPL : Hid (∀ (R : Nat) (wx : World) (hRx : w.heap.size ≤ R) (hkx : Keeps None w wx) (hrx : IsRn wx R (.slice a n c) false (startS F) (.slice none 0 0)), Calls Tryd.prog 10 #[.pointer (some ⟨R, 0, none⟩), tkV (rootT zs)] wx (PlaysTo R (.slice a n c) false (.slice none 0 0) wx (runV l false zs F))) := hpl
    have HRT : Hid _ := hrt
    have HEV : Hid _ := hev
    have HDN : Hid _ := hdn
    clear hpl hrt hev hdn hBg hz8 hA hcz hpz hr0 hT hS hok hZ hk3 b1 b2 b3
    obtain ⟨EV, hEV⟩ : ∃ EV, EV = evalV l zs (F : Int) := ⟨_, rfl⟩
    rw [← hEV] at HEV ⊢
    clear hEV
    generalize runV l false zs F = rr at *
    unfold tkV at HPL HRT
    generalize Value.agg (ints ((rootT zs).l 0 0 0)).toArray = tv at *
    go_enter_defers Tryd.func4, Tryd.ntmps4
    go_upto_region 2 with fail
    rw [← hW, ← hB]
    clear hW hB
    go_upto_region 3 with (go_at_call 9; refine hck.mono ?_; rintro _ w3 ⟨rfl, hk3⟩)
    have e0 := hk3.cell d0 (fun f => f)
    have hkw3 : Keeps None w w3 := HX.out.2.1.trans hk3 (fun _ f _ => f)
    have hal := Keeps.alloc None w3 (.cells #[.slice a n c, .int .i64 F, .int .i64 0, .int .i64 0, .bool false, .slice none 0 0] 43)
    have bR := heap_alloc_new w3 (.cells #[.slice a n c, .int .i64 F, .int .i64 0, .int .i64 0, .bool false, .slice none 0 0] 43)
    obtain ⟨V, hV⟩ : ∃ V, V = w3.alloc (.cells #[.slice a n c, .int .i64 F, .int .i64 0, .int .i64 0, .bool false, .slice none 0 0] 43) := ⟨_, rfl⟩
    obtain ⟨R, hR⟩ : ∃ R, R = w3.heap.size := ⟨_, rfl⟩
    rw [← hV] at hal bR
    rw [← hR] at bR
    have hRw : w.heap.size ≤ R := by rw [hR]; exact hkw3.size
    have hRB : B + 2 < R := by rw [hR]; exact blk_lt (blk_kept HX.out.2.2.2.2.1 hk3 (fun f => f))
    have hkV := hkw3.trans hal (fun _ f _ => f)
    have hkWV := hk3.trans hal (fun _ f _ => f)
    have hrn : IsRn V R (.slice a n c) false (startS F) (.slice none 0 0) := ⟨bR, ⟨by simp [startS, ndVals], .inl ⟨rfl, rfl⟩⟩⟩
    have HV : Hid (Keeps None w V ∧ Keeps None W V ∧ IsRn V R (.slice a n c) false (startS F) (.slice none 0 0) ∧ w.heap.size ≤ R ∧ B + 2 < R) := ⟨hkV, hkWV, hrn, hRw, hRB⟩
    have hrt := HRT.out V hkV
    clear hck d0 hk3 hkw3 hal bR hRw hRB hkV hkWV hrn
    go_upto_region 4 with fail
    rw [← hV, ← hR]
    clear hV hR e0
    have hpl := fun wx (hx : Keeps None V wx) => HPL.out R wx HV.out.2.2.2.1 (HV.out.1.trans hx (fun _ f _ => f)) (HV.out.2.2.1.kept hx (fun _ _ f => f))
    have HPL2 : Hid _ := hpl
    clear hpl HPL HRT
    cases rr with
    | gave e =>
      go_wp2_with (first | (go_at_call 11; refine hrt.mono ?_; rintro _ w5 ⟨rfl, hk5⟩) | (go_at_call 10; refine (HPL2.out _ hk5).mono ?_; rintro _ w6 ⟨rfl, hk6⟩))
      have hk56 : Keeps (RFoot R (.slice none 0 0)) V w6 := (hk5.mono (T := RFoot R (.slice none 0 0)) (fun _ f _ => f.elim)).trans hk6 (fun _ e _ => e)
      have nf : ∀ k, k < R → ¬ RFoot R (.slice none 0 0) k := fun k hk e => by rcases e with e | e; omega; simp [Value.ownBlock] at e
      refine eout_panic (v := zeroVal) rfl rfl (blk_kept (blk_kept HX.out.2.2.2.1 HV.out.2.1 (fun f => f)) hk56 (nf _ (by have := HV.out.2.2.2.2; omega))) (blk_kept (blk_kept HX.out.2.2.2.2.1 HV.out.2.1 (fun f => f)) hk56 (nf _ (by have := HV.out.2.2.2.2; omega))) (fun w' hk => ?_)
      rw [HEV.out]
      exact ⟨rfl, (HV.out.1.trans hk56 (fun i e hi => by rcases e with e | e; have := HV.out.2.2.2.1; omega; simp [Value.ownBlock] at e)).trans hk (fun i e hi => by have := HX.out.1; omega)⟩
    | done v sp s =>
      go_upto_region 5 with (first | (go_at_call 11; refine hrt.mono ?_; rintro _ w5 ⟨rfl, hk5⟩) | (go_at_call 10; refine (HPL2.out _ hk5).mono ?_; rintro _ w6 ⟨rfl, nv6, hr6, hk6, hm6⟩))
      have hk56 : Keeps (RFoot R (.slice none 0 0)) V w6 := (hk5.mono (T := RFoot R (.slice none 0 0)) (fun _ f _ => f.elim)).trans hk6 (fun _ e _ => e)
      have nf : ∀ k, k < R → ¬ RFoot R (.slice none 0 0) k := fun k hk e => by rcases e with e | e; omega; simp [Value.ownBlock] at e
      have hp6 := blk_kept (blk_kept HX.out.2.2.2.1 HV.out.2.1 (fun f => f)) hk56 (nf _ (by have := HV.out.2.2.2.2; omega))
      have hq6 := blk_kept (blk_kept HX.out.2.2.2.2.1 HV.out.2.1 (fun f => f)) hk56 (nf _ (by have := HV.out.2.2.2.2; omega))
      have hkw6 : Keeps None w w6 := HV.out.1.trans hk56 (fun i e hi => by rcases e with e | e; have := HV.out.2.2.2.1; omega; simp [Value.ownBlock] at e)
      obtain ⟨q1, q2⟩ := HDN.out v sp s rfl
      have g1 : w6.cell? ⟨R, 1, none⟩ = some (.int .i64 s.fuel) := (blk_cell hr6.blk 1).trans rfl
      have g2 : w6.cell? ⟨R, 2, none⟩ = some (.int .i64 s.tasks) := (blk_cell hr6.blk 2).trans rfl
      have g3 : w6.cell? ⟨R, 3, none⟩ = some (.int .i64 s.depth) := (blk_cell hr6.blk 3).trans rfl
      have i1 : (s.fuel : Int) ≤ (F : Int) := by omega
      unfold valC zeroVal at hp6
      have v0 : w6.cell? ⟨B + 1, 0, none⟩ = some (.int .i64 0) := (blk_cell hp6 0).trans rfl
      have v1 : w6.cell? ⟨B + 1, 1, none⟩ = some (.int .i64 0) := (blk_cell hp6 1).trans rfl
      have v2 : w6.cell? ⟨B + 1, 2, none⟩ = some (.int .i64 0) := (blk_cell hp6 2).trans rfl
      have v3 : w6.cell? ⟨B + 1, 3, none⟩ = some (.int .i64 0) := (blk_cell hp6 3).trans rfl
      have v4 : w6.cell? ⟨B + 1, 4, none⟩ = some (.int .i64 0) := (blk_cell hp6 4).trans rfl
      have z0 := blk_free hp6 0
      have z1 := blk_free hp6 1
      have z2 := blk_free hp6 2
      have z3 := blk_free hp6 3
      have z4 := blk_free hp6 4
      have u0 : w6.cell? ⟨B + 2, 0, none⟩ = some (.int .i64 0) := (blk_cell hq6 0).trans rfl
      have u1 := blk_free hq6 0
      have n1 : R ≠ B + 1 := by have := HV.out.2.2.2.2; omega
      have n2 : R ≠ B + 2 := by have := HV.out.2.2.2.2; omega
      obtain ⟨w7, hw7⟩ : ∃ w7, w7 = (((((w6.setCell ⟨B + 1, 0, none⟩ (.int .i64 v)).setCell ⟨B + 1, 1, none⟩ (.int .i64 ((F : Int) - s.fuel))).setCell ⟨B + 1, 2, none⟩ (.int .i64 s.tasks)).setCell ⟨B + 1, 3, none⟩ (.int .i64 s.depth)).setCell ⟨B + 1, 4, none⟩ (.int .i64 sp)) := ⟨_, rfl⟩
      have bV : w7.heap[B + 1]? = some (.cells (valC ⟨v, (F : Int) - s.fuel, s.tasks, s.depth, sp⟩) 27 (0, 0)) := by
        rw [hw7, blk_set (blk_set (blk_set (blk_set (blk_set hp6 _) _) _) _) _]
        rfl
      have k7 : Keeps (· = B + 1) w6 w7 := by
        rw [hw7]
        exact (((((Keeps.refl (· = B + 1) w6).andSet (x := ⟨B + 1, 0, none⟩) (.inl rfl) _).andSet (x := ⟨B + 1, 1, none⟩) (.inl rfl) _).andSet (x := ⟨B + 1, 2, none⟩) (.inl rfl) _).andSet (x := ⟨B + 1, 3, none⟩) (.inl rfl) _).andSet (x := ⟨B + 1, 4, none⟩) (.inl rfl) _
      have bE := blk_kept hq6 k7 (by omega)
      have k8 := Keeps.setCell (S := (· = B + 2)) w7 (a := ⟨B + 2, 0, none⟩) rfl (.int .i64 0)
      have bV8 := blk_kept bV k8 (by omega)
      have bE8 : (w7.setCell ⟨B + 2, 0, none⟩ (.int .i64 0)).heap[B + 2]? = some (.cells #[.int .i64 0] 28 (0, 0)) := by rw [blk_set bE]; rfl
      have kk : Keeps None w (w7.setCell ⟨B + 2, 0, none⟩ (.int .i64 0)) := (hkw6.trans k7 (fun i e hi => by have := HX.out.1; omega)).trans k8 (fun i e hi => by have := HX.out.1; omega)
      rw [hw7] at bV8 bE8 kk
      have H8 : Hid _ := And.intro bV8 (And.intro bE8 kk)
      clear hw7 bV k7 bE k8 bV8 bE8 kk hp6 hq6 hkw6 hk56 nf hk5 hk6 hr6 hm6 hrt
      go_wp2_with fail
      refine eout_ret (v := ⟨v, (F : Int) - s.fuel, s.tasks, s.depth, sp⟩) rfl rfl H8.out.1 H8.out.2.1 (fun w' hk => ?_)
      rw [HEV.out]
      exact ⟨rfl, H8.out.2.2.trans hk (fun i e hi => by have := HX.out.1; omega)⟩
  · rw [if_neg hr0] at hck
    have hev : evalV l zs fuel = (zeroVal, refusedV l zs fuel) := by
      unfold evalV
      rw [if_pos hr0]
    rw [hev]
    generalize refusedV l zs fuel = er at *
    clear hr0 hT hS hok hZ hk3 b1 b2 b3 hev
    go_enter_defers Tryd.func4, Tryd.ntmps4
    go_upto_region 2 with fail
    rw [← hW, ← hB]
    clear hW hB
    go_wp2_with (go_at_call 9; refine hck.mono ?_; rintro _ w3 ⟨rfl, hk3⟩)
    exact eout_panic (v := zeroVal) rfl rfl (blk_kept HX.out.2.2.2.1 hk3 (fun f => f)) (blk_kept HX.out.2.2.2.2.1 hk3 (fun f => f)) (fun w' hk => ⟨rfl, (HX.out.2.1.trans hk3 (fun _ f _ => f)).trans hk (fun i e hi => by have := HX.out.1; omega)⟩)
end Go.Proofs.YtokfbagacehbgaaDoor
