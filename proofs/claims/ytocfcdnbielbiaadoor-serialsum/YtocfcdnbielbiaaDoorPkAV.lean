import Derived.Test.YtocfcdnbielbiaaDoorPkAU
/-! Eval. -/
namespace Go.Proofs.YtocfcdnbielbiaaDoor
set_option linter.unusedVariables false
set_option maxRecDepth 20000
open Go.RowKit Go.HeapKit Go.PlainOps

def valC (v : Val) : Array Value := #[.int .i64 v.v, .int .i64 v.work, .int .i64 v.tasks, .int .i64 v.depth, .int .i64 v.span]
theorem results_two' {P : Program} {fn : Func} {q r : Tmp} {t u : TypeId} (h : fn.results = #[.cell q t, .cell r u]) {tmps : Array Value} {w : World} {g k : Nat} (ha : tmps.getD q undef = .pointer (some ⟨g, 0, none⟩)) (hb : tmps.getD r undef = .pointer (some ⟨k, 0, none⟩)) {v x : Value}
    (hl : (loadVar t ⟨g, 0, none⟩).run P w = .ok v w) (hm : (loadVar u ⟨k, 0, none⟩).run P w = .ok x w) : (results fn tmps).run P w = .ok (.tuple #[v, x]) w := by
  have ha' : tmps[q]?.getD undef = .pointer (some ⟨g, 0, none⟩) := by simpa using ha
  have hb' : tmps[r]?.getD undef = .pointer (some ⟨k, 0, none⟩) := by simpa using hb
  simp [results, h, ha', hb', asAddr, hl, hm]
theorem load_err (w : World) (q : Nat) (e : Int) (h : w.heap[q]? = some (.cells #[.int .i64 e] 29 (0, 0))) : (loadVar 29 ⟨q, 0, none⟩).run Tryd.prog w = .ok (.int .i64 e) w := by
  have hc : w.cell? ⟨q, 0, none⟩ = some (.int .i64 e) := (cell_of_heap h 0).trans rfl
  have hu := Tryd.underlying29
  have ha := Tryd.isAgg29
  have hz := Tryd.sizeOf29
  go_simp
theorem load_val (w : World) (p : Nat) (v : Val) (h : w.heap[p]? = some (.cells (valC v) 28 (0, 0))) : (loadVar 28 ⟨p, 0, none⟩).run Tryd.prog w = .ok (.agg (valC v)) w :=
  run_loadVar_row _ p _ 28 _ _ _ h Tryd.underlying28 rfl (by kernel_rfl)
theorem eout_panic {Q : Ending → World → Prop} {tmps : Array Value} {w3 : World} {p q : Nat} {v : Val} {e0 e : Int} (ha : tmps.getD 6 undef = .pointer (some ⟨p, 0, none⟩)) (hb : tmps.getD 7 undef = .pointer (some ⟨q, 0, none⟩))
    (hp : w3.heap[p]? = some (.cells (valC v) 28 (0, 0))) (hq : w3.heap[q]? = some (.cells #[.int .i64 e0] 29 (0, 0)))
    (hQ : ∀ w', Keeps (· = q) w3 w' → Q (.returned (.tuple #[.agg (valC v), .int .i64 e])) w') :
    bodyPostD Tryd.prog Tryd.f10 Q (.panic (thrownE e)) { tmps := tmps, defers := [{ target := .fn (.func 22) #[.pointer (some ⟨q, 0, none⟩)], args := #[] }] } w3 := by
  refine leaves_cons (f := 22) (args := #[.pointer (some ⟨q, 0, none⟩)]) (by simp) (by simp [go_sem]) ?_
  refine (ecatch_panic q e0 e w3 hq).mono ?_
  rintro _ u' w4 ⟨rfl, rfl, hb4, hk4⟩
  have npq : p ≠ q := blk_ne hp hq (by decide)
  have hr := results_two' (P := Tryd.prog) (fn := Tryd.f10) (q := 6) (r := 7) (t := 28) (u := 29) rfl ha hb (load_val w4 p v (blk_kept hp hk4 npq)) (load_err w4 q e hb4)
  simp [Leaves, settle, hr]
  exact hQ w4 hk4
theorem eout_ret {Q : Ending → World → Prop} {tmps : Array Value} {w3 : World} {p q : Nat} {v : Val} {e0 : Int} (ha : tmps.getD 6 undef = .pointer (some ⟨p, 0, none⟩)) (hb : tmps.getD 7 undef = .pointer (some ⟨q, 0, none⟩))
    (hp : w3.heap[p]? = some (.cells (valC v) 28 (0, 0))) (hq : w3.heap[q]? = some (.cells #[.int .i64 e0] 29 (0, 0)))
    (hQ : ∀ w', Keeps (· = q) w3 w' → Q (.returned (.tuple #[.agg (valC v), .int .i64 0])) w') :
    bodyPostD Tryd.prog Tryd.f10 Q .ret { tmps := tmps, defers := [{ target := .fn (.func 22) #[.pointer (some ⟨q, 0, none⟩)], args := #[] }] } w3 := by
  refine leaves_cons (f := 22) (args := #[.pointer (some ⟨q, 0, none⟩)]) (by simp) (by simp [go_sem]) ?_
  refine (ecatch_none q e0 w3 hq).mono ?_
  rintro _ u' w4 ⟨rfl, rfl, hb4, hk4⟩
  have npq : p ≠ q := blk_ne hp hq (by decide)
  have hr := results_two' (P := Tryd.prog) (fn := Tryd.f10) (q := 6) (r := 7) (t := 28) (u := 29) rfl ha hb (load_val w4 p v (blk_kept hp hk4 npq)) (load_err w4 q 0 hb4)
  simp [Leaves, settle, hr]
  exact hQ w4 hk4
/-! ### The root begins -/
theorem refused_zero {fs : List Fn} {zs : List Int} {fuel : Int} (h : refusedV fs zs fuel = 0) : checkV fs = (0, 0, 0) ∧ ((zs.length : Int)) = parV fs 0 ∧ 0 ≤ fuel ∧ fuel ≤ 4194304 := by
  unfold refusedV at h
  by_cases h1 : (checkV fs).1 ≠ 0
  · rw [if_pos h1] at h; cases h
  · rw [if_neg h1] at h
    by_cases h2 : ((zs.length : Int)) ≠ parV fs 0
    · rw [if_pos h2] at h; cases h
    · rw [if_neg h2] at h
      by_cases h3 : fuel < 0 ∨ 4194304 < fuel
      · rw [if_pos h3] at h; cases h
      · exact ⟨check_zero (by simpa using h1), by simpa using h2, by omega, by omega⟩
theorem allV_of {fs : List Fn} (h : checkV fs = (0, 0, 0)) (hok : ∀ f ∈ fs, f.Ok) : AllV fs := by
  obtain ⟨h1, h2, h3⟩ := check_valid h
  exact ⟨⟨h1, h2⟩, h3, hok⟩
theorem root_begins {fs : List Fn} (hA : AllV fs) (L : Bool) {zs : List Int} (hz : ∀ x ∈ zs, okI x) (F : Nat) (hF : F ≤ 4194304) : Begins fs L (startS F) (rootT zs) := by
  refine ⟨args_len _ _ _, rfl, by show 0 + F < _; omega, by cases L <;> rfl, by simp [startS], fun _ => ?_⟩
  have hl := hA.len
  refine ⟨args_len _ _ _, rfl, args_ok hz _ _, fun x hx => by simp [enterT, rootT] at hx; subst hx; simp [okI], ?_, ?_, by simp [enterT, rootT, okI], by simp [enterT, rootT], ?_, ?_, ?_, ?_⟩
  · show (0 : Int) ≤ 0 ∧ (0 : Int) < fs.length
    omega
  · show (0 : Int) ≤ 0 ∧ (0 : Int) + (F : Int) ≤ 8388608
    omega
  · show (0 : Int) ≤ 0 ∧ (0 : Int) + (F : Int) ≤ 8388608
    omega
  · show (0 : Int) ≤ 0 ∧ (0 : Int) + (F : Int) ≤ 8388608
    omega
  · show (0 : Int) ≤ 0 ∧ (0 : Int) + (F : Int) ≤ 8388608
    omega
  · show (0 : Int) ≤ ((0 : Nat) : Int) ∧ ((0 : Nat) : Int) ≤ 8388608
    omega
theorem root_le {fs : List Fn} (hA : AllV fs) {zs : List Int} (h : ((zs.length : Int)) = parV fs 0) : zs.length ≤ 8 := by
  obtain ⟨f, hf, hm, _, hV, _⟩ := hA.fn (k := 0) (by have := hA.len; omega)
  have hp : parV fs 0 = f.params := by
    have : fs[0]? = some f := by simpa using hf
    simp [parV, this]
  have := (valid_bounds hV).1
  omega
theorem three_boxes (w : World) (c1 c2 c3 : Array Value) (t1 t2 t3 : TypeId) : (((w.alloc (.cells c1 t1)).alloc (.cells c2 t2)).alloc (.cells c3 t3)).heap[w.heap.size]? = some (.cells c1 t1 (0, 0)) ∧ (((w.alloc (.cells c1 t1)).alloc (.cells c2 t2)).alloc (.cells c3 t3)).heap[w.heap.size + 1]? = some (.cells c2 t2 (0, 0)) ∧ (((w.alloc (.cells c1 t1)).alloc (.cells c2 t2)).alloc (.cells c3 t3)).heap[w.heap.size + 2]? = some (.cells c3 t3 (0, 0)) := by
  obtain ⟨h1, h2⟩ := two_boxes w c1 c2 t1 t2
  have hk := Keeps.alloc None ((w.alloc (.cells c1 t1)).alloc (.cells c2 t2)) (.cells c3 t3)
  refine ⟨blk_kept h1 hk (fun f => f), blk_kept h2 hk (fun f => f), ?_⟩
  have := heap_alloc_new ((w.alloc (.cells c1 t1)).alloc (.cells c2 t2)) (.cells c3 t3)
  simpa using this
set_option maxHeartbeats 2000000 in
theorem eval_any (a : Option Addr) (n c : Nat) (l : List Fn) (aa : Option Addr) (an ac : Nat) (zs : List Int) (fuel : Int) (w : World) (hT : Tabs w) (hS : SeenF w a n l) (hok : ∀ f ∈ l, f.Ok) (hZ : SeenA w aa an zs) (hZ2 : an ≤ 9223372036854775807) (hfu : okI fuel) :
    Calls Tryd.prog 10 #[.agg #[.slice a n c], .slice aa an ac, .int .i64 fuel] w fun e w' => e = .returned (.tuple #[.agg (valC (evalV l zs fuel).1), .int .i64 (evalV l zs fuel).2]) ∧ Keeps None w w' := by
  have hmf : ∀ (fn : Go.Fn) (first cap : Array Value) (w : World), (Instr.makeFunc fn first cap).run Tryd.prog w = .ok (.func fn first cap) w := fun _ _ _ _ => rfl
  obtain ⟨B, hB⟩ : ∃ B, B = w.heap.size := ⟨_, rfl⟩
  obtain ⟨b1, b2, b3⟩ := three_boxes w #[.slice a n c] #[.int .i64 0, .int .i64 0, .int .i64 0, .int .i64 0, .int .i64 0] #[.int .i64 0] 24 28 29
  have hk3 : Keeps None w (((w.alloc (.cells #[.slice a n c] 24)).alloc (.cells #[.int .i64 0, .int .i64 0, .int .i64 0, .int .i64 0, .int .i64 0] 28)).alloc (.cells #[.int .i64 0] 29)) := (((Keeps.refl _ w).andAlloc _).andAlloc _).andAlloc _
  obtain ⟨W, hW⟩ : ∃ W, W = ((w.alloc (.cells #[.slice a n c] 24)).alloc (.cells #[.int .i64 0, .int .i64 0, .int .i64 0, .int .i64 0, .int .i64 0] 28)).alloc (.cells #[.int .i64 0] 29) := ⟨_, rfl⟩
  rw [← hW, ← hB] at b1 b2 b3
  rw [← hW] at hk3
  have hck := scheck_any a n c l aa an ac zs fuel W (hT.more hk3) (hS.more hk3) hok hZ.len hZ2 hfu
  have d0 : W.cell? ⟨B, 0, none⟩ = some (.slice a n c) := (blk_cell b1 0).trans rfl
  have HX : Hid (B = w.heap.size ∧ Keeps None w W ∧ W.heap[B]? = some (.cells #[.slice a n c] 24 (0, 0)) ∧ W.heap[B + 1]? = some (.cells (valC zeroVal) 28 (0, 0)) ∧ W.heap[B + 2]? = some (.cells #[.int .i64 0] 29 (0, 0)) ∧ SeenF w a n l ∧ (∀ f ∈ l, f.Ok) ∧ SeenA w aa an zs) := ⟨hB, hk3, b1, b2, b3, hS, hok, hZ⟩
  by_cases hr0 : refusedV l zs fuel = 0
  · rw [if_pos hr0] at hck
    obtain ⟨hcz, hpz, hf0, hf1⟩ := refused_zero hr0
    have hA := allV_of hcz hok
    obtain ⟨F, rfl⟩ := Int.eq_ofNat_of_zero_le hf0
    have hz8 := root_le hA hpz
    have hBg := root_begins hA false hZ.ok F (by omega)
    have hev : evalV l zs (F : Int) = (match runV l false zs F with
      | .gave e => (zeroVal, e)
      | .done v sp s => (⟨v, (F : Int) - s.fuel, s.tasks, s.depth, sp⟩, 0)) := by
      unfold evalV
      rw [if_neg (by simpa using hr0)]
      rfl
    have hpl := fun (R : Nat) (wx : World) (hRx : w.heap.size ≤ R) (hkx : Keeps None w wx) (hrx : IsRn wx R (.slice a n c) false (startS F) (.slice none 0 0)) => play_any l hA false a n c w R F (F + 1) (startS F) (rootT zs) (.slice none 0 0) wx (Nat.lt_succ_self _) (Nat.le_refl _) hrx ⟨hS, hkx, hRx, fun g e => by simp [Value.ownBlock] at e⟩ hBg
    have hrt := fun (wx : World) (hkx : Keeps None w wx) => root_any aa an ac zs wx (hZ.more hkx) (by have := hZ.len; omega)
    have hdn : ∀ v sp s, runV l false zs F = .done v sp s → s.fuel ≤ F ∧ s.tasks ≤ 8388608 := by
      intro v sp s e
      obtain ⟨_, _, _, h4, h5, _⟩ := child_done hA hBg rfl e
      exact ⟨h4, by have := h5.tasks; omega⟩
    have HPL : Hid (∀ (R : Nat) (wx : World) (hRx : w.heap.size ≤ R) (hkx : Keeps None w wx) (hrx : IsRn wx R (.slice a n c) false (startS F) (.slice none 0 0)), Calls Tryd.prog 25 #[.pointer (some ⟨R, 0, none⟩), tkV (rootT zs)] wx (PlaysTo R (.slice a n c) false (.slice none 0 0) wx (runV l false zs F))) := hpl
    have HRT : Hid _ := hrt
    have HEV : Hid _ := hev
    have HDN : Hid _ := hdn
    clear hpl hrt hev hdn hBg hz8 hA hcz hpz hr0 hT hS hok hZ hk3 b1 b2 b3
    obtain ⟨EV, hEV⟩ : ∃ EV, EV = evalV l zs (F : Int) := ⟨_, rfl⟩
    rw [← hEV] at HEV ⊢
    clear hEV
    generalize runV l false zs F = rr at *
    unfold tkV at HPL HRT
    generalize Value.agg (ints ((rootT zs).l 0 0 0)).toArray = tv at *
    go_enter_defers Tryd.func10, Tryd.ntmps10
    go_upto_region 2 with fail
    rw [← hW, ← hB]
    clear hW hB
    go_upto_region 3 with (go_at_call 24; refine hck.mono ?_; rintro _ w3 ⟨rfl, hk3⟩)
    have e0 := hk3.cell d0 (fun f => f)
    have hkw3 : Keeps None w w3 := HX.out.2.1.trans hk3 (fun _ f _ => f)
    have hal := Keeps.alloc None w3 (.cells #[.slice a n c, .int .i64 F, .int .i64 0, .int .i64 0, .bool false, .slice none 0 0] 57)
    have bR := heap_alloc_new w3 (.cells #[.slice a n c, .int .i64 F, .int .i64 0, .int .i64 0, .bool false, .slice none 0 0] 57)
    obtain ⟨V, hV⟩ : ∃ V, V = w3.alloc (.cells #[.slice a n c, .int .i64 F, .int .i64 0, .int .i64 0, .bool false, .slice none 0 0] 57) := ⟨_, rfl⟩
    obtain ⟨R, hR⟩ : ∃ R, R = w3.heap.size := ⟨_, rfl⟩
    rw [← hV] at hal bR
    rw [← hR] at bR
    have hRw : w.heap.size ≤ R := by rw [hR]; exact hkw3.size
    have hRB : B + 2 < R := by rw [hR]; exact blk_lt (blk_kept HX.out.2.2.2.2.1 hk3 (fun f => f))
    have hkV := hkw3.trans hal (fun _ f _ => f)
    have hkWV := hk3.trans hal (fun _ f _ => f)
    have hrn : IsRn V R (.slice a n c) false (startS F) (.slice none 0 0) := ⟨bR, ⟨by simp [startS, ndVals], .inl ⟨rfl, rfl⟩⟩⟩
    have HV : Hid (Keeps None w V ∧ Keeps None W V ∧ IsRn V R (.slice a n c) false (startS F) (.slice none 0 0) ∧ w.heap.size ≤ R ∧ B + 2 < R) := ⟨hkV, hkWV, hrn, hRw, hRB⟩
    have hrt := HRT.out V hkV
    clear hck d0 hk3 hkw3 hal bR hRw hRB hkV hkWV hrn
    go_upto_region 4 with fail
    rw [← hV, ← hR]
    clear hV hR e0
    have hpl := fun wx (hx : Keeps None V wx) => HPL.out R wx HV.out.2.2.2.1 (HV.out.1.trans hx (fun _ f _ => f)) (HV.out.2.2.1.kept hx (fun _ _ f => f))
    have HPL2 : Hid _ := hpl
    clear hpl HPL HRT
    cases rr with
    | gave e =>
      go_wp2_with (first | (go_at_call 26; refine hrt.mono ?_; rintro _ w5 ⟨rfl, hk5⟩) | (go_at_call 25; refine (HPL2.out _ hk5).mono ?_; rintro _ w6 ⟨rfl, hk6⟩))
      have hk56 : Keeps (RFoot R (.slice none 0 0)) V w6 := (hk5.mono (T := RFoot R (.slice none 0 0)) (fun _ f _ => f.elim)).trans hk6 (fun _ e _ => e)
      have nf : ∀ k, k < R → ¬ RFoot R (.slice none 0 0) k := fun k hk e => by rcases e with e | e; omega; simp [Value.ownBlock] at e
      refine eout_panic (v := zeroVal) rfl rfl (blk_kept (blk_kept HX.out.2.2.2.1 HV.out.2.1 (fun f => f)) hk56 (nf _ (by have := HV.out.2.2.2.2; omega))) (blk_kept (blk_kept HX.out.2.2.2.2.1 HV.out.2.1 (fun f => f)) hk56 (nf _ (by have := HV.out.2.2.2.2; omega))) (fun w' hk => ?_)
      rw [HEV.out]
      exact ⟨rfl, (HV.out.1.trans hk56 (fun i e hi => by rcases e with e | e; have := HV.out.2.2.2.1; omega; simp [Value.ownBlock] at e)).trans hk (fun i e hi => by have := HX.out.1; omega)⟩
    | done v sp s =>
      go_upto_region 5 with (first | (go_at_call 26; refine hrt.mono ?_; rintro _ w5 ⟨rfl, hk5⟩) | (go_at_call 25; refine (HPL2.out _ hk5).mono ?_; rintro _ w6 ⟨rfl, nv6, hr6, hk6, hm6⟩))
      have hk56 : Keeps (RFoot R (.slice none 0 0)) V w6 := (hk5.mono (T := RFoot R (.slice none 0 0)) (fun _ f _ => f.elim)).trans hk6 (fun _ e _ => e)
      have nf : ∀ k, k < R → ¬ RFoot R (.slice none 0 0) k := fun k hk e => by rcases e with e | e; omega; simp [Value.ownBlock] at e
      have hp6 := blk_kept (blk_kept HX.out.2.2.2.1 HV.out.2.1 (fun f => f)) hk56 (nf _ (by have := HV.out.2.2.2.2; omega))
      have hq6 := blk_kept (blk_kept HX.out.2.2.2.2.1 HV.out.2.1 (fun f => f)) hk56 (nf _ (by have := HV.out.2.2.2.2; omega))
      have hkw6 : Keeps None w w6 := HV.out.1.trans hk56 (fun i e hi => by rcases e with e | e; have := HV.out.2.2.2.1; omega; simp [Value.ownBlock] at e)
      obtain ⟨q1, q2⟩ := HDN.out v sp s rfl
      have g1 : w6.cell? ⟨R, 1, none⟩ = some (.int .i64 s.fuel) := (blk_cell hr6.blk 1).trans rfl
      have g2 : w6.cell? ⟨R, 2, none⟩ = some (.int .i64 s.tasks) := (blk_cell hr6.blk 2).trans rfl
      have g3 : w6.cell? ⟨R, 3, none⟩ = some (.int .i64 s.depth) := (blk_cell hr6.blk 3).trans rfl
      have i1 : (s.fuel : Int) ≤ (F : Int) := by omega
      unfold valC zeroVal at hp6
      have v0 : w6.cell? ⟨B + 1, 0, none⟩ = some (.int .i64 0) := (blk_cell hp6 0).trans rfl
      have v1 : w6.cell? ⟨B + 1, 1, none⟩ = some (.int .i64 0) := (blk_cell hp6 1).trans rfl
      have v2 : w6.cell? ⟨B + 1, 2, none⟩ = some (.int .i64 0) := (blk_cell hp6 2).trans rfl
      have v3 : w6.cell? ⟨B + 1, 3, none⟩ = some (.int .i64 0) := (blk_cell hp6 3).trans rfl
      have v4 : w6.cell? ⟨B + 1, 4, none⟩ = some (.int .i64 0) := (blk_cell hp6 4).trans rfl
      have z0 := blk_free hp6 0
      have z1 := blk_free hp6 1
      have z2 := blk_free hp6 2
      have z3 := blk_free hp6 3
      have z4 := blk_free hp6 4
      have u0 : w6.cell? ⟨B + 2, 0, none⟩ = some (.int .i64 0) := (blk_cell hq6 0).trans rfl
      have u1 := blk_free hq6 0
      have n1 : R ≠ B + 1 := by have := HV.out.2.2.2.2; omega
      have n2 : R ≠ B + 2 := by have := HV.out.2.2.2.2; omega
      obtain ⟨w7, hw7⟩ : ∃ w7, w7 = (((((w6.setCell ⟨B + 1, 0, none⟩ (.int .i64 v)).setCell ⟨B + 1, 1, none⟩ (.int .i64 ((F : Int) - s.fuel))).setCell ⟨B + 1, 2, none⟩ (.int .i64 s.tasks)).setCell ⟨B + 1, 3, none⟩ (.int .i64 s.depth)).setCell ⟨B + 1, 4, none⟩ (.int .i64 sp)) := ⟨_, rfl⟩
      have bV : w7.heap[B + 1]? = some (.cells (valC ⟨v, (F : Int) - s.fuel, s.tasks, s.depth, sp⟩) 28 (0, 0)) := by
        rw [hw7, blk_set (blk_set (blk_set (blk_set (blk_set hp6 _) _) _) _) _]
        rfl
      have k7 : Keeps (· = B + 1) w6 w7 := by
        rw [hw7]
        exact (((((Keeps.refl (· = B + 1) w6).andSet (x := ⟨B + 1, 0, none⟩) (.inl rfl) _).andSet (x := ⟨B + 1, 1, none⟩) (.inl rfl) _).andSet (x := ⟨B + 1, 2, none⟩) (.inl rfl) _).andSet (x := ⟨B + 1, 3, none⟩) (.inl rfl) _).andSet (x := ⟨B + 1, 4, none⟩) (.inl rfl) _
      have bE := blk_kept hq6 k7 (by omega)
      have k8 := Keeps.setCell (S := (· = B + 2)) w7 (a := ⟨B + 2, 0, none⟩) rfl (.int .i64 0)
      have bV8 := blk_kept bV k8 (by omega)
      have bE8 : (w7.setCell ⟨B + 2, 0, none⟩ (.int .i64 0)).heap[B + 2]? = some (.cells #[.int .i64 0] 29 (0, 0)) := by rw [blk_set bE]; rfl
      have kk : Keeps None w (w7.setCell ⟨B + 2, 0, none⟩ (.int .i64 0)) := (hkw6.trans k7 (fun i e hi => by have := HX.out.1; omega)).trans k8 (fun i e hi => by have := HX.out.1; omega)
      rw [hw7] at bV8 bE8 kk
      have H8 : Hid _ := And.intro bV8 (And.intro bE8 kk)
      clear hw7 bV k7 bE k8 bV8 bE8 kk hp6 hq6 hkw6 hk56 nf hk5 hk6 hr6 hm6 hrt
      go_wp2_with fail
      refine eout_ret (v := ⟨v, (F : Int) - s.fuel, s.tasks, s.depth, sp⟩) rfl rfl H8.out.1 H8.out.2.1 (fun w' hk => ?_)
      rw [HEV.out]
      exact ⟨rfl, H8.out.2.2.trans hk (fun i e hi => by have := HX.out.1; omega)⟩
  · rw [if_neg hr0] at hck
    have hev : evalV l zs fuel = (zeroVal, refusedV l zs fuel) := by
      unfold evalV
      rw [if_pos hr0]
    rw [hev]
    generalize refusedV l zs fuel = er at *
    clear hr0 hT hS hok hZ hk3 b1 b2 b3 hev
    go_enter_defers Tryd.func10, Tryd.ntmps10
    go_upto_region 2 with fail
    rw [← hW, ← hB]
    clear hW hB
    go_wp2_with (go_at_call 24; refine hck.mono ?_; rintro _ w3 ⟨rfl, hk3⟩)
    exact eout_panic (v := zeroVal) rfl rfl (blk_kept HX.out.2.2.2.1 hk3 (fun f => f)) (blk_kept HX.out.2.2.2.2.1 hk3 (fun f => f)) (fun w' hk => ⟨rfl, (HX.out.2.1.trans hk3 (fun _ f _ => f)).trans hk (fun i e hi => by have := HX.out.1; omega)⟩)
end Go.Proofs.YtocfcdnbielbiaaDoor
/-! A run that keeps its nodes comes to what one that does not comes to. -/
namespace Go.Proofs.YtocfcdnbielbiaaDoor
set_option linter.unusedVariables false
set_option maxRecDepth 20000
open Go.RowKit Go.PlainOps

def Rn.bare (s : Rn) : Rn := { s with nodes := [] }
def Res.bare : Res → Res
  | .gave e => .gave e
  | .done v sp s => .done v sp s.bare
theorem loop_bare (fs : List Fn) : ∀ (g : Nat) (s : Rn) (t : Tk) (at_ : Nat), loopV fs false g s.bare t at_ = (loopV fs true g s t at_).bare
  | 0, s, t, at_ => rfl
  | g + 1, s, t, at_ => by
    have hp : payS s.bare = (payS s).bare := rfl
    have he : ∀ (s : Rn) (c : Tk), enterS false s.bare c = (enterS true s c).bare := fun s c => rfl
    have ht : ∀ (s : Rn) (c : Tk), enterT s.bare c = enterT s c := fun s c => rfl
    have hl : ∀ (s : Rn) (c : Tk), leaveS false s.bare c = (leaveS true s c).bare := fun s c => rfl
    conv => lhs; unfold loopV
    conv => rhs; unfold loopV
    have hf : s.bare.fuel = s.fuel := rfl
    rw [hf, hp]
    by_cases h0 : s.fuel = 0
    · rw [if_pos h0, if_pos h0]; rfl
    · rw [if_neg h0, if_neg h0]
      cases hc : (codeOf fs t.node.func)[at_]? with
      | none => rfl
      | some i =>
        simp only
        by_cases k3 : i.kind = 3
        · rw [if_pos k3, if_pos k3]; exact loop_bare fs g _ _ _
        · rw [if_neg k3, if_neg k3]
          by_cases k4 : i.kind = 4
          · rw [if_pos k4, if_pos k4]; exact loop_bare fs g _ _ _
          · rw [if_neg k4, if_neg k4]
            by_cases k5 : i.kind = 5
            · rw [if_pos k5, if_pos k5]
              by_cases hd : 4096 < (childV fs (payT t) i).depth
              · rw [if_pos hd, if_pos hd]; rfl
              · rw [if_neg hd, if_neg hd, he, ht, loop_bare fs g]
                cases loopV fs true g (enterS true (payS s) (childV fs (payT t) i)) (enterT (payS s) (childV fs (payT t) i)) 0 with
                | gave e => rfl
                | done v sp s2 => exact loop_bare fs g _ _ _
            · rw [if_neg k5, if_neg k5]
              by_cases k6 : i.kind = 6
              · rw [if_pos k6, if_pos k6]; exact loop_bare fs g _ _ _
              · rw [if_neg k6, if_neg k6]
                by_cases k9 : i.kind = 9
                · rw [if_pos k9, if_pos k9, hl]; rfl
                · rw [if_neg k9, if_neg k9]; exact loop_bare fs g _ _ _
theorem run_bare' (fs : List Fn) (zs : List Int) (F : Nat) : runV fs false zs F = (runV fs true zs F).bare := by
  unfold runV playV
  by_cases hd : 4096 < (rootT zs).depth
  · rw [if_pos hd, if_pos hd]; rfl
  · rw [if_neg hd, if_neg hd]
    exact loop_bare fs (F + 1) (enterS true (startS F) (rootT zs)) (enterT (startS F) (rootT zs)) 0
/-- Tree: the nodes. -/
def treeV (fs : List Fn) (zs : List Int) (fuel : Int) : List Nd := match runV fs true zs fuel.toNat with
  | .gave _ => []
  | .done _ _ s => s.nodes
/-- A run is given up for want of fuel, or too deep. -/
theorem loop_gave {fs : List Fn} (hA : AllV fs) (L : Bool) : ∀ (g : Nat) (s : Rn) (t : Tk) (at_ : Nat), s.In L → t.In fs s.fuel → at_ < (codeOf fs t.node.func).length → ∀ e, loopV fs L g s t at_ = .gave e → e = 62 ∨ e = 63
  | 0, s, t, at_, hs, ht, hat, e, h => by
    simp [loopV] at h
    exact .inl h.symm
  | g + 1, s, t, at_, hs, ht, hat, e, h => by
    by_cases h0 : s.fuel = 0
    · rw [loop_out h0] at h
      injection h with h
      exact .inl h.symm
    · obtain ⟨m, hm⟩ : ∃ m, s.fuel = m + 1 := ⟨s.fuel - 1, by omega⟩
      have hpf : (payS s).fuel = m := by simp [payS, hm]
      obtain ⟨f, hf, _, hcf, hV, hok⟩ := hA.fn ht.func
      have hat' := hat
      rw [hcf] at hat'
      obtain ⟨i, hi⟩ : ∃ i, f.code[at_]? = some i := ⟨f.code[at_]'hat', by simp⟩
      have hic : (codeOf fs t.node.func)[at_]? = some i := by rw [hcf]; exact hi
      have so := step_ok hV hi
      have hik := (hok.code i (List.mem_of_getElem? hi)).k
      have ht' := ht
      rw [hm] at ht'
      have hnl : i.kind ≠ 3 → i.kind ≠ 9 → at_ + 1 < (codeOf fs t.node.func).length := fun h3 h9 => by rw [hcf]; exact so.next h3 h9
      have hcases : i.kind = 3 ∨ i.kind = 4 ∨ i.kind = 5 ∨ i.kind = 6 ∨ i.kind = 9 ∨ (i.kind = 0 ∨ i.kind = 1 ∨ i.kind = 2 ∨ i.kind = 7 ∨ i.kind = 8) := by have := so.kind; omega
      rcases hcases with hk | hk | hk | hk | hk | hk
      · rw [loop_jump h0 hic hk] at h
        exact loop_gave hA L g _ _ _ hs.pay (by rw [hpf]; exact ht'.pay) (by show _ < (codeOf fs t.node.func).length; rw [hcf]; have := so.jump hk; omega) e h
      · rw [loop_branch h0 hic hk] at h
        exact loop_gave hA L g _ _ _ hs.pay (by rw [hpf]; exact ht'.pay) (by show _ < (codeOf fs t.node.func).length; have := hnl (by omega) (by omega); rw [hcf] at this ⊢; have := so.branch hk; split <;> omega) e h
      · rw [loop_spawn h0 hic hk] at h
        have hBg := child_begins hs ht h0 so hk
        cases hp : playV fs L g (payS s) (childV fs (payT t) i) with
        | gave e' =>
          rw [hp] at h
          injection h with h
          subst h
          unfold playV at hp
          by_cases hd : 4096 < (childV fs (payT t) i).depth
          · rw [if_pos hd] at hp
            injection hp with hp
            exact .inr hp.symm
          · rw [if_neg hd] at hp
            have hti := hBg.tin hd
            obtain ⟨f2, _, _, hc2, hV2, _⟩ := hA.fn hti.func
            exact loop_gave hA L g _ _ 0 (hBg.sin hd) hti (by rw [hc2]; have := (valid_bounds hV2).2.2.2; omega) _ hp
        | done v sp s2 =>
          rw [hp] at h
          obtain ⟨d1, d2, d3, d4, d5, d6⟩ := child_done hA hBg rfl hp
          exact loop_gave hA L g _ _ _ d5 (ht'.got d1 d2 (by omega)) (by show _ < (codeOf fs t.node.func).length; exact hnl (by omega) (by omega)) e h
      · rw [loop_sync h0 hic hk] at h
        exact loop_gave hA L g _ _ _ hs.pay (by rw [hpf]; exact ht'.wait) (by show _ < (codeOf fs t.node.func).length; exact hnl (by omega) (by omega)) e h
      · rw [loop_ret h0 hic hk] at h
        cases h
      · rw [loop_comp h0 hic hk] at h
        have en : (computeT (payT t) i).node = (payT t).node := by
          unfold computeT setR
          repeat' split
          all_goals rfl
        exact loop_gave hA L g _ _ _ hs.pay (by rw [hpf]; exact ht'.pay.compute i hik) (by rw [en]; show _ < (codeOf fs t.node.func).length; exact hnl (by omega) (by omega)) e h
theorem gave_ne {fs : List Fn} (hA : AllV fs) {L : Bool} {g : Nat} {s : Rn} {t : Tk} {e : Int} (hB : Begins fs L s t) (h : playV fs L g s t = .gave e) : e ≠ 0 := by
  unfold playV at h
  by_cases hd : 4096 < t.depth
  · rw [if_pos hd] at h; injection h with h; omega
  · rw [if_neg hd] at h
    have hti := hB.tin hd
    obtain ⟨f, _, _, hc, hV, _⟩ := hA.fn hti.func
    have := loop_gave hA L g _ _ 0 (hB.sin hd) hti (by rw [hc]; have := (valid_bounds hV).2.2.2; omega) e h
    omega
end Go.Proofs.YtocfcdnbielbiaaDoor
/-! The sizes of a run that ends, plainly. -/
namespace Go.Proofs.YtocfcdnbielbiaaDoor
set_option linter.unusedVariables false
set_option maxRecDepth 20000
open Go.RowKit Go.PlainOps

structure Sizes (s : Rn) (t : Tk) (sp : Int) (s' : Rn) : Prop where
  work : s'.fuel + s'.tasks + 1 ≤ s.fuel + s.tasks
  tasks : s.tasks ≤ s'.tasks
  depth : s.depth ≤ s'.depth
  few : s'.depth + s.tasks ≤ s.depth + s'.tasks
  more : s.tasks < s'.tasks → t.depth + 1 ≤ s'.depth
  span : t.span + 1 ≤ sp
  due : t.due ≤ sp
  deep : s'.depth ≤ imax s.depth (t.depth + sp - 1)
  alone : s'.tasks = s.tasks → t.due ≤ t.span → sp + s'.fuel = t.span + s.fuel
theorem along_next {fs : List Fn} {f : Fn} {at_ : Nat} {sl : List Int} {i : Ins} (hV : Valid fs f) (h : Along f (at_ : Int) sl) (hi : f.code[at_]? = some i) (turn : Bool) (h9 : i.kind ≠ 9) : Along f (stepAt i at_ turn) (stepSl i sl) := along_step hV h (by simpa using hi) turn h9
theorem loop_sizes {fs : List Fn} (hA : AllV fs) (L : Bool) : ∀ (g : Nat) (s : Rn) (t : Tk) (at_ : Nat) (f : Fn) (sl : List Int), s.In L → t.In fs s.fuel → fs[t.node.func.toNat]? = some f → Along f (at_ : Int) sl → ((1 : Int) ∈ sl ∨ t.due ≤ t.span) → t.depth ≤ s.depth →
    ∀ v sp s', loopV fs L g s t at_ = .done v sp s' → Sizes s t sp s'
  | 0, s, t, at_, f, sl, hs, ht, hf, hal, hpd, hdp, v, sp, s', h => by simp [loopV] at h
  | g + 1, s, t, at_, f, sl, hs, ht, hf, hal, hpd, hdp, v, sp, s', h => by
    have h0 : s.fuel ≠ 0 := fun h0 => by rw [loop_out h0] at h; cases h
    obtain ⟨m, hm⟩ : ∃ m, s.fuel = m + 1 := ⟨s.fuel - 1, by omega⟩
    have hpf : (payS s).fuel = m := by simp [payS, hm]
    have hpt : (payS s).tasks = s.tasks := rfl
    have hpd' : (payS s).depth = s.depth := rfl
    have hcf : codeOf fs t.node.func = f.code := code_of f hf
    have hV := hA.all f (List.mem_of_getElem? hf)
    have hok := hA.ok f (List.mem_of_getElem? hf)
    have hatl : at_ < f.code.length := by have := hal.a1; omega
    obtain ⟨i, hi⟩ : ∃ i, f.code[at_]? = some i := ⟨f.code[at_]'hatl, by simp⟩
    have hic : (codeOf fs t.node.func)[at_]? = some i := by rw [hcf]; exact hi
    have so := step_ok hV hi
    have hik := (hok.code i (List.mem_of_getElem? hi)).k
    have ht' := ht
    rw [hm] at ht'
    have tsp := ht.span
    have tdu := ht.due
    have hcases : i.kind = 3 ∨ i.kind = 4 ∨ i.kind = 5 ∨ i.kind = 6 ∨ i.kind = 9 ∨ (i.kind = 0 ∨ i.kind = 1 ∨ i.kind = 2 ∨ i.kind = 7 ∨ i.kind = 8) := by have := so.kind; omega
    have psp : (payT t).span = t.span + 1 := rfl
    have pdu : (payT t).due = t.due := rfl
    have pdp : (payT t).depth = t.depth := rfl
    have low : ∀ {t1 : Tk}, t1.span = t.span + 1 → t1.due = t.due → t1.depth = t.depth → Sizes (payS s) t1 sp s' → Sizes s t sp s' := by
      intro t1 e1 e2 e3 z
      obtain ⟨z1, z2, z3, z4, z5, z6, z7, z8, z9⟩ := z
      refine ⟨by omega, by omega, by omega, by omega, fun h => by have := z5 (by omega); omega, by omega, by omega, by rw [hpd', e3] at z8; exact z8, fun h1 h2 => ?_⟩
      have := z9 (by omega) (by omega)
      omega
    rcases hcases with hk | hk | hk | hk | hk | hk
    · rw [loop_jump h0 hic hk] at h
      have hn := along_next hV hal hi false (by omega)
      have e1 : stepAt i (at_ : Int) false = ((i.a.toNat : Nat) : Int) := by unfold stepAt; rw [if_pos hk]; have := (so.jump hk).1; omega
      have e2 : stepSl i sl = sl := by unfold stepSl; rw [if_neg (by omega), if_neg (by omega)]
      rw [e1, e2] at hn
      exact low (t1 := payT t) rfl rfl rfl (loop_sizes hA L g (payS s) (payT t) _ f sl hs.pay (by rw [hpf]; exact ht'.pay) hf hn (by rcases hpd with h | h; exact .inl h; exact .inr (by rw [psp, pdu]; omega)) hdp v sp s' h)
    · rw [loop_branch h0 hic hk] at h
      have e2 : stepSl i sl = sl := by unfold stepSl; rw [if_neg (by omega), if_neg (by omega)]
      have hn : Along f (((if t.regs.getD i.a.toNat 0 = 0 then at_ + 1 else i.b.toNat : Nat)) : Int) sl := by
        by_cases hx : t.regs.getD i.a.toNat 0 = 0
        · rw [if_pos hx]
          have hn := along_next hV hal hi false (by omega)
          rw [e2] at hn
          have e1 : stepAt i (at_ : Int) false = ((at_ + 1 : Nat) : Int) := by unfold stepAt; rw [if_neg (by omega), if_neg (by simp)]; omega
          rw [e1] at hn
          exact hn
        · rw [if_neg hx]
          have hn := along_next hV hal hi true (by omega)
          rw [e2] at hn
          have e1 : stepAt i (at_ : Int) true = ((i.b.toNat : Nat) : Int) := by unfold stepAt; rw [if_neg (by omega), if_pos ⟨hk, rfl⟩]; have := (so.branch hk).1; omega
          rw [e1] at hn
          exact hn
      exact low (t1 := payT t) rfl rfl rfl (loop_sizes hA L g (payS s) (payT t) _ f sl hs.pay (by rw [hpf]; exact ht'.pay) hf hn (by rcases hpd with h | h; exact .inl h; exact .inr (by rw [psp, pdu]; omega)) hdp v sp s' h)
    · rw [loop_spawn h0 hic hk] at h
      have hBg := child_begins hs ht h0 so hk
      cases hp : playV fs L g (payS s) (childV fs (payT t) i) with
      | gave e' => rw [hp] at h; cases h
      | done v1 sp1 s2 =>
        rw [hp] at h
        obtain ⟨d1, d2, d3, d4, d5, d6⟩ := child_done hA hBg rfl hp
        unfold playV at hp
        have hd : ¬ 4096 < (childV fs (payT t) i).depth := fun hd => by rw [if_pos hd] at hp; cases hp
        rw [if_neg hd] at hp
        have hti := hBg.tin hd
        obtain ⟨f2, hf2, _, _, hV2, _⟩ := hA.fn hti.func
        have hG2 := good_of hV2.shape hV2.code
        have cdp : (enterT (payS s) (childV fs (payT t) i)).depth = t.depth + 1 := rfl
        have cs1 : (enterS L (payS s) (childV fs (payT t) i)).depth = imax s.depth (t.depth + 1) := rfl
        have cs2 : (enterS L (payS s) (childV fs (payT t) i)).tasks = s.tasks + 1 := rfl
        have cs3 : (enterS L (payS s) (childV fs (payT t) i)).fuel = m := hpf
        have cs4 : (enterT (payS s) (childV fs (payT t) i)).span = 0 := rfl
        have cs5 : (enterT (payS s) (childV fs (payT t) i)).due = 0 := rfl
        have lm := le_imax s.depth (t.depth + 1)
        have zc := loop_sizes hA L g _ _ 0 f2 (List.replicate 8 0) (hBg.sin hd) hti hf2 (by simpa using along_start hG2 (valid_bounds hV2).2.2.1.1) (.inr (by rw [cs4, cs5]; omega)) (by rw [cdp, cs1]; omega) v1 sp1 s2 hp
        obtain ⟨c1, c2, c3, c4, c5, c6, c7, c8, c9⟩ := zc
        rw [cs2, cs3] at c1
        rw [cs2] at c2 c4 c5
        rw [cs1] at c3 c4 c8
        rw [cs4] at c6
        rw [cdp] at c8
        have hn := along_next hV hal hi false (by omega)
        have e1 : stepAt i (at_ : Int) false = ((at_ + 1 : Nat) : Int) := by unfold stepAt; rw [if_neg (by omega), if_neg (by simp)]; omega
        have e2 : stepSl i sl = sl.set i.a.toNat 1 := by unfold stepSl; rw [if_pos hk]
        rw [e1, e2] at hn
        have hmem : (1 : Int) ∈ sl.set i.a.toNat 1 := by
          have hl := hal.len
          have := (so.slot hk)
          exact List.mem_of_getElem? (i := i.a.toNat) (by rw [List.getElem?_set_self (by omega)])
        have gs1 : (gotT (spawnT (payT t)) i.a.toNat v1 sp1).span = t.span + 1 := rfl
        have gs2 : (gotT (spawnT (payT t)) i.a.toNat v1 sp1).due = imax t.due (t.span + 1 + sp1) := rfl
        have gs3 : (gotT (spawnT (payT t)) i.a.toNat v1 sp1).depth = t.depth := rfl
        have zr := loop_sizes hA L g s2 (gotT (spawnT (payT t)) i.a.toNat v1 sp1) (at_ + 1) f _ d5 (ht'.got d1 d2 (by omega)) hf hn (.inl hmem) (by rw [gs3]; omega) v sp s' h
        obtain ⟨r1, r2, r3, r4, r5, r6, r7, r8, r9⟩ := zr
        rw [gs1] at r6
        rw [gs2] at r7
        rw [gs3] at r5 r8
        have li := le_imax t.due (t.span + 1 + sp1)
        have ix : imax s.depth (t.depth + 1) ≤ s.depth + 1 := imax_le (by omega) (by omega)
        have hfin := le_imax s.depth (t.depth + sp - 1)
        have b1 : imax (imax s.depth (t.depth + 1)) (t.depth + 1 + sp1 - 1) ≤ imax s.depth (t.depth + sp - 1) := imax_le (imax_le (by omega) (by omega)) (by omega)
        exact ⟨by omega, by omega, by omega, by omega, fun _ => by omega, by omega, by omega, Int.le_trans r8 (imax_le (by omega) (by omega)), fun hh _ => by omega⟩
    · rw [loop_sync h0 hic hk] at h
      have hn := along_next hV hal hi false (by omega)
      have e1 : stepAt i (at_ : Int) false = ((at_ + 1 : Nat) : Int) := by unfold stepAt; rw [if_neg (by omega), if_neg (by simp)]; omega
      rw [e1] at hn
      have ws : (waitT (payT t)).span = imax (t.span + 1) (t.due + 1) := rfl
      have wd : (waitT (payT t)).due = t.due := rfl
      have wp : (waitT (payT t)).depth = t.depth := rfl
      have li := le_imax (t.span + 1) (t.due + 1)
      have z := loop_sizes hA L g (payS s) (waitT (payT t)) _ f _ hs.pay (by rw [hpf]; exact ht'.wait) hf hn (.inr (by rw [ws, wd]; omega)) hdp v sp s' h
      obtain ⟨z1, z2, z3, z4, z5, z6, z7, z8, z9⟩ := z
      rw [ws] at z6 z9
      rw [wd] at z7 z9
      rw [wp] at z5 z8
      refine ⟨by omega, by omega, by omega, by omega, fun h => z5 (by omega), by omega, by omega, by rw [hpd'] at z8; exact z8, fun h1 h2 => ?_⟩
      have e : imax (t.span + 1) (t.due + 1) = t.span + 1 := if_neg (by omega)
      rw [e] at z9
      have := z9 (by omega) (by omega)
      omega
    · rw [loop_ret h0 hic hk] at h
      injection h with h1 h2 h3
      have hcl := along_clean hV hal (by simpa using hi)
      have hnp : (1 : Int) ∉ sl := by
        unfold cleanV at hcl
        rw [if_neg (by omega), if_neg (by omega), if_pos hk, List.all_eq_true] at hcl
        intro hm1
        have := hcl 1 hm1
        simp at this
      have hdue : t.due ≤ t.span := by rcases hpd with h | h; exact absurd h hnp; exact h
      have k1 : s'.fuel = m := by rw [← h3]; exact hpf
      have k2 : s'.tasks = s.tasks := by rw [← h3]; rfl
      have k3 : s'.depth = s.depth := by rw [← h3]; rfl
      have := le_imax s.depth (t.depth + sp - 1)
      exact ⟨by omega, by omega, by omega, by omega, fun h => by omega, by omega, by omega, by omega, fun _ _ => by omega⟩
    · rw [loop_comp h0 hic hk] at h
      have en : (computeT (payT t) i).node = (payT t).node ∧ (computeT (payT t) i).span = (payT t).span ∧ (computeT (payT t) i).due = (payT t).due ∧ (computeT (payT t) i).depth = (payT t).depth := by
        unfold computeT setR
        repeat' split
        all_goals exact ⟨rfl, rfl, rfl, rfl⟩
      have hn := along_next hV hal hi false (by omega)
      have e1 : stepAt i (at_ : Int) false = ((at_ + 1 : Nat) : Int) := by unfold stepAt; rw [if_neg (by omega), if_neg (by simp)]; omega
      have e2 : stepSl i sl = sl := by unfold stepSl; rw [if_neg (by omega), if_neg (by omega)]
      rw [e1, e2] at hn
      exact low (by rw [en.2.1]; rfl) (by rw [en.2.2.1]; rfl) (by rw [en.2.2.2]; rfl) (loop_sizes hA L g (payS s) (computeT (payT t) i) _ f sl hs.pay (by rw [hpf]; exact ht'.pay.compute i hik) (by rw [en.1]; exact hf) hn (by rcases hpd with h | h; exact .inl h; exact .inr (by rw [en.2.1, en.2.2.1, psp, pdu]; omega)) (by rw [en.2.2.2]; exact hdp) v sp s' h)
/-- The sizes of a run that ends. -/
theorem eval_sizes {fs : List Fn} {zs : List Int} {fuel : Int} (hok : ∀ f ∈ fs, f.Ok) (hz : ∀ x ∈ zs, okI x) (h : (evalV fs zs fuel).2 = 0) :
    let v := (evalV fs zs fuel).1
    1 ≤ v.depth ∧ v.depth ≤ v.tasks ∧ v.tasks ≤ v.work ∧ v.work ≤ fuel ∧ v.depth ≤ v.span ∧ v.span ≤ v.work ∧ (v.tasks = 1 ↔ v.depth = 1) ∧ (v.tasks ≤ 1 → v.span = v.work) ∧ fuel ≤ 4194304 ∧ 0 ≤ fuel ∧ v.depth ≤ 4096 := by
  have hr0 : refusedV fs zs fuel = 0 := by
    by_cases h1 : refusedV fs zs fuel = 0
    · exact h1
    · unfold evalV at h
      rw [if_pos h1] at h
      exact absurd h h1
  obtain ⟨hcz, hpz, hf0, hf1⟩ := refused_zero hr0
  have hA := allV_of hcz hok
  obtain ⟨F, rfl⟩ := Int.eq_ofNat_of_zero_le hf0
  have hBg := root_begins hA false hz F (by omega)
  have hev : evalV fs zs (F : Int) = (match runV fs false zs F with
    | .gave e => (zeroVal, e)
    | .done v sp s => (⟨v, (F : Int) - s.fuel, s.tasks, s.depth, sp⟩, 0)) := by
    unfold evalV
    rw [if_neg (by simpa using hr0)]
    rfl
  cases hq : runV fs false zs F with
  | gave e =>
    rw [hq] at hev
    rw [hev] at h
    exact absurd h (gave_ne hA hBg hq)
  | done v sp s =>
    rw [hq] at hev
    rw [hev]
    obtain ⟨d1, d2, d3, d4, d5, d6⟩ := child_done hA hBg rfl hq
    unfold runV playV at hq
    have hd : ¬ 4096 < (rootT zs).depth := by simp [rootT]
    rw [if_neg hd] at hq
    have hti := hBg.tin hd
    obtain ⟨f, hf, _, _, hV, _⟩ := hA.fn hti.func
    have hG := good_of hV.shape hV.code
    have z := loop_sizes hA false (F + 1) _ _ 0 f (List.replicate 8 0) (hBg.sin hd) hti hf (by simpa using along_start hG (valid_bounds hV).2.2.1.1) (.inr (by show (0 : Int) ≤ 0; omega)) (by show (1 : Int) ≤ imax 0 1; decide) v sp s hq
    obtain ⟨z1, z2, z3, z4, z5, z6, z7, z8, z9⟩ := z
    have k1 : (enterS false (startS F) (rootT zs)).tasks = 1 := rfl
    have k2 : (enterS false (startS F) (rootT zs)).fuel = F := rfl
    have k3 : (enterS false (startS F) (rootT zs)).depth = 1 := rfl
    have k4 : (enterT (startS F) (rootT zs)).span = 0 := rfl
    have k5 : (enterT (startS F) (rootT zs)).due = 0 := rfl
    have k6 : (enterT (startS F) (rootT zs)).depth = 1 := rfl
    have k7 : (startS F).fuel = F := rfl
    rw [k1, k2] at z1
    rw [k1] at z2 z4 z5 z9
    rw [k3] at z3 z4 z8
    rw [k4] at z6 z9
    rw [k5] at z9
    rw [k6] at z5 z8
    rw [k2] at z9
    rw [k7] at d3 d4
    have l8 : imax (1 : Int) (1 + sp - 1) ≤ sp := imax_le (by omega) (by omega)
    have d5d := d5.depth
    show 1 ≤ s.depth ∧ s.depth ≤ (s.tasks : Int) ∧ (s.tasks : Int) ≤ (F : Int) - s.fuel ∧ (F : Int) - s.fuel ≤ F ∧ s.depth ≤ sp ∧ sp ≤ (F : Int) - s.fuel ∧ ((s.tasks : Int) = 1 ↔ s.depth = 1) ∧ ((s.tasks : Int) ≤ 1 → sp = (F : Int) - s.fuel) ∧ (F : Int) ≤ 4194304 ∧ (0 : Int) ≤ F ∧ s.depth ≤ 4096
    refine ⟨by omega, by omega, by omega, by omega, by omega, by omega, ⟨fun e => by omega, fun e => ?_⟩, fun e => ?_, by omega, by omega, by omega⟩
    · by_cases ht : 1 < s.tasks
      · have := z5 ht
        omega
      · omega
    · have := z9 (by omega) (by omega)
      omega
theorem eval_not {fs : List Fn} {zs : List Int} {fuel : Int} (h : (evalV fs zs fuel).2 ≠ 0) : (evalV fs zs fuel).1 = zeroVal := by
  unfold evalV at h ⊢
  by_cases h1 : refusedV fs zs fuel ≠ 0
  · rw [if_pos h1]
  · rw [if_neg h1] at h ⊢
    cases hq : runV fs false zs fuel.toNat with
    | gave e => rfl
    | done v sp s => rw [hq] at h; exact absurd rfl h
end Go.Proofs.YtocfcdnbielbiaaDoor
