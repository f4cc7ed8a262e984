import Derived.Test.YtcjmceedkfjbeaaDoorPgEnc
/-! Decode: what it catches; a wrong sum. -/
namespace Go.Proofs.YtcjmceedkfjbeaaDoor
set_option linter.unusedVariables false
set_option maxRecDepth 20000
open Go.RowKit Go.HeapKit

/-- The two results of Decode in memory. -/
structure IsOut (w : World) (p q : Nat) (v : Value) (e : Int) : Prop where
  prog : w.heap[p]? = some (.cells #[v] 25 (0, 0))
  err : w.heap[q]? = some (.cells #[.int .i64 e] 26 (0, 0))
theorem IsOut.set {w : World} {p q : Nat} {v : Value} {e0 : Int} (h : IsOut w p q v e0) (v' : Value) (e : Int) : IsOut ((w.setCell ⟨p, 0, none⟩ v').setCell ⟨q, 0, none⟩ (.int .i64 e)) p q v' e ∧ Keeps (fun k => k = p ∨ k = q) w ((w.setCell ⟨p, 0, none⟩ v').setCell ⟨q, 0, none⟩ (.int .i64 e)) := by
  have npq : p ≠ q := blk_ne h.prog h.err (by decide)
  have h1 := Keeps.setCell (S := (· = p)) w (a := ⟨p, 0, none⟩) rfl v'
  have h2 := Keeps.setCell (S := (· = q)) (w.setCell ⟨p, 0, none⟩ v') (a := ⟨q, 0, none⟩) rfl (.int .i64 e)
  have b1 := blk_set (i := 0) h.prog v'
  have b2 := blk_kept h.err h1 npq.symm
  refine ⟨⟨?_, ?_⟩, (h1.mono (fun _ e _ => .inl e)).trans h2 (fun _ e _ => .inr e)⟩
  · exact blk_kept b1 h2 npq
  · exact blk_set (i := 0) b2 _
theorem IsOut.kept {w w' : World} {p q : Nat} {v : Value} {e0 : Int} (h : IsOut w p q v e0) (hk : Keeps None w w') : IsOut w' p q v e0 := ⟨blk_kept h.prog hk (fun f => f), blk_kept h.err hk (fun f => f)⟩
theorem dcatch_panic (p q : Nat) (v : Value) (e0 e n a : Int) (w : World) (h : IsOut w p q v e0) (he : (e != 0) = true) :
    CallsD Tryd.prog 19 #[.pointer (some ⟨p, 0, none⟩), .pointer (some ⟨q, 0, none⟩)] (.panicking (thrown e n a)) w fun e' u' w' => e' = .returned (.tuple #[]) ∧ u' = .panicking [{ v := .iface 31 (faultV e n a), recovered := true }] ∧
      IsOut w' p q (.slice none 0 0) e ∧ Keeps (fun k => k = p ∨ k = q) w w' := by
  refine callsD_of_wpS Tryd.func19 rfl fun c₀ cs hu => ?_
  unfold thrown at hu
  apply wpS_seq
  apply wpS_region
  simp [wpOpsS, go_sem, recoverD, hu, Tryd.ntmps19]
  refine (caught_fault e n a w).mono ?_
  rintro _ w2 ⟨rfl, hk2⟩
  simp [faultV, go_sem, Exit.thenS]
  refine wpS_of_wp ?_
  have hal := Keeps.alloc None w2 (.cells #[.int .i64 e, .int .i64 n, .int .i64 a] 31)
  have b3 := heap_alloc_new w2 (.cells #[.int .i64 e, .int .i64 n, .int .i64 a] 31)
  obtain ⟨w3, hw3⟩ : ∃ w3, w3 = w2.alloc (.cells #[.int .i64 e, .int .i64 n, .int .i64 a] 31) := ⟨_, rfl⟩
  obtain ⟨X, hX⟩ : ∃ X, X = w2.heap.size := ⟨_, rfl⟩
  rw [← hw3] at hal b3
  rw [← hX] at b3
  rw [← hw3, ← hX]
  have hk3 := hk2.trans hal (fun _ f _ => f)
  have hp3 := blk_kept h.prog hk3 (fun f => f)
  have hq3 := blk_kept h.err hk3 (fun f => f)
  have x0 := (cell_of_heap b3 0).trans rfl
  have p0 := (cell_of_heap hp3 0).trans rfl
  have q0 := (cell_of_heap hq3 0).trans rfl
  have zp := blk_free hp3 0
  have zq := blk_free hq3 0
  have npq : p ≠ q := blk_ne hp3 hq3 (by decide)
  have nxp : X ≠ p := blk_ne b3 hp3 (by decide)
  have nxq : X ≠ q := blk_ne b3 hq3 (by decide)
  have nqp : q ≠ p := npq.symm
  have npx : p ≠ X := nxp.symm
  have nqx : q ≠ X := nxq.symm
  have HK : Hid (Keeps None w w3 ∧ IsOut w3 p q v e0) := ⟨hk3, hp3, hq3⟩
  have he' : ¬ e = 0 := by simpa using he
  clear hw3 hX hal b3 hk3 hp3 hq3 hk2
  generalize hcs : ({ fn := c₀.fn, tmps := c₀.tmps, todo := c₀.todo, defers := c₀.defers, mode := FrameMode.panicking [{ v := Value.iface 31 (Value.agg #[.int .i64 e, .int .i64 n, .int .i64 a]), recovered := true }], kind := c₀.kind, roundOf := c₀.roundOf } :: cs) = cs'
  change Code.wp Tryd.prog _ _ { tmps := #[.pointer (some ⟨p, 0, none⟩), .pointer (some ⟨q, 0, none⟩), .pointer (some ⟨X, 0, none⟩), .iface 31 (.agg #[.int .i64 e, .int .i64 n, .int .i64 a]), .agg #[.int .i64 e, .int .i64 n, .int .i64 a], undef, undef, undef, undef, undef, undef], defers := [] } _
  go_upto_region 2 with fail
  go_region_held3 (fun w' => w'.cell? ⟨X, 0, none⟩ = some (.int .i64 e)) (go_keep) (fail)
  all_goals
    subst hcs
    have hfin := HK.out.2.set (.slice none 0 0) e
    show bodyPostS _ _ _ _ _ _ _ _ _
    simp [bodyPostS, results, Tryd.results19]
    exact ⟨hfin.1.kept (Keeps.drew None _), ((HK.out.1.mono (fun _ f _ => f.elim)).trans hfin.2 (fun _ e _ => e)).andDrew⟩
theorem dcatch_none (p q : Nat) (v : Value) (e0 : Int) (w : World) (h : IsOut w p q v e0) :
    CallsD Tryd.prog 19 #[.pointer (some ⟨p, 0, none⟩), .pointer (some ⟨q, 0, none⟩)] .returning w fun e' u' w' => e' = .returned (.tuple #[]) ∧ u' = .returning ∧ IsOut w' p q v e0 ∧ Keeps None w w' := by
  refine callsD_of_wpS Tryd.func19 rfl fun c₀ cs hu => ?_
  apply wpS_seq
  apply wpS_region
  simp [wpOpsS, go_sem, recoverD, hu, Tryd.ntmps19]
  refine (caught_nil w).mono ?_
  rintro _ w2 ⟨rfl, hk2⟩
  simp [faultV, go_sem, Exit.thenS]
  refine wpS_of_wp ?_
  have hal := Keeps.alloc None w2 (.cells #[.int .i64 0, .int .i64 0, .int .i64 0] 31)
  have b3 := heap_alloc_new w2 (.cells #[.int .i64 0, .int .i64 0, .int .i64 0] 31)
  obtain ⟨w3, hw3⟩ : ∃ w3, w3 = w2.alloc (.cells #[.int .i64 0, .int .i64 0, .int .i64 0] 31) := ⟨_, rfl⟩
  obtain ⟨X, hX⟩ : ∃ X, X = w2.heap.size := ⟨_, rfl⟩
  rw [← hw3] at hal b3
  rw [← hX] at b3
  rw [← hw3, ← hX]
  have hk3 := hk2.trans hal (fun _ f _ => f)
  have x0 := (cell_of_heap b3 0).trans rfl
  have HK : Hid (Keeps None w w3 ∧ IsOut w3 p q v e0) := ⟨hk3, h.kept hk3⟩
  clear hw3 hX hal b3 hk3 hk2
  change Code.wp Tryd.prog _ _ { tmps := #[.pointer (some ⟨p, 0, none⟩), .pointer (some ⟨q, 0, none⟩), .pointer (some ⟨X, 0, none⟩), .nilIface, .agg #[.int .i64 0, .int .i64 0, .int .i64 0], undef, undef, undef, undef, undef, undef], defers := [] } _
  go_wp2_with fail
  show bodyPostS _ _ _ _ _ _ _ _ _
  simp [bodyPostS, results, Tryd.results19]
  exact ⟨.returning, by cases c₀; simp_all, rfl, HK.out.2, HK.out.1⟩
theorem results_two {P : Program} {fn : Func} {q r : Tmp} {t u : TypeId} (h : fn.results = #[.cell q t, .cell r u]) {tmps : Array Value} {w : World} {g k : Nat} (ha : tmps.getD q undef = .pointer (some ⟨g, 0, none⟩)) (hb : tmps.getD r undef = .pointer (some ⟨k, 0, none⟩)) {v x : Value}
    (hl : (loadVar t ⟨g, 0, none⟩).run P w = .ok v w) (hm : (loadVar u ⟨k, 0, none⟩).run P w = .ok x w) : (results fn tmps).run P w = .ok (.tuple #[v, x]) w := by
  have ha' : tmps[q]?.getD undef = .pointer (some ⟨g, 0, none⟩) := by simpa using ha
  have hb' : tmps[r]?.getD undef = .pointer (some ⟨k, 0, none⟩) := by simpa using hb
  simp [results, h, ha', hb', asAddr, hl, hm]
theorem load_out {w : World} {p q : Nat} {v : Value} {e : Int} (h : IsOut w p q v e) : (loadVar 25 ⟨p, 0, none⟩).run Tryd.prog w = .ok (.agg #[v]) w ∧ (loadVar 26 ⟨q, 0, none⟩).run Tryd.prog w = .ok (.int .i64 e) w := by
  refine ⟨run_loadVar_row _ p _ 25 _ _ _ h.prog Tryd.underlying25 rfl (by kernel_rfl), ?_⟩
  have hc : w.cell? ⟨q, 0, none⟩ = some (.int .i64 e) := (cell_of_heap h.err 0).trans rfl
  have hu := Tryd.underlying26
  have ha := Tryd.isAgg26
  have hz := Tryd.sizeOf26
  go_simp
theorem dout_panic {Q : Ending → World → Prop} {tmps : Array Value} {w3 : World} {p q : Nat} {v : Value} {e0 e n x : Int} (ha : tmps.getD 2 undef = .pointer (some ⟨p, 0, none⟩)) (hb : tmps.getD 3 undef = .pointer (some ⟨q, 0, none⟩)) (h : IsOut w3 p q v e0) (he : (e != 0) = true)
    (hQ : ∀ w', Keeps (fun k => k = p ∨ k = q) w3 w' → Q (.returned (.tuple #[.agg #[.slice none 0 0], .int .i64 e])) w') :
    bodyPostD Tryd.prog Tryd.f6 Q (.panic (thrown e n x)) { tmps := tmps, defers := [{ target := .fn (.func 19) #[.pointer (some ⟨p, 0, none⟩), .pointer (some ⟨q, 0, none⟩)], args := #[] }] } w3 := by
  refine leaves_cons (f := 19) (args := #[.pointer (some ⟨p, 0, none⟩), .pointer (some ⟨q, 0, none⟩)]) (by simp) (by simp [go_sem]) ?_
  refine (dcatch_panic p q v e0 e n x w3 h he).mono ?_
  rintro _ u' w4 ⟨rfl, rfl, ho4, hk4⟩
  have hr := results_two (P := Tryd.prog) (fn := Tryd.f6) (q := 2) (r := 3) (t := 25) (u := 26) rfl ha hb (load_out ho4).1 (load_out ho4).2
  simp [Leaves, settle, hr]
  exact hQ w4 hk4
theorem dout_ret {Q : Ending → World → Prop} {tmps : Array Value} {w3 : World} {p q : Nat} {v : Value} {e0 : Int} (ha : tmps.getD 2 undef = .pointer (some ⟨p, 0, none⟩)) (hb : tmps.getD 3 undef = .pointer (some ⟨q, 0, none⟩)) (h : IsOut w3 p q v e0)
    (hQ : ∀ w', Keeps None w3 w' → Q (.returned (.tuple #[.agg #[v], .int .i64 e0])) w') :
    bodyPostD Tryd.prog Tryd.f6 Q .ret { tmps := tmps, defers := [{ target := .fn (.func 19) #[.pointer (some ⟨p, 0, none⟩), .pointer (some ⟨q, 0, none⟩)], args := #[] }] } w3 := by
  refine leaves_cons (f := 19) (args := #[.pointer (some ⟨p, 0, none⟩), .pointer (some ⟨q, 0, none⟩)]) (by simp) (by simp [go_sem]) ?_
  refine (dcatch_none p q v e0 w3 h).mono ?_
  rintro _ u' w4 ⟨rfl, rfl, ho4, hk4⟩
  have hr := results_two (P := Tryd.prog) (fn := Tryd.f6) (q := 2) (r := 3) (t := 25) (u := 26) rfl ha hb (load_out ho4).1 (load_out ho4).2
  simp [Leaves, settle, hr]
  exact hQ w4 hk4
end Go.Proofs.YtcjmceedkfjbeaaDoor
