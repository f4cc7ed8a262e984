import Derived.Test.YtbdpdojeaahpjaaGreatDoorPkAQ
/-! spawn, upon what the play of a child comes to. -/
namespace Go.Proofs.YtbdpdojeaahpjaaGreatDoor
set_option linter.unusedVariables false
set_option maxRecDepth 20000
set_option linter.unusedSimpArgs false
open Go.RowKit Go.HeapKit Go.PlainOps

set_option maxHeartbeats 2000000 in
theorem spawn_done (R X : Nat) (fa : Option Addr) (fn fc : Nat) (L : Bool) (s : Rn) (nv : Value) (at_ : Int) (t : Tk) (ik ia ic iK : Int) (m n b off : Nat) (v sp : Int) (s2 : Rn) (w : World) (h : IsRn w R (.slice fa fn fc) L s nv) (ht : IsTk w X at_ t)
    (hm : m < fn) (hfa : fa = some ⟨b, off, none⟩) (hb : ¬ RFoot R nv b ∧ b ≠ X) (hp : w.cell? ⟨b, off + m * 4, none⟩ = some (.int .i64 n)) (hn : n ≤ 8) (hd : 0 ≤ t.depth ∧ t.depth ≤ 4096) (hsp : 0 ≤ t.spawned ∧ t.spawned ≤ 8388608) (hc : n = 0 ∨ (0 ≤ ic ∧ ic + n ≤ 16)) (a : Nat) (ha : ia = a) (ha8 : a < 8) (hb1 : 0 ≤ t.span ∧ t.span ≤ 8388608) (hb2 : 0 ≤ t.due ∧ t.due ≤ 8388608) (hb3 : 0 ≤ sp ∧ sp ≤ 8388608)
    (hplay : ∀ wx, IsRn wx R (.slice fa fn fc) L s nv → Keeps (· = X) w wx → Calls Tryz.prog 16 #[.pointer (some ⟨R, 0, none⟩), tkV (childP t m ic n)] wx fun e w' => PlaysTo R (.slice fa fn fc) L nv wx (.done v sp s2) e w') :
    Calls Tryz.prog 28 #[.pointer (some ⟨R, 0, none⟩), .pointer (some ⟨X, 0, none⟩), .agg #[.int .i64 ik, .int .i64 ia, .int .i64 m, .int .i64 ic, .int .i64 iK]] w fun e w' => e = .returned (.tuple #[]) ∧ ∃ nv', IsRn w' R (.slice fa fn fc) L s2 nv' ∧ IsTk w' X at_ (gotT (spawnT t) a v sp) ∧ Keeps (fun k => RFoot R nv k ∨ k = X) w w' ∧ Moved w nv nv' := by
  subst hfa
  subst ha
  have hal := Keeps.alloc None w (.cells #[.int .i64 ik, .int .i64 a, .int .i64 m, .int .i64 ic, .int .i64 iK] 37)
  have bI := heap_alloc_new w (.cells #[.int .i64 ik, .int .i64 a, .int .i64 m, .int .i64 ic, .int .i64 iK] 37)
  obtain ⟨W, hW⟩ : ∃ W, W = w.alloc (.cells #[.int .i64 ik, .int .i64 a, .int .i64 m, .int .i64 ic, .int .i64 iK] 37) := ⟨_, rfl⟩
  obtain ⟨I, hI⟩ : ∃ I, I = w.heap.size := ⟨_, rfl⟩
  rw [← hW] at hal bI
  rw [← hI] at bI
  have sW : W.heap.size = I + 1 := by rw [hW, hI]; simp
  have hXI : X < I := by rw [hI]; exact blk_lt ht.blk
  have hal' : Keeps None w W := hal
  have r1 := h.kept hal (fun _ _ f => f)
  have t1 := ht.kept hal (fun f => f)
  have c35 : W.cell? ⟨X, 35, none⟩ = some (.int .i64 t.number) := t1.tail 7 rfl
  have c19 : W.cell? ⟨X, 19, none⟩ = some (.int .i64 t.spawned) := t1.tsk.spawned
  have HS : Hid (I = w.heap.size ∧ W.heap.size = I + 1 ∧ X < I ∧ Keeps None w W ∧ IsRn W R (.slice (some ⟨b, off, none⟩) fn fc) L s nv ∧ IsTk W X at_ t ∧ W.heap[I]? = some (.cells #[.int .i64 ik, .int .i64 a, .int .i64 m, .int .i64 ic, .int .i64 iK] 37 (0, 0))) := ⟨hI, sW, hXI, hal, r1, t1, bI⟩
  have HG : Hid (w.cell? ⟨b, off + m * 4, none⟩ = some (.int .i64 n) ∧ IsRn w R (.slice (some ⟨b, off, none⟩) fn fc) L s nv ∧ IsTk w X at_ t) := ⟨hp, h, ht⟩
  have HP0 : Hid _ := hplay
  have HB : Hid (¬ RFoot R nv b ∧ b ≠ X) := hb
  clear hplay h ht hal hal' r1 t1 hp bI hb
  go_enter Tryz.func28, Tryz.ntmps28
  go_upto_region 1 with fail
  rw [← hW, ← hI]
  clear hW hI hXI sW
  go_cut [5, 6] (fun s5 s6 wx => s5 = .pointer (some ⟨I, 0, none⟩) ∧ s6 = .pointer (some ⟨I + 1, 0, none⟩) ∧ wx.heap[I + 1]? = some (.cells #[.int .i64 t.number, .int .i64 t.spawned, .int .i64 0, .int .i64 0, .int .i64 0, .int .i64 0, .int .i64 0] 65 (0, 0)) ∧ Keeps None W wx)
  case first =>
    have hst := heap_alloc_new W.drew (.cells #[.int .i64 0, .int .i64 0, .int .i64 0, .int .i64 0, .int .i64 0, .int .i64 0, .int .i64 0] 65)
    have hz : W.drew.heap.size = I + 1 := HS.out.2.1
    rw [hz] at hst
    have hkf : Keeps None W ((W.drew.alloc (.cells #[.int .i64 0, .int .i64 0, .int .i64 0, .int .i64 0, .int .i64 0, .int .i64 0, .int .i64 0] 65)).setRow (I + 1) #[.int .i64 t.number, .int .i64 t.spawned, .int .i64 0, .int .i64 0, .int .i64 0, .int .i64 0, .int .i64 0]) := ((Keeps.drew None W).trans (Keeps.alloc None W.drew _) (fun _ f _ => f)).trans (setRow_keeps _ _ _) (fun i e hi => by have := HS.out.2.1; omega)
    have q1 := hkf.cell c35 (fun f => f)
    have q2 := hkf.cell c19 (fun f => f)
    have HF : Hid _ := And.intro (setRow_heap (c' := #[.int .i64 t.number, .int .i64 t.spawned, .int .i64 0, .int .i64 0, .int .i64 0, .int .i64 0, .int .i64 0]) hst) hkf
    have HST : Hid _ := hst
    have HZ : Hid (W.heap.size = I + 1) := hz
    clear hst hkf hz
    refine wp_region_held_drew (S := (fun w' => w'.cell? ⟨X, 35, none⟩ = some (.int .i64 t.number) ∧ w'.cell? ⟨X, 19, none⟩ = some (.int .i64 t.spawned))) (by kernel_rfl) ?_ (fun hHeld => ?_)
    · (try dsimp only); first | exact ⟨q1, q2⟩ | go_keep
    refine wpAnyH_take (i := 0) (oi := { dst := some 9, op := Op.move (Operand.tmp 1), type := 88, pos := "run.go:91", after := #[], guard := none }) (v := ?_) rfl (by kernel_rfl) (by kernel_rfl) (by kernel_rfl) (fun _ _ _ h => h) (Or.inl ⟨by rfl, ?_⟩) (by assumption) ?_
    rotate_left
    · (intro wz hSw; (try dsimp only at hSw); go_simp; try with_reducible rfl)
    simp only [Act.put, List.setIfInBounds_toArray, List.set_cons_zero, List.set_cons_succ]
    refine wpAnyH_take (i := 1) (oi := { dst := some 10, op := Op.nilCheck (Operand.tmp 9), type := 0, pos := "run.go:91", after := #[{ on := 0, ground := Ground.data }], guard := none }) (v := ?_) rfl (by kernel_rfl) (by kernel_rfl) (by kernel_rfl) (fun _ _ _ h => h) (Or.inl ⟨by rfl, ?_⟩) (by assumption) ?_
    rotate_left
    · (intro wz hSw; (try dsimp only at hSw); go_simp; try with_reducible rfl)
    simp only [Act.put, List.setIfInBounds_toArray, List.set_cons_zero, List.set_cons_succ]
    refine wpAnyH_take (i := 2) (oi := { dst := some 11, op := Op.fieldAddr 67 (Operand.tmp 10) 3, type := 0, pos := "run.go:91", after := #[{ on := 1, ground := Ground.data }], guard := none }) (v := ?_) rfl (by kernel_rfl) (by kernel_rfl) (by kernel_rfl) (fun _ _ _ h => h) (Or.inl ⟨by rfl, ?_⟩) (by assumption) ?_
    rotate_left
    · (intro wz hSw; (try dsimp only at hSw); go_simp; try with_reducible rfl)
    simp only [Act.put, List.setIfInBounds_toArray, List.set_cons_zero, List.set_cons_succ]
    refine wpAnyH_take (i := 3) (oi := { dst := some 12, op := Op.load 3 (Operand.tmp 11), type := 3, pos := "run.go:91", after := #[{ on := 2, ground := Ground.data }], guard := none }) (v := ?_) rfl (by kernel_rfl) (by kernel_rfl) (by kernel_rfl) (fun _ _ _ h => h) (Or.inl ⟨by rfl, ?_⟩) (by assumption) ?_
    rotate_left
    · (intro wz hSw; (try dsimp only at hSw); go_simp; try with_reducible rfl)
    simp only [Act.put, List.setIfInBounds_toArray, List.set_cons_zero, List.set_cons_succ]
    refine wpAnyH_take (i := 4) (oi := { dst := some 13, op := Op.move (Operand.tmp 1), type := 88, pos := "run.go:91", after := #[], guard := none }) (v := ?_) rfl (by kernel_rfl) (by kernel_rfl) (by kernel_rfl) (fun _ _ _ h => h) (Or.inl ⟨by rfl, ?_⟩) (by assumption) ?_
    rotate_left
    · (intro wz hSw; (try dsimp only at hSw); go_simp; try with_reducible rfl)
    simp only [Act.put, List.setIfInBounds_toArray, List.set_cons_zero, List.set_cons_succ]
    refine wpAnyH_take (i := 5) (oi := { dst := some 14, op := Op.nilCheck (Operand.tmp 13), type := 0, pos := "run.go:91", after := #[{ on := 4, ground := Ground.data }], guard := none }) (v := ?_) rfl (by kernel_rfl) (by kernel_rfl) (by kernel_rfl) (fun _ _ _ h => h) (Or.inl ⟨by rfl, ?_⟩) (by assumption) ?_
    rotate_left
    · (intro wz hSw; (try dsimp only at hSw); go_simp; try with_reducible rfl)
    simp only [Act.put, List.setIfInBounds_toArray, List.set_cons_zero, List.set_cons_succ]
    refine wpAnyH_take (i := 6) (oi := { dst := some 15, op := Op.fieldAddr 67 (Operand.tmp 14) 0, type := 0, pos := "run.go:91", after := #[{ on := 5, ground := Ground.data }], guard := none }) (v := ?_) rfl (by kernel_rfl) (by kernel_rfl) (by kernel_rfl) (fun _ _ _ h => h) (Or.inl ⟨by rfl, ?_⟩) (by assumption) ?_
    rotate_left
    · (intro wz hSw; (try dsimp only at hSw); go_simp; try with_reducible rfl)
    simp only [Act.put, List.setIfInBounds_toArray, List.set_cons_zero, List.set_cons_succ]
    refine wpAnyH_take (i := 7) (oi := { dst := some 16, op := Op.fieldAddr 62 (Operand.tmp 15) 4, type := 0, pos := "run.go:91", after := #[{ on := 6, ground := Ground.data }], guard := none }) (v := ?_) rfl (by kernel_rfl) (by kernel_rfl) (by kernel_rfl) (fun _ _ _ h => h) (Or.inl ⟨by rfl, ?_⟩) (by assumption) ?_
    rotate_left
    · (intro wz hSw; (try dsimp only at hSw); go_simp; try with_reducible rfl)
    simp only [Act.put, List.setIfInBounds_toArray, List.set_cons_zero, List.set_cons_succ]
    refine wpAnyH_take (i := 8) (oi := { dst := some 17, op := Op.load 3 (Operand.tmp 16), type := 3, pos := "run.go:91", after := #[{ on := 7, ground := Ground.data }], guard := none }) (v := ?_) rfl (by kernel_rfl) (by kernel_rfl) (by kernel_rfl) (fun _ _ _ h => h) (Or.inl ⟨by rfl, ?_⟩) (by assumption) ?_
    rotate_left
    · (intro wz hSw; (try dsimp only at hSw); go_simp; try with_reducible rfl)
    simp only [Act.put, List.setIfInBounds_toArray, List.set_cons_zero, List.set_cons_succ]
    refine wpAnyH_take (i := 9) (oi := { dst := some 18, op := Op.build 65 #[(0, Operand.tmp 12), (1, Operand.tmp 17)], type := 65, pos := "run.go:91", after := #[{ on := 3, ground := Ground.data }, { on := 8, ground := Ground.data }], guard := none }) (v := ?_) rfl (by kernel_rfl) (by kernel_rfl) (by kernel_rfl) (fun _ _ _ h => h) (Or.inl ⟨by rfl, ?_⟩) (by assumption) ?_
    rotate_left
    · (intro wz hSw; (try dsimp only at hSw); go_simp; try with_reducible rfl)
    simp only [Act.put, List.setIfInBounds_toArray, List.set_cons_zero, List.set_cons_succ]
    refine wpAnyH_ready (rs := [10]) (by kernel_rfl) (by simp) ?_
    refine AllReadyH.cons (o := { dst := some 6, op := Op.alloc 65, type := 0, pos := "run.go:91", after := #[], guard := none }) rfl (fun K hK => ?_) ?_
    · go_simp
      refine hK.out _ _ ?_ (fun hHeld2 => ?_)
      · (try dsimp only); first | exact ⟨q1, q2⟩ | go_keep
      clear hK K
      try simp only [Act.put, List.setIfInBounds_toArray, List.set_cons_zero, List.set_cons_succ]
      refine wpAnyH_ready (rs := [11]) (by kernel_rfl) (by simp) ?_
      refine AllReadyH.cons (o := { dst := none, op := Op.store 65 (Operand.tmp 6) (Operand.tmp 18), type := 0, pos := "run.go:91", after := #[{ on := 10, ground := Ground.data }, { on := 9, ground := Ground.data }, { on := 0, ground := Ground.phase }, { on := 1, ground := Ground.phase }, { on := 2, ground := Ground.phase }, { on := 3, ground := Ground.phase }, { on := 4, ground := Ground.phase }, { on := 5, ground := Ground.phase }, { on := 6, ground := Ground.phase }, { on := 7, ground := Ground.phase }, { on := 8, ground := Ground.phase }, { on := 9, ground := Ground.phase }, { on := 10, ground := Ground.phase }], guard := none }) rfl (fun K hK => ?_) ?_
      · refine step_store_row rfl 65 (.tmp 6) (.tmp 18) rfl (I + 1) #[.int .i64 t.number, .int .i64 t.spawned, .int .i64 0, .int .i64 0, .int .i64 0, .int .i64 0, .int .i64 0] (by simp [Act.eval, HZ.out]) rfl 65 #[.int .i64 0, .int .i64 0, .int .i64 0, .int .i64 0, .int .i64 0, .int .i64 0, .int .i64 0] HST.out (by kernel_rfl) rfl (ints_one [t.number, t.spawned, 0, 0, 0, 0, 0]) ?_
        refine hK.out _ _ ?_ (fun hHeld2 => ?_)
        · (try dsimp only); first | exact ⟨q1, q2⟩ | go_keep
        clear hK K
        try simp only [Act.put, List.setIfInBounds_toArray, List.set_cons_zero, List.set_cons_succ]
        refine wpAnyH_done (by kernel_rfl) ?_ _
        go_wp2_with fail
        go_meet
        exact ⟨rfl, by rw [HZ.out], HF.out⟩
      exact AllReadyH.nil
    exact AllReadyH.nil
  case rest =>
    obtain ⟨rfl, rfl, bN, kN⟩ := hcut
    have bI := blk_kept HS.out.2.2.2.2.2.2 kN (fun f => f)
    have r2 := HS.out.2.2.2.2.1.kept kN (fun _ _ f => f)
    have t2 := HS.out.2.2.2.2.2.1.kept kN (fun f => f)
    have kw := HS.out.2.2.2.1.trans kN (fun _ f _ => f)
    have p1 := kw.cell HG.out.1 (fun f => f)
    have c0 : wc.cell? ⟨I, 0, none⟩ = some (.int .i64 ik) := (blk_cell bI 0).trans rfl
    have c1 : wc.cell? ⟨I, 1, none⟩ = some (.int .i64 a) := (blk_cell bI 1).trans rfl
    have c2 : wc.cell? ⟨I, 2, none⟩ = some (.int .i64 m) := (blk_cell bI 2).trans rfl
    have c3 : wc.cell? ⟨I, 3, none⟩ = some (.int .i64 ic) := (blk_cell bI 3).trans rfl
    have c4 : wc.cell? ⟨I, 4, none⟩ = some (.int .i64 iK) := (blk_cell bI 4).trans rfl
    have c5 : wc.cell? ⟨R, 0, none⟩ = some (.slice (some ⟨b, off, none⟩) fn fc) := (blk_cell r2.blk 0).trans rfl
    have m0 : wc.cell? ⟨I + 1, 0, none⟩ = some (.int .i64 t.number) := (blk_cell bN 0).trans rfl
    have m1 : wc.cell? ⟨I + 1, 1, none⟩ = some (.int .i64 t.spawned) := (blk_cell bN 1).trans rfl
    have m2 : wc.cell? ⟨I + 1, 2, none⟩ = some (.int .i64 0) := (blk_cell bN 2).trans rfl
    have m3 : wc.cell? ⟨I + 1, 3, none⟩ = some (.int .i64 0) := (blk_cell bN 3).trans rfl
    have m4 : wc.cell? ⟨I + 1, 4, none⟩ = some (.int .i64 0) := (blk_cell bN 4).trans rfl
    have m5 : wc.cell? ⟨I + 1, 5, none⟩ = some (.int .i64 0) := (blk_cell bN 5).trans rfl
    have m6 : wc.cell? ⟨I + 1, 6, none⟩ = some (.int .i64 0) := (blk_cell bN 6).trans rfl
    have x36 : wc.cell? ⟨X, 36, none⟩ = some (.int .i64 t.depth) := t2.tail 8 rfl
    have i1 : (m : Int) < (fn : Int) := by omega
    have hwd : IntKind.i64.wrap (t.depth + 1) = t.depth + 1 := wrap_small (by omega)
    have HCH : Hid (∀ wx, Keeps None wc wx → Calls Tryz.prog 43 #[.pointer (some ⟨X, 0, none⟩), .agg #[.int .i64 ik, .int .i64 a, .int .i64 m, .int .i64 ic, .int .i64 iK], .int .i64 n] wx fun e w' => e = .returned (.agg (ints (childK (t.tk at_) m ic n).l).toArray) ∧ IsTk w' X at_ (spawnT t) ∧ w'.cell? ⟨X, 36, none⟩ = some (.int .i64 t.depth) ∧ Keeps (· = X) wx w') := by
      intro wx hx
      have t3 := t2.kept hx (fun f => f)
      refine (tchild_any X 67 (t.tk at_) _ ik a (m : Int) ic iK n wx t3.tsk hn hsp hc).mono ?_
      rintro e w' ⟨he, h1, h2⟩
      have h3 : IsTk w' X at_ (spawnT t) := ⟨h1, t3.slots⟩
      exact ⟨he, h3, h3.tail 8 rfl, h2⟩
    have HPL : Hid (∀ wx, Keeps (· = X) wc wx → Calls Tryz.prog 16 #[.pointer (some ⟨R, 0, none⟩), .agg (ints ((childK (t.tk at_) m ic n).l ++ (List.replicate 8 0 ++ [t.number, t.spawned, 0, 0, 0, 0, 0, 0, t.depth + 1, 0, 0]))).toArray] wx fun e w' => PlaysTo R (.slice (some ⟨b, off, none⟩) fn fc) L nv wx (.done v sp s2) e w') :=
      fun wx hx => HP0.out wx (r2.kept hx (fun k hk e => by subst e; rcases hk with hk | hk; exact (r2.ne t2) hk.symm; exact r2.nX t2 hk)) ((kw.mono (T := (· = X)) (fun _ f _ => f.elim)).trans hx (fun _ e _ => e))
    have hbt := built_task (childK (t.tk at_) m ic n) (args_len _ _ _) t.number t.spawned (t.depth + 1)
    generalize hcv : (ints (childK (t.tk at_) m ic n).l).toArray = cv at HCH hbt
    generalize hcw : (ints ((childK (t.tk at_) m ic n).l ++ (List.replicate 8 0 ++ [t.number, t.spawned, 0, 0, 0, 0, 0, 0, t.depth + 1, 0, 0]))).toArray = cw at HPL hbt
    have HBT : Hid _ := hbt
    have HK : Hid (Keeps None w wc) := kw
    have nI : I ≠ X := by have := HS.out.2.2.1; omega
    have nN : I + 1 ≠ X := by have := HS.out.2.2.1; omega
    have nR : R ≠ X := r2.ne t2
    have nb : b ≠ X := HB.out.2
    have HNX : Hid (¬ RFoot R nv X) := fun e => by rcases e with e | e; exact (r2.ne t2) e.symm; exact r2.nX t2 e
    have HNI : Hid (¬ RFoot R nv I) := fun e => by rcases e with e | e; exact absurd (blk_ne bI r2.blk (by decide)) (fun q => q e); exact absurd (own_type r2.row e bI) (by decide)
    have HNN : Hid (∀ g, nv.ownBlock = some g → g < w.heap.size) := fun g e => by
      rcases HG.out.2.1.row.2 with ⟨h0, _⟩ | ⟨g', _, _, h0, _, hg, _⟩
      · rw [h0] at e; simp [Value.ownBlock] at e
      · rw [h0] at e; simp [Value.ownBlock] at e; subst e; exact blk_lt hg
    have HNB : Hid (¬ RFoot R nv b) := HB.out.1
    have HBI : Hid _ := bI
    clear hcv hcw hbt kw t2 r2 kN bN bI c35 c19
    go_upto_region 2 with fail
    have HN1 : ¬ RFoot R nv (I + 1) := fun e => by
      rcases e with e | e
      · have := blk_lt HG.out.2.1.blk; have := HS.out.1; omega
      · have := HNN.out _ e; have := HS.out.1; omega
    go_cut [5, 7, 8] (fun s5 s7 s8 wx => s5 = .pointer (some ⟨I, 0, none⟩) ∧ s7 = .int .i64 v ∧ s8 = .int .i64 sp ∧ wx.heap[I]? = some (.cells #[.int .i64 ik, .int .i64 a, .int .i64 m, .int .i64 ic, .int .i64 iK] 37 (0, 0)) ∧ ∃ nv', IsRn wx R (.slice (some ⟨b, off, none⟩) fn fc) L s2 nv' ∧ IsTk wx X at_ (spawnT t) ∧ Keeps (fun k => RFoot R nv k ∨ k = X) w wx ∧ Moved w nv nv')
    case first =>
      refine wp_region_held_drew (S := (fun w' => w'.cell? ⟨I, 0, none⟩ = some (.int .i64 ik) ∧ w'.cell? ⟨I, 1, none⟩ = some (.int .i64 a) ∧ w'.cell? ⟨I, 2, none⟩ = some (.int .i64 m) ∧ w'.cell? ⟨I, 3, none⟩ = some (.int .i64 ic) ∧ w'.cell? ⟨I, 4, none⟩ = some (.int .i64 iK) ∧ w'.cell? ⟨R, 0, none⟩ = some (.slice (some ⟨b, off, none⟩) fn fc) ∧ w'.cell? ⟨b, off + m * 4, none⟩ = some (.int .i64 n) ∧ w'.cell? ⟨I + 1, 0, none⟩ = some (.int .i64 t.number) ∧ w'.cell? ⟨I + 1, 1, none⟩ = some (.int .i64 t.spawned) ∧ w'.cell? ⟨I + 1, 2, none⟩ = some (.int .i64 0) ∧ w'.cell? ⟨I + 1, 3, none⟩ = some (.int .i64 0) ∧ w'.cell? ⟨I + 1, 4, none⟩ = some (.int .i64 0) ∧ w'.cell? ⟨I + 1, 5, none⟩ = some (.int .i64 0) ∧ w'.cell? ⟨I + 1, 6, none⟩ = some (.int .i64 0) ∧ w'.cell? ⟨X, 36, none⟩ = some (.int .i64 t.depth))) (by kernel_rfl) ?_ (fun hHeld => ?_)
      · (try dsimp only); first | exact ⟨c0, c1, c2, c3, c4, c5, p1, m0, m1, m2, m3, m4, m5, m6, x36⟩ | exact ⟨q0, q1, q2, q3, q4, q5, q6, u0, u1, u2, u3, u4, u5, u6, q36⟩ | exact ⟨v0, v1, v2, v3, v4, v5, v6, t0, t1, t2, t3, t4, t5, t6, t36⟩ | go_keep
      refine wpAnyH_take (i := 0) (oi := { dst := some 20, op := Op.move (Operand.tmp 0), type := 86, pos := "run.go:92", after := #[], guard := none }) (v := ?_) rfl (by kernel_rfl) (by kernel_rfl) (by kernel_rfl) (fun _ _ _ h => h) (Or.inl ⟨by rfl, ?_⟩) (by assumption) ?_
      rotate_left
      · (intro wz hSw; (try dsimp only at hSw); go_simp; try with_reducible rfl)
      simp only [Act.put, List.setIfInBounds_toArray, List.set_cons_zero, List.set_cons_succ]
      refine wpAnyH_take (i := 1) (oi := { dst := some 21, op := Op.move (Operand.tmp 1), type := 88, pos := "run.go:92", after := #[], guard := none }) (v := ?_) rfl (by kernel_rfl) (by kernel_rfl) (by kernel_rfl) (fun _ _ _ h => h) (Or.inl ⟨by rfl, ?_⟩) (by assumption) ?_
      rotate_left
      · (intro wz hSw; (try dsimp only at hSw); go_simp; try with_reducible rfl)
      simp only [Act.put, List.setIfInBounds_toArray, List.set_cons_zero, List.set_cons_succ]
      refine wpAnyH_take (i := 2) (oi := { dst := some 22, op := Op.nilCheck (Operand.tmp 21), type := 0, pos := "run.go:92", after := #[{ on := 1, ground := Ground.data }], guard := none }) (v := ?_) rfl (by kernel_rfl) (by kernel_rfl) (by kernel_rfl) (fun _ _ _ h => h) (Or.inl ⟨by rfl, ?_⟩) (by assumption) ?_
      rotate_left
      · (intro wz hSw; (try dsimp only at hSw); go_simp; try with_reducible rfl)
      simp only [Act.put, List.setIfInBounds_toArray, List.set_cons_zero, List.set_cons_succ]
      refine wpAnyH_take (i := 3) (oi := { dst := some 23, op := Op.fieldAddr 67 (Operand.tmp 22) 0, type := 0, pos := "run.go:92", after := #[{ on := 2, ground := Ground.data }], guard := none }) (v := ?_) rfl (by kernel_rfl) (by kernel_rfl) (by kernel_rfl) (fun _ _ _ h => h) (Or.inl ⟨by rfl, ?_⟩) (by assumption) ?_
      rotate_left
      · (intro wz hSw; (try dsimp only at hSw); go_simp; try with_reducible rfl)
      simp only [Act.put, List.setIfInBounds_toArray, List.set_cons_zero, List.set_cons_succ]
      refine wpAnyH_take (i := 4) (oi := { dst := some 24, op := Op.load 37 (Operand.tmp 5), type := 37, pos := "run.go:92", after := #[], guard := none }) (v := ?_) rfl (by kernel_rfl) (by kernel_rfl) (by kernel_rfl) (fun _ _ _ h => h) (Or.inl ⟨by rfl, ?_⟩) (by assumption) ?_
      rotate_left
      · (intro wz hSw; (try dsimp only at hSw); go_simp; try with_reducible rfl)
      simp only [Act.put, List.setIfInBounds_toArray, List.set_cons_zero, List.set_cons_succ]
      refine wpAnyH_take (i := 5) (oi := { dst := some 25, op := Op.move (Operand.tmp 0), type := 86, pos := "run.go:92", after := #[], guard := none }) (v := ?_) rfl (by kernel_rfl) (by kernel_rfl) (by kernel_rfl) (fun _ _ _ h => h) (Or.inl ⟨by rfl, ?_⟩) (by assumption) ?_
      rotate_left
      · (intro wz hSw; (try dsimp only at hSw); go_simp; try with_reducible rfl)
      simp only [Act.put, List.setIfInBounds_toArray, List.set_cons_zero, List.set_cons_succ]
      refine wpAnyH_take (i := 6) (oi := { dst := some 26, op := Op.nilCheck (Operand.tmp 25), type := 0, pos := "run.go:92", after := #[{ on := 5, ground := Ground.data }], guard := none }) (v := ?_) rfl (by kernel_rfl) (by kernel_rfl) (by kernel_rfl) (fun _ _ _ h => h) (Or.inl ⟨by rfl, ?_⟩) (by assumption) ?_
      rotate_left
      · (intro wz hSw; (try dsimp only at hSw); go_simp; try with_reducible rfl)
      simp only [Act.put, List.setIfInBounds_toArray, List.set_cons_zero, List.set_cons_succ]
      refine wpAnyH_take (i := 7) (oi := { dst := some 27, op := Op.fieldAddr 57 (Operand.tmp 26) 0, type := 0, pos := "run.go:92", after := #[{ on := 6, ground := Ground.data }], guard := none }) (v := ?_) rfl (by kernel_rfl) (by kernel_rfl) (by kernel_rfl) (fun _ _ _ h => h) (Or.inl ⟨by rfl, ?_⟩) (by assumption) ?_
      rotate_left
      · (intro wz hSw; (try dsimp only at hSw); go_simp; try with_reducible rfl)
      simp only [Act.put, List.setIfInBounds_toArray, List.set_cons_zero, List.set_cons_succ]
      refine wpAnyH_take (i := 8) (oi := { dst := some 28, op := Op.load 22 (Operand.tmp 27), type := 22, pos := "run.go:92", after := #[{ on := 7, ground := Ground.data }], guard := none }) (v := ?_) rfl (by kernel_rfl) (by kernel_rfl) (by kernel_rfl) (fun _ _ _ h => h) (Or.inl ⟨by rfl, ?_⟩) (by assumption) ?_
      rotate_left
      · (intro wz hSw; (try dsimp only at hSw); go_simp; try with_reducible rfl)
      simp only [Act.put, List.setIfInBounds_toArray, List.set_cons_zero, List.set_cons_succ]
      refine wpAnyH_take (i := 9) (oi := { dst := some 29, op := Op.fieldAddr 37 (Operand.tmp 5) 2, type := 0, pos := "run.go:92", after := #[], guard := none }) (v := ?_) rfl (by kernel_rfl) (by kernel_rfl) (by kernel_rfl) (fun _ _ _ h => h) (Or.inl ⟨by rfl, ?_⟩) (by assumption) ?_
      rotate_left
      · (intro wz hSw; (try dsimp only at hSw); go_simp; try with_reducible rfl)
      simp only [Act.put, List.setIfInBounds_toArray, List.set_cons_zero, List.set_cons_succ]
      refine wpAnyH_take (i := 10) (oi := { dst := some 30, op := Op.load 3 (Operand.tmp 29), type := 3, pos := "run.go:92", after := #[{ on := 9, ground := Ground.data }], guard := none }) (v := ?_) rfl (by kernel_rfl) (by kernel_rfl) (by kernel_rfl) (fun _ _ _ h => h) (Or.inl ⟨by rfl, ?_⟩) (by assumption) ?_
      rotate_left
      · (intro wz hSw; (try dsimp only at hSw); go_simp; try with_reducible rfl)
      simp only [Act.put, List.setIfInBounds_toArray, List.set_cons_zero, List.set_cons_succ]
      refine wpAnyH_take (i := 11) (oi := { dst := some 31, op := Op.indexAddr 22 (Operand.tmp 28) (Operand.tmp 30), type := 0, pos := "run.go:92", after := #[{ on := 8, ground := Ground.data }, { on := 10, ground := Ground.data }], guard := none }) (v := ?_) rfl (by kernel_rfl) (by kernel_rfl) (by kernel_rfl) (fun _ _ _ h => h) (Or.inl ⟨by rfl, ?_⟩) (by assumption) ?_
      rotate_left
      · (intro wz hSw; (try dsimp only at hSw); go_simp; try with_reducible rfl)
      simp only [Act.put, List.setIfInBounds_toArray, List.set_cons_zero, List.set_cons_succ]
      refine wpAnyH_take (i := 12) (oi := { dst := some 32, op := Op.fieldAddr 35 (Operand.tmp 31) 0, type := 0, pos := "run.go:92", after := #[{ on := 11, ground := Ground.data }], guard := none }) (v := ?_) rfl (by kernel_rfl) (by kernel_rfl) (by kernel_rfl) (fun _ _ _ h => h) (Or.inl ⟨by rfl, ?_⟩) (by assumption) ?_
      rotate_left
      · (intro wz hSw; (try dsimp only at hSw); go_simp; try with_reducible rfl)
      simp only [Act.put, List.setIfInBounds_toArray, List.set_cons_zero, List.set_cons_succ]
      refine wpAnyH_take (i := 13) (oi := { dst := some 33, op := Op.load 3 (Operand.tmp 32), type := 3, pos := "run.go:92", after := #[{ on := 12, ground := Ground.data }], guard := none }) (v := ?_) rfl (by kernel_rfl) (by kernel_rfl) (by kernel_rfl) (fun _ _ _ h => h) (Or.inl ⟨by rfl, ?_⟩) (by assumption) ?_
      rotate_left
      · (intro wz hSw; (try dsimp only at hSw); go_simp; try with_reducible rfl)
      simp only [Act.put, List.setIfInBounds_toArray, List.set_cons_zero, List.set_cons_succ]
      refine wpAnyH_take (i := 15) (oi := { dst := some 35, op := Op.load 65 (Operand.tmp 6), type := 65, pos := "run.go:92", after := #[], guard := none }) (v := ?_) rfl (by kernel_rfl) (by kernel_rfl) (by kernel_rfl) (fun _ _ _ h => h) (Or.inl ⟨by rfl, ?_⟩) (by assumption) ?_
      rotate_left
      · (intro wz hSw; (try dsimp only at hSw); go_simp; try with_reducible rfl)
      simp only [Act.put, List.setIfInBounds_toArray, List.set_cons_zero, List.set_cons_succ]
      refine wpAnyH_take (i := 16) (oi := { dst := some 36, op := Op.move (Operand.tmp 1), type := 88, pos := "run.go:92", after := #[], guard := none }) (v := ?_) rfl (by kernel_rfl) (by kernel_rfl) (by kernel_rfl) (fun _ _ _ h => h) (Or.inl ⟨by rfl, ?_⟩) (by assumption) ?_
      rotate_left
      · (intro wz hSw; (try dsimp only at hSw); go_simp; try with_reducible rfl)
      simp only [Act.put, List.setIfInBounds_toArray, List.set_cons_zero, List.set_cons_succ]
      refine wpAnyH_take (i := 17) (oi := { dst := some 37, op := Op.nilCheck (Operand.tmp 36), type := 0, pos := "run.go:92", after := #[{ on := 16, ground := Ground.data }], guard := none }) (v := ?_) rfl (by kernel_rfl) (by kernel_rfl) (by kernel_rfl) (fun _ _ _ h => h) (Or.inl ⟨by rfl, ?_⟩) (by assumption) ?_
      rotate_left
      · (intro wz hSw; (try dsimp only at hSw); go_simp; try with_reducible rfl)
      simp only [Act.put, List.setIfInBounds_toArray, List.set_cons_zero, List.set_cons_succ]
      refine wpAnyH_take (i := 18) (oi := { dst := some 38, op := Op.fieldAddr 67 (Operand.tmp 37) 4, type := 0, pos := "run.go:92", after := #[{ on := 17, ground := Ground.data }], guard := none }) (v := ?_) rfl (by kernel_rfl) (by kernel_rfl) (by kernel_rfl) (fun _ _ _ h => h) (Or.inl ⟨by rfl, ?_⟩) (by assumption) ?_
      rotate_left
      · (intro wz hSw; (try dsimp only at hSw); go_simp; try with_reducible rfl)
      simp only [Act.put, List.setIfInBounds_toArray, List.set_cons_zero, List.set_cons_succ]
      refine wpAnyH_take (i := 19) (oi := { dst := some 39, op := Op.load 3 (Operand.tmp 38), type := 3, pos := "run.go:92", after := #[{ on := 18, ground := Ground.data }], guard := none }) (v := ?_) rfl (by kernel_rfl) (by kernel_rfl) (by kernel_rfl) (fun _ _ _ h => h) (Or.inl ⟨by rfl, ?_⟩) (by assumption) ?_
      rotate_left
      · (intro wz hSw; (try dsimp only at hSw); go_simp; try with_reducible rfl)
      simp only [Act.put, List.setIfInBounds_toArray, List.set_cons_zero, List.set_cons_succ]
      refine wpAnyH_take (i := 20) (oi := { dst := some 40, op := Op.binOp BinOp.add 3 (Operand.tmp 39) (Operand.const (Value.int IntKind.i64 1)) 3, type := 3, pos := "run.go:92", after := #[{ on := 19, ground := Ground.data }], guard := none }) (v := ?_) rfl (by kernel_rfl) (by kernel_rfl) (by kernel_rfl) (fun _ _ _ h => h) (Or.inl ⟨by rfl, ?_⟩) (by assumption) ?_
      rotate_left
      · (intro wz hSw; (try dsimp only at hSw); go_simp; try with_reducible rfl)
      simp only [Act.put, List.setIfInBounds_toArray, List.set_cons_zero, List.set_cons_succ]
      refine wpAnyH_ready (rs := [14]) (by kernel_rfl) (by simp) ?_
      refine AllReadyH.cons (o := { dst := some 34, op := Op.call { callee := Callee.value (Operand.func 43), args := #[Operand.tmp 23, Operand.tmp 24, Operand.tmp 33], argTypes := #[62, 37, 3] }, type := 62, pos := "run.go:92", after := #[{ on := 3, ground := Ground.data }, { on := 4, ground := Ground.data }, { on := 13, ground := Ground.data }], guard := none }) rfl (fun K hK => ?_) ?_
      · go_simp
        refine (HCH.out _ (Keeps.drew None wc)).mono ?_
        rintro _ w4 ⟨rfl, HT4, q36, hk4⟩
        have q0 := hk4.cell (a := ⟨I, 0, none⟩) c0 nI
        have q1 := hk4.cell (a := ⟨I, 1, none⟩) c1 nI
        have q2 := hk4.cell (a := ⟨I, 2, none⟩) c2 nI
        have q3 := hk4.cell (a := ⟨I, 3, none⟩) c3 nI
        have q4 := hk4.cell (a := ⟨I, 4, none⟩) c4 nI
        have q5 := hk4.cell (a := ⟨R, 0, none⟩) c5 nR
        have q6 := hk4.cell (a := ⟨b, off + m * 4, none⟩) p1 nb
        have u0 := hk4.cell (a := ⟨I + 1, 0, none⟩) m0 nN
        have u1 := hk4.cell (a := ⟨I + 1, 1, none⟩) m1 nN
        have u2 := hk4.cell (a := ⟨I + 1, 2, none⟩) m2 nN
        have u3 := hk4.cell (a := ⟨I + 1, 3, none⟩) m3 nN
        have u4 := hk4.cell (a := ⟨I + 1, 4, none⟩) m4 nN
        have u5 := hk4.cell (a := ⟨I + 1, 5, none⟩) m5 nN
        have u6 := hk4.cell (a := ⟨I + 1, 6, none⟩) m6 nN
        refine hK.out _ _ ?_ (fun hHeld2 => ?_)
        · (try dsimp only); first | exact ⟨c0, c1, c2, c3, c4, c5, p1, m0, m1, m2, m3, m4, m5, m6, x36⟩ | exact ⟨q0, q1, q2, q3, q4, q5, q6, u0, u1, u2, u3, u4, u5, u6, q36⟩ | exact ⟨v0, v1, v2, v3, v4, v5, v6, t0, t1, t2, t3, t4, t5, t6, t36⟩ | go_keep
        clear hK K
        try simp only [Act.put, List.setIfInBounds_toArray, List.set_cons_zero, List.set_cons_succ]
        refine wpAnyH_ready (rs := [21]) (by kernel_rfl) (by simp) ?_
        refine AllReadyH.cons (o := { dst := some 41, op := Op.build 67 #[(0, Operand.tmp 34), (2, Operand.tmp 35), (4, Operand.tmp 40)], type := 67, pos := "run.go:92", after := #[{ on := 14, ground := Ground.data }, { on := 15, ground := Ground.data }, { on := 20, ground := Ground.data }], guard := none }) rfl (fun K hK => ?_) ?_
        · refine step_build (cells := cw) rfl 67 #[(0, .tmp 34), (2, .tmp 35), (4, .tmp 40)] rfl (by simpa [Act.eval] using HBT.out) ?_
          refine hK.out _ _ ?_ (fun hHeld2 => ?_)
          · (try dsimp only); first | exact ⟨c0, c1, c2, c3, c4, c5, p1, m0, m1, m2, m3, m4, m5, m6, x36⟩ | exact ⟨q0, q1, q2, q3, q4, q5, q6, u0, u1, u2, u3, u4, u5, u6, q36⟩ | exact ⟨v0, v1, v2, v3, v4, v5, v6, t0, t1, t2, t3, t4, t5, t6, t36⟩ | go_keep
          clear hK K
          try simp only [Act.put, List.setIfInBounds_toArray, List.set_cons_zero, List.set_cons_succ]
          refine wpAnyH_ready (rs := [22]) (by kernel_rfl) (by simp) ?_
          refine AllReadyH.cons (o := { dst := some 42, op := Op.call { callee := Callee.value (Operand.func 16), args := #[Operand.tmp 20, Operand.tmp 41], argTypes := #[86, 67] }, type := 58, pos := "run.go:92", after := #[{ on := 0, ground := Ground.data }, { on := 21, ground := Ground.data }, { on := 14, ground := Ground.chain }], guard := none }) rfl (fun K hK => ?_) ?_
          · go_simp
            refine (HPL.out _ ((Keeps.drew (· = X) wc).trans hk4 (fun _ e _ => e))).mono ?_
            rintro _ w5 ⟨rfl, nv5, hr5, hk5, hm5⟩
            have v0 := hk5.cell (a := ⟨I, 0, none⟩) q0 HNI.out
            have v1 := hk5.cell (a := ⟨I, 1, none⟩) q1 HNI.out
            have v2 := hk5.cell (a := ⟨I, 2, none⟩) q2 HNI.out
            have v3 := hk5.cell (a := ⟨I, 3, none⟩) q3 HNI.out
            have v4 := hk5.cell (a := ⟨I, 4, none⟩) q4 HNI.out
            have v5 : w5.cell? ⟨R, 0, none⟩ = some (.slice (some ⟨b, off, none⟩) fn fc) := (blk_cell hr5.blk 0).trans rfl
            have v6 := hk5.cell (a := ⟨b, off + m * 4, none⟩) q6 HNB.out
            have t0 := hk5.cell (a := ⟨I + 1, 0, none⟩) u0 HN1
            have t1 := hk5.cell (a := ⟨I + 1, 1, none⟩) u1 HN1
            have t2 := hk5.cell (a := ⟨I + 1, 2, none⟩) u2 HN1
            have t3 := hk5.cell (a := ⟨I + 1, 3, none⟩) u3 HN1
            have t4 := hk5.cell (a := ⟨I + 1, 4, none⟩) u4 HN1
            have t5 := hk5.cell (a := ⟨I + 1, 5, none⟩) u5 HN1
            have t6 := hk5.cell (a := ⟨I + 1, 6, none⟩) u6 HN1
            have t36 := hk5.cell (a := ⟨X, 36, none⟩) q36 HNX.out
            refine hK.out _ _ ?_ (fun hHeld2 => ?_)
            · (try dsimp only); first | exact ⟨c0, c1, c2, c3, c4, c5, p1, m0, m1, m2, m3, m4, m5, m6, x36⟩ | exact ⟨q0, q1, q2, q3, q4, q5, q6, u0, u1, u2, u3, u4, u5, u6, q36⟩ | exact ⟨v0, v1, v2, v3, v4, v5, v6, t0, t1, t2, t3, t4, t5, t6, t36⟩ | go_keep
            clear hK K
            try simp only [Act.put, List.setIfInBounds_toArray, List.set_cons_zero, List.set_cons_succ]
            refine wpAnyH_take (i := 23) (oi := { dst := some 19, op := Op.move (Operand.tmp 42), type := 58, pos := "run.go:92", after := #[{ on := 22, ground := Ground.data }], guard := none }) (v := ?_) rfl (by kernel_rfl) (by kernel_rfl) (by kernel_rfl) (fun _ _ _ h => h) (Or.inl ⟨by rfl, ?_⟩) (by assumption) ?_
            rotate_left
            · (intro wz hSw; (try dsimp only at hSw); go_simp; try with_reducible rfl)
            simp only [Act.put, List.setIfInBounds_toArray, List.set_cons_zero, List.set_cons_succ]
            refine wpAnyH_take (i := 24) (oi := { dst := some 43, op := Op.extract (Operand.tmp 19) 0, type := 2, pos := "run.go:92", after := #[{ on := 23, ground := Ground.data }], guard := none }) (v := ?_) rfl (by kernel_rfl) (by kernel_rfl) (by kernel_rfl) (fun _ _ _ h => h) (Or.inl ⟨by rfl, ?_⟩) (by assumption) ?_
            rotate_left
            · (intro wz hSw; (try dsimp only at hSw); go_simp; try with_reducible rfl)
            simp only [Act.put, List.setIfInBounds_toArray, List.set_cons_zero, List.set_cons_succ]
            refine wpAnyH_take (i := 25) (oi := { dst := some 44, op := Op.extract (Operand.tmp 19) 1, type := 3, pos := "run.go:92", after := #[{ on := 23, ground := Ground.data }, { on := 26, ground := Ground.gcOnly Departure.lateStores }], guard := none }) (v := ?_) rfl (by kernel_rfl) (by kernel_rfl) (by kernel_rfl) (fun _ _ _ h => h) (Or.inl ⟨by rfl, ?_⟩) (by assumption) ?_
            rotate_left
            · (intro wz hSw; (try dsimp only at hSw); go_simp; try with_reducible rfl)
            simp only [Act.put, List.setIfInBounds_toArray, List.set_cons_zero, List.set_cons_succ]
            refine wpAnyH_take (i := 26) (oi := { dst := some 7, op := Op.assign (Operand.tmp 43), type := 2, pos := "run.go:92", after := #[{ on := 24, ground := Ground.data }, { on := 22, ground := Ground.chain }, { on := 0, ground := Ground.phase }, { on := 1, ground := Ground.phase }, { on := 2, ground := Ground.phase }, { on := 3, ground := Ground.phase }, { on := 4, ground := Ground.phase }, { on := 5, ground := Ground.phase }, { on := 6, ground := Ground.phase }, { on := 7, ground := Ground.phase }, { on := 8, ground := Ground.phase }, { on := 9, ground := Ground.phase }, { on := 10, ground := Ground.phase }, { on := 11, ground := Ground.phase }, { on := 12, ground := Ground.phase }, { on := 13, ground := Ground.phase }, { on := 14, ground := Ground.phase }, { on := 15, ground := Ground.phase }, { on := 16, ground := Ground.phase }, { on := 17, ground := Ground.phase }, { on := 18, ground := Ground.phase }, { on := 19, ground := Ground.phase }, { on := 20, ground := Ground.phase }, { on := 21, ground := Ground.phase }, { on := 22, ground := Ground.phase }, { on := 23, ground := Ground.phase }, { on := 24, ground := Ground.phase }, { on := 25, ground := Ground.textOnly Departure.lateStores }], guard := none }) (v := ?_) rfl (by kernel_rfl) (by kernel_rfl) (by kernel_rfl) (fun _ _ _ h => h) (Or.inl ⟨by rfl, ?_⟩) (by assumption) ?_
            rotate_left
            · (intro wz hSw; (try dsimp only at hSw); go_simp; try with_reducible rfl)
            simp only [Act.put, List.setIfInBounds_toArray, List.set_cons_zero, List.set_cons_succ]
            refine wpAnyH_take (i := 27) (oi := { dst := some 8, op := Op.assign (Operand.tmp 44), type := 3, pos := "run.go:92", after := #[{ on := 25, ground := Ground.data }, { on := 26, ground := Ground.chain }, { on := 0, ground := Ground.phase }, { on := 1, ground := Ground.phase }, { on := 2, ground := Ground.phase }, { on := 3, ground := Ground.phase }, { on := 4, ground := Ground.phase }, { on := 5, ground := Ground.phase }, { on := 6, ground := Ground.phase }, { on := 7, ground := Ground.phase }, { on := 8, ground := Ground.phase }, { on := 9, ground := Ground.phase }, { on := 10, ground := Ground.phase }, { on := 11, ground := Ground.phase }, { on := 12, ground := Ground.phase }, { on := 13, ground := Ground.phase }, { on := 14, ground := Ground.phase }, { on := 15, ground := Ground.phase }, { on := 16, ground := Ground.phase }, { on := 17, ground := Ground.phase }, { on := 18, ground := Ground.phase }, { on := 19, ground := Ground.phase }, { on := 20, ground := Ground.phase }, { on := 21, ground := Ground.phase }, { on := 22, ground := Ground.phase }, { on := 23, ground := Ground.phase }, { on := 24, ground := Ground.phase }, { on := 25, ground := Ground.phase }, { on := 26, ground := Ground.phase }], guard := none }) (v := ?_) rfl (by kernel_rfl) (by kernel_rfl) (by kernel_rfl) (fun _ _ _ h => h) (Or.inl ⟨by rfl, ?_⟩) (by assumption) ?_
            rotate_left
            · (intro wz hSw; (try dsimp only at hSw); go_simp; try with_reducible rfl)
            simp only [Act.put, List.setIfInBounds_toArray, List.set_cons_zero, List.set_cons_succ]
            refine wpAnyH_done (by kernel_rfl) ?_ _
            go_wp2_with fail
            go_meet
            exact ⟨rfl, rfl, rfl, blk_kept (blk_kept HBI.out ((Keeps.drew (· = X) wc).trans hk4 (fun _ e _ => e)) nI) hk5 HNI.out, nv5, hr5, HT4.kept hk5 HNX.out, ((HK.out.andDrew.mono (T := fun k => RFoot R nv k ∨ k = X) (fun _ f _ => f.elim)).trans hk4 (fun _ e _ => .inr e)).trans hk5 (fun _ e _ => .inl e), hm5.back (Nat.le_trans HK.out.andDrew.size hk4.size)⟩
          exact AllReadyH.nil
        exact AllReadyH.nil
      exact AllReadyH.nil
    case rest =>
      obtain ⟨rfl, rfl, rfl, bI, nv5, hr5, ht5, hk5, hm5⟩ := hcut
      have e1 : wc.cell? ⟨I, 1, none⟩ = some (.int .i64 (a : Int)) := (blk_cell bI 1).trans rfl
      have e2 := ht5.slot ha8
      have e3 := ht5.free (20 + a)
      have i2 : (a : Int) < 8 := by omega
      have t6 := ht5.putSlot (x := v) ha8
      have k6 : Keeps (· = X) wc _ := Keeps.setCell (S := (· = X)) wc (a := ⟨X, 20 + a, none⟩) rfl (.int .i64 v)
      have t7 := t6.putTail (nf' := t.node.func) (np' := t.node.ped) (t' := gotT (spawnT t) a v sp) (j := 10) (x := imax t.due (t.span + sp)) rfl rfl rfl
      have k7 : Keeps (· = X) (wc.setCell ⟨X, 20 + a, none⟩ (.int .i64 v)) _ := Keeps.setCell (S := (· = X)) _ (a := ⟨X, 38, none⟩) rfl (.int .i64 (imax t.due (t.span + sp)))
      have k67 := k6.trans k7 (fun _ e _ => e)
      have f1 := t6.tail 10 rfl
      have f2 := t6.tail 9 rfl
      have f3 := t6.free 38
      have HF : Hid (∃ nv', IsRn ((wc.setCell ⟨X, 20 + a, none⟩ (.int .i64 v)).setCell ⟨X, 38, none⟩ (.int .i64 (imax t.due (t.span + sp)))) R (.slice (some ⟨b, off, none⟩) fn fc) L s2 nv' ∧ IsTk ((wc.setCell ⟨X, 20 + a, none⟩ (.int .i64 v)).setCell ⟨X, 38, none⟩ (.int .i64 (imax t.due (t.span + sp)))) X at_ (gotT (spawnT t) a v sp) ∧ Keeps (fun k => RFoot R nv k ∨ k = X) w ((wc.setCell ⟨X, 20 + a, none⟩ (.int .i64 v)).setCell ⟨X, 38, none⟩ (.int .i64 (imax t.due (t.span + sp)))) ∧ Moved w nv nv') :=
        ⟨nv5, hr5.kept k67 (fun k hk e => by subst e; rcases hk with hk | hk; exact nR hk.symm; exact hr5.nX ht5 hk), t7, hk5.trans k67 (fun _ e _ => .inr e), hm5⟩
      have FD : Hid (∀ wz, (∃ nv', IsRn wz R (.slice (some ⟨b, off, none⟩) fn fc) L s2 nv' ∧ IsTk wz X at_ (gotT (spawnT t) a v sp) ∧ Keeps (fun k => RFoot R nv k ∨ k = X) w wz ∧ Moved w nv nv') → (∃ nv', IsRn wz.drew R (.slice (some ⟨b, off, none⟩) fn fc) L s2 nv' ∧ IsTk wz.drew X at_ (gotT (spawnT t) a v sp) ∧ Keeps (fun k => RFoot R nv k ∨ k = X) w wz.drew ∧ Moved w nv nv')) := by
        rintro wz ⟨nv', q1, q2, q3, q4⟩
        exact ⟨nv', q1.kept (Keeps.drew None _) (fun _ _ f => f), q2.kept (Keeps.drew None _) (fun f => f), q3.andDrew, q4⟩
      obtain ⟨y, hy⟩ : ∃ y, y = (spawnT t).slots.getD a 0 := ⟨_, rfl⟩
      rw [← hy] at e2
      have g1 : (wc.setCell ⟨X, 20 + a, none⟩ (.int .i64 v)).cell? ⟨X, 38, none⟩ = some (.int .i64 t.due) := f1
      have g2 : (wc.setCell ⟨X, 20 + a, none⟩ (.int .i64 v)).cell? ⟨X, 37, none⟩ = some (.int .i64 t.span) := f2
      clear bI hr5 ht5 hk5 hm5 t6 k6 t7 k7 k67 hy f1 f2 c0 c1 c2 c3 c4 c5 p1 m0 m1 m2 m3 m4 m5 m6 x36
      by_cases hlt : t.due < t.span + sp
      · have e : imax t.due (t.span + sp) = t.span + sp := if_pos hlt
        rw [e] at HF
        clear e
        go_wp2_with fail
        go_region
        all_goals go_wp2_with fail
        all_goals go_region
        all_goals go_end0
        all_goals exact ⟨rfl, FD.out _ (FD.out _ HF.out)⟩
      · have e : imax t.due (t.span + sp) = t.due := if_neg hlt
        rw [e] at HF
        clear e
        go_wp2_with fail
        go_region
        all_goals go_wp2_with fail
        all_goals go_region
        all_goals go_end0
        all_goals exact ⟨rfl, FD.out _ (FD.out _ HF.out)⟩
end Go.Proofs.YtbdpdojeaahpjaaGreatDoor
