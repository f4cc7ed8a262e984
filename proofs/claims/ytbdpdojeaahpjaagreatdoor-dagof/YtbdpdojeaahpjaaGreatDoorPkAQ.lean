import Derived.Test.YtbdpdojeaahpjaaGreatDoorPkAL
import Derived.Test.YtbdpdojeaahpjaaGreatDoorPkAP
/-! spawn, upon what the play of a child comes to. -/
namespace Go.Proofs.YtbdpdojeaahpjaaGreatDoor
set_option linter.unusedVariables false
set_option maxRecDepth 20000
set_option linter.unusedSimpArgs false
open Go.RowKit Go.HeapKit Go.PlainOps

/-- The child of a task. -/
def childP (t : Tk) (ib ic : Int) (n : Nat) : Tk :=
  { regs := argsV t.regs ic.toNat n, slots := List.replicate 8 0, node := ⟨t.number, t.spawned, ib, 0, pedV t.node.ped t.spawned, 0, 0⟩, number := 0, depth := t.depth + 1, spawned := 0, span := 0, due := 0 }
theorem Tryz.infoTk : (Tryz.prog.info? 67).map (·.size) = some 39 := by kernel_rfl
theorem tk_len {t : Tk} {at_ nf np : Int} (h : t.regs.length = 16) (h2 : t.slots.length = 8) : (ints (t.l at_ nf np)).toArray.size = 39 := by simp [ints, Tk.l, Tk.tk, Tsk.l, Tk.tl, h, h2]
theorem sixteen {l : List Int} (h : l.length = 16) : ∃ r0 r1 r2 r3 r4 r5 r6 r7 r8 r9 r10 r11 r12 r13 r14 r15, l = [r0, r1, r2, r3, r4, r5, r6, r7, r8, r9, r10, r11, r12, r13, r14, r15] := by
  rcases l with _ | ⟨r0, l⟩ <;> simp only [List.length_nil, List.length_cons] at h
  · omega
  iterate 15
    rcases l with _ | ⟨_, l⟩ <;> simp only [List.length_nil, List.length_cons] at h
    · omega
  rcases l with _ | ⟨_, l⟩ <;> simp only [List.length_nil, List.length_cons] at h
  · exact ⟨_, _, _, _, _, _, _, _, _, _, _, _, _, _, _, _, rfl⟩
  · omega
theorem built_lit (f a r0 r1 r2 r3 r4 r5 r6 r7 r8 r9 r10 r11 r12 r13 r14 r15 p s x y d : Int) : Tryz.prog.built 67 [(0, .agg #[.int .i64 f, .int .i64 a, .int .i64 r0, .int .i64 r1, .int .i64 r2, .int .i64 r3, .int .i64 r4, .int .i64 r5, .int .i64 r6, .int .i64 r7, .int .i64 r8, .int .i64 r9, .int .i64 r10, .int .i64 r11, .int .i64 r12, .int .i64 r13, .int .i64 r14, .int .i64 r15, .int .i64 p, .int .i64 s]), (2, .agg #[.int .i64 x, .int .i64 y, .int .i64 0, .int .i64 0, .int .i64 0, .int .i64 0, .int .i64 0]), (4, .int .i64 d)]
    = some (ints [f, a, r0, r1, r2, r3, r4, r5, r6, r7, r8, r9, r10, r11, r12, r13, r14, r15, p, s, 0, 0, 0, 0, 0, 0, 0, 0, x, y, 0, 0, 0, 0, 0, 0, d, 0, 0]).toArray := by kernel_rfl
theorem built_task (k : Tsk) (h : k.regs.length = 16) (x y d : Int) : Tryz.prog.built 67 [(0, .agg (ints k.l).toArray), (2, .agg #[.int .i64 x, .int .i64 y, .int .i64 0, .int .i64 0, .int .i64 0, .int .i64 0, .int .i64 0]), (4, .int .i64 d)]
    = some (ints (k.l ++ (List.replicate 8 0 ++ [x, y, 0, 0, 0, 0, 0, 0, d, 0, 0]))).toArray := by
  obtain ⟨f, a, l, p, s⟩ := k
  obtain ⟨r0, r1, r2, r3, r4, r5, r6, r7, r8, r9, r10, r11, r12, r13, r14, r15, rfl⟩ := sixteen h
  exact built_lit f a r0 r1 r2 r3 r4 r5 r6 r7 r8 r9 r10 r11 r12 r13 r14 r15 p s x y d
def PlaysTo (R : Nat) (fv : Value) (L : Bool) (nv : Value) (w : World) (r : Res) (e : Ending) (w' : World) : Prop :=
  match r with
  | .gave err => e = .panicked (thrownE err) ∧ Keeps (RFoot R nv) w w'
  | .done v sp s' => e = .returned (.tuple #[.int .i64 v, .int .i64 sp]) ∧ ∃ nv', IsRn w' R fv L s' nv' ∧ Keeps (RFoot R nv) w w' ∧ Moved w nv nv'
theorem _root_.Go.HeapKit.Moved.back {w w1 : World} {v v' : Value} (h : Moved w1 v v') (hs : w.heap.size ≤ w1.heap.size) : Moved w v v' := by
  rcases h with h | ⟨g, h, hg⟩
  · exact .inl h
  · exact .inr ⟨g, h, by omega⟩
set_option maxHeartbeats 2000000 in
theorem spawn_gave (R X : Nat) (fa : Option Addr) (fn fc : Nat) (L : Bool) (s : Rn) (nv : Value) (at_ : Int) (t : Tk) (ik ia ic iK : Int) (m n b off : Nat) (er : Int) (w : World) (h : IsRn w R (.slice fa fn fc) L s nv) (ht : IsTk w X at_ t)
    (hm : m < fn) (hfa : fa = some ⟨b, off, none⟩) (hb : ¬ RFoot R nv b ∧ b ≠ X) (hp : w.cell? ⟨b, off + m * 4, none⟩ = some (.int .i64 n)) (hn : n ≤ 8) (hd : 0 ≤ t.depth ∧ t.depth ≤ 4096) (hsp : 0 ≤ t.spawned ∧ t.spawned ≤ 8388608) (hc : n = 0 ∨ (0 ≤ ic ∧ ic + n ≤ 16))
    (hplay : ∀ wx, IsRn wx R (.slice fa fn fc) L s nv → Keeps (· = X) w wx → Calls Tryz.prog 16 #[.pointer (some ⟨R, 0, none⟩), tkV (childP t m ic n)] wx fun e w' => PlaysTo R (.slice fa fn fc) L nv wx (.gave er) e w') :
    Calls Tryz.prog 28 #[.pointer (some ⟨R, 0, none⟩), .pointer (some ⟨X, 0, none⟩), .agg #[.int .i64 ik, .int .i64 ia, .int .i64 m, .int .i64 ic, .int .i64 iK]] w fun e w' => e = .panicked (thrownE er) ∧ Keeps (fun k => RFoot R nv k ∨ k = X) w w' := by
  subst hfa
  have hal := Keeps.alloc None w (.cells #[.int .i64 ik, .int .i64 ia, .int .i64 m, .int .i64 ic, .int .i64 iK] 37)
  have bI := heap_alloc_new w (.cells #[.int .i64 ik, .int .i64 ia, .int .i64 m, .int .i64 ic, .int .i64 iK] 37)
  obtain ⟨W, hW⟩ : ∃ W, W = w.alloc (.cells #[.int .i64 ik, .int .i64 ia, .int .i64 m, .int .i64 ic, .int .i64 iK] 37) := ⟨_, rfl⟩
  obtain ⟨I, hI⟩ : ∃ I, I = w.heap.size := ⟨_, rfl⟩
  rw [← hW] at hal bI
  rw [← hI] at bI
  have sW : W.heap.size = I + 1 := by rw [hW, hI]; simp
  have hXI : X < I := by rw [hI]; exact blk_lt ht.blk
  have hal' : Keeps None w W := hal
  have r1 := h.kept hal (fun _ _ f => f)
  have t1 := ht.kept hal (fun f => f)
  have c35 : W.cell? ⟨X, 35, none⟩ = some (.int .i64 t.number) := t1.tail 7 rfl
  have c19 : W.cell? ⟨X, 19, none⟩ = some (.int .i64 t.spawned) := t1.tsk.spawned
  have HS : Hid (I = w.heap.size ∧ W.heap.size = I + 1 ∧ X < I ∧ Keeps None w W ∧ IsRn W R (.slice (some ⟨b, off, none⟩) fn fc) L s nv ∧ IsTk W X at_ t ∧ W.heap[I]? = some (.cells #[.int .i64 ik, .int .i64 ia, .int .i64 m, .int .i64 ic, .int .i64 iK] 37 (0, 0))) := ⟨hI, sW, hXI, hal, r1, t1, bI⟩
  have HG : Hid (w.cell? ⟨b, off + m * 4, none⟩ = some (.int .i64 n) ∧ IsRn w R (.slice (some ⟨b, off, none⟩) fn fc) L s nv ∧ IsTk w X at_ t) := ⟨hp, h, ht⟩
  have HP0 : Hid _ := hplay
  have HB : Hid (¬ RFoot R nv b ∧ b ≠ X) := hb
  clear hplay h ht hal hal' r1 t1 hp bI hb
  go_enter Tryz.func28, Tryz.ntmps28
  go_upto_region 1 with fail
  rw [← hW, ← hI]
  clear hW hI hXI sW
  go_cut [5, 6] (fun s5 s6 wx => s5 = .pointer (some ⟨I, 0, none⟩) ∧ s6 = .pointer (some ⟨I + 1, 0, none⟩) ∧ wx.heap[I + 1]? = some (.cells #[.int .i64 t.number, .int .i64 t.spawned, .int .i64 0, .int .i64 0, .int .i64 0, .int .i64 0, .int .i64 0] 65 (0, 0)) ∧ Keeps None W wx)
  case first =>
    have hst := heap_alloc_new W.drew (.cells #[.int .i64 0, .int .i64 0, .int .i64 0, .int .i64 0, .int .i64 0, .int .i64 0, .int .i64 0] 65)
    have hz : W.drew.heap.size = I + 1 := HS.out.2.1
    rw [hz] at hst
    have hkf : Keeps None W ((W.drew.alloc (.cells #[.int .i64 0, .int .i64 0, .int .i64 0, .int .i64 0, .int .i64 0, .int .i64 0, .int .i64 0] 65)).setRow (I + 1) #[.int .i64 t.number, .int .i64 t.spawned, .int .i64 0, .int .i64 0, .int .i64 0, .int .i64 0, .int .i64 0]) := ((Keeps.drew None W).trans (Keeps.alloc None W.drew _) (fun _ f _ => f)).trans (setRow_keeps _ _ _) (fun i e hi => by have := HS.out.2.1; omega)
    have q1 := hkf.cell c35 (fun f => f)
    have q2 := hkf.cell c19 (fun f => f)
    have HF : Hid _ := And.intro (setRow_heap (c' := #[.int .i64 t.number, .int .i64 t.spawned, .int .i64 0, .int .i64 0, .int .i64 0, .int .i64 0, .int .i64 0]) hst) hkf
    have HST : Hid _ := hst
    have HZ : Hid (W.heap.size = I + 1) := hz
    clear hst hkf hz
    refine wp_region_held_drew (S := (fun w' => w'.cell? ⟨X, 35, none⟩ = some (.int .i64 t.number) ∧ w'.cell? ⟨X, 19, none⟩ = some (.int .i64 t.spawned))) (by kernel_rfl) ?_ (fun hHeld => ?_)
    · (try dsimp only); first | exact ⟨q1, q2⟩ | go_keep
    refine wpAnyH_take (i := 0) (oi := { dst := some 9, op := Op.move (Operand.tmp 1), type := 88, pos := "run.go:91", after := #[], guard := none }) (v := ?_) rfl (by kernel_rfl) (by kernel_rfl) (by kernel_rfl) (fun _ _ _ h => h) (Or.inl ⟨by rfl, ?_⟩) (by assumption) ?_
    rotate_left
    · (intro wz hSw; (try dsimp only at hSw); go_simp; try with_reducible rfl)
    simp only [Act.put, List.setIfInBounds_toArray, List.set_cons_zero, List.set_cons_succ]
    refine wpAnyH_take (i := 1) (oi := { dst := some 10, op := Op.nilCheck (Operand.tmp 9), type := 0, pos := "run.go:91", after := #[{ on := 0, ground := Ground.data }], guard := none }) (v := ?_) rfl (by kernel_rfl) (by kernel_rfl) (by kernel_rfl) (fun _ _ _ h => h) (Or.inl ⟨by rfl, ?_⟩) (by assumption) ?_
    rotate_left
    · (intro wz hSw; (try dsimp only at hSw); go_simp; try with_reducible rfl)
    simp only [Act.put, List.setIfInBounds_toArray, List.set_cons_zero, List.set_cons_succ]
    refine wpAnyH_take (i := 2) (oi := { dst := some 11, op := Op.fieldAddr 67 (Operand.tmp 10) 3, type := 0, pos := "run.go:91", after := #[{ on := 1, ground := Ground.data }], guard := none }) (v := ?_) rfl (by kernel_rfl) (by kernel_rfl) (by kernel_rfl) (fun _ _ _ h => h) (Or.inl ⟨by rfl, ?_⟩) (by assumption) ?_
    rotate_left
    · (intro wz hSw; (try dsimp only at hSw); go_simp; try with_reducible rfl)
    simp only [Act.put, List.setIfInBounds_toArray, List.set_cons_zero, List.set_cons_succ]
    refine wpAnyH_take (i := 3) (oi := { dst := some 12, op := Op.load 3 (Operand.tmp 11), type := 3, pos := "run.go:91", after := #[{ on := 2, ground := Ground.data }], guard := none }) (v := ?_) rfl (by kernel_rfl) (by kernel_rfl) (by kernel_rfl) (fun _ _ _ h => h) (Or.inl ⟨by rfl, ?_⟩) (by assumption) ?_
    rotate_left
    · (intro wz hSw; (try dsimp only at hSw); go_simp; try with_reducible rfl)
    simp only [Act.put, List.setIfInBounds_toArray, List.set_cons_zero, List.set_cons_succ]
    refine wpAnyH_take (i := 4) (oi := { dst := some 13, op := Op.move (Operand.tmp 1), type := 88, pos := "run.go:91", after := #[], guard := none }) (v := ?_) rfl (by kernel_rfl) (by kernel_rfl) (by kernel_rfl) (fun _ _ _ h => h) (Or.inl ⟨by rfl, ?_⟩) (by assumption) ?_
    rotate_left
    · (intro wz hSw; (try dsimp only at hSw); go_simp; try with_reducible rfl)
    simp only [Act.put, List.setIfInBounds_toArray, List.set_cons_zero, List.set_cons_succ]
    refine wpAnyH_take (i := 5) (oi := { dst := some 14, op := Op.nilCheck (Operand.tmp 13), type := 0, pos := "run.go:91", after := #[{ on := 4, ground := Ground.data }], guard := none }) (v := ?_) rfl (by kernel_rfl) (by kernel_rfl) (by kernel_rfl) (fun _ _ _ h => h) (Or.inl ⟨by rfl, ?_⟩) (by assumption) ?_
    rotate_left
    · (intro wz hSw; (try dsimp only at hSw); go_simp; try with_reducible rfl)
    simp only [Act.put, List.setIfInBounds_toArray, List.set_cons_zero, List.set_cons_succ]
    refine wpAnyH_take (i := 6) (oi := { dst := some 15, op := Op.fieldAddr 67 (Operand.tmp 14) 0, type := 0, pos := "run.go:91", after := #[{ on := 5, ground := Ground.data }], guard := none }) (v := ?_) rfl (by kernel_rfl) (by kernel_rfl) (by kernel_rfl) (fun _ _ _ h => h) (Or.inl ⟨by rfl, ?_⟩) (by assumption) ?_
    rotate_left
    · (intro wz hSw; (try dsimp only at hSw); go_simp; try with_reducible rfl)
    simp only [Act.put, List.setIfInBounds_toArray, List.set_cons_zero, List.set_cons_succ]
    refine wpAnyH_take (i := 7) (oi := { dst := some 16, op := Op.fieldAddr 62 (Operand.tmp 15) 4, type := 0, pos := "run.go:91", after := #[{ on := 6, ground := Ground.data }], guard := none }) (v := ?_) rfl (by kernel_rfl) (by kernel_rfl) (by kernel_rfl) (fun _ _ _ h => h) (Or.inl ⟨by rfl, ?_⟩) (by assumption) ?_
    rotate_left
    · (intro wz hSw; (try dsimp only at hSw); go_simp; try with_reducible rfl)
    simp only [Act.put, List.setIfInBounds_toArray, List.set_cons_zero, List.set_cons_succ]
    refine wpAnyH_take (i := 8) (oi := { dst := some 17, op := Op.load 3 (Operand.tmp 16), type := 3, pos := "run.go:91", after := #[{ on := 7, ground := Ground.data }], guard := none }) (v := ?_) rfl (by kernel_rfl) (by kernel_rfl) (by kernel_rfl) (fun _ _ _ h => h) (Or.inl ⟨by rfl, ?_⟩) (by assumption) ?_
    rotate_left
    · (intro wz hSw; (try dsimp only at hSw); go_simp; try with_reducible rfl)
    simp only [Act.put, List.setIfInBounds_toArray, List.set_cons_zero, List.set_cons_succ]
    refine wpAnyH_take (i := 9) (oi := { dst := some 18, op := Op.build 65 #[(0, Operand.tmp 12), (1, Operand.tmp 17)], type := 65, pos := "run.go:91", after := #[{ on := 3, ground := Ground.data }, { on := 8, ground := Ground.data }], guard := none }) (v := ?_) rfl (by kernel_rfl) (by kernel_rfl) (by kernel_rfl) (fun _ _ _ h => h) (Or.inl ⟨by rfl, ?_⟩) (by assumption) ?_
    rotate_left
    · (intro wz hSw; (try dsimp only at hSw); go_simp; try with_reducible rfl)
    simp only [Act.put, List.setIfInBounds_toArray, List.set_cons_zero, List.set_cons_succ]
    refine wpAnyH_ready (rs := [10]) (by kernel_rfl) (by simp) ?_
    refine AllReadyH.cons (o := { dst := some 6, op := Op.alloc 65, type := 0, pos := "run.go:91", after := #[], guard := none }) rfl (fun K hK => ?_) ?_
    · go_simp
      refine hK.out _ _ ?_ (fun hHeld2 => ?_)
      · (try dsimp only); first | exact ⟨q1, q2⟩ | go_keep
      clear hK K
      try simp only [Act.put, List.setIfInBounds_toArray, List.set_cons_zero, List.set_cons_succ]
      refine wpAnyH_ready (rs := [11]) (by kernel_rfl) (by simp) ?_
      refine AllReadyH.cons (o := { dst := none, op := Op.store 65 (Operand.tmp 6) (Operand.tmp 18), type := 0, pos := "run.go:91", after := #[{ on := 10, ground := Ground.data }, { on := 9, ground := Ground.data }, { on := 0, ground := Ground.phase }, { on := 1, ground := Ground.phase }, { on := 2, ground := Ground.phase }, { on := 3, ground := Ground.phase }, { on := 4, ground := Ground.phase }, { on := 5, ground := Ground.phase }, { on := 6, ground := Ground.phase }, { on := 7, ground := Ground.phase }, { on := 8, ground := Ground.phase }, { on := 9, ground := Ground.phase }, { on := 10, ground := Ground.phase }], guard := none }) rfl (fun K hK => ?_) ?_
      · refine step_store_row rfl 65 (.tmp 6) (.tmp 18) rfl (I + 1) #[.int .i64 t.number, .int .i64 t.spawned, .int .i64 0, .int .i64 0, .int .i64 0, .int .i64 0, .int .i64 0] (by simp [Act.eval, HZ.out]) rfl 65 #[.int .i64 0, .int .i64 0, .int .i64 0, .int .i64 0, .int .i64 0, .int .i64 0, .int .i64 0] HST.out (by kernel_rfl) rfl (ints_one [t.number, t.spawned, 0, 0, 0, 0, 0]) ?_
        refine hK.out _ _ ?_ (fun hHeld2 => ?_)
        · (try dsimp only); first | exact ⟨q1, q2⟩ | go_keep
        clear hK K
        try simp only [Act.put, List.setIfInBounds_toArray, List.set_cons_zero, List.set_cons_succ]
        refine wpAnyH_done (by kernel_rfl) ?_ _
        go_wp2_with fail
        go_meet
        exact ⟨rfl, by rw [HZ.out], HF.out⟩
      exact AllReadyH.nil
    exact AllReadyH.nil
  case rest =>
    obtain ⟨rfl, rfl, bN, kN⟩ := hcut
    have bI := blk_kept HS.out.2.2.2.2.2.2 kN (fun f => f)
    have r2 := HS.out.2.2.2.2.1.kept kN (fun _ _ f => f)
    have t2 := HS.out.2.2.2.2.2.1.kept kN (fun f => f)
    have kw := HS.out.2.2.2.1.trans kN (fun _ f _ => f)
    have p1 := kw.cell HG.out.1 (fun f => f)
    have c0 : wc.cell? ⟨I, 0, none⟩ = some (.int .i64 ik) := (blk_cell bI 0).trans rfl
    have c1 : wc.cell? ⟨I, 1, none⟩ = some (.int .i64 ia) := (blk_cell bI 1).trans rfl
    have c2 : wc.cell? ⟨I, 2, none⟩ = some (.int .i64 m) := (blk_cell bI 2).trans rfl
    have c3 : wc.cell? ⟨I, 3, none⟩ = some (.int .i64 ic) := (blk_cell bI 3).trans rfl
    have c4 : wc.cell? ⟨I, 4, none⟩ = some (.int .i64 iK) := (blk_cell bI 4).trans rfl
    have c5 : wc.cell? ⟨R, 0, none⟩ = some (.slice (some ⟨b, off, none⟩) fn fc) := (blk_cell r2.blk 0).trans rfl
    have m0 : wc.cell? ⟨I + 1, 0, none⟩ = some (.int .i64 t.number) := (blk_cell bN 0).trans rfl
    have m1 : wc.cell? ⟨I + 1, 1, none⟩ = some (.int .i64 t.spawned) := (blk_cell bN 1).trans rfl
    have m2 : wc.cell? ⟨I + 1, 2, none⟩ = some (.int .i64 0) := (blk_cell bN 2).trans rfl
    have m3 : wc.cell? ⟨I + 1, 3, none⟩ = some (.int .i64 0) := (blk_cell bN 3).trans rfl
    have m4 : wc.cell? ⟨I + 1, 4, none⟩ = some (.int .i64 0) := (blk_cell bN 4).trans rfl
    have m5 : wc.cell? ⟨I + 1, 5, none⟩ = some (.int .i64 0) := (blk_cell bN 5).trans rfl
    have m6 : wc.cell? ⟨I + 1, 6, none⟩ = some (.int .i64 0) := (blk_cell bN 6).trans rfl
    have x36 : wc.cell? ⟨X, 36, none⟩ = some (.int .i64 t.depth) := t2.tail 8 rfl
    have i1 : (m : Int) < (fn : Int) := by omega
    have hwd : IntKind.i64.wrap (t.depth + 1) = t.depth + 1 := wrap_small (by omega)
    have HCH : Hid (∀ wx, Keeps None wc wx → Calls Tryz.prog 43 #[.pointer (some ⟨X, 0, none⟩), .agg #[.int .i64 ik, .int .i64 ia, .int .i64 m, .int .i64 ic, .int .i64 iK], .int .i64 n] wx fun e w' => e = .returned (.agg (ints (childK (t.tk at_) m ic n).l).toArray) ∧ IsTk w' X at_ (spawnT t) ∧ w'.cell? ⟨X, 36, none⟩ = some (.int .i64 t.depth) ∧ Keeps (· = X) wx w') := by
      intro wx hx
      have t3 := t2.kept hx (fun f => f)
      refine (tchild_any X 67 (t.tk at_) _ ik ia (m : Int) ic iK n wx t3.tsk hn hsp hc).mono ?_
      rintro e w' ⟨he, h1, h2⟩
      have h3 : IsTk w' X at_ (spawnT t) := ⟨h1, t3.slots⟩
      exact ⟨he, h3, h3.tail 8 rfl, h2⟩
    have HPL : Hid (∀ wx, Keeps (· = X) wc wx → Calls Tryz.prog 16 #[.pointer (some ⟨R, 0, none⟩), .agg (ints ((childK (t.tk at_) m ic n).l ++ (List.replicate 8 0 ++ [t.number, t.spawned, 0, 0, 0, 0, 0, 0, t.depth + 1, 0, 0]))).toArray] wx fun e w' => PlaysTo R (.slice (some ⟨b, off, none⟩) fn fc) L nv wx (.gave er) e w') :=
      fun wx hx => HP0.out wx (r2.kept hx (fun k hk e => by subst e; rcases hk with hk | hk; exact (r2.ne t2) hk.symm; exact r2.nX t2 hk)) ((kw.mono (T := (· = X)) (fun _ f _ => f.elim)).trans hx (fun _ e _ => e))
    have hbt := built_task (childK (t.tk at_) m ic n) (args_len _ _ _) t.number t.spawned (t.depth + 1)
    generalize hcv : (ints (childK (t.tk at_) m ic n).l).toArray = cv at HCH hbt
    generalize hcw : (ints ((childK (t.tk at_) m ic n).l ++ (List.replicate 8 0 ++ [t.number, t.spawned, 0, 0, 0, 0, 0, 0, t.depth + 1, 0, 0]))).toArray = cw at HPL hbt
    have HBT : Hid _ := hbt
    have HK : Hid (Keeps None w wc) := kw
    have nI : I ≠ X := by have := HS.out.2.2.1; omega
    have nN : I + 1 ≠ X := by have := HS.out.2.2.1; omega
    have nR : R ≠ X := r2.ne t2
    have nb : b ≠ X := HB.out.2
    have HNX : Hid (¬ RFoot R nv X) := fun e => by rcases e with e | e; exact (r2.ne t2) e.symm; exact r2.nX t2 e
    have HNI : Hid (¬ RFoot R nv I) := fun e => by rcases e with e | e; exact absurd (blk_ne bI r2.blk (by decide)) (fun q => q e); exact absurd (own_type r2.row e bI) (by decide)
    have HNN : Hid (∀ g, nv.ownBlock = some g → g < w.heap.size) := fun g e => by
      rcases HG.out.2.1.row.2 with ⟨h0, _⟩ | ⟨g', _, _, h0, _, hg, _⟩
      · rw [h0] at e; simp [Value.ownBlock] at e
      · rw [h0] at e; simp [Value.ownBlock] at e; subst e; exact blk_lt hg
    have HNB : Hid (¬ RFoot R nv b) := HB.out.1
    have HBI : Hid _ := bI
    clear hcv hcw hbt kw t2 r2 kN bN bI c35 c19
    go_upto_region 2 with fail
    refine wp_region_held_drew (S := (fun w' => w'.cell? ⟨I, 0, none⟩ = some (.int .i64 ik) ∧ w'.cell? ⟨I, 1, none⟩ = some (.int .i64 ia) ∧ w'.cell? ⟨I, 2, none⟩ = some (.int .i64 m) ∧ w'.cell? ⟨I, 3, none⟩ = some (.int .i64 ic) ∧ w'.cell? ⟨I, 4, none⟩ = some (.int .i64 iK) ∧ w'.cell? ⟨R, 0, none⟩ = some (.slice (some ⟨b, off, none⟩) fn fc) ∧ w'.cell? ⟨b, off + m * 4, none⟩ = some (.int .i64 n) ∧ w'.cell? ⟨I + 1, 0, none⟩ = some (.int .i64 t.number) ∧ w'.cell? ⟨I + 1, 1, none⟩ = some (.int .i64 t.spawned) ∧ w'.cell? ⟨I + 1, 2, none⟩ = some (.int .i64 0) ∧ w'.cell? ⟨I + 1, 3, none⟩ = some (.int .i64 0) ∧ w'.cell? ⟨I + 1, 4, none⟩ = some (.int .i64 0) ∧ w'.cell? ⟨I + 1, 5, none⟩ = some (.int .i64 0) ∧ w'.cell? ⟨I + 1, 6, none⟩ = some (.int .i64 0) ∧ w'.cell? ⟨X, 36, none⟩ = some (.int .i64 t.depth))) (by kernel_rfl) ?_ (fun hHeld => ?_)
    · (try dsimp only); first | exact ⟨c0, c1, c2, c3, c4, c5, p1, m0, m1, m2, m3, m4, m5, m6, x36⟩ | exact ⟨q0, q1, q2, q3, q4, q5, q6, u0, u1, u2, u3, u4, u5, u6, q36⟩ | go_keep
    refine wpAnyH_take (i := 0) (oi := { dst := some 20, op := Op.move (Operand.tmp 0), type := 86, pos := "run.go:92", after := #[], guard := none }) (v := ?_) rfl (by kernel_rfl) (by kernel_rfl) (by kernel_rfl) (fun _ _ _ h => h) (Or.inl ⟨by rfl, ?_⟩) (by assumption) ?_
    rotate_left
    · (intro wz hSw; (try dsimp only at hSw); go_simp; try with_reducible rfl)
    simp only [Act.put, List.setIfInBounds_toArray, List.set_cons_zero, List.set_cons_succ]
    refine wpAnyH_take (i := 1) (oi := { dst := some 21, op := Op.move (Operand.tmp 1), type := 88, pos := "run.go:92", after := #[], guard := none }) (v := ?_) rfl (by kernel_rfl) (by kernel_rfl) (by kernel_rfl) (fun _ _ _ h => h) (Or.inl ⟨by rfl, ?_⟩) (by assumption) ?_
    rotate_left
    · (intro wz hSw; (try dsimp only at hSw); go_simp; try with_reducible rfl)
    simp only [Act.put, List.setIfInBounds_toArray, List.set_cons_zero, List.set_cons_succ]
    refine wpAnyH_take (i := 2) (oi := { dst := some 22, op := Op.nilCheck (Operand.tmp 21), type := 0, pos := "run.go:92", after := #[{ on := 1, ground := Ground.data }], guard := none }) (v := ?_) rfl (by kernel_rfl) (by kernel_rfl) (by kernel_rfl) (fun _ _ _ h => h) (Or.inl ⟨by rfl, ?_⟩) (by assumption) ?_
    rotate_left
    · (intro wz hSw; (try dsimp only at hSw); go_simp; try with_reducible rfl)
    simp only [Act.put, List.setIfInBounds_toArray, List.set_cons_zero, List.set_cons_succ]
    refine wpAnyH_take (i := 3) (oi := { dst := some 23, op := Op.fieldAddr 67 (Operand.tmp 22) 0, type := 0, pos := "run.go:92", after := #[{ on := 2, ground := Ground.data }], guard := none }) (v := ?_) rfl (by kernel_rfl) (by kernel_rfl) (by kernel_rfl) (fun _ _ _ h => h) (Or.inl ⟨by rfl, ?_⟩) (by assumption) ?_
    rotate_left
    · (intro wz hSw; (try dsimp only at hSw); go_simp; try with_reducible rfl)
    simp only [Act.put, List.setIfInBounds_toArray, List.set_cons_zero, List.set_cons_succ]
    refine wpAnyH_take (i := 4) (oi := { dst := some 24, op := Op.load 37 (Operand.tmp 5), type := 37, pos := "run.go:92", after := #[], guard := none }) (v := ?_) rfl (by kernel_rfl) (by kernel_rfl) (by kernel_rfl) (fun _ _ _ h => h) (Or.inl ⟨by rfl, ?_⟩) (by assumption) ?_
    rotate_left
    · (intro wz hSw; (try dsimp only at hSw); go_simp; try with_reducible rfl)
    simp only [Act.put, List.setIfInBounds_toArray, List.set_cons_zero, List.set_cons_succ]
    refine wpAnyH_take (i := 5) (oi := { dst := some 25, op := Op.move (Operand.tmp 0), type := 86, pos := "run.go:92", after := #[], guard := none }) (v := ?_) rfl (by kernel_rfl) (by kernel_rfl) (by kernel_rfl) (fun _ _ _ h => h) (Or.inl ⟨by rfl, ?_⟩) (by assumption) ?_
    rotate_left
    · (intro wz hSw; (try dsimp only at hSw); go_simp; try with_reducible rfl)
    simp only [Act.put, List.setIfInBounds_toArray, List.set_cons_zero, List.set_cons_succ]
    refine wpAnyH_take (i := 6) (oi := { dst := some 26, op := Op.nilCheck (Operand.tmp 25), type := 0, pos := "run.go:92", after := #[{ on := 5, ground := Ground.data }], guard := none }) (v := ?_) rfl (by kernel_rfl) (by kernel_rfl) (by kernel_rfl) (fun _ _ _ h => h) (Or.inl ⟨by rfl, ?_⟩) (by assumption) ?_
    rotate_left
    · (intro wz hSw; (try dsimp only at hSw); go_simp; try with_reducible rfl)
    simp only [Act.put, List.setIfInBounds_toArray, List.set_cons_zero, List.set_cons_succ]
    refine wpAnyH_take (i := 7) (oi := { dst := some 27, op := Op.fieldAddr 57 (Operand.tmp 26) 0, type := 0, pos := "run.go:92", after := #[{ on := 6, ground := Ground.data }], guard := none }) (v := ?_) rfl (by kernel_rfl) (by kernel_rfl) (by kernel_rfl) (fun _ _ _ h => h) (Or.inl ⟨by rfl, ?_⟩) (by assumption) ?_
    rotate_left
    · (intro wz hSw; (try dsimp only at hSw); go_simp; try with_reducible rfl)
    simp only [Act.put, List.setIfInBounds_toArray, List.set_cons_zero, List.set_cons_succ]
    refine wpAnyH_take (i := 8) (oi := { dst := some 28, op := Op.load 22 (Operand.tmp 27), type := 22, pos := "run.go:92", after := #[{ on := 7, ground := Ground.data }], guard := none }) (v := ?_) rfl (by kernel_rfl) (by kernel_rfl) (by kernel_rfl) (fun _ _ _ h => h) (Or.inl ⟨by rfl, ?_⟩) (by assumption) ?_
    rotate_left
    · (intro wz hSw; (try dsimp only at hSw); go_simp; try with_reducible rfl)
    simp only [Act.put, List.setIfInBounds_toArray, List.set_cons_zero, List.set_cons_succ]
    refine wpAnyH_take (i := 9) (oi := { dst := some 29, op := Op.fieldAddr 37 (Operand.tmp 5) 2, type := 0, pos := "run.go:92", after := #[], guard := none }) (v := ?_) rfl (by kernel_rfl) (by kernel_rfl) (by kernel_rfl) (fun _ _ _ h => h) (Or.inl ⟨by rfl, ?_⟩) (by assumption) ?_
    rotate_left
    · (intro wz hSw; (try dsimp only at hSw); go_simp; try with_reducible rfl)
    simp only [Act.put, List.setIfInBounds_toArray, List.set_cons_zero, List.set_cons_succ]
    refine wpAnyH_take (i := 10) (oi := { dst := some 30, op := Op.load 3 (Operand.tmp 29), type := 3, pos := "run.go:92", after := #[{ on := 9, ground := Ground.data }], guard := none }) (v := ?_) rfl (by kernel_rfl) (by kernel_rfl) (by kernel_rfl) (fun _ _ _ h => h) (Or.inl ⟨by rfl, ?_⟩) (by assumption) ?_
    rotate_left
    · (intro wz hSw; (try dsimp only at hSw); go_simp; try with_reducible rfl)
    simp only [Act.put, List.setIfInBounds_toArray, List.set_cons_zero, List.set_cons_succ]
    refine wpAnyH_take (i := 11) (oi := { dst := some 31, op := Op.indexAddr 22 (Operand.tmp 28) (Operand.tmp 30), type := 0, pos := "run.go:92", after := #[{ on := 8, ground := Ground.data }, { on := 10, ground := Ground.data }], guard := none }) (v := ?_) rfl (by kernel_rfl) (by kernel_rfl) (by kernel_rfl) (fun _ _ _ h => h) (Or.inl ⟨by rfl, ?_⟩) (by assumption) ?_
    rotate_left
    · (intro wz hSw; (try dsimp only at hSw); go_simp; try with_reducible rfl)
    simp only [Act.put, List.setIfInBounds_toArray, List.set_cons_zero, List.set_cons_succ]
    refine wpAnyH_take (i := 12) (oi := { dst := some 32, op := Op.fieldAddr 35 (Operand.tmp 31) 0, type := 0, pos := "run.go:92", after := #[{ on := 11, ground := Ground.data }], guard := none }) (v := ?_) rfl (by kernel_rfl) (by kernel_rfl) (by kernel_rfl) (fun _ _ _ h => h) (Or.inl ⟨by rfl, ?_⟩) (by assumption) ?_
    rotate_left
    · (intro wz hSw; (try dsimp only at hSw); go_simp; try with_reducible rfl)
    simp only [Act.put, List.setIfInBounds_toArray, List.set_cons_zero, List.set_cons_succ]
    refine wpAnyH_take (i := 13) (oi := { dst := some 33, op := Op.load 3 (Operand.tmp 32), type := 3, pos := "run.go:92", after := #[{ on := 12, ground := Ground.data }], guard := none }) (v := ?_) rfl (by kernel_rfl) (by kernel_rfl) (by kernel_rfl) (fun _ _ _ h => h) (Or.inl ⟨by rfl, ?_⟩) (by assumption) ?_
    rotate_left
    · (intro wz hSw; (try dsimp only at hSw); go_simp; try with_reducible rfl)
    simp only [Act.put, List.setIfInBounds_toArray, List.set_cons_zero, List.set_cons_succ]
    refine wpAnyH_take (i := 15) (oi := { dst := some 35, op := Op.load 65 (Operand.tmp 6), type := 65, pos := "run.go:92", after := #[], guard := none }) (v := ?_) rfl (by kernel_rfl) (by kernel_rfl) (by kernel_rfl) (fun _ _ _ h => h) (Or.inl ⟨by rfl, ?_⟩) (by assumption) ?_
    rotate_left
    · (intro wz hSw; (try dsimp only at hSw); go_simp; try with_reducible rfl)
    simp only [Act.put, List.setIfInBounds_toArray, List.set_cons_zero, List.set_cons_succ]
    refine wpAnyH_take (i := 16) (oi := { dst := some 36, op := Op.move (Operand.tmp 1), type := 88, pos := "run.go:92", after := #[], guard := none }) (v := ?_) rfl (by kernel_rfl) (by kernel_rfl) (by kernel_rfl) (fun _ _ _ h => h) (Or.inl ⟨by rfl, ?_⟩) (by assumption) ?_
    rotate_left
    · (intro wz hSw; (try dsimp only at hSw); go_simp; try with_reducible rfl)
    simp only [Act.put, List.setIfInBounds_toArray, List.set_cons_zero, List.set_cons_succ]
    refine wpAnyH_take (i := 17) (oi := { dst := some 37, op := Op.nilCheck (Operand.tmp 36), type := 0, pos := "run.go:92", after := #[{ on := 16, ground := Ground.data }], guard := none }) (v := ?_) rfl (by kernel_rfl) (by kernel_rfl) (by kernel_rfl) (fun _ _ _ h => h) (Or.inl ⟨by rfl, ?_⟩) (by assumption) ?_
    rotate_left
    · (intro wz hSw; (try dsimp only at hSw); go_simp; try with_reducible rfl)
    simp only [Act.put, List.setIfInBounds_toArray, List.set_cons_zero, List.set_cons_succ]
    refine wpAnyH_take (i := 18) (oi := { dst := some 38, op := Op.fieldAddr 67 (Operand.tmp 37) 4, type := 0, pos := "run.go:92", after := #[{ on := 17, ground := Ground.data }], guard := none }) (v := ?_) rfl (by kernel_rfl) (by kernel_rfl) (by kernel_rfl) (fun _ _ _ h => h) (Or.inl ⟨by rfl, ?_⟩) (by assumption) ?_
    rotate_left
    · (intro wz hSw; (try dsimp only at hSw); go_simp; try with_reducible rfl)
    simp only [Act.put, List.setIfInBounds_toArray, List.set_cons_zero, List.set_cons_succ]
    refine wpAnyH_take (i := 19) (oi := { dst := some 39, op := Op.load 3 (Operand.tmp 38), type := 3, pos := "run.go:92", after := #[{ on := 18, ground := Ground.data }], guard := none }) (v := ?_) rfl (by kernel_rfl) (by kernel_rfl) (by kernel_rfl) (fun _ _ _ h => h) (Or.inl ⟨by rfl, ?_⟩) (by assumption) ?_
    rotate_left
    · (intro wz hSw; (try dsimp only at hSw); go_simp; try with_reducible rfl)
    simp only [Act.put, List.setIfInBounds_toArray, List.set_cons_zero, List.set_cons_succ]
    refine wpAnyH_take (i := 20) (oi := { dst := some 40, op := Op.binOp BinOp.add 3 (Operand.tmp 39) (Operand.const (Value.int IntKind.i64 1)) 3, type := 3, pos := "run.go:92", after := #[{ on := 19, ground := Ground.data }], guard := none }) (v := ?_) rfl (by kernel_rfl) (by kernel_rfl) (by kernel_rfl) (fun _ _ _ h => h) (Or.inl ⟨by rfl, ?_⟩) (by assumption) ?_
    rotate_left
    · (intro wz hSw; (try dsimp only at hSw); go_simp; try with_reducible rfl)
    simp only [Act.put, List.setIfInBounds_toArray, List.set_cons_zero, List.set_cons_succ]
    refine wpAnyH_ready (rs := [14]) (by kernel_rfl) (by simp) ?_
    refine AllReadyH.cons (o := { dst := some 34, op := Op.call { callee := Callee.value (Operand.func 43), args := #[Operand.tmp 23, Operand.tmp 24, Operand.tmp 33], argTypes := #[62, 37, 3] }, type := 62, pos := "run.go:92", after := #[{ on := 3, ground := Ground.data }, { on := 4, ground := Ground.data }, { on := 13, ground := Ground.data }], guard := none }) rfl (fun K hK => ?_) ?_
    · go_simp
      refine (HCH.out _ (Keeps.drew None wc)).mono ?_
      rintro _ w4 ⟨rfl, HT4, q36, hk4⟩
      have q0 := hk4.cell (a := ⟨I, 0, none⟩) c0 nI
      have q1 := hk4.cell (a := ⟨I, 1, none⟩) c1 nI
      have q2 := hk4.cell (a := ⟨I, 2, none⟩) c2 nI
      have q3 := hk4.cell (a := ⟨I, 3, none⟩) c3 nI
      have q4 := hk4.cell (a := ⟨I, 4, none⟩) c4 nI
      have q5 := hk4.cell (a := ⟨R, 0, none⟩) c5 nR
      have q6 := hk4.cell (a := ⟨b, off + m * 4, none⟩) p1 nb
      have u0 := hk4.cell (a := ⟨I + 1, 0, none⟩) m0 nN
      have u1 := hk4.cell (a := ⟨I + 1, 1, none⟩) m1 nN
      have u2 := hk4.cell (a := ⟨I + 1, 2, none⟩) m2 nN
      have u3 := hk4.cell (a := ⟨I + 1, 3, none⟩) m3 nN
      have u4 := hk4.cell (a := ⟨I + 1, 4, none⟩) m4 nN
      have u5 := hk4.cell (a := ⟨I + 1, 5, none⟩) m5 nN
      have u6 := hk4.cell (a := ⟨I + 1, 6, none⟩) m6 nN
      refine hK.out _ _ ?_ (fun hHeld2 => ?_)
      · (try dsimp only); first | exact ⟨c0, c1, c2, c3, c4, c5, p1, m0, m1, m2, m3, m4, m5, m6, x36⟩ | exact ⟨q0, q1, q2, q3, q4, q5, q6, u0, u1, u2, u3, u4, u5, u6, q36⟩ | go_keep
      clear hK K
      try simp only [Act.put, List.setIfInBounds_toArray, List.set_cons_zero, List.set_cons_succ]
      refine wpAnyH_ready (rs := [21]) (by kernel_rfl) (by simp) ?_
      refine AllReadyH.cons (o := { dst := some 41, op := Op.build 67 #[(0, Operand.tmp 34), (2, Operand.tmp 35), (4, Operand.tmp 40)], type := 67, pos := "run.go:92", after := #[{ on := 14, ground := Ground.data }, { on := 15, ground := Ground.data }, { on := 20, ground := Ground.data }], guard := none }) rfl (fun K hK => ?_) ?_
      · refine step_build (cells := cw) rfl 67 #[(0, .tmp 34), (2, .tmp 35), (4, .tmp 40)] rfl (by simpa [Act.eval] using HBT.out) ?_
        refine hK.out _ _ ?_ (fun hHeld2 => ?_)
        · (try dsimp only); first | exact ⟨c0, c1, c2, c3, c4, c5, p1, m0, m1, m2, m3, m4, m5, m6, x36⟩ | exact ⟨q0, q1, q2, q3, q4, q5, q6, u0, u1, u2, u3, u4, u5, u6, q36⟩ | go_keep
        clear hK K
        try simp only [Act.put, List.setIfInBounds_toArray, List.set_cons_zero, List.set_cons_succ]
        refine wpAnyH_ready (rs := [22]) (by kernel_rfl) (by simp) ?_
        refine AllReadyH.cons (o := { dst := some 42, op := Op.call { callee := Callee.value (Operand.func 16), args := #[Operand.tmp 20, Operand.tmp 41], argTypes := #[86, 67] }, type := 58, pos := "run.go:92", after := #[{ on := 0, ground := Ground.data }, { on := 21, ground := Ground.data }, { on := 14, ground := Ground.chain }], guard := none }) rfl (fun K hK => ?_) ?_
        · go_simp
          refine (HPL.out _ ((Keeps.drew (· = X) wc).trans hk4 (fun _ e _ => e))).mono ?_
          rintro _ w5 ⟨rfl, hk5⟩
          exact ⟨rfl, rfl, (((HK.out.andDrew.mono (T := fun k => RFoot R nv k ∨ k = X) (fun _ f _ => f.elim)).trans hk4 (fun _ e _ => .inr e)).trans hk5 (fun _ e _ => .inl e))⟩
        exact AllReadyH.nil
      exact AllReadyH.nil
    exact AllReadyH.nil
end Go.Proofs.YtbdpdojeaahpjaaGreatDoor
