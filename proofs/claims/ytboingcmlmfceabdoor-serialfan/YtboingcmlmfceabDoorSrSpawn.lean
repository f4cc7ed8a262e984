import Derived.Test.YtboingcmlmfceabDoorSrChild
/-! spawn, upon what the play of a child comes to. -/
namespace Go.Proofs.YtboingcmlmfceabDoor
set_option linter.unusedVariables false
set_option maxRecDepth 20000
open Go.RowKit Go.HeapKit Go.PlainOps

def PlaysTo (R : Nat) (fv : Value) (L : Bool) (nv : Value) (w : World) (r : Res) (e : Ending) (w' : World) : Prop :=
  match r with
  | .gave err => e = .panicked (thrownE err) ∧ Keeps (RFoot R nv) w w'
  | .done v sp s' => e = .returned (.tuple #[.int .i64 v, .int .i64 sp]) ∧ ∃ nv', IsRn w' R fv L s' nv' ∧ Keeps (RFoot R nv) w w' ∧ Moved w nv nv'
theorem _root_.Go.HeapKit.Moved.back {w w1 : World} {v v' : Value} (h : Moved w1 v v') (hs : w.heap.size ≤ w1.heap.size) : Moved w v v' := by
  rcases h with h | ⟨g, h, hg⟩
  · exact .inl h
  · exact .inr ⟨g, h, by omega⟩
set_option maxHeartbeats 2000000 in
theorem spawn_gave (R X : Nat) (fa : Option Addr) (fn fc : Nat) (L : Bool) (s : Rn) (nv : Value) (t : Tk) (ik ia ic iK : Int) (m n b off : Nat) (er : Int) (w : World) (h : IsRn w R (.slice fa fn fc) L s nv) (ht : IsTk w X t)
    (hm : m < fn) (hfa : fa = some ⟨b, off, none⟩) (hb : ¬ RFoot R nv b ∧ b ≠ X) (hp : w.cell? ⟨b, off + m * 4, none⟩ = some (.int .i64 n)) (hn : n ≤ 8) (hd : 0 ≤ t.depth ∧ t.depth ≤ 4096) (hsp : 0 ≤ t.spawned ∧ t.spawned ≤ 8388608) (hc : n = 0 ∨ (0 ≤ ic ∧ ic + n ≤ 16))
    (hplay : ∀ wx, IsRn wx R (.slice fa fn fc) L s nv → Keeps (· = X) w wx → Calls Tryd.prog 27 #[.pointer (some ⟨R, 0, none⟩), tkV (childP t m ic n)] wx fun e w' => PlaysTo R (.slice fa fn fc) L nv wx (.gave er) e w') :
    Calls Tryd.prog 35 #[.pointer (some ⟨R, 0, none⟩), .pointer (some ⟨X, 0, none⟩), .agg #[.int .i64 ik, .int .i64 ia, .int .i64 m, .int .i64 ic, .int .i64 iK]] w fun e w' => e = .panicked (thrownE er) ∧ Keeps (fun k => RFoot R nv k ∨ k = X) w w' := by
  subst hfa
  have hal := Keeps.alloc None w (.cells #[.int .i64 ik, .int .i64 ia, .int .i64 m, .int .i64 ic, .int .i64 iK] 54)
  have bI := heap_alloc_new w (.cells #[.int .i64 ik, .int .i64 ia, .int .i64 m, .int .i64 ic, .int .i64 iK] 54)
  obtain ⟨W, hW⟩ : ∃ W, W = w.alloc (.cells #[.int .i64 ik, .int .i64 ia, .int .i64 m, .int .i64 ic, .int .i64 iK] 54) := ⟨_, rfl⟩
  obtain ⟨I, hI⟩ : ∃ I, I = w.heap.size := ⟨_, rfl⟩
  rw [← hW] at hal bI
  rw [← hI] at bI
  have r1 := h.kept hal (fun _ _ f => f)
  have t1 := ht.kept hal (fun f => f)
  have p1 := hal.cell hp (fun f => f)
  have c0 := (blk_cell bI 0).trans rfl
  have c1 := (blk_cell bI 1).trans rfl
  have c2 := (blk_cell bI 2).trans rfl
  have c3 := (blk_cell bI 3).trans rfl
  have c4 := (blk_cell bI 4).trans rfl
  have c5 : W.cell? ⟨R, 0, none⟩ = some (.slice (some ⟨b, off, none⟩) fn fc) := (blk_cell r1.blk 0).trans rfl
  have i1 : (m : Int) < (fn : Int) := by omega
  have hch := fun wx (hx : Keeps None W wx) => child_any X t ik ia (m : Int) ic iK n wx (t1.kept hx (fun f => f)) hn hd hsp hc
  have HCH : Hid _ := hch
  have HPL : Hid (∀ wx, Keeps (· = X) W wx → Calls Tryd.prog 27 #[.pointer (some ⟨R, 0, none⟩), tkV (childP t m ic n)] wx fun e w' => PlaysTo R (.slice (some ⟨b, off, none⟩) fn fc) L nv wx (.gave er) e w') :=
    fun wx hx => hplay wx (r1.kept hx (fun k hk e => by subst e; rcases hk with hk | hk; exact (h.ne ht) hk.symm; exact h.nX ht hk)) ((hal.mono (T := (· = X)) (fun _ f _ => f.elim)).trans hx (fun _ e _ => e))
  have HK : Hid (Keeps None w W) := hal
  have HT : Hid (IsTk W X t) := t1
  have HR : Hid (R ≠ X) := h.ne ht
  clear hch hplay h ht hal r1 t1 hp
  unfold tkV at HCH HPL
  generalize hcv : Value.agg (ints (childP t m ic n).l).toArray = cv at HCH HPL
  clear hcv
  go_enter Tryd.func35, Tryd.ntmps35
  go_upto_region 1 with fail
  rw [← hW, ← hI]
  clear hW hI
  have nI : I ≠ X := blk_ne bI HT.out.blk (by decide)
  have nR : R ≠ X := HR.out
  clear bI
  refine wp_region_held_drew (S := (fun w' => w'.cell? ⟨I, 0, none⟩ = some (.int .i64 ik) ∧ w'.cell? ⟨I, 1, none⟩ = some (.int .i64 ia) ∧ w'.cell? ⟨I, 2, none⟩ = some (.int .i64 m) ∧ w'.cell? ⟨I, 3, none⟩ = some (.int .i64 ic) ∧ w'.cell? ⟨I, 4, none⟩ = some (.int .i64 iK) ∧ w'.cell? ⟨R, 0, none⟩ = some (.slice (some ⟨b, off, none⟩) fn fc) ∧ w'.cell? ⟨b, off + m * 4, none⟩ = some (.int .i64 n))) (by kernel_rfl) ?_ (fun hHeld => ?_)
  · (try dsimp only); go_keep
  refine wpAnyH_take (i := 0) (oi := { dst := some 9, op := Op.move (Operand.tmp 0), type := 74, pos := "run.go:98", after := #[], guard := none }) (v := ?_) rfl (by kernel_rfl) (by kernel_rfl) (by kernel_rfl) (fun _ _ _ h => h) (Or.inl ⟨by rfl, ?_⟩) (by assumption) ?_
  rotate_left
  · (intro wz hSw; (try dsimp only at hSw); go_simp; try with_reducible rfl)
  simp only [Act.put, List.setIfInBounds_toArray, List.set_cons_zero, List.set_cons_succ]
  refine wpAnyH_take (i := 1) (oi := { dst := some 10, op := Op.move (Operand.tmp 1), type := 76, pos := "run.go:98", after := #[], guard := none }) (v := ?_) rfl (by kernel_rfl) (by kernel_rfl) (by kernel_rfl) (fun _ _ _ h => h) (Or.inl ⟨by rfl, ?_⟩) (by assumption) ?_
  rotate_left
  · (intro wz hSw; (try dsimp only at hSw); go_simp; try with_reducible rfl)
  simp only [Act.put, List.setIfInBounds_toArray, List.set_cons_zero, List.set_cons_succ]
  refine wpAnyH_take (i := 2) (oi := { dst := some 11, op := Op.load 54 (Operand.tmp 5), type := 54, pos := "run.go:98", after := #[], guard := none }) (v := ?_) rfl (by kernel_rfl) (by kernel_rfl) (by kernel_rfl) (fun _ _ _ h => h) (Or.inl ⟨by rfl, ?_⟩) (by assumption) ?_
  rotate_left
  · (intro wz hSw; (try dsimp only at hSw); go_simp; try with_reducible rfl)
  simp only [Act.put, List.setIfInBounds_toArray, List.set_cons_zero, List.set_cons_succ]
  refine wpAnyH_take (i := 3) (oi := { dst := some 12, op := Op.move (Operand.tmp 0), type := 74, pos := "run.go:98", after := #[], guard := none }) (v := ?_) rfl (by kernel_rfl) (by kernel_rfl) (by kernel_rfl) (fun _ _ _ h => h) (Or.inl ⟨by rfl, ?_⟩) (by assumption) ?_
  rotate_left
  · (intro wz hSw; (try dsimp only at hSw); go_simp; try with_reducible rfl)
  simp only [Act.put, List.setIfInBounds_toArray, List.set_cons_zero, List.set_cons_succ]
  refine wpAnyH_take (i := 4) (oi := { dst := some 13, op := Op.nilCheck (Operand.tmp 12), type := 0, pos := "run.go:98", after := #[{ on := 3, ground := Ground.data }], guard := none }) (v := ?_) rfl (by kernel_rfl) (by kernel_rfl) (by kernel_rfl) (fun _ _ _ h => h) (Or.inl ⟨by rfl, ?_⟩) (by assumption) ?_
  rotate_left
  · (intro wz hSw; (try dsimp only at hSw); go_simp; try with_reducible rfl)
  simp only [Act.put, List.setIfInBounds_toArray, List.set_cons_zero, List.set_cons_succ]
  refine wpAnyH_take (i := 5) (oi := { dst := some 14, op := Op.fieldAddr 58 (Operand.tmp 13) 0, type := 0, pos := "run.go:98", after := #[{ on := 4, ground := Ground.data }], guard := none }) (v := ?_) rfl (by kernel_rfl) (by kernel_rfl) (by kernel_rfl) (fun _ _ _ h => h) (Or.inl ⟨by rfl, ?_⟩) (by assumption) ?_
  rotate_left
  · (intro wz hSw; (try dsimp only at hSw); go_simp; try with_reducible rfl)
  simp only [Act.put, List.setIfInBounds_toArray, List.set_cons_zero, List.set_cons_succ]
  refine wpAnyH_take (i := 6) (oi := { dst := some 15, op := Op.load 28 (Operand.tmp 14), type := 28, pos := "run.go:98", after := #[{ on := 5, ground := Ground.data }], guard := none }) (v := ?_) rfl (by kernel_rfl) (by kernel_rfl) (by kernel_rfl) (fun _ _ _ h => h) (Or.inl ⟨by rfl, ?_⟩) (by assumption) ?_
  rotate_left
  · (intro wz hSw; (try dsimp only at hSw); go_simp; try with_reducible rfl)
  simp only [Act.put, List.setIfInBounds_toArray, List.set_cons_zero, List.set_cons_succ]
  refine wpAnyH_take (i := 7) (oi := { dst := some 16, op := Op.fieldAddr 54 (Operand.tmp 5) 2, type := 0, pos := "run.go:98", after := #[], guard := none }) (v := ?_) rfl (by kernel_rfl) (by kernel_rfl) (by kernel_rfl) (fun _ _ _ h => h) (Or.inl ⟨by rfl, ?_⟩) (by assumption) ?_
  rotate_left
  · (intro wz hSw; (try dsimp only at hSw); go_simp; try with_reducible rfl)
  simp only [Act.put, List.setIfInBounds_toArray, List.set_cons_zero, List.set_cons_succ]
  refine wpAnyH_take (i := 8) (oi := { dst := some 17, op := Op.load 3 (Operand.tmp 16), type := 3, pos := "run.go:98", after := #[{ on := 7, ground := Ground.data }], guard := none }) (v := ?_) rfl (by kernel_rfl) (by kernel_rfl) (by kernel_rfl) (fun _ _ _ h => h) (Or.inl ⟨by rfl, ?_⟩) (by assumption) ?_
  rotate_left
  · (intro wz hSw; (try dsimp only at hSw); go_simp; try with_reducible rfl)
  simp only [Act.put, List.setIfInBounds_toArray, List.set_cons_zero, List.set_cons_succ]
  refine wpAnyH_take (i := 9) (oi := { dst := some 18, op := Op.indexAddr 28 (Operand.tmp 15) (Operand.tmp 17), type := 0, pos := "run.go:98", after := #[{ on := 6, ground := Ground.data }, { on := 8, ground := Ground.data }], guard := none }) (v := ?_) rfl (by kernel_rfl) (by kernel_rfl) (by kernel_rfl) (fun _ _ _ h => h) (Or.inl ⟨by rfl, ?_⟩) (by assumption) ?_
  rotate_left
  · (intro wz hSw; (try dsimp only at hSw); go_simp; try with_reducible rfl)
  simp only [Act.put, List.setIfInBounds_toArray, List.set_cons_zero, List.set_cons_succ]
  refine wpAnyH_take (i := 10) (oi := { dst := some 19, op := Op.fieldAddr 46 (Operand.tmp 18) 0, type := 0, pos := "run.go:98", after := #[{ on := 9, ground := Ground.data }], guard := none }) (v := ?_) rfl (by kernel_rfl) (by kernel_rfl) (by kernel_rfl) (fun _ _ _ h => h) (Or.inl ⟨by rfl, ?_⟩) (by assumption) ?_
  rotate_left
  · (intro wz hSw; (try dsimp only at hSw); go_simp; try with_reducible rfl)
  simp only [Act.put, List.setIfInBounds_toArray, List.set_cons_zero, List.set_cons_succ]
  refine wpAnyH_take (i := 11) (oi := { dst := some 20, op := Op.load 3 (Operand.tmp 19), type := 3, pos := "run.go:98", after := #[{ on := 10, ground := Ground.data }], guard := none }) (v := ?_) rfl (by kernel_rfl) (by kernel_rfl) (by kernel_rfl) (fun _ _ _ h => h) (Or.inl ⟨by rfl, ?_⟩) (by assumption) ?_
  rotate_left
  · (intro wz hSw; (try dsimp only at hSw); go_simp; try with_reducible rfl)
  simp only [Act.put, List.setIfInBounds_toArray, List.set_cons_zero, List.set_cons_succ]
  refine wpAnyH_ready (rs := [12]) (by kernel_rfl) (by simp) ?_
  refine AllReadyH.cons (o := { dst := some 21, op := Op.call { callee := Callee.value (Operand.func 46), args := #[Operand.tmp 10, Operand.tmp 11, Operand.tmp 20], argTypes := #[76, 54, 3] }, type := 64, pos := "run.go:98", after := #[{ on := 1, ground := Ground.data }, { on := 2, ground := Ground.data }, { on := 11, ground := Ground.data }], guard := none }) rfl (fun K hK => ?_) ?_
  · go_simp
    refine (HCH.out _ (Keeps.drew None W)).mono ?_
    rintro _ w4 ⟨rfl, HT4, hk4⟩
    have q0 := hk4.cell (a := ⟨I, 0, none⟩) c0 nI
    have q1 := hk4.cell (a := ⟨I, 1, none⟩) c1 nI
    have q2 := hk4.cell (a := ⟨I, 2, none⟩) c2 nI
    have q3 := hk4.cell (a := ⟨I, 3, none⟩) c3 nI
    have q4 := hk4.cell (a := ⟨I, 4, none⟩) c4 nI
    have q5 := hk4.cell (a := ⟨R, 0, none⟩) c5 nR
    have q6 := hk4.cell (a := ⟨b, off + m * 4, none⟩) p1 hb.2
    refine hK.out _ _ ?_ (fun hHeld2 => ?_)
    · (try dsimp only); go_keep
    clear hK K
    try simp only [Act.put, List.setIfInBounds_toArray, List.set_cons_zero, List.set_cons_succ]
    refine wpAnyH_ready (rs := [13]) (by kernel_rfl) (by simp) ?_
    refine AllReadyH.cons (o := { dst := some 22, op := Op.call { callee := Callee.value (Operand.func 27), args := #[Operand.tmp 9, Operand.tmp 21], argTypes := #[74, 64] }, type := 59, pos := "run.go:98", after := #[{ on := 0, ground := Ground.data }, { on := 12, ground := Ground.data }, { on := 12, ground := Ground.chain }], guard := none }) rfl (fun K hK => ?_) ?_
    · go_simp
      refine (HPL.out _ ((Keeps.drew (· = X) W).trans hk4 (fun _ e _ => e))).mono ?_
      rintro _ w5 ⟨rfl, hk5⟩
      exact ⟨rfl, rfl, (((HK.out.andDrew.mono (T := fun k => RFoot R nv k ∨ k = X) (fun _ f _ => f.elim)).trans hk4 (fun _ e _ => .inr e)).trans hk5 (fun _ e _ => .inl e))⟩
    exact AllReadyH.nil
  exact AllReadyH.nil
set_option maxHeartbeats 2000000 in
theorem spawn_done (R X : Nat) (fa : Option Addr) (fn fc : Nat) (L : Bool) (s : Rn) (nv : Value) (t : Tk) (ik ia ic iK : Int) (m n b off : Nat) (v sp : Int) (s2 : Rn) (w : World) (h : IsRn w R (.slice fa fn fc) L s nv) (ht : IsTk w X t)
    (hm : m < fn) (hfa : fa = some ⟨b, off, none⟩) (hb : ¬ RFoot R nv b ∧ b ≠ X) (hp : w.cell? ⟨b, off + m * 4, none⟩ = some (.int .i64 n)) (hn : n ≤ 8) (hd : 0 ≤ t.depth ∧ t.depth ≤ 4096) (hsp : 0 ≤ t.spawned ∧ t.spawned ≤ 8388608) (hc : n = 0 ∨ (0 ≤ ic ∧ ic + n ≤ 16)) (a : Nat) (ha : ia = a) (ha8 : a < 8) (hb1 : 0 ≤ t.span ∧ t.span ≤ 8388608) (hb2 : 0 ≤ t.due ∧ t.due ≤ 8388608) (hb3 : 0 ≤ sp ∧ sp ≤ 8388608)
    (hplay : ∀ wx, IsRn wx R (.slice fa fn fc) L s nv → Keeps (· = X) w wx → Calls Tryd.prog 27 #[.pointer (some ⟨R, 0, none⟩), tkV (childP t m ic n)] wx fun e w' => PlaysTo R (.slice fa fn fc) L nv wx (.done v sp s2) e w') :
    Calls Tryd.prog 35 #[.pointer (some ⟨R, 0, none⟩), .pointer (some ⟨X, 0, none⟩), .agg #[.int .i64 ik, .int .i64 ia, .int .i64 m, .int .i64 ic, .int .i64 iK]] w fun e w' => e = .returned (.tuple #[]) ∧ ∃ nv', IsRn w' R (.slice fa fn fc) L s2 nv' ∧ IsTk w' X (gotT (spawnT t) a v sp) ∧ Keeps (fun k => RFoot R nv k ∨ k = X) w w' ∧ Moved w nv nv' := by
  subst hfa
  subst ha
  have hal := Keeps.alloc None w (.cells #[.int .i64 ik, .int .i64 a, .int .i64 m, .int .i64 ic, .int .i64 iK] 54)
  have bI := heap_alloc_new w (.cells #[.int .i64 ik, .int .i64 a, .int .i64 m, .int .i64 ic, .int .i64 iK] 54)
  obtain ⟨W, hW⟩ : ∃ W, W = w.alloc (.cells #[.int .i64 ik, .int .i64 a, .int .i64 m, .int .i64 ic, .int .i64 iK] 54) := ⟨_, rfl⟩
  obtain ⟨I, hI⟩ : ∃ I, I = w.heap.size := ⟨_, rfl⟩
  rw [← hW] at hal bI
  rw [← hI] at bI
  have r1 := h.kept hal (fun _ _ f => f)
  have t1 := ht.kept hal (fun f => f)
  have p1 := hal.cell hp (fun f => f)
  have c0 := (blk_cell bI 0).trans rfl
  have c1 := (blk_cell bI 1).trans rfl
  have c2 := (blk_cell bI 2).trans rfl
  have c3 := (blk_cell bI 3).trans rfl
  have c4 := (blk_cell bI 4).trans rfl
  have c5 : W.cell? ⟨R, 0, none⟩ = some (.slice (some ⟨b, off, none⟩) fn fc) := (blk_cell r1.blk 0).trans rfl
  have i1 : (m : Int) < (fn : Int) := by omega
  have hch := fun wx (hx : Keeps None W wx) => child_any X t ik a (m : Int) ic iK n wx (t1.kept hx (fun f => f)) hn hd hsp hc
  have HCH : Hid _ := hch
  have HPL : Hid (∀ wx, Keeps (· = X) W wx → Calls Tryd.prog 27 #[.pointer (some ⟨R, 0, none⟩), tkV (childP t m ic n)] wx fun e w' => PlaysTo R (.slice (some ⟨b, off, none⟩) fn fc) L nv wx (.done v sp s2) e w') :=
    fun wx hx => hplay wx (r1.kept hx (fun k hk e => by subst e; rcases hk with hk | hk; exact (h.ne ht) hk.symm; exact h.nX ht hk)) ((hal.mono (T := (· = X)) (fun _ f _ => f.elim)).trans hx (fun _ e _ => e))
  have HK : Hid (Keeps None w W) := hal
  have HNX : Hid (¬ RFoot R nv X) := fun e => by rcases e with e | e; exact (h.ne ht) e.symm; exact h.nX ht e
  have HNI : Hid (¬ RFoot R nv I) := fun e => by rcases e with e | e; exact absurd (blk_ne bI r1.blk (by decide)) (fun q => q e); exact absurd (own_type r1.row e bI) (by decide)
  have HNB : Hid (¬ RFoot R nv b) := hb.1
  have HT : Hid (IsTk W X t) := t1
  have HR : Hid (R ≠ X) := h.ne ht
  clear hch hplay h ht hal r1 t1 hp
  unfold tkV at HCH HPL
  generalize hcv : Value.agg (ints (childP t m ic n).l).toArray = cv at HCH HPL
  clear hcv
  go_enter Tryd.func35, Tryd.ntmps35
  go_upto_region 1 with fail
  rw [← hW, ← hI]
  clear hW hI
  have nI : I ≠ X := blk_ne bI HT.out.blk (by decide)
  have nR : R ≠ X := HR.out
  have HBI : Hid _ := bI
  clear bI
  go_cut [5, 6, 7] (fun s5 s6 s7 wx => s5 = .pointer (some ⟨I, 0, none⟩) ∧ s6 = .int .i64 v ∧ s7 = .int .i64 sp ∧ wx.heap[I]? = some (.cells #[.int .i64 ik, .int .i64 a, .int .i64 m, .int .i64 ic, .int .i64 iK] 54 (0, 0)) ∧ ∃ nv', IsRn wx R (.slice (some ⟨b, off, none⟩) fn fc) L s2 nv' ∧ IsTk wx X (spawnT t) ∧ Keeps (fun k => RFoot R nv k ∨ k = X) w wx ∧ Moved w nv nv')
  case first =>
    refine wp_region_held_drew (S := (fun w' => w'.cell? ⟨I, 0, none⟩ = some (.int .i64 ik) ∧ w'.cell? ⟨I, 1, none⟩ = some (.int .i64 a) ∧ w'.cell? ⟨I, 2, none⟩ = some (.int .i64 m) ∧ w'.cell? ⟨I, 3, none⟩ = some (.int .i64 ic) ∧ w'.cell? ⟨I, 4, none⟩ = some (.int .i64 iK) ∧ w'.cell? ⟨R, 0, none⟩ = some (.slice (some ⟨b, off, none⟩) fn fc) ∧ w'.cell? ⟨b, off + m * 4, none⟩ = some (.int .i64 n))) (by kernel_rfl) ?_ (fun hHeld => ?_)
    · (try dsimp only); go_keep
    refine wpAnyH_take (i := 0) (oi := { dst := some 9, op := Op.move (Operand.tmp 0), type := 74, pos := "run.go:98", after := #[], guard := none }) (v := ?_) rfl (by kernel_rfl) (by kernel_rfl) (by kernel_rfl) (fun _ _ _ h => h) (Or.inl ⟨by rfl, ?_⟩) (by assumption) ?_
    rotate_left
    · (intro wz hSw; (try dsimp only at hSw); go_simp; try with_reducible rfl)
    simp only [Act.put, List.setIfInBounds_toArray, List.set_cons_zero, List.set_cons_succ]
    refine wpAnyH_take (i := 1) (oi := { dst := some 10, op := Op.move (Operand.tmp 1), type := 76, pos := "run.go:98", after := #[], guard := none }) (v := ?_) rfl (by kernel_rfl) (by kernel_rfl) (by kernel_rfl) (fun _ _ _ h => h) (Or.inl ⟨by rfl, ?_⟩) (by assumption) ?_
    rotate_left
    · (intro wz hSw; (try dsimp only at hSw); go_simp; try with_reducible rfl)
    simp only [Act.put, List.setIfInBounds_toArray, List.set_cons_zero, List.set_cons_succ]
    refine wpAnyH_take (i := 2) (oi := { dst := some 11, op := Op.load 54 (Operand.tmp 5), type := 54, pos := "run.go:98", after := #[], guard := none }) (v := ?_) rfl (by kernel_rfl) (by kernel_rfl) (by kernel_rfl) (fun _ _ _ h => h) (Or.inl ⟨by rfl, ?_⟩) (by assumption) ?_
    rotate_left
    · (intro wz hSw; (try dsimp only at hSw); go_simp; try with_reducible rfl)
    simp only [Act.put, List.setIfInBounds_toArray, List.set_cons_zero, List.set_cons_succ]
    refine wpAnyH_take (i := 3) (oi := { dst := some 12, op := Op.move (Operand.tmp 0), type := 74, pos := "run.go:98", after := #[], guard := none }) (v := ?_) rfl (by kernel_rfl) (by kernel_rfl) (by kernel_rfl) (fun _ _ _ h => h) (Or.inl ⟨by rfl, ?_⟩) (by assumption) ?_
    rotate_left
    · (intro wz hSw; (try dsimp only at hSw); go_simp; try with_reducible rfl)
    simp only [Act.put, List.setIfInBounds_toArray, List.set_cons_zero, List.set_cons_succ]
    refine wpAnyH_take (i := 4) (oi := { dst := some 13, op := Op.nilCheck (Operand.tmp 12), type := 0, pos := "run.go:98", after := #[{ on := 3, ground := Ground.data }], guard := none }) (v := ?_) rfl (by kernel_rfl) (by kernel_rfl) (by kernel_rfl) (fun _ _ _ h => h) (Or.inl ⟨by rfl, ?_⟩) (by assumption) ?_
    rotate_left
    · (intro wz hSw; (try dsimp only at hSw); go_simp; try with_reducible rfl)
    simp only [Act.put, List.setIfInBounds_toArray, List.set_cons_zero, List.set_cons_succ]
    refine wpAnyH_take (i := 5) (oi := { dst := some 14, op := Op.fieldAddr 58 (Operand.tmp 13) 0, type := 0, pos := "run.go:98", after := #[{ on := 4, ground := Ground.data }], guard := none }) (v := ?_) rfl (by kernel_rfl) (by kernel_rfl) (by kernel_rfl) (fun _ _ _ h => h) (Or.inl ⟨by rfl, ?_⟩) (by assumption) ?_
    rotate_left
    · (intro wz hSw; (try dsimp only at hSw); go_simp; try with_reducible rfl)
    simp only [Act.put, List.setIfInBounds_toArray, List.set_cons_zero, List.set_cons_succ]
    refine wpAnyH_take (i := 6) (oi := { dst := some 15, op := Op.load 28 (Operand.tmp 14), type := 28, pos := "run.go:98", after := #[{ on := 5, ground := Ground.data }], guard := none }) (v := ?_) rfl (by kernel_rfl) (by kernel_rfl) (by kernel_rfl) (fun _ _ _ h => h) (Or.inl ⟨by rfl, ?_⟩) (by assumption) ?_
    rotate_left
    · (intro wz hSw; (try dsimp only at hSw); go_simp; try with_reducible rfl)
    simp only [Act.put, List.setIfInBounds_toArray, List.set_cons_zero, List.set_cons_succ]
    refine wpAnyH_take (i := 7) (oi := { dst := some 16, op := Op.fieldAddr 54 (Operand.tmp 5) 2, type := 0, pos := "run.go:98", after := #[], guard := none }) (v := ?_) rfl (by kernel_rfl) (by kernel_rfl) (by kernel_rfl) (fun _ _ _ h => h) (Or.inl ⟨by rfl, ?_⟩) (by assumption) ?_
    rotate_left
    · (intro wz hSw; (try dsimp only at hSw); go_simp; try with_reducible rfl)
    simp only [Act.put, List.setIfInBounds_toArray, List.set_cons_zero, List.set_cons_succ]
    refine wpAnyH_take (i := 8) (oi := { dst := some 17, op := Op.load 3 (Operand.tmp 16), type := 3, pos := "run.go:98", after := #[{ on := 7, ground := Ground.data }], guard := none }) (v := ?_) rfl (by kernel_rfl) (by kernel_rfl) (by kernel_rfl) (fun _ _ _ h => h) (Or.inl ⟨by rfl, ?_⟩) (by assumption) ?_
    rotate_left
    · (intro wz hSw; (try dsimp only at hSw); go_simp; try with_reducible rfl)
    simp only [Act.put, List.setIfInBounds_toArray, List.set_cons_zero, List.set_cons_succ]
    refine wpAnyH_take (i := 9) (oi := { dst := some 18, op := Op.indexAddr 28 (Operand.tmp 15) (Operand.tmp 17), type := 0, pos := "run.go:98", after := #[{ on := 6, ground := Ground.data }, { on := 8, ground := Ground.data }], guard := none }) (v := ?_) rfl (by kernel_rfl) (by kernel_rfl) (by kernel_rfl) (fun _ _ _ h => h) (Or.inl ⟨by rfl, ?_⟩) (by assumption) ?_
    rotate_left
    · (intro wz hSw; (try dsimp only at hSw); go_simp; try with_reducible rfl)
    simp only [Act.put, List.setIfInBounds_toArray, List.set_cons_zero, List.set_cons_succ]
    refine wpAnyH_take (i := 10) (oi := { dst := some 19, op := Op.fieldAddr 46 (Operand.tmp 18) 0, type := 0, pos := "run.go:98", after := #[{ on := 9, ground := Ground.data }], guard := none }) (v := ?_) rfl (by kernel_rfl) (by kernel_rfl) (by kernel_rfl) (fun _ _ _ h => h) (Or.inl ⟨by rfl, ?_⟩) (by assumption) ?_
    rotate_left
    · (intro wz hSw; (try dsimp only at hSw); go_simp; try with_reducible rfl)
    simp only [Act.put, List.setIfInBounds_toArray, List.set_cons_zero, List.set_cons_succ]
    refine wpAnyH_take (i := 11) (oi := { dst := some 20, op := Op.load 3 (Operand.tmp 19), type := 3, pos := "run.go:98", after := #[{ on := 10, ground := Ground.data }], guard := none }) (v := ?_) rfl (by kernel_rfl) (by kernel_rfl) (by kernel_rfl) (fun _ _ _ h => h) (Or.inl ⟨by rfl, ?_⟩) (by assumption) ?_
    rotate_left
    · (intro wz hSw; (try dsimp only at hSw); go_simp; try with_reducible rfl)
    simp only [Act.put, List.setIfInBounds_toArray, List.set_cons_zero, List.set_cons_succ]
    refine wpAnyH_ready (rs := [12]) (by kernel_rfl) (by simp) ?_
    refine AllReadyH.cons (o := { dst := some 21, op := Op.call { callee := Callee.value (Operand.func 46), args := #[Operand.tmp 10, Operand.tmp 11, Operand.tmp 20], argTypes := #[76, 54, 3] }, type := 64, pos := "run.go:98", after := #[{ on := 1, ground := Ground.data }, { on := 2, ground := Ground.data }, { on := 11, ground := Ground.data }], guard := none }) rfl (fun K hK => ?_) ?_
    · go_simp
      refine (HCH.out _ (Keeps.drew None W)).mono ?_
      rintro _ w4 ⟨rfl, HT4, hk4⟩
      have q0 := hk4.cell (a := ⟨I, 0, none⟩) c0 nI
      have q1 := hk4.cell (a := ⟨I, 1, none⟩) c1 nI
      have q2 := hk4.cell (a := ⟨I, 2, none⟩) c2 nI
      have q3 := hk4.cell (a := ⟨I, 3, none⟩) c3 nI
      have q4 := hk4.cell (a := ⟨I, 4, none⟩) c4 nI
      have q5 := hk4.cell (a := ⟨R, 0, none⟩) c5 nR
      have q6 := hk4.cell (a := ⟨b, off + m * 4, none⟩) p1 hb.2
      refine hK.out _ _ ?_ (fun hHeld2 => ?_)
      · (try dsimp only); go_keep
      clear hK K
      try simp only [Act.put, List.setIfInBounds_toArray, List.set_cons_zero, List.set_cons_succ]
      refine wpAnyH_ready (rs := [13]) (by kernel_rfl) (by simp) ?_
      refine AllReadyH.cons (o := { dst := some 22, op := Op.call { callee := Callee.value (Operand.func 27), args := #[Operand.tmp 9, Operand.tmp 21], argTypes := #[74, 64] }, type := 59, pos := "run.go:98", after := #[{ on := 0, ground := Ground.data }, { on := 12, ground := Ground.data }, { on := 12, ground := Ground.chain }], guard := none }) rfl (fun K hK => ?_) ?_
      · go_simp
        refine (HPL.out _ ((Keeps.drew (· = X) W).trans hk4 (fun _ e _ => e))).mono ?_
        rintro _ w5 ⟨rfl, nv5, hr5, hk5, hm5⟩
        have u0 := hk5.cell (a := ⟨I, 0, none⟩) q0 HNI.out
        have u1 := hk5.cell (a := ⟨I, 1, none⟩) q1 HNI.out
        have u2 := hk5.cell (a := ⟨I, 2, none⟩) q2 HNI.out
        have u3 := hk5.cell (a := ⟨I, 3, none⟩) q3 HNI.out
        have u4 := hk5.cell (a := ⟨I, 4, none⟩) q4 HNI.out
        have u5 : w5.cell? ⟨R, 0, none⟩ = some (.slice (some ⟨b, off, none⟩) fn fc) := (blk_cell hr5.blk 0).trans rfl
        have u6 := hk5.cell (a := ⟨b, off + m * 4, none⟩) q6 HNB.out
        refine hK.out _ _ ?_ (fun hHeld2 => ?_)
        · (try dsimp only); go_keep
        clear hK K
        try simp only [Act.put, List.setIfInBounds_toArray, List.set_cons_zero, List.set_cons_succ]
        refine wpAnyH_take (i := 14) (oi := { dst := some 8, op := Op.move (Operand.tmp 22), type := 59, pos := "run.go:98", after := #[{ on := 13, ground := Ground.data }], guard := none }) (v := ?_) rfl (by kernel_rfl) (by kernel_rfl) (by kernel_rfl) (fun _ _ _ h => h) (Or.inl ⟨by rfl, ?_⟩) (by assumption) ?_
        rotate_left
        · (intro wz hSw; (try dsimp only at hSw); go_simp; try with_reducible rfl)
        simp only [Act.put, List.setIfInBounds_toArray, List.set_cons_zero, List.set_cons_succ]
        refine wpAnyH_take (i := 15) (oi := { dst := some 23, op := Op.extract (Operand.tmp 8) 0, type := 2, pos := "run.go:98", after := #[{ on := 14, ground := Ground.data }], guard := none }) (v := ?_) rfl (by kernel_rfl) (by kernel_rfl) (by kernel_rfl) (fun _ _ _ h => h) (Or.inl ⟨by rfl, ?_⟩) (by assumption) ?_
        rotate_left
        · (intro wz hSw; (try dsimp only at hSw); go_simp; try with_reducible rfl)
        simp only [Act.put, List.setIfInBounds_toArray, List.set_cons_zero, List.set_cons_succ]
        refine wpAnyH_take (i := 16) (oi := { dst := some 24, op := Op.extract (Operand.tmp 8) 1, type := 3, pos := "run.go:98", after := #[{ on := 14, ground := Ground.data }, { on := 17, ground := Ground.gcOnly Departure.lateStores }], guard := none }) (v := ?_) rfl (by kernel_rfl) (by kernel_rfl) (by kernel_rfl) (fun _ _ _ h => h) (Or.inl ⟨by rfl, ?_⟩) (by assumption) ?_
        rotate_left
        · (intro wz hSw; (try dsimp only at hSw); go_simp; try with_reducible rfl)
        simp only [Act.put, List.setIfInBounds_toArray, List.set_cons_zero, List.set_cons_succ]
        refine wpAnyH_take (i := 17) (oi := { dst := some 6, op := Op.assign (Operand.tmp 23), type := 2, pos := "run.go:98", after := #[{ on := 15, ground := Ground.data }, { on := 13, ground := Ground.chain }, { on := 0, ground := Ground.phase }, { on := 1, ground := Ground.phase }, { on := 2, ground := Ground.phase }, { on := 3, ground := Ground.phase }, { on := 4, ground := Ground.phase }, { on := 5, ground := Ground.phase }, { on := 6, ground := Ground.phase }, { on := 7, ground := Ground.phase }, { on := 8, ground := Ground.phase }, { on := 9, ground := Ground.phase }, { on := 10, ground := Ground.phase }, { on := 11, ground := Ground.phase }, { on := 12, ground := Ground.phase }, { on := 13, ground := Ground.phase }, { on := 14, ground := Ground.phase }, { on := 15, ground := Ground.phase }, { on := 16, ground := Ground.textOnly Departure.lateStores }], guard := none }) (v := ?_) rfl (by kernel_rfl) (by kernel_rfl) (by kernel_rfl) (fun _ _ _ h => h) (Or.inl ⟨by rfl, ?_⟩) (by assumption) ?_
        rotate_left
        · (intro wz hSw; (try dsimp only at hSw); go_simp; try with_reducible rfl)
        simp only [Act.put, List.setIfInBounds_toArray, List.set_cons_zero, List.set_cons_succ]
        refine wpAnyH_take (i := 18) (oi := { dst := some 7, op := Op.assign (Operand.tmp 24), type := 3, pos := "run.go:98", after := #[{ on := 16, ground := Ground.data }, { on := 17, ground := Ground.chain }, { on := 0, ground := Ground.phase }, { on := 1, ground := Ground.phase }, { on := 2, ground := Ground.phase }, { on := 3, ground := Ground.phase }, { on := 4, ground := Ground.phase }, { on := 5, ground := Ground.phase }, { on := 6, ground := Ground.phase }, { on := 7, ground := Ground.phase }, { on := 8, ground := Ground.phase }, { on := 9, ground := Ground.phase }, { on := 10, ground := Ground.phase }, { on := 11, ground := Ground.phase }, { on := 12, ground := Ground.phase }, { on := 13, ground := Ground.phase }, { on := 14, ground := Ground.phase }, { on := 15, ground := Ground.phase }, { on := 16, ground := Ground.phase }, { on := 17, ground := Ground.phase }], guard := none }) (v := ?_) rfl (by kernel_rfl) (by kernel_rfl) (by kernel_rfl) (fun _ _ _ h => h) (Or.inl ⟨by rfl, ?_⟩) (by assumption) ?_
        rotate_left
        · (intro wz hSw; (try dsimp only at hSw); go_simp; try with_reducible rfl)
        simp only [Act.put, List.setIfInBounds_toArray, List.set_cons_zero, List.set_cons_succ]
        refine wpAnyH_done (by kernel_rfl) ?_ _
        go_wp2_with fail
        go_meet
        exact ⟨rfl, rfl, rfl, blk_kept (blk_kept HBI.out ((Keeps.drew (· = X) W).trans hk4 (fun _ e _ => e)) nI) hk5 HNI.out, nv5, hr5, HT4.kept hk5 HNX.out, ((HK.out.andDrew.mono (T := fun k => RFoot R nv k ∨ k = X) (fun _ f _ => f.elim)).trans hk4 (fun _ e _ => .inr e)).trans hk5 (fun _ e _ => .inl e), hm5.back (Nat.le_trans HK.out.andDrew.size hk4.size)⟩
      exact AllReadyH.nil
    exact AllReadyH.nil
  case rest =>
    obtain ⟨rfl, rfl, rfl, bI, nv5, hr5, ht5, hk5, hm5⟩ := hcut
    have e1 : wc.cell? ⟨I, 1, none⟩ = some (.int .i64 (a : Int)) := (blk_cell bI 1).trans rfl
    have e2 := ht5.slot ha8
    have e3 := ht5.free (16 + a)
    have i2 : (a : Int) < 8 := by omega
    have t6 := ht5.putSlot (x := v) ha8
    have k6 : Keeps (· = X) wc _ := Keeps.setCell (S := (· = X)) wc (a := ⟨X, 16 + a, none⟩) rfl (.int .i64 v)
    have t7 := t6.putTail (t' := gotT (spawnT t) a v sp) (j := 11) (x := imax t.due (t.span + sp)) rfl rfl rfl
    have k7 : Keeps (· = X) (wc.setCell ⟨X, 16 + a, none⟩ (.int .i64 v)) _ := Keeps.setCell (S := (· = X)) _ (a := ⟨X, 35, none⟩) rfl (.int .i64 (imax t.due (t.span + sp)))
    have k67 := k6.trans k7 (fun _ e _ => e)
    have f1 := t6.tail 11 rfl
    have f2 := t6.tail 10 rfl
    have f3 := t6.free 35
    have HF : Hid (∃ nv', IsRn ((wc.setCell ⟨X, 16 + a, none⟩ (.int .i64 v)).setCell ⟨X, 35, none⟩ (.int .i64 (imax t.due (t.span + sp)))) R (.slice (some ⟨b, off, none⟩) fn fc) L s2 nv' ∧ IsTk ((wc.setCell ⟨X, 16 + a, none⟩ (.int .i64 v)).setCell ⟨X, 35, none⟩ (.int .i64 (imax t.due (t.span + sp)))) X (gotT (spawnT t) a v sp) ∧ Keeps (fun k => RFoot R nv k ∨ k = X) w ((wc.setCell ⟨X, 16 + a, none⟩ (.int .i64 v)).setCell ⟨X, 35, none⟩ (.int .i64 (imax t.due (t.span + sp)))) ∧ Moved w nv nv') :=
      ⟨nv5, hr5.kept k67 (fun k hk e => by subst e; rcases hk with hk | hk; exact nR hk.symm; exact hr5.nX ht5 hk), t7, hk5.trans k67 (fun _ e _ => .inr e), hm5⟩
    have FD : Hid (∀ wz, (∃ nv', IsRn wz R (.slice (some ⟨b, off, none⟩) fn fc) L s2 nv' ∧ IsTk wz X (gotT (spawnT t) a v sp) ∧ Keeps (fun k => RFoot R nv k ∨ k = X) w wz ∧ Moved w nv nv') → (∃ nv', IsRn wz.drew R (.slice (some ⟨b, off, none⟩) fn fc) L s2 nv' ∧ IsTk wz.drew X (gotT (spawnT t) a v sp) ∧ Keeps (fun k => RFoot R nv k ∨ k = X) w wz.drew ∧ Moved w nv nv')) := by
      rintro wz ⟨nv', q1, q2, q3, q4⟩
      exact ⟨nv', q1.kept (Keeps.drew None _) (fun _ _ f => f), q2.kept (Keeps.drew None _) (fun f => f), q3.andDrew, q4⟩
    obtain ⟨y, hy⟩ : ∃ y, y = (spawnT t).slots.getD a 0 := ⟨_, rfl⟩
    rw [← hy] at e2
    have g1 : (wc.setCell ⟨X, 16 + a, none⟩ (.int .i64 v)).cell? ⟨X, 35, none⟩ = some (.int .i64 t.due) := f1
    have g2 : (wc.setCell ⟨X, 16 + a, none⟩ (.int .i64 v)).cell? ⟨X, 34, none⟩ = some (.int .i64 t.span) := f2
    clear bI hr5 ht5 hk5 hm5 t6 k6 t7 k7 k67 hy f1 f2 c0 c1 c2 c3 c4 c5 p1
    by_cases hlt : t.due < t.span + sp
    · have e : imax t.due (t.span + sp) = t.span + sp := if_pos hlt
      rw [e] at HF
      clear e
      go_wp2_with fail
      go_region
      all_goals go_wp2_with fail
      all_goals go_region
      all_goals go_end0
      all_goals exact ⟨rfl, FD.out _ (FD.out _ HF.out)⟩
    · have e : imax t.due (t.span + sp) = t.due := if_neg hlt
      rw [e] at HF
      clear e
      go_wp2_with fail
      go_region
      all_goals go_wp2_with fail
      all_goals go_region
      all_goals go_end0
      all_goals exact ⟨rfl, FD.out _ (FD.out _ HF.out)⟩
end Go.Proofs.YtboingcmlmfceabDoor
