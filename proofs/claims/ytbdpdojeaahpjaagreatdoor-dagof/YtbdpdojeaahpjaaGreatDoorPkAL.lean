import Derived.Test.YtbdpdojeaahpjaaGreatDoorPkAD
import Derived.Test.YtbdpdojeaahpjaaGreatDoorPkAE
import Derived.Test.YtbdpdojeaahpjaaGreatDoorPkAK
/-! Child, of package tasks. -/
namespace Go.Proofs.YtbdpdojeaahpjaaGreatDoor
set_option linter.unusedVariables false
set_option maxRecDepth 20000
set_option linter.unusedSimpArgs false
open Go.RowKit Go.HeapKit Go.PlainOps

theorem do_any (X ty : Nat) (t : Tsk) (rest : List Value) (i : Ins) (w : World) (ht : IsTsk w X ty t rest) (hk : i.kind = 0 ∨ i.kind = 1 ∨ i.kind = 2 ∨ i.kind = 3 ∨ i.kind = 4 ∨ i.kind = 8) (ha : i.kind ≠ 3 → 0 ≤ i.a ∧ i.a < 16) (hb : i.kind = 1 ∨ i.kind = 2 → 0 ≤ i.b ∧ i.b < 16) (hc : i.kind = 2 → 0 ≤ i.c ∧ i.c < 16) (ho : i.kind = 2 → 0 ≤ i.k ∧ i.k < 16) :
    Calls Tryz.prog 31 #[.pointer (some ⟨X, 0, none⟩), .agg #[.int .i64 i.kind, .int .i64 i.a, .int .i64 i.b, .int .i64 i.c, .int .i64 i.k]] w fun e w' => e = .returned (.tuple #[]) ∧ IsTsk w' X ty (doT t i) rest ∧ Keeps (· = X) w w' := by
  obtain ⟨K, A, B, C, k⟩ := i
  simp only at hk ha hb hc ho ⊢
  rcases hk with rfl | rfl | rfl | rfl | rfl | rfl
  · obtain ⟨a, rfl⟩ := Int.eq_ofNat_of_zero_le (ha (by decide)).1
    exact do0 X ty t rest a B C k w ht (by have := (ha (by decide)).2; omega)
  · have hb := hb (.inl rfl)
    obtain ⟨a, rfl⟩ := Int.eq_ofNat_of_zero_le (ha (by decide)).1
    obtain ⟨b, rfl⟩ := Int.eq_ofNat_of_zero_le hb.1
    exact do1 X ty t rest a b C k w ht (by have := (ha (by decide)).2; omega) (by omega)
  · have hb := hb (.inr rfl)
    have hc := hc rfl
    obtain ⟨a, rfl⟩ := Int.eq_ofNat_of_zero_le (ha (by decide)).1
    obtain ⟨b, rfl⟩ := Int.eq_ofNat_of_zero_le hb.1
    obtain ⟨c, rfl⟩ := Int.eq_ofNat_of_zero_le hc.1
    exact do2 X ty t rest a b c k w ht (by have := (ha (by decide)).2; omega) (by omega) (by omega) (by have := ho rfl; simp [isOpV, this.1, this.2])
  · exact do3 X ty t rest A B C k w ht
  · obtain ⟨a, rfl⟩ := Int.eq_ofNat_of_zero_le (ha (by decide)).1
    exact do4 X ty t rest a B C k w ht (by have := (ha (by decide)).2; omega)
  · obtain ⟨a, rfl⟩ := Int.eq_ofNat_of_zero_le (ha (by decide)).1
    exact do8 X ty t rest a B C k w ht (by have := (ha (by decide)).2; omega)

section
variable {P : Program} {w : World}
theorem step_store_row {ops : Array Oper} {o : Oper} {a : Act} {K : Act → World → Prop} {Q : Exit → Act → World → Prop} {E : Prop}
    (hg : o.guard = none) (ty : TypeId) (x y : Operand) (ho : o.op = .store ty x y)
    (g : Nat) (cells : Array Value) (hx : a.eval x = .pointer (some ⟨g, 0, none⟩)) (hy : a.eval y = .agg cells)
    (t : TypeId) (old : Array Value) (hgd : w.heap[g]? = some (.cells old t (0, 0))) (hi : (P.info? ty).map (·.size) = some cells.size)
    (hold : old.size = cells.size) (h1 : cells.all (·.oneCell') = true)
    (h : K (a.put o.dst undef) (w.setRow g cells)) : if Region.wanted o (yielded ops a.tmps) = true then Oper.wp P o a w K Q else E := by
  have hw : Region.wanted o (yielded ops a.tmps) = true := by simp [Region.wanted, hg]
  rw [if_pos hw]
  exact wp_store_row ty x y ho g cells hx hy t old hgd hi hold h1 h
theorem step_build {ops : Array Oper} {o : Oper} {a : Act} {K : Act → World → Prop} {Q : Exit → Act → World → Prop} {E : Prop}
    (hg : o.guard = none) (t : TypeId) (parts : Array (Nat × Operand)) (ho : o.op = .build t parts) {cells : Array Value}
    (hf : P.built t (parts.map fun (i, x) => (i, a.eval x)).toList = some cells)
    (h : K (a.put o.dst (.agg cells)) w) : if Region.wanted o (yielded ops a.tmps) = true then Oper.wp P o a w K Q else E := by
  have hw : Region.wanted o (yielded ops a.tmps) = true := by simp [Region.wanted, hg]
  rw [if_pos hw]
  refine wp_build t parts ho (by rw [hf]; rfl) ?_
  rw [hf]
  exact h
end
theorem args_zero (l : List Int) (c : Nat) : argsV l c 0 = List.replicate 16 0 := by simp [argsV, List.range, List.range.loop, List.replicate]
theorem args_step (l : List Int) (c k : Nat) (hk : k < 16) : (argsV l c k).set k (l.getD (c + k) 0) = argsV l c (k + 1) := by
  apply List.ext_getElem?
  intro j
  by_cases hj : j < 16
  · by_cases hjk : k = j
    · subst hjk
      rw [List.getElem?_set_self (by simp [argsV]; omega)]
      simp [argsV, hj]
    · rw [List.getElem?_set_ne hjk]
      simp only [argsV, List.getElem?_map, List.getElem?_range hj, Option.map_some]
      by_cases h1 : j < k
      · simp [h1, show j < k + 1 by omega]
      · simp [h1, show ¬ j < k + 1 by omega]
  · rw [List.getElem?_eq_none (by simp [argsV]; omega), List.getElem?_eq_none (by simp [argsV]; omega)]
theorem setRow_heap {w : World} {g : Nat} {c c' : Array Value} {t : TypeId} {z : Nat × Nat} (h : w.heap[g]? = some (.cells c t z)) : (w.setRow g c').heap[g]? = some (.cells c' t z) := by
  simp [World.setRow, Array.getElem?_modify, h]
theorem setRow_keeps (w : World) (g : Nat) (c' : Array Value) : Keeps (· = g) w (w.setRow g c') :=
  ⟨rfl, rfl, rfl, by simp [World.setRow], fun k hk hn => by simp [World.setRow, Array.getElem?_modify, show ¬ g = k from fun e => hn e.symm]⟩
theorem Tryz.infoTsk : (Tryz.prog.info? 62).map (·.size) = some 20 := by kernel_rfl
theorem ints_one (l : List Int) : (ints l).toArray.all (·.oneCell') = true := by
  rw [Array.all_eq_true_iff_forall_mem]
  intro x hx
  simp [ints] at hx
  obtain ⟨y, _, rfl⟩ := hx
  rfl
theorem tsk_len {t : Tsk} (h : t.regs.length = 16) : (ints t.l).toArray.size = 20 := by simp [ints, Tsk.l, h]
def blankK (f p : Int) : Tsk := ⟨f, 0, List.replicate 16 0, p, 0⟩
/-- The child of a task. -/
def childK (t : Tsk) (ib ic : Int) (n : Nat) : Tsk := ⟨ib, 0, argsV t.regs ic.toNat n, pedV t.ped t.spawned, 0⟩
set_option maxHeartbeats 2000000 in
theorem tchild_any (X ty : Nat) (t : Tsk) (rest : List Value) (ik ia ib : Int) (ic : Int) (iK : Int) (n : Nat) (w : World) (ht : IsTsk w X ty t rest) (hn : n ≤ 8) (hsp : 0 ≤ t.spawned ∧ t.spawned ≤ 8388608) (hc : n = 0 ∨ (0 ≤ ic ∧ ic + n ≤ 16)) :
    Calls Tryz.prog 43 #[.pointer (some ⟨X, 0, none⟩), .agg #[.int .i64 ik, .int .i64 ia, .int .i64 ib, .int .i64 ic, .int .i64 iK], .int .i64 n] w fun e w' => e = .returned (.agg (ints (childK t ib ic n).l).toArray) ∧ IsTsk w' X ty { t with spawned := t.spawned + 1 } rest ∧ Keeps (· = X) w w' := by
  go_enter Tryz.func43, Tryz.ntmps43
  go_upto_region 1 with fail
  obtain ⟨W, hW⟩ : ∃ W, W = (w.alloc (.cells #[.int .i64 ik, .int .i64 ia, .int .i64 ib, .int .i64 ic, .int .i64 iK] 37)).alloc (.cells (ints (blankK 0 0).l).toArray 62) := ⟨_, rfl⟩
  obtain ⟨B, hB⟩ : ∃ B, B = w.heap.size := ⟨_, rfl⟩
  have hk2 := keeps2 w (.cells #[.int .i64 ik, .int .i64 ia, .int .i64 ib, .int .i64 ic, .int .i64 iK] 37) (.cells (ints (blankK 0 0).l).toArray 62)
  obtain ⟨p1, p2⟩ := two_boxes w #[.int .i64 ik, .int .i64 ia, .int .i64 ib, .int .i64 ic, .int .i64 iK] (ints (blankK 0 0).l).toArray 37 62
  have hX : X < B := by rw [hB]; exact blk_lt ht.blk
  have s2 : W.heap.size = B + 2 := by rw [hW, hB]; simp
  rw [← hW] at hk2 p1 p2
  rw [← hB] at p1 p2
  have t2 := ht.kept hk2 (fun f => f)
  have c1 := t2.ped
  have c2 := t2.spawned
  have c3 : W.cell? ⟨B, 2, none⟩ = some (.int .i64 ib) := (blk_cell p1 2).trans rfl
  have HX : Hid (X < B ∧ W.heap.size = B + 2 ∧ B = w.heap.size ∧ IsTsk W X ty t rest ∧ Keeps None w W ∧ W.heap[B]? = some (.cells #[.int .i64 ik, .int .i64 ia, .int .i64 ib, .int .i64 ic, .int .i64 iK] 37 (0, 0)) ∧ W.heap[B + 1]? = some (.cells (ints (blankK 0 0).l).toArray 62 (0, 0))) := ⟨hX, s2, hB, t2, hk2, p1, p2⟩
  change Code.wp _ _ _ _ ((w.alloc (.cells #[.int .i64 ik, .int .i64 ia, .int .i64 ib, .int .i64 ic, .int .i64 iK] 37)).alloc (.cells (ints (blankK 0 0).l).toArray 62))
  rw [← hW, ← hB]
  have HS2 : Hid _ := s2
  have HPD : Hid (wrap64 (wrap64 (wrap64 (t.ped * 1000003) + t.spawned) + 1) = pedV t.ped t.spawned) := rfl
  have hped := fun wx => tped_any t.ped t.spawned wx
  rw [HPD.out] at hped
  have HPED : Hid _ := hped
  generalize hPV : pedV t.ped t.spawned = PV at HPED
  have HPV : Hid _ := hPV
  clear hX t2 hk2 p1 p2 ht hW hB s2 hPV hped HPD
  go_cut [7] (fun s7 wx => s7 = .pointer (some ⟨B + 2, 0, none⟩) ∧ IsTsk wx (B + 2) 62 (blankK ib PV) [] ∧ Keeps None W wx)
  case first =>
    have hst : ∀ wz : World, wz.heap.size = B + 2 → (wz.alloc (.cells (ints (blankK 0 0).l).toArray 62)).heap[B + 2]? = some (.cells (ints (blankK 0 0).l).toArray 62 (0, 0)) := fun wz hz => by
      have := heap_alloc_new wz (.cells (ints (blankK 0 0).l).toArray 62)
      rw [hz] at this
      exact this
    have hkf : Keeps None W ((W.drew.alloc (.cells (ints (blankK 0 0).l).toArray 62)).setRow (B + 2) (ints (blankK ib PV).l).toArray) := ((Keeps.drew None W).trans (Keeps.alloc None W.drew _) (fun _ f _ => f)).trans (setRow_keeps _ _ _) (fun i e hi => by have := HS2.out; omega)
    have q1 := hkf.cell c1 (fun f => f)
    have q2 := hkf.cell c2 (fun f => f)
    have q3 := hkf.cell c3 (fun f => f)
    have HF : Hid (IsTsk ((W.drew.alloc (.cells (ints (blankK 0 0).l).toArray 62)).setRow (B + 2) (ints (blankK ib PV).l).toArray) (B + 2) 62 (blankK ib PV) [] ∧ Keeps None W ((W.drew.alloc (.cells (ints (blankK 0 0).l).toArray 62)).setRow (B + 2) (ints (blankK ib PV).l).toArray)) := ⟨⟨by rw [setRow_heap (hst W.drew HS2.out)]; simp, rfl⟩, hkf⟩
    have HST : Hid _ := hst
    clear hst hkf
    refine wp_region_held_drew (S := (fun w' => w'.cell? ⟨X, 18, none⟩ = some (.int .i64 t.ped) ∧ w'.cell? ⟨X, 19, none⟩ = some (.int .i64 t.spawned) ∧ w'.cell? ⟨B, 2, none⟩ = some (.int .i64 ib))) (by kernel_rfl) ?_ (fun hHeld => ?_)
    · (try dsimp only); first | exact ⟨q1, q2, q3⟩ | go_keep
    refine wpAnyH_take (i := 0) (oi := { dst := some 9, op := Op.fieldAddr 37 (Operand.tmp 4) 2, type := 0, pos := "task.go:36", after := #[], guard := none }) (v := ?_) rfl (by kernel_rfl) (by kernel_rfl) (by kernel_rfl) (fun _ _ _ h => h) (Or.inl ⟨by rfl, ?_⟩) (by assumption) ?_
    rotate_left
    · (intro wz hSw; (try dsimp only at hSw); go_simp; try with_reducible rfl)
    simp only [Act.put, List.setIfInBounds_toArray, List.set_cons_zero, List.set_cons_succ]
    refine wpAnyH_take (i := 1) (oi := { dst := some 10, op := Op.load 3 (Operand.tmp 9), type := 3, pos := "task.go:36", after := #[{ on := 0, ground := Ground.data }], guard := none }) (v := ?_) rfl (by kernel_rfl) (by kernel_rfl) (by kernel_rfl) (fun _ _ _ h => h) (Or.inl ⟨by rfl, ?_⟩) (by assumption) ?_
    rotate_left
    · (intro wz hSw; (try dsimp only at hSw); go_simp; try with_reducible rfl)
    simp only [Act.put, List.setIfInBounds_toArray, List.set_cons_zero, List.set_cons_succ]
    refine wpAnyH_take (i := 2) (oi := { dst := some 11, op := Op.move (Operand.tmp 0), type := 112, pos := "task.go:36", after := #[], guard := none }) (v := ?_) rfl (by kernel_rfl) (by kernel_rfl) (by kernel_rfl) (fun _ _ _ h => h) (Or.inl ⟨by rfl, ?_⟩) (by assumption) ?_
    rotate_left
    · (intro wz hSw; (try dsimp only at hSw); go_simp; try with_reducible rfl)
    simp only [Act.put, List.setIfInBounds_toArray, List.set_cons_zero, List.set_cons_succ]
    refine wpAnyH_take (i := 3) (oi := { dst := some 12, op := Op.nilCheck (Operand.tmp 11), type := 0, pos := "task.go:36", after := #[{ on := 2, ground := Ground.data }], guard := none }) (v := ?_) rfl (by kernel_rfl) (by kernel_rfl) (by kernel_rfl) (fun _ _ _ h => h) (Or.inl ⟨by rfl, ?_⟩) (by assumption) ?_
    rotate_left
    · (intro wz hSw; (try dsimp only at hSw); go_simp; try with_reducible rfl)
    simp only [Act.put, List.setIfInBounds_toArray, List.set_cons_zero, List.set_cons_succ]
    refine wpAnyH_take (i := 4) (oi := { dst := some 13, op := Op.fieldAddr 62 (Operand.tmp 12) 3, type := 0, pos := "task.go:36", after := #[{ on := 3, ground := Ground.data }], guard := none }) (v := ?_) rfl (by kernel_rfl) (by kernel_rfl) (by kernel_rfl) (fun _ _ _ h => h) (Or.inl ⟨by rfl, ?_⟩) (by assumption) ?_
    rotate_left
    · (intro wz hSw; (try dsimp only at hSw); go_simp; try with_reducible rfl)
    simp only [Act.put, List.setIfInBounds_toArray, List.set_cons_zero, List.set_cons_succ]
    refine wpAnyH_take (i := 5) (oi := { dst := some 14, op := Op.load 2 (Operand.tmp 13), type := 2, pos := "task.go:36", after := #[{ on := 4, ground := Ground.data }], guard := none }) (v := ?_) rfl (by kernel_rfl) (by kernel_rfl) (by kernel_rfl) (fun _ _ _ h => h) (Or.inl ⟨by rfl, ?_⟩) (by assumption) ?_
    rotate_left
    · (intro wz hSw; (try dsimp only at hSw); go_simp; try with_reducible rfl)
    simp only [Act.put, List.setIfInBounds_toArray, List.set_cons_zero, List.set_cons_succ]
    refine wpAnyH_take (i := 6) (oi := { dst := some 15, op := Op.move (Operand.tmp 0), type := 112, pos := "task.go:36", after := #[], guard := none }) (v := ?_) rfl (by kernel_rfl) (by kernel_rfl) (by kernel_rfl) (fun _ _ _ h => h) (Or.inl ⟨by rfl, ?_⟩) (by assumption) ?_
    rotate_left
    · (intro wz hSw; (try dsimp only at hSw); go_simp; try with_reducible rfl)
    simp only [Act.put, List.setIfInBounds_toArray, List.set_cons_zero, List.set_cons_succ]
    refine wpAnyH_take (i := 7) (oi := { dst := some 16, op := Op.nilCheck (Operand.tmp 15), type := 0, pos := "task.go:36", after := #[{ on := 6, ground := Ground.data }], guard := none }) (v := ?_) rfl (by kernel_rfl) (by kernel_rfl) (by kernel_rfl) (fun _ _ _ h => h) (Or.inl ⟨by rfl, ?_⟩) (by assumption) ?_
    rotate_left
    · (intro wz hSw; (try dsimp only at hSw); go_simp; try with_reducible rfl)
    simp only [Act.put, List.setIfInBounds_toArray, List.set_cons_zero, List.set_cons_succ]
    refine wpAnyH_take (i := 8) (oi := { dst := some 17, op := Op.fieldAddr 62 (Operand.tmp 16) 4, type := 0, pos := "task.go:36", after := #[{ on := 7, ground := Ground.data }], guard := none }) (v := ?_) rfl (by kernel_rfl) (by kernel_rfl) (by kernel_rfl) (fun _ _ _ h => h) (Or.inl ⟨by rfl, ?_⟩) (by assumption) ?_
    rotate_left
    · (intro wz hSw; (try dsimp only at hSw); go_simp; try with_reducible rfl)
    simp only [Act.put, List.setIfInBounds_toArray, List.set_cons_zero, List.set_cons_succ]
    refine wpAnyH_take (i := 9) (oi := { dst := some 18, op := Op.load 3 (Operand.tmp 17), type := 3, pos := "task.go:36", after := #[{ on := 8, ground := Ground.data }], guard := none }) (v := ?_) rfl (by kernel_rfl) (by kernel_rfl) (by kernel_rfl) (fun _ _ _ h => h) (Or.inl ⟨by rfl, ?_⟩) (by assumption) ?_
    rotate_left
    · (intro wz hSw; (try dsimp only at hSw); go_simp; try with_reducible rfl)
    simp only [Act.put, List.setIfInBounds_toArray, List.set_cons_zero, List.set_cons_succ]
    refine wpAnyH_ready (rs := [10, 12]) (by kernel_rfl) (by simp) ?_
    refine AllReadyH.cons (o := { dst := some 19, op := Op.call { callee := Callee.value (Operand.func 55), args := #[Operand.tmp 14, Operand.tmp 18], argTypes := #[2, 3] }, type := 2, pos := "task.go:36", after := #[{ on := 5, ground := Ground.data }, { on := 9, ground := Ground.data }], guard := none }) rfl (fun K hK => ?_) ?_
    · go_simp
      refine (HPED.out _).mono ?_
      rintro _ w4 ⟨rfl, hw4⟩
      have hw5 := hw4.symm
      subst hw5
      refine hK.out _ _ ?_ (fun hHeld2 => ?_)
      · (try dsimp only); first | exact ⟨q1, q2, q3⟩ | go_keep
      clear hK K
      try simp only [Act.put, List.setIfInBounds_toArray, List.set_cons_zero, List.set_cons_succ]
      refine wpAnyH_take (i := 11) (oi := { dst := some 20, op := Op.build 62 #[(0, Operand.tmp 10), (3, Operand.tmp 19)], type := 62, pos := "task.go:36", after := #[{ on := 1, ground := Ground.data }, { on := 10, ground := Ground.data }], guard := none }) (v := ?_) rfl (by kernel_rfl) (by kernel_rfl) (by kernel_rfl) (fun _ _ _ h => h) (Or.inl ⟨by rfl, ?_⟩) (by assumption) ?_
      rotate_left
      · (intro wz hSw; (try dsimp only at hSw); go_simp; try with_reducible rfl)
      simp only [Act.put, List.setIfInBounds_toArray, List.set_cons_zero, List.set_cons_succ]
      refine wpAnyH_ready (rs := [12]) (by kernel_rfl) (by simp) ?_
      refine AllReadyH.cons (o := { dst := some 7, op := Op.alloc 62, type := 0, pos := "task.go:36", after := #[], guard := none }) rfl (fun K hK => ?_) ?_
      · go_simp
        refine hK.out _ _ ?_ (fun hHeld2 => ?_)
        · (try dsimp only); first | exact ⟨q1, q2, q3⟩ | go_keep
        clear hK K
        try simp only [Act.put, List.setIfInBounds_toArray, List.set_cons_zero, List.set_cons_succ]
        refine wpAnyH_ready (rs := [13]) (by kernel_rfl) (by simp) ?_
        refine AllReadyH.cons (o := { dst := none, op := Op.store 62 (Operand.tmp 7) (Operand.tmp 20), type := 0, pos := "task.go:36", after := #[{ on := 12, ground := Ground.data }, { on := 11, ground := Ground.data }, { on := 10, ground := Ground.chain }, { on := 0, ground := Ground.phase }, { on := 1, ground := Ground.phase }, { on := 2, ground := Ground.phase }, { on := 3, ground := Ground.phase }, { on := 4, ground := Ground.phase }, { on := 5, ground := Ground.phase }, { on := 6, ground := Ground.phase }, { on := 7, ground := Ground.phase }, { on := 8, ground := Ground.phase }, { on := 9, ground := Ground.phase }, { on := 10, ground := Ground.phase }, { on := 11, ground := Ground.phase }, { on := 12, ground := Ground.phase }], guard := none }) rfl (fun K hK => ?_) ?_
        · refine step_store_row rfl 62 (.tmp 7) (.tmp 20) rfl (B + 2) (ints (blankK ib PV).l).toArray (by simp [Act.eval, HS2.out]) rfl 62 (ints (blankK 0 0).l).toArray (HST.out W.drew HS2.out) Tryz.infoTsk rfl (ints_one _) ?_
          refine hK.out _ _ ?_ (fun hHeld2 => ?_)
          · (try dsimp only); first | exact ⟨q1, q2, q3⟩ | go_keep
          clear hK K
          try simp only [Act.put, List.setIfInBounds_toArray, List.set_cons_zero, List.set_cons_succ]
          refine wpAnyH_done (by kernel_rfl) ?_ _
          go_wp2_with fail
          go_meet
          exact ⟨by rw [HS2.out], HF.out⟩
        exact AllReadyH.nil
      exact AllReadyH.nil
    refine AllReadyH.cons (o := { dst := some 7, op := Op.alloc 62, type := 0, pos := "task.go:36", after := #[], guard := none }) rfl (fun K hK => ?_) ?_
    · go_simp
      refine hK.out _ _ ?_ (fun hHeld2 => ?_)
      · (try dsimp only); first | exact ⟨q1, q2, q3⟩ | go_keep
      clear hK K
      try simp only [Act.put, List.setIfInBounds_toArray, List.set_cons_zero, List.set_cons_succ]
      refine wpAnyH_ready (rs := [10]) (by kernel_rfl) (by simp) ?_
      refine AllReadyH.cons (o := { dst := some 19, op := Op.call { callee := Callee.value (Operand.func 55), args := #[Operand.tmp 14, Operand.tmp 18], argTypes := #[2, 3] }, type := 2, pos := "task.go:36", after := #[{ on := 5, ground := Ground.data }, { on := 9, ground := Ground.data }], guard := none }) rfl (fun K hK => ?_) ?_
      · go_simp
        refine (HPED.out _).mono ?_
        rintro _ w4 ⟨rfl, hw4⟩
        have hw5 := hw4.symm
        subst hw5
        refine hK.out _ _ ?_ (fun hHeld2 => ?_)
        · (try dsimp only); first | exact ⟨q1, q2, q3⟩ | go_keep
        clear hK K
        try simp only [Act.put, List.setIfInBounds_toArray, List.set_cons_zero, List.set_cons_succ]
        refine wpAnyH_take (i := 11) (oi := { dst := some 20, op := Op.build 62 #[(0, Operand.tmp 10), (3, Operand.tmp 19)], type := 62, pos := "task.go:36", after := #[{ on := 1, ground := Ground.data }, { on := 10, ground := Ground.data }], guard := none }) (v := ?_) rfl (by kernel_rfl) (by kernel_rfl) (by kernel_rfl) (fun _ _ _ h => h) (Or.inl ⟨by rfl, ?_⟩) (by assumption) ?_
        rotate_left
        · (intro wz hSw; (try dsimp only at hSw); go_simp; try with_reducible rfl)
        simp only [Act.put, List.setIfInBounds_toArray, List.set_cons_zero, List.set_cons_succ]
        refine wpAnyH_ready (rs := [13]) (by kernel_rfl) (by simp) ?_
        refine AllReadyH.cons (o := { dst := none, op := Op.store 62 (Operand.tmp 7) (Operand.tmp 20), type := 0, pos := "task.go:36", after := #[{ on := 12, ground := Ground.data }, { on := 11, ground := Ground.data }, { on := 10, ground := Ground.chain }, { on := 0, ground := Ground.phase }, { on := 1, ground := Ground.phase }, { on := 2, ground := Ground.phase }, { on := 3, ground := Ground.phase }, { on := 4, ground := Ground.phase }, { on := 5, ground := Ground.phase }, { on := 6, ground := Ground.phase }, { on := 7, ground := Ground.phase }, { on := 8, ground := Ground.phase }, { on := 9, ground := Ground.phase }, { on := 10, ground := Ground.phase }, { on := 11, ground := Ground.phase }, { on := 12, ground := Ground.phase }], guard := none }) rfl (fun K hK => ?_) ?_
        · refine step_store_row rfl 62 (.tmp 7) (.tmp 20) rfl (B + 2) (ints (blankK ib PV).l).toArray (by simp [Act.eval, HS2.out]) rfl 62 (ints (blankK 0 0).l).toArray (HST.out W.drew HS2.out) Tryz.infoTsk rfl (ints_one _) ?_
          refine hK.out _ _ ?_ (fun hHeld2 => ?_)
          · (try dsimp only); first | exact ⟨q1, q2, q3⟩ | go_keep
          clear hK K
          try simp only [Act.put, List.setIfInBounds_toArray, List.set_cons_zero, List.set_cons_succ]
          refine wpAnyH_done (by kernel_rfl) ?_ _
          go_wp2_with fail
          go_meet
          exact ⟨by rw [HS2.out], HF.out⟩
        exact AllReadyH.nil
      exact AllReadyH.nil
    exact AllReadyH.nil
  case rest =>
    obtain ⟨rfl, hY, hkW⟩ := hcut
    have tX := HX.out.2.2.2.1.kept hkW (fun f => f)
    have bI := blk_kept HX.out.2.2.2.2.2.1 hkW (fun f => f)
    have bR := blk_kept HX.out.2.2.2.2.2.2 hkW (fun f => f)
    have n1 : B + 2 ≠ X := by have := HX.out.1; omega
    have n2 : X ≠ B + 2 := n1.symm
    have n3 : ¬ B = B + 2 := by omega
    have d5 := tX.spawned
    have z5 := tX.free 19
    have tX2 := tX.putSpawned (x := t.spawned + 1)
    have kS : Keeps (· = X) wc _ := Keeps.setCell (S := (· = X)) wc (a := ⟨X, 19, none⟩) rfl (.int .i64 (t.spawned + 1))
    have hY2 := hY.kept kS n1
    have bI2 := blk_kept bI kS (by have := HX.out.1; omega)
    have bR2 := blk_kept bR kS (by have := HX.out.1; omega)
    have hkw : Keeps (· = X) w (wc.setCell ⟨X, 19, none⟩ (.int .i64 (t.spawned + 1))) := ((HX.out.2.2.2.2.1.trans hkW (fun _ f _ => f)).mono (T := (· = X)) (fun _ f _ => f.elim)).trans kS (fun _ e _ => e)
    have HD : Hid (IsTsk (wc.setCell ⟨X, 19, none⟩ (.int .i64 (t.spawned + 1))) (B + 2) 62 (blankK ib PV) [] ∧ IsTsk (wc.setCell ⟨X, 19, none⟩ (.int .i64 (t.spawned + 1))) X ty { t with spawned := t.spawned + 1 } rest ∧ (wc.setCell ⟨X, 19, none⟩ (.int .i64 (t.spawned + 1))).heap[B]? = some (.cells #[.int .i64 ik, .int .i64 ia, .int .i64 ib, .int .i64 ic, .int .i64 iK] 37 (0, 0)) ∧ (wc.setCell ⟨X, 19, none⟩ (.int .i64 (t.spawned + 1))).heap[B + 1]? = some (.cells (ints (blankK 0 0).l).toArray 62 (0, 0)) ∧ Keeps (· = X) w (wc.setCell ⟨X, 19, none⟩ (.int .i64 (t.spawned + 1)))) := ⟨hY2, tX2, bI2, bR2, hkw⟩
    clear hY hkW tX bI bR tX2 kS hY2 bI2 bR2 hkw c1 c2 c3
    go_upto_region 3 with fail
    obtain ⟨V, hV⟩ : ∃ V, V = wc.setCell ⟨X, 19, none⟩ (.int .i64 (t.spawned + 1)) := ⟨_, rfl⟩
    rw [← hV]
    rw [← hV] at HD
    clear hV d5 z5
    go_wp2_with fail
    go_loopw [29] (fun s29 wr => ∃ k : Nat, k ≤ n ∧ s29 = .int .i64 k ∧ IsTsk wr (B + 2) 62 ⟨ib, 0, argsV t.regs ic.toNat k, PV, 0⟩ [] ∧ IsTsk wr X ty { t with spawned := t.spawned + 1 } rest ∧ wr.heap[B]? = some (.cells #[.int .i64 ik, .int .i64 ia, .int .i64 ib, .int .i64 ic, .int .i64 iK] 37 (0, 0)) ∧ wr.heap[B + 1]? = some (.cells (ints (blankK 0 0).l).toArray 62 (0, 0)) ∧ Keeps (· = X) w wr) (fun i _ => n - (intOf i).toNat)
    case atStart =>
      refine ⟨0, Nat.zero_le _, rfl, ?_, HD.out.2⟩
      rw [args_zero]
      exact HD.out.1
    case round =>
      obtain ⟨k, hk, rfl, hY, tX, bI, bR, hkw⟩ := hrel
      by_cases hkn : k < n
      · have hic : 0 ≤ ic ∧ ic + n ≤ 16 := by omega
        obtain ⟨c, rfl⟩ := Int.eq_ofNat_of_zero_le hic.1
        have i1 : (k : Int) < (n : Int) := by omega
        have i2 : (k : Int) < 16 := by omega
        have i3 : (c : Int) + (k : Int) < 16 := by omega
        have i4 : (0 : Int) ≤ (c : Int) + (k : Int) := by omega
        have y1 : wr.cell? ⟨B, 3, none⟩ = some (.int .i64 (c : Int)) := (blk_cell bI 3).trans rfl
        have y2 := tX.reg (k := c + k) (by omega)
        have y3 := hY.reg (k := k) (by omega)
        have y4 := hY.free (2 + k)
        have hY3 := hY.putReg (k := k) (x := t.regs.getD (c + k) 0) (by omega)
        have kY : Keeps (· = B + 2) wr _ := Keeps.setCell (S := (· = B + 2)) wr (a := ⟨B + 2, 2 + k, none⟩) rfl (.int .i64 (t.regs.getD (c + k) 0))
        have HR : Hid _ := And.intro (hY3.kept (Keeps.drew None _) (fun f => f)) (And.intro ((tX.kept kY n2).kept (Keeps.drew None _) (fun f => f)) (And.intro (blk_kept (blk_kept bI kY n3) (Keeps.drew None _) (fun f => f)) (And.intro (blk_kept (blk_kept bR kY (by omega)) (Keeps.drew None _) (fun f => f)) ((hkw.trans kY (fun i e hi => by have := HX.out.2.2.1; omega)).andDrew))))
        have HA : Hid ((argsV t.regs (c : Int).toNat k).set k (t.regs.getD (c + k) 0) = argsV t.regs (c : Int).toNat (k + 1)) := args_step t.regs c k (by omega)
        generalize t.regs.getD (c + k) 0 = x at *
        generalize (argsV t.regs (c : Int).toNat k).getD k 0 = x2 at y3
        clear hY tX bI bR hkw hY3 kY HD
        go_wp2_with fail
        go_region
        all_goals (go_wp2_with fail)
        all_goals
          refine ⟨⟨k + 1, by omega, by simp, ?_, HR.out.2⟩, by simp [intOf]; omega⟩
          rw [← HA.out]
          exact HR.out.1
      · have i1 : ¬ ((k : Int) < (n : Int)) := by omega
        obtain rfl : k = n := by omega
        have ex : (⟨ib, 0, argsV t.regs ic.toNat k, PV, 0⟩ : Tsk) = childK t ib ic k := by
          unfold childK
          rw [HPV.out]
        rw [ex] at hY
        have kR := setRow_keeps wr (B + 1) (ints (childK t ib ic k).l).toArray
        have hR := setRow_heap (c' := (ints (childK t ib ic k).l).toArray) bR
        have HE : Hid _ := And.intro hR (And.intro (tX.kept kR (by have := HX.out.1; omega)) (hkw.trans kR (fun i e hi => by have := HX.out.2.2.1; omega)))
        have hsz := tsk_len hY.regs
        have hyb := hY.blk
        rw [List.append_nil] at hyb
        have HYB : Hid _ := hyb
        clear ex hY tX hkw bI HD kR hR hyb
        go_upto_region 8 with fail
        iterate 2 go_step
        refine wp_load_row 62 (.tmp 7) rfl (B + 2) rfl 62 (ints (childK t ib ic k).l).toArray (0, 0) _ HYB.out Tryz.underlying62 rfl (by rw [hsz]; exact Tryz.infoTsk) ?_
        iterate 2 go_step
        refine wp_store_row 62 (.tmp 6) (.tmp 45) rfl (B + 1) (ints (childK t ib ic k).l).toArray rfl rfl 62 (ints (blankK 0 0).l).toArray bR (by rw [hsz]; exact Tryz.infoTsk) (by rw [hsz]; rfl) (ints_one _) ?_
        go_wp2_with fail
        exact bodyPost_ret (results_one (q := 6) (ty := 62) rfl rfl (run_loadVar_row _ (B + 1) _ 62 _ _ _ HE.out.1 Tryz.underlying62 rfl (by rw [hsz]; exact Tryz.infoTsk))) rfl ⟨rfl, HE.out.2⟩
end Go.Proofs.YtbdpdojeaahpjaaGreatDoor
