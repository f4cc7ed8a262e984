import Derived.Test.YtolhojagbiaamabPkAK
/-! A new sweep. -/
namespace Go.Proofs.Ytolhojagbiaamab
set_option linter.unusedVariables false
set_option maxRecDepth 20000
set_option linter.unusedSimpArgs false
open Go.RowKit Go.HeapKit

theorem fo_zero : Fo [0] (fun _ => 0) (fun _ => 0) := by
  have e : ∀ x, x < [0].length → x = 0 := fun x hx => by simp at hx; exact hx
  refine ⟨fun x hx => ?_, fun x hx _ => ?_, fun x hx h => ?_, fun x hx => ?_⟩
  · rw [e x hx]; decide
  · exact (e x hx).symm
  · rw [e x hx] at h; exact (h rfl).elim
  · decide
/-- The sweep's block ahead of its first task. -/
def swB (dv : Value) (mb : Nat) : Array Value := #[dv, .slice none 0 0, .slice none 0 0, .slice none 0 0, .slice none 0 0, .slice none 0 0, .map (some mb)]
theorem new_app (w0 w : World) (base S mb : Nat) (dv : Value) (ds : List Dd) (gu cu gm cm gl cl : Nat) (hk : Keeps (fun i => base ≤ i) w0 w) (hb : base ≤ w.heap.size) (h1 : base ≤ S) (h2 : base ≤ mb)
    (hV : SetV w base S 1 [0] [false] [-1] (.slice (some ⟨gu, 0, none⟩) 1 cu) (.slice (some ⟨gm, 0, none⟩) 1 cm) (.slice (some ⟨gl, 0, none⟩) 1 cl))
    (hc : ∀ i, i ≠ 1 → i ≠ 1 + 1 → i ≠ 1 + 2 → w.cell? ⟨S, i, none⟩ = (swB dv mb)[i]?) (hm : w.heap[mb]? = some (.map #[] 0)) :
    ∃ g c w1, (Builtin.append_ #[35, 35] 35 #[.slice none 0 0, .slice (some ⟨w.heap.size, 0, none⟩) 1 1]).run Try.prog (w.alloc (.cells #[.int .i64 0] 3)) = .ok (.slice (some ⟨g, 0, none⟩) (0 + 1) c) w1 ∧ w1.cell? ⟨S, 4, none⟩ = some (.slice none 0 0) ∧ w1.frozen? ⟨S, 4, none⟩ = false ∧
      SwS w0 (w1.setCell ⟨S, 4, none⟩ (.slice (some ⟨g, 0, none⟩) (0 + 1) c)) base S mb dv ds 0 0 (fun _ => false) := by
  have kA := Keeps.alloc None w (.cells #[.int .i64 (0 : Int)] 3)
  have hV1 := hV.more kA
  have hc1 : ∀ i, i ≠ 1 → i ≠ 1 + 1 → i ≠ 1 + 2 → (w.alloc (.cells #[.int .i64 (0 : Int)] 3)).cell? ⟨S, i, none⟩ = (swB dv mb)[i]? := fun i a b c => by
    rw [← hc i a b c]
    obtain ⟨cc, t, b1, _⟩ := hV.blk
    rw [blk_cell (blk_kept b1 kA (fun f => f)), blk_cell b1]
  have hm1 := blk_kept hm kA (fun f => f)
  have hkA := hk.trans kA (fun _ f _ => f.elim)
  have hz : RowZ (w.alloc (.cells #[.int .i64 (0 : Int)] 3)) base (.slice none 0 0) [] := row_nil _ _ _ _
  obtain ⟨g, c, w1, hr, hR, hk1, hmv⟩ := intZ_more base (.slice none 0 0) [] 0 35 _ hz (by simp; omega) (by simp) (heap_alloc_new w _)
  have hk0 : Keeps None (w.alloc (.cells #[.int .i64 (0 : Int)] 3)) w1 := by
    rcases hmv with e | ⟨_, e⟩
    · simp [Value.ownBlock] at e
    · exact e
  have hg : (w.alloc (.cells #[.int .i64 (0 : Int)] 3)).heap.size ≤ g := by
    rcases hmv with e | ⟨e, _⟩
    · simp [Value.ownBlock] at e
    · exact e
  have hV2 := hV1.more hk0
  obtain ⟨cc, t, b1, b2, b3⟩ := hV2.blk
  have hc2 : ∀ i, i ≠ 1 → i ≠ 1 + 1 → i ≠ 1 + 2 → w1.cell? ⟨S, i, none⟩ = (swB dv mb)[i]? := fun i a b c => by
    rw [← hc1 i a b c]
    obtain ⟨cc, t, b1, _⟩ := hV1.blk
    rw [blk_cell (blk_kept b1 hk0 (fun f => f)), blk_cell b1]
  have hm2 := blk_kept hm1 hk0 (fun f => f)
  have hM2 : SetM w1 base S 1 [0] [false] [-1] gu cu gm cm gl cl := SetV.toM (U := [0]) hV2 rfl rfl
  have l1 := own_lt hV1.ru (g := gu) rfl
  have l2 := own_lt hV1.rl (g := gl) rfl
  have l3 : S < (w.alloc (.cells #[.int .i64 (0 : Int)] 3)).heap.size := by
    obtain ⟨cc, t, b1, _⟩ := hV1.blk
    exact blk_lt b1
  have hk2 : Keeps (· = S) w1 (w1.setCell ⟨S, 4, none⟩ (.slice (some ⟨g, 0, none⟩) (0 + 1) c)) := keeps_one (Keeps.refl _ _) _
  have h6 : 6 < cc.size := by
    have := hc2 6 (by omega) (by omega) (by omega)
    rw [blk_cell b1] at this
    have h : (swB dv mb)[6]? = some (.map (some mb)) := rfl
    rw [h] at this
    exact (Array.getElem?_eq_some_iff.1 this).1
  refine ⟨g, c, w1, hr, hc2 4 (by omega) (by omega) (by omega), blk_free b1 _, ?_⟩
  have hsw : SwM (w1.setCell ⟨S, 4, none⟩ (.slice (some ⟨g, 0, none⟩) (0 + 1) c)) base S [0] [false] [-1] gu cu gm cm gl cl [0] g c [] (.slice none 0 0) dv (.map (some mb)) := by
    refine ⟨hM2.putS 4 (by omega) _, ?_, ?_, ?_, ?_, ?_, row_nil _ _ _ _, by omega, by omega, by simp [Value.ownBlock], by simp [Value.ownBlock], by simp [Value.ownBlock]⟩
    · rw [cell_setne (by omega)]; exact hc2 0 (by omega) (by omega) (by omega)
    · rw [blk_cell (blk_set b1 _)]; simp [show 4 < cc.size by omega]
    · rw [cell_setne (by omega)]; exact hc2 5 (by omega) (by omega) (by omega)
    · rw [cell_setne (by omega)]; exact hc2 6 (by omega) (by omega) (by omega)
    · have : RowZ w1 base (.slice (some ⟨g, 0, none⟩) (0 + 1) c) ([] ++ [0]) := hR
      exact this.kept hk2 (fun b e => by simp [Value.ownBlock] at e; omega)
  have hk' : Keeps (fun i => base ≤ i) w0 (w1.setCell ⟨S, 4, none⟩ (.slice (some ⟨g, 0, none⟩) (0 + 1) c)) := (hkA.trans hk0 (fun _ f _ => f.elim)).trans hk2 (fun i e _ => by omega)
  have hmS : mb ≠ S := fun e => by rw [e, b1] at hm2; cases hm2
  refine ⟨⟨[0], [false], [-1], gu, cu, gm, cm, gl, cl, g, c, .slice none 0 0, fun _ => 0, fun _ => 0, [], hsw, fo_zero, bag_zero, rfl, ⟨#[], 0, blk_kept hm2 hk2 hmS, rfl, Stp.nil _⟩, std_zero ds, ⟨by simp, by simp, fun L => rfl, fun a ha => by omega⟩⟩, hk', h1, h2, ?_⟩
  have := hk2.size
  have := hk0.size
  simp at this ⊢
  omega
set_option maxHeartbeats 1600000 in
theorem newSweep_ok (w : World) (a : Option Addr) (N cN : Nat) (ds : List Dd) :
    Calls Try.prog 37 #[.slice a N cN] w fun e w' => ∃ S mb, e = .returned (.pointer (some ⟨S, 0, none⟩)) ∧ SwS w w' w.heap.size S mb (.slice a N cN) ds 0 0 (fun _ => false) := by
  have hmm := @run_makeMap Try.prog
  go_enter Try.func37, Try.ntmps37
  go_upto_region 2 with fail
  have kM := Keeps.alloc None w (.map #[] 0)
  have kS := Keeps.alloc None (w.alloc (.map #[] 0)) (.cells (swB (.slice a N cN) w.heap.size) 77)
  have bM := blk_kept (heap_alloc_new w (.map #[] 0)) kS (fun f => f)
  have bS := heap_alloc_new (w.alloc (.map #[] 0)) (.cells (swB (.slice a N cN) w.heap.size) 77)
  have hk := kM.trans kS (fun _ f _ => f)
  obtain ⟨W, hW⟩ : ∃ W, W = (w.alloc (.map #[] 0)).alloc (.cells (swB (.slice a N cN) w.heap.size) 77) := ⟨_, rfl⟩
  obtain ⟨S, hS⟩ : ∃ S, S = w.heap.size + 1 := ⟨_, rfl⟩
  obtain ⟨mb, hmb⟩ : ∃ mb, mb = w.heap.size := ⟨_, rfl⟩
  have hS2 : S = (w.alloc (.map #[] 0)).heap.size := by rw [hS]; simp
  change Code.wp _ _ _ _ ((w.alloc (.map #[] 0)).alloc (.cells (swB (.slice a N cN) w.heap.size) 77))
  rw [← hW] at bM bS hk ⊢
  rw [← hS2] at bS
  rw [← hS, ← hmb]
  rw [← hmb] at bM bS
  have c4 : W.cell? ⟨S, 4, none⟩ = some (.slice none 0 0) := (blk_cell bS 4).trans rfl
  have hV : SetV W w.heap.size S 1 [] [] [] (.slice none 0 0) (.slice none 0 0) (.slice none 0 0) := ⟨(blk_cell bS 1).trans rfl, (blk_cell bS 2).trans rfl, (blk_cell bS 3).trans rfl, row_nil _ _ _ _, row_nil _ _ _ _, row_nil _ _ _ _, fun b e => by simp [Value.ownBlock] at e, _, _, bS, by decide, by decide⟩
  have hb1 : w.heap.size ≤ W.heap.size := hk.size
  have HBg : Hid (∀ w2, Keeps None W w2 → Calls Try.prog 48 #[.pointer (some ⟨S, 1, none⟩)] w2 fun e w' => e = .returned (.int .i64 0) ∧ w'.cell? ⟨S, 4, none⟩ = some (.slice none 0 0) ∧ ∃ g c w4, (Builtin.append_ #[35, 35] 35 #[.slice none 0 0, .slice (some ⟨w'.heap.size, 0, none⟩) 1 1]).run Try.prog (w'.alloc (.cells #[.int .i64 0] 3)) = .ok (.slice (some ⟨g, 0, none⟩) (0 + 1) c) w4 ∧ w4.cell? ⟨S, 4, none⟩ = some (.slice none 0 0) ∧ w4.frozen? ⟨S, 4, none⟩ = false ∧
      SwS w (w4.setCell ⟨S, 4, none⟩ (.slice (some ⟨g, 0, none⟩) (0 + 1) c)) w.heap.size S mb (.slice a N cN) ds 0 0 (fun _ => false)) := fun w2 hk2 => by
    refine (begin_ok w2 w.heap.size S 1 [] [] [] _ _ _ (hV.more hk2) rfl rfl (by simp) (Nat.le_trans hb1 hk2.size) (by omega)).mono ?_
    rintro e w' ⟨rfl, ⟨gu, cu, gm, cm, gl, cl, hV', _, _⟩, hkf, hc⟩
    have hc' : ∀ i, i ≠ 1 → i ≠ 1 + 1 → i ≠ 1 + 2 → w'.cell? ⟨S, i, none⟩ = (swB (.slice a N cN) mb)[i]? := fun i a b c => by rw [hc i a b c, blk_cell (blk_kept bS hk2 (fun f => f))]
    have hF : ∀ i, Fs S (.slice none 0 0) (.slice none 0 0) (.slice none 0 0) i → i = S := fun i e => by
      rcases e with e | e | e | e
      · simp [Value.ownBlock] at e
      · simp [Value.ownBlock] at e
      · simp [Value.ownBlock] at e
      · exact e
    refine ⟨rfl, hc' 4 (by omega) (by omega) (by omega), new_app w w' w.heap.size S mb (.slice a N cN) ds gu cu gm cm gl cl ?_ (Nat.le_trans (Nat.le_trans hb1 hk2.size) hkf.size) (by omega) (by omega) hV' hc' (blk_kept (blk_kept bM hk2 (fun f => f)) hkf (fun e => by have := hF _ e; omega))⟩
    exact ((hk.mono (fun _ f _ => f.elim)).trans hk2 (fun _ f _ => f.elim)).trans hkf (fun i e _ => by have := hF i e; omega)
  clear hV bS bM kM kS hk hW hS hmb hS2 hmm hb1
  go_cut [] (fun wx => SwS w wx w.heap.size S mb (.slice a N cN) ds 0 0 (fun _ => false))
  case first =>
    refine wp_region_held_drew (S := (fun _ => True)) (by kernel_rfl) ?_ (fun hHeld => ?_)
    · (try dsimp only); try trivial
    refine wpAnyH_take (i := 0) (oi := { dst := some 8, op := Op.move (Operand.tmp 3), type := 68, pos := "sweep.go:26", after := #[], guard := none }) (v := ?_) rfl (by kernel_rfl) (by kernel_rfl) (by kernel_rfl) (fun _ _ _ h => h) (Or.inl ⟨by rfl, ?_⟩) (by assumption) ?_
    rotate_left
    · (intro wz hSw; (try dsimp only at hSw); go_simp; try with_reducible rfl)
    simp only [Act.put, List.setIfInBounds_toArray, List.set_cons_zero, List.set_cons_succ]
    refine wpAnyH_take (i := 1) (oi := { dst := some 9, op := Op.move (Operand.tmp 3), type := 68, pos := "sweep.go:26", after := #[], guard := none }) (v := ?_) rfl (by kernel_rfl) (by kernel_rfl) (by kernel_rfl) (fun _ _ _ h => h) (Or.inl ⟨by rfl, ?_⟩) (by assumption) ?_
    rotate_left
    · (intro wz hSw; (try dsimp only at hSw); go_simp; try with_reducible rfl)
    simp only [Act.put, List.setIfInBounds_toArray, List.set_cons_zero, List.set_cons_succ]
    refine wpAnyH_take (i := 2) (oi := { dst := some 10, op := Op.nilCheck (Operand.tmp 9), type := 0, pos := "sweep.go:26", after := #[{ on := 1, ground := Ground.data }], guard := none }) (v := ?_) rfl (by kernel_rfl) (by kernel_rfl) (by kernel_rfl) (fun _ _ _ h => h) (Or.inl ⟨by rfl, ?_⟩) (by assumption) ?_
    rotate_left
    · (intro wz hSw; (try dsimp only at hSw); go_simp; try with_reducible rfl)
    simp only [Act.put, List.setIfInBounds_toArray, List.set_cons_zero, List.set_cons_succ]
    refine wpAnyH_take (i := 3) (oi := { dst := some 11, op := Op.fieldAddr 77 (Operand.tmp 10) 2, type := 0, pos := "sweep.go:26", after := #[{ on := 2, ground := Ground.data }], guard := none }) (v := ?_) rfl (by kernel_rfl) (by kernel_rfl) (by kernel_rfl) (fun _ _ _ h => h) (Or.inl ⟨by rfl, ?_⟩) (by assumption) ?_
    rotate_left
    · (intro wz hSw; (try dsimp only at hSw); go_simp; try with_reducible rfl)
    simp only [Act.put, List.setIfInBounds_toArray, List.set_cons_zero, List.set_cons_succ]
    refine wpAnyH_take (i := 5) (oi := { dst := some 13, op := Op.move (Operand.tmp 3), type := 68, pos := "sweep.go:26", after := #[], guard := none }) (v := ?_) rfl (by kernel_rfl) (by kernel_rfl) (by kernel_rfl) (fun _ _ _ h => h) (Or.inl ⟨by rfl, ?_⟩) (by assumption) ?_
    rotate_left
    · (intro wz hSw; (try dsimp only at hSw); go_simp; try with_reducible rfl)
    simp only [Act.put, List.setIfInBounds_toArray, List.set_cons_zero, List.set_cons_succ]
    refine wpAnyH_take (i := 6) (oi := { dst := some 14, op := Op.nilCheck (Operand.tmp 13), type := 0, pos := "sweep.go:26", after := #[{ on := 5, ground := Ground.data }], guard := none }) (v := ?_) rfl (by kernel_rfl) (by kernel_rfl) (by kernel_rfl) (fun _ _ _ h => h) (Or.inl ⟨by rfl, ?_⟩) (by assumption) ?_
    rotate_left
    · (intro wz hSw; (try dsimp only at hSw); go_simp; try with_reducible rfl)
    simp only [Act.put, List.setIfInBounds_toArray, List.set_cons_zero, List.set_cons_succ]
    refine wpAnyH_take (i := 7) (oi := { dst := some 15, op := Op.fieldAddr 77 (Operand.tmp 14) 1, type := 0, pos := "sweep.go:26", after := #[{ on := 6, ground := Ground.data }], guard := none }) (v := ?_) rfl (by kernel_rfl) (by kernel_rfl) (by kernel_rfl) (fun _ _ _ h => h) (Or.inl ⟨by rfl, ?_⟩) (by assumption) ?_
    rotate_left
    · (intro wz hSw; (try dsimp only at hSw); go_simp; try with_reducible rfl)
    simp only [Act.put, List.setIfInBounds_toArray, List.set_cons_zero, List.set_cons_succ]
    refine wpAnyH_ready (rs := [4, 8]) (by kernel_rfl) (by simp) ?_
    refine AllReadyH.cons (o := { dst := some 12, op := Op.load 35 (Operand.tmp 11), type := 35, pos := "sweep.go:26", after := #[{ on := 3, ground := Ground.data }], guard := none }) rfl (fun K hK => ?_) ?_
    · go_simp
      refine hK.out _ _ ?_ (fun hHeld2 => ?_)
      · (try dsimp only); try trivial
      clear hK K
      try simp only [Act.put, List.setIfInBounds_toArray, List.set_cons_zero, List.set_cons_succ]
      refine wpAnyH_ready (rs := [8]) (by kernel_rfl) (by simp) ?_
      refine AllReadyH.cons (o := { dst := some 16, op := Op.call { callee := Callee.value (Operand.func 48), args := #[Operand.tmp 15], argTypes := #[74] }, type := 3, pos := "sweep.go:26", after := #[{ on := 7, ground := Ground.data }], guard := none }) rfl (fun K hK => ?_) ?_
      · go_simp
        refine (HBg.out _ (Keeps.drew None _)).mono ?_
        rintro _ w3 ⟨rfl, q4, g2, c2, w4, hr2, y1, y2, hS4⟩
        have HF : Hid _ := hS4
        have q4' := (Keeps.alloc None w3 (.cells #[.int .i64 (0 : Int)] 3)).cell q4 (fun f => f)
        clear hS4
        refine hK.out _ _ ?_ (fun hHeld2 => ?_)
        · (try dsimp only); try trivial
        clear hK K
        try simp only [Act.put, List.setIfInBounds_toArray, List.set_cons_zero, List.set_cons_succ]
        refine wpAnyH_ready (rs := [9]) (by kernel_rfl) (by simp) ?_
        refine AllReadyH.cons (o := { dst := some 17, op := Op.buildSlice 35 1 #[(0, Operand.tmp 16)], type := 35, pos := "sweep.go:26", after := #[{ on := 8, ground := Ground.data }], guard := none }) rfl (fun K hK => ?_) ?_
        · go_simp
          refine hK.out _ _ ?_ (fun hHeld2 => ?_)
          · (try dsimp only); try trivial
          clear hK K
          try simp only [Act.put, List.setIfInBounds_toArray, List.set_cons_zero, List.set_cons_succ]
          refine wpAnyH_ready (rs := [10]) (by kernel_rfl) (by simp) ?_
          refine AllReadyH.cons (o := { dst := some 18, op := Op.call { callee := Callee.builtin Builtin.append, args := #[Operand.tmp 12, Operand.tmp 17], argTypes := #[35, 35] }, type := 35, pos := "sweep.go:26", after := #[{ on := 4, ground := Ground.data }, { on := 9, ground := Ground.data }, { on := 8, ground := Ground.chain }], guard := none }) rfl (fun K hK => ?_) ?_
          · refine step_append_run rfl (.tmp 12) (.tmp 17) 35 35 rfl (by simp [Act.eval]) (by simp [Act.eval]) hr2 ?_
            refine hK.out _ _ ?_ (fun hHeld2 => ?_)
            · (try dsimp only); try trivial
            clear hK K
            try simp only [Act.put, List.setIfInBounds_toArray, List.set_cons_zero, List.set_cons_succ]
            refine wpAnyH_take (i := 11) (oi := { dst := some 19, op := Op.nilCheck (Operand.tmp 8), type := 0, pos := "sweep.go:26", after := #[{ on := 0, ground := Ground.data }, { on := 0, ground := Ground.phase }, { on := 1, ground := Ground.phase }, { on := 2, ground := Ground.phase }, { on := 3, ground := Ground.phase }, { on := 4, ground := Ground.phase }, { on := 5, ground := Ground.phase }, { on := 6, ground := Ground.phase }, { on := 7, ground := Ground.phase }, { on := 8, ground := Ground.phase }, { on := 9, ground := Ground.phase }, { on := 10, ground := Ground.phase }], guard := none }) (v := ?_) rfl (by kernel_rfl) (by kernel_rfl) (by kernel_rfl) (fun _ _ _ h => h) (Or.inl ⟨by rfl, ?_⟩) (by assumption) ?_
            rotate_left
            · (intro wz hSw; (try dsimp only at hSw); go_simp; try with_reducible rfl)
            simp only [Act.put, List.setIfInBounds_toArray, List.set_cons_zero, List.set_cons_succ]
            refine wpAnyH_take (i := 12) (oi := { dst := some 20, op := Op.fieldAddr 77 (Operand.tmp 19) 2, type := 0, pos := "sweep.go:26", after := #[{ on := 11, ground := Ground.data }, { on := 0, ground := Ground.phase }, { on := 1, ground := Ground.phase }, { on := 2, ground := Ground.phase }, { on := 3, ground := Ground.phase }, { on := 4, ground := Ground.phase }, { on := 5, ground := Ground.phase }, { on := 6, ground := Ground.phase }, { on := 7, ground := Ground.phase }, { on := 8, ground := Ground.phase }, { on := 9, ground := Ground.phase }, { on := 10, ground := Ground.phase }], guard := none }) (v := ?_) rfl (by kernel_rfl) (by kernel_rfl) (by kernel_rfl) (fun _ _ _ h => h) (Or.inl ⟨by rfl, ?_⟩) (by assumption) ?_
            rotate_left
            · (intro wz hSw; (try dsimp only at hSw); go_simp; try with_reducible rfl)
            simp only [Act.put, List.setIfInBounds_toArray, List.set_cons_zero, List.set_cons_succ]
            refine wpAnyH_ready (rs := [13]) (by kernel_rfl) (by simp) ?_
            refine AllReadyH.cons (o := { dst := none, op := Op.store 35 (Operand.tmp 20) (Operand.tmp 18), type := 0, pos := "sweep.go:26", after := #[{ on := 12, ground := Ground.data }, { on := 10, ground := Ground.data }, { on := 10, ground := Ground.chain }, { on := 0, ground := Ground.phase }, { on := 1, ground := Ground.phase }, { on := 2, ground := Ground.phase }, { on := 3, ground := Ground.phase }, { on := 4, ground := Ground.phase }, { on := 5, ground := Ground.phase }, { on := 6, ground := Ground.phase }, { on := 7, ground := Ground.phase }, { on := 8, ground := Ground.phase }, { on := 9, ground := Ground.phase }, { on := 10, ground := Ground.phase }], guard := none }) rfl (fun K hK => ?_) ?_
            · go_simp
              refine hK.out _ _ ?_ (fun hHeld2 => ?_)
              · (try dsimp only); try trivial
              clear hK K
              try simp only [Act.put, List.setIfInBounds_toArray, List.set_cons_zero, List.set_cons_succ]
              refine wpAnyH_done (by kernel_rfl) ?_ _
              go_wp2_with fail
              go_meet
              exact HF.out
            exact AllReadyH.nil
          exact AllReadyH.nil
        exact AllReadyH.nil
      exact AllReadyH.nil
    refine AllReadyH.cons (o := { dst := some 16, op := Op.call { callee := Callee.value (Operand.func 48), args := #[Operand.tmp 15], argTypes := #[74] }, type := 3, pos := "sweep.go:26", after := #[{ on := 7, ground := Ground.data }], guard := none }) rfl (fun K hK => ?_) ?_
    · go_simp
      refine (HBg.out _ (Keeps.drew None _)).mono ?_
      rintro _ w3 ⟨rfl, q4, g2, c2, w4, hr2, y1, y2, hS4⟩
      have HF : Hid _ := hS4
      have q4' := (Keeps.alloc None w3 (.cells #[.int .i64 (0 : Int)] 3)).cell q4 (fun f => f)
      clear hS4
      refine hK.out _ _ ?_ (fun hHeld2 => ?_)
      · (try dsimp only); try trivial
      clear hK K
      try simp only [Act.put, List.setIfInBounds_toArray, List.set_cons_zero, List.set_cons_succ]
      refine wpAnyH_ready (rs := [4, 9]) (by kernel_rfl) (by simp) ?_
      refine AllReadyH.cons (o := { dst := some 12, op := Op.load 35 (Operand.tmp 11), type := 35, pos := "sweep.go:26", after := #[{ on := 3, ground := Ground.data }], guard := none }) rfl (fun K hK => ?_) ?_
      · go_simp
        refine hK.out _ _ ?_ (fun hHeld2 => ?_)
        · (try dsimp only); try trivial
        clear hK K
        try simp only [Act.put, List.setIfInBounds_toArray, List.set_cons_zero, List.set_cons_succ]
        refine wpAnyH_ready (rs := [9]) (by kernel_rfl) (by simp) ?_
        refine AllReadyH.cons (o := { dst := some 17, op := Op.buildSlice 35 1 #[(0, Operand.tmp 16)], type := 35, pos := "sweep.go:26", after := #[{ on := 8, ground := Ground.data }], guard := none }) rfl (fun K hK => ?_) ?_
        · go_simp
          refine hK.out _ _ ?_ (fun hHeld2 => ?_)
          · (try dsimp only); try trivial
          clear hK K
          try simp only [Act.put, List.setIfInBounds_toArray, List.set_cons_zero, List.set_cons_succ]
          refine wpAnyH_ready (rs := [10]) (by kernel_rfl) (by simp) ?_
          refine AllReadyH.cons (o := { dst := some 18, op := Op.call { callee := Callee.builtin Builtin.append, args := #[Operand.tmp 12, Operand.tmp 17], argTypes := #[35, 35] }, type := 35, pos := "sweep.go:26", after := #[{ on := 4, ground := Ground.data }, { on := 9, ground := Ground.data }, { on := 8, ground := Ground.chain }], guard := none }) rfl (fun K hK => ?_) ?_
          · refine step_append_run rfl (.tmp 12) (.tmp 17) 35 35 rfl (by simp [Act.eval]) (by simp [Act.eval]) hr2 ?_
            refine hK.out _ _ ?_ (fun hHeld2 => ?_)
            · (try dsimp only); try trivial
            clear hK K
            try simp only [Act.put, List.setIfInBounds_toArray, List.set_cons_zero, List.set_cons_succ]
            refine wpAnyH_take (i := 11) (oi := { dst := some 19, op := Op.nilCheck (Operand.tmp 8), type := 0, pos := "sweep.go:26", after := #[{ on := 0, ground := Ground.data }, { on := 0, ground := Ground.phase }, { on := 1, ground := Ground.phase }, { on := 2, ground := Ground.phase }, { on := 3, ground := Ground.phase }, { on := 4, ground := Ground.phase }, { on := 5, ground := Ground.phase }, { on := 6, ground := Ground.phase }, { on := 7, ground := Ground.phase }, { on := 8, ground := Ground.phase }, { on := 9, ground := Ground.phase }, { on := 10, ground := Ground.phase }], guard := none }) (v := ?_) rfl (by kernel_rfl) (by kernel_rfl) (by kernel_rfl) (fun _ _ _ h => h) (Or.inl ⟨by rfl, ?_⟩) (by assumption) ?_
            rotate_left
            · (intro wz hSw; (try dsimp only at hSw); go_simp; try with_reducible rfl)
            simp only [Act.put, List.setIfInBounds_toArray, List.set_cons_zero, List.set_cons_succ]
            refine wpAnyH_take (i := 12) (oi := { dst := some 20, op := Op.fieldAddr 77 (Operand.tmp 19) 2, type := 0, pos := "sweep.go:26", after := #[{ on := 11, ground := Ground.data }, { on := 0, ground := Ground.phase }, { on := 1, ground := Ground.phase }, { on := 2, ground := Ground.phase }, { on := 3, ground := Ground.phase }, { on := 4, ground := Ground.phase }, { on := 5, ground := Ground.phase }, { on := 6, ground := Ground.phase }, { on := 7, ground := Ground.phase }, { on := 8, ground := Ground.phase }, { on := 9, ground := Ground.phase }, { on := 10, ground := Ground.phase }], guard := none }) (v := ?_) rfl (by kernel_rfl) (by kernel_rfl) (by kernel_rfl) (fun _ _ _ h => h) (Or.inl ⟨by rfl, ?_⟩) (by assumption) ?_
            rotate_left
            · (intro wz hSw; (try dsimp only at hSw); go_simp; try with_reducible rfl)
            simp only [Act.put, List.setIfInBounds_toArray, List.set_cons_zero, List.set_cons_succ]
            refine wpAnyH_ready (rs := [13]) (by kernel_rfl) (by simp) ?_
            refine AllReadyH.cons (o := { dst := none, op := Op.store 35 (Operand.tmp 20) (Operand.tmp 18), type := 0, pos := "sweep.go:26", after := #[{ on := 12, ground := Ground.data }, { on := 10, ground := Ground.data }, { on := 10, ground := Ground.chain }, { on := 0, ground := Ground.phase }, { on := 1, ground := Ground.phase }, { on := 2, ground := Ground.phase }, { on := 3, ground := Ground.phase }, { on := 4, ground := Ground.phase }, { on := 5, ground := Ground.phase }, { on := 6, ground := Ground.phase }, { on := 7, ground := Ground.phase }, { on := 8, ground := Ground.phase }, { on := 9, ground := Ground.phase }, { on := 10, ground := Ground.phase }], guard := none }) rfl (fun K hK => ?_) ?_
            · go_simp
              refine hK.out _ _ ?_ (fun hHeld2 => ?_)
              · (try dsimp only); try trivial
              clear hK K
              try simp only [Act.put, List.setIfInBounds_toArray, List.set_cons_zero, List.set_cons_succ]
              refine wpAnyH_done (by kernel_rfl) ?_ _
              go_wp2_with fail
              go_meet
              exact HF.out
            exact AllReadyH.nil
          exact AllReadyH.nil
        exact AllReadyH.nil
      refine AllReadyH.cons (o := { dst := some 17, op := Op.buildSlice 35 1 #[(0, Operand.tmp 16)], type := 35, pos := "sweep.go:26", after := #[{ on := 8, ground := Ground.data }], guard := none }) rfl (fun K hK => ?_) ?_
      · go_simp
        refine hK.out _ _ ?_ (fun hHeld2 => ?_)
        · (try dsimp only); try trivial
        clear hK K
        try simp only [Act.put, List.setIfInBounds_toArray, List.set_cons_zero, List.set_cons_succ]
        refine wpAnyH_ready (rs := [4]) (by kernel_rfl) (by simp) ?_
        refine AllReadyH.cons (o := { dst := some 12, op := Op.load 35 (Operand.tmp 11), type := 35, pos := "sweep.go:26", after := #[{ on := 3, ground := Ground.data }], guard := none }) rfl (fun K hK => ?_) ?_
        · go_simp
          refine hK.out _ _ ?_ (fun hHeld2 => ?_)
          · (try dsimp only); try trivial
          clear hK K
          try simp only [Act.put, List.setIfInBounds_toArray, List.set_cons_zero, List.set_cons_succ]
          refine wpAnyH_ready (rs := [10]) (by kernel_rfl) (by simp) ?_
          refine AllReadyH.cons (o := { dst := some 18, op := Op.call { callee := Callee.builtin Builtin.append, args := #[Operand.tmp 12, Operand.tmp 17], argTypes := #[35, 35] }, type := 35, pos := "sweep.go:26", after := #[{ on := 4, ground := Ground.data }, { on := 9, ground := Ground.data }, { on := 8, ground := Ground.chain }], guard := none }) rfl (fun K hK => ?_) ?_
          · refine step_append_run rfl (.tmp 12) (.tmp 17) 35 35 rfl (by simp [Act.eval]) (by simp [Act.eval]) hr2 ?_
            refine hK.out _ _ ?_ (fun hHeld2 => ?_)
            · (try dsimp only); try trivial
            clear hK K
            try simp only [Act.put, List.setIfInBounds_toArray, List.set_cons_zero, List.set_cons_succ]
            refine wpAnyH_take (i := 11) (oi := { dst := some 19, op := Op.nilCheck (Operand.tmp 8), type := 0, pos := "sweep.go:26", after := #[{ on := 0, ground := Ground.data }, { on := 0, ground := Ground.phase }, { on := 1, ground := Ground.phase }, { on := 2, ground := Ground.phase }, { on := 3, ground := Ground.phase }, { on := 4, ground := Ground.phase }, { on := 5, ground := Ground.phase }, { on := 6, ground := Ground.phase }, { on := 7, ground := Ground.phase }, { on := 8, ground := Ground.phase }, { on := 9, ground := Ground.phase }, { on := 10, ground := Ground.phase }], guard := none }) (v := ?_) rfl (by kernel_rfl) (by kernel_rfl) (by kernel_rfl) (fun _ _ _ h => h) (Or.inl ⟨by rfl, ?_⟩) (by assumption) ?_
            rotate_left
            · (intro wz hSw; (try dsimp only at hSw); go_simp; try with_reducible rfl)
            simp only [Act.put, List.setIfInBounds_toArray, List.set_cons_zero, List.set_cons_succ]
            refine wpAnyH_take (i := 12) (oi := { dst := some 20, op := Op.fieldAddr 77 (Operand.tmp 19) 2, type := 0, pos := "sweep.go:26", after := #[{ on := 11, ground := Ground.data }, { on := 0, ground := Ground.phase }, { on := 1, ground := Ground.phase }, { on := 2, ground := Ground.phase }, { on := 3, ground := Ground.phase }, { on := 4, ground := Ground.phase }, { on := 5, ground := Ground.phase }, { on := 6, ground := Ground.phase }, { on := 7, ground := Ground.phase }, { on := 8, ground := Ground.phase }, { on := 9, ground := Ground.phase }, { on := 10, ground := Ground.phase }], guard := none }) (v := ?_) rfl (by kernel_rfl) (by kernel_rfl) (by kernel_rfl) (fun _ _ _ h => h) (Or.inl ⟨by rfl, ?_⟩) (by assumption) ?_
            rotate_left
            · (intro wz hSw; (try dsimp only at hSw); go_simp; try with_reducible rfl)
            simp only [Act.put, List.setIfInBounds_toArray, List.set_cons_zero, List.set_cons_succ]
            refine wpAnyH_ready (rs := [13]) (by kernel_rfl) (by simp) ?_
            refine AllReadyH.cons (o := { dst := none, op := Op.store 35 (Operand.tmp 20) (Operand.tmp 18), type := 0, pos := "sweep.go:26", after := #[{ on := 12, ground := Ground.data }, { on := 10, ground := Ground.data }, { on := 10, ground := Ground.chain }, { on := 0, ground := Ground.phase }, { on := 1, ground := Ground.phase }, { on := 2, ground := Ground.phase }, { on := 3, ground := Ground.phase }, { on := 4, ground := Ground.phase }, { on := 5, ground := Ground.phase }, { on := 6, ground := Ground.phase }, { on := 7, ground := Ground.phase }, { on := 8, ground := Ground.phase }, { on := 9, ground := Ground.phase }, { on := 10, ground := Ground.phase }], guard := none }) rfl (fun K hK => ?_) ?_
            · go_simp
              refine hK.out _ _ ?_ (fun hHeld2 => ?_)
              · (try dsimp only); try trivial
              clear hK K
              try simp only [Act.put, List.setIfInBounds_toArray, List.set_cons_zero, List.set_cons_succ]
              refine wpAnyH_done (by kernel_rfl) ?_ _
              go_wp2_with fail
              go_meet
              exact HF.out
            exact AllReadyH.nil
          exact AllReadyH.nil
        exact AllReadyH.nil
      exact AllReadyH.nil
    exact AllReadyH.nil
  case rest =>
  have HF : Hid _ := hcut
  clear hcut HBg c4
  go_wp2_with fail
  go_ret
  exact ⟨S, mb, rfl, HF.out⟩
end Go.Proofs.Ytolhojagbiaamab
/-! A place is set racy. -/
namespace Go.Proofs.Ytolhojagbiaamab
set_option linter.unusedVariables false
set_option maxRecDepth 20000
set_option linter.unusedSimpArgs false
open Go.RowKit Go.HeapKit

def addL (rc : Int → Bool) (L : Int) : Int → Bool := fun x => if x = L then true else rc x
theorem pl_setRacy {ds : List Dd} {PM : List (Int × Pl)} {n : Nat} {rc : Int → Bool} (h : PlOk ds PM n rc) (L : Int) (hm : ∃ a, a < n ∧ (kdN ds a = 3 ∨ kdN ds a = 4) ∧ lcN ds a = L) : PlOk ds (putP PM L ⟨(lookP PM L).w, (lookP PM L).r, true⟩) n (addL rc L) := by
  obtain ⟨a, ha, hk, rfl⟩ := hm
  refine ⟨put_nd _ _ h.nd, by rw [(put_len PM (lcN ds a) _).2 (h.tch a ha hk)]; exact h.len, fun x => ?_, fun b hb hkb => put_mem _ _ _ _ (.inl (h.tch b hb hkb))⟩
  rw [look_put]
  unfold addL
  by_cases e : x = lcN ds a
  · rw [if_pos e, if_pos e]
  · rw [if_neg e, if_neg e]; exact h.rc x
theorem std_setRacy {ds : List Dd} {PM : List (Int × Pl)} {n : Nat} (L : Int) (b : Bool) (h : Std ds n (fun L => (lookP PM L).w) (fun L => (lookP PM L).r)) : Std ds n (fun x => (lookP (putP PM L ⟨(lookP PM L).w, (lookP PM L).r, b⟩) x).w) (fun x => (lookP (putP PM L ⟨(lookP PM L).w, (lookP PM L).r, b⟩) x).r) := by
  have e1 : (fun x => (lookP (putP PM L ⟨(lookP PM L).w, (lookP PM L).r, b⟩) x).w) = fun L => (lookP PM L).w := by
    funext x; rw [look_put]; by_cases e : x = L
    · rw [if_pos e, e]
    · rw [if_neg e]
  have e2 : (fun x => (lookP (putP PM L ⟨(lookP PM L).w, (lookP PM L).r, b⟩) x).r) = fun L => (lookP PM L).r := by
    funext x; rw [look_put]; by_cases e : x = L
    · rw [if_pos e, e]
    · rw [if_neg e]
  rw [e1, e2]
  exact h
set_option maxHeartbeats 1600000 in
theorem setRacy_ok (w0 w : World) (base S mb : Nat) (dv : Value) (ds : List Dd) (n m : Nat) (rc : Int → Bool) (L : Int) (h : SwS w0 w base S mb dv ds n m rc) (hm : ∃ a, a < n ∧ (kdN ds a = 3 ∨ kdN ds a = 4) ∧ lcN ds a = L) :
    Calls Try.prog 39 #[.pointer (some ⟨S, 0, none⟩), .int .i64 L] w fun e w' => e = .returned (.tuple #[]) ∧ SwS w0 w' base S mb dv ds n m (addL rc L) ∧ Keeps (Fp w base) w w' := by
  obtain ⟨U, M, A, gu, cu, gm, cm, gl, cl, ga, ca, vd, rt, d, PM, h1, h2, h3, h4, h5, h6, h7⟩ := h.ex
  obtain ⟨p, hp⟩ : ∃ p, p = lookP PM L := ⟨_, rfl⟩
  have s6 := h1.b6
  have lk1 : (Instr.lookup 75 (.map (some mb)) (.int .i64 L) false).run Try.prog w = .ok (.agg #[.int .i64 p.w, .int .i64 p.r, .bool p.racy]) w := by rw [hp]; exact h5.look L
  have kA := Keeps.alloc None w (.cells #[.int .i64 p.w, .int .i64 p.r, .bool true] 79)
  have bX := heap_alloc_new w (.cells #[.int .i64 p.w, .int .i64 p.r, .bool true] 79)
  obtain ⟨X, hX⟩ : ∃ X, X = w.heap.size := ⟨_, rfl⟩
  obtain ⟨W1, hW1⟩ : ∃ W1, W1 = w.alloc (.cells #[.int .i64 p.w, .int .i64 p.r, .bool true] 79) := ⟨_, rfl⟩
  rw [← hW1] at kA bX
  rw [← hX] at bX
  have h1' := (h1.more kA).more (Keeps.drew None W1)
  have h5' := (h5.more kA).more (Keeps.drew None W1)
  obtain ⟨W5, hup, hP5, hk5⟩ := h5'.put L ⟨p.w, p.r, true⟩
  have hup' : (Instr.mapUpdate 75 (.map (some mb)) (.int .i64 L) (.agg #[.int .i64 (p.w : Nat), .int .i64 (p.r : Nat), .bool true])).run Try.prog W1.drew = .ok () W5 := hup
  have hne : ∀ (b : Nat) (c : Array Value) (ty : TypeId) (f : Nat × Nat), W1.drew.heap[b]? = some (.cells c ty f) → b ≠ mb := fun b c ty f hb e => by
    obtain ⟨es, cl', hm, _⟩ := h5'
    rw [← e, hb] at hm
    cases hm
  have hfp : Keeps (Fp w base) w W5 := Fp.trans (Keeps.trans (kA.mono (fun _ f _ => f.elim)) (Keeps.drew None W1) (fun _ f _ => f.elim)) hk5 (fun i e _ => by subst e; exact ⟨h.b2, by obtain ⟨es, cl2, hm2, _⟩ := h5'; exact not_bk_map hm2⟩)
  have HF : Hid (SwS w0 W5 base S mb dv ds n m (addL rc L) ∧ Keeps (Fp w base) w W5) := by
    obtain ⟨_, hu⟩ := h1'.sets.ublk
    obtain ⟨_, hl⟩ := h1'.sets.lblk
    obtain ⟨_, hmm⟩ := h1'.sets.mblk
    obtain ⟨_, ha⟩ := own_block h1'.ra (g := ga) rfl
    obtain ⟨_, _, hSb, _⟩ := h1'.sets.blk
    have hS := hne S _ _ _ hSb
    refine ⟨⟨⟨U, M, A, gu, cu, gm, cm, gl, cl, ga, ca, vd, rt, d, _, ⟨h1'.sets.kept hk5 hS (hne _ _ _ _ hu) (hne _ _ _ _ hmm) (hne _ _ _ _ hl), hk5.cell h1'.b0 hS, hk5.cell h1'.b4 hS, hk5.cell h1'.b5 hS, hk5.cell h1'.b6 hS, h1'.ra.kept hk5 (fun g e => by simp [Value.ownBlock] at e; subst e; exact hne _ _ _ _ ha), h1'.rd.kept hk5 (fun g e => by obtain ⟨_, hd⟩ := own_block h1'.rd e; exact hne _ _ _ _ hd), h1'.n1, h1'.n2, h1'.n3, h1'.n4, h1'.n5⟩, h2, h3, h4, hP5, ?_, ?_⟩, h.kp.trans (Fp.low hfp) (fun i e _ => e), h.b1, h.b2, Nat.le_trans h.b3 hfp.size⟩, hfp⟩
    · rw [hp]; exact std_setRacy L true h6
    · rw [hp]; exact pl_setRacy h7 L hm
  have y0 : W1.cell? ⟨X, 0, none⟩ = some (.int .i64 (p.w : Nat)) := cell_of_heap bX 0
  have y1 : W1.cell? ⟨X, 1, none⟩ = some (.int .i64 (p.r : Nat)) := cell_of_heap bX 1
  have y2 : W1.cell? ⟨X, 2, none⟩ = some (.bool true) := cell_of_heap bX 2
  have s6' : W1.cell? ⟨S, 6, none⟩ = some (.map (some mb)) := kA.cell s6 (fun f => f)
  have HW : Hid (W1 = w.alloc (.cells #[.int .i64 p.w, .int .i64 p.r, .bool true] 79) ∧ X = w.heap.size) := ⟨hW1, hX⟩
  clear h h1 h2 h3 h4 h5 h6 h7 hm hp kA bX hX hW1 h1' h5' hup hP5 hk5 hne hfp
  go_enter Try.func39, Try.ntmps39
  go_upto_region 2 with fail
  rw [← HW.out.1, ← HW.out.2]
  go_region
  all_goals (go_wp2_with fail; go_end0)
  all_goals exact ⟨rfl, HF.out⟩
end Go.Proofs.Ytolhojagbiaamab
