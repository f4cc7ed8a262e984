import Derived.Test.YtlajblbfelcalaaScCutP
/-! ScriptCut. -/
namespace Go.Proofs.Ytlajblbfelcalaa
set_option linter.unusedVariables false
set_option maxRecDepth 20000
open Go.RowKit Go.HeapKit

set_option maxHeartbeats 6400000 in
theorem scriptCut_walk (ap ad : Option Addr) (np cp nd cd : Nat) (n : Int) (lp ld : List Int) (w : World) (hp : SeenN w ap np lp) (hd : SeenN w ad nd ld) (hs : np * 8 ≤ 140737488351232) (hs2 : nd * 8 ≤ 140737488351232) :
    Calls Try.prog 7 #[.agg #[.slice ap np cp, .slice ad nd cd], .int .i64 n] w fun e w' => e = .returned (.bool true) ∧ Below w.heap.size w w' := by
  have HS : Hid (SeenN w ap np lp ∧ SeenN w ad nd ld) := ⟨hp, hd⟩
  clear hp hd
  obtain ⟨s0, hs0⟩ : ∃ s0, s0 = w.heap.size := ⟨_, rfl⟩
  have hb0 := blk_new w (.cells #[.slice ap np cp, .slice ad nd cd] 37) s0 hs0.symm
  have hkb := keeps1 w (.cells #[.slice ap np cp, .slice ad nd cd] 37)
  have hsz : (w.alloc (.cells #[.slice ap np cp, .slice ad nd cd] 37)).heap.size = s0 + 1 := by simp; omega
  go_enter Try.func7, Try.ntmps7
  go_upto_region 1 with fail
  rw [← hs0]
  generalize w.alloc (.cells #[.slice ap np cp, .slice ad nd cd] 37) = wb at *
  have HB : Hid (wb.heap[s0]? = some (.cells #[.slice ap np cp, .slice ad nd cd] 37 (0, 0)) ∧ Keeps None w wb ∧ wb.heap.size = s0 + 1 ∧ s0 = w.heap.size) := ⟨hb0, hkb, hsz, hs0⟩
  have c0 : wb.cell? ⟨s0, 0, none⟩ = some (.slice ap np cp) := (blk_cell hb0 0).trans rfl
  have c1 : wb.cell? ⟨s0, 1, none⟩ = some (.slice ad nd cd) := (blk_cell hb0 1).trans rfl
  clear hb0 hkb hsz hs0
  have hP : Hid (∀ wx, Keeps None wb wx → Calls Try.prog 22 #[.slice ap np cp] wx fun e w' => ∃ g cap, e = .returned (.slice (some ⟨g, 0, none⟩) np cap) ∧ (∃ l', Room w' wx.heap.size g np cap l') ∧ Keeps None wx w') := fun wx hx => moved_any ap np cp lp wx ((HS.out.1.more HB.out.2.1).more hx) hs
  have hD : Hid (∀ wx, Keeps None wb wx → Calls Try.prog 22 #[.slice ad nd cd] wx fun e w' => ∃ g cap, e = .returned (.slice (some ⟨g, 0, none⟩) nd cap) ∧ (∃ l', Room w' wx.heap.size g nd cap l') ∧ Keeps None wx w') := fun wx hx => moved_any ad nd cd ld wx ((HS.out.2.more HB.out.2.1).more hx) hs2
  go_cut [5] (fun s5 wx => ∃ p g0 q0 g1 q1 l0 l1, s5 = .pointer (some ⟨p, 0, none⟩) ∧ Cs w wx s0 p g0 q0 g1 q1 ap ad np cp nd cd l0 l1)
  case first =>
    refine wp_region_held_drew (S := (fun w' => w'.cell? ⟨s0, 0, none⟩ = some (.slice ap np cp) ∧ w'.cell? ⟨s0, 1, none⟩ = some (.slice ad nd cd))) (by kernel_rfl) ?_ (fun hHeld => ?_)
    · (try dsimp only); first | with_reducible exact ⟨hkQ.cell c0 (fun f => f), hkQ.cell c1 (fun f => f)⟩ | with_reducible exact ⟨hkP.cell c0 (fun f => f), hkP.cell c1 (fun f => f)⟩ | with_reducible exact two_cells (hkQ.cell c0 (fun f => f)) (hkQ.cell c1 (fun f => f)) (by have := hkP.size; have := HB.out.2.2.1; omega) | go_keep | exact ⟨(hkQ.andAlloc _).cell c0 (fun f => f), (hkQ.andAlloc _).cell c1 (fun f => f)⟩ | exact ⟨(hkP.andAlloc _).cell c0 (fun f => f), (hkP.andAlloc _).cell c1 (fun f => f)⟩
    refine wpAnyH_take (i := 0) (oi := { dst := some 14, op := Op.fieldAddr 37 (Operand.tmp 2) 0, type := 0, pos := "law.go:98", after := #[], guard := none }) (v := ?_) rfl (by kernel_rfl) (by kernel_rfl) (by kernel_rfl) (fun _ _ _ h => h) (Or.inl ⟨by rfl, ?_⟩) (by assumption) ?_
    rotate_left
    · (intro wz hSw; (try dsimp only at hSw); go_simp; try with_reducible rfl)
    simp only [Act.put, List.setIfInBounds_toArray, List.set_cons_zero, List.set_cons_succ]
    refine wpAnyH_take (i := 1) (oi := { dst := some 15, op := Op.load 25 (Operand.tmp 14), type := 25, pos := "law.go:98", after := #[{ on := 0, ground := Ground.data }], guard := none }) (v := ?_) rfl (by kernel_rfl) (by kernel_rfl) (by kernel_rfl) (fun _ _ _ h => h) (Or.inl ⟨by rfl, ?_⟩) (by assumption) ?_
    rotate_left
    · (intro wz hSw; (try dsimp only at hSw); go_simp; try with_reducible rfl)
    simp only [Act.put, List.setIfInBounds_toArray, List.set_cons_zero, List.set_cons_succ]
    refine wpAnyH_take (i := 3) (oi := { dst := some 17, op := Op.fieldAddr 37 (Operand.tmp 2) 1, type := 0, pos := "law.go:98", after := #[], guard := none }) (v := ?_) rfl (by kernel_rfl) (by kernel_rfl) (by kernel_rfl) (fun _ _ _ h => h) (Or.inl ⟨by rfl, ?_⟩) (by assumption) ?_
    rotate_left
    · (intro wz hSw; (try dsimp only at hSw); go_simp; try with_reducible rfl)
    simp only [Act.put, List.setIfInBounds_toArray, List.set_cons_zero, List.set_cons_succ]
    refine wpAnyH_take (i := 4) (oi := { dst := some 18, op := Op.load 25 (Operand.tmp 17), type := 25, pos := "law.go:98", after := #[{ on := 3, ground := Ground.data }], guard := none }) (v := ?_) rfl (by kernel_rfl) (by kernel_rfl) (by kernel_rfl) (fun _ _ _ h => h) (Or.inl ⟨by rfl, ?_⟩) (by assumption) ?_
    rotate_left
    · (intro wz hSw; (try dsimp only at hSw); go_simp; try with_reducible rfl)
    simp only [Act.put, List.setIfInBounds_toArray, List.set_cons_zero, List.set_cons_succ]
    refine wpAnyH_ready (rs := [2, 7]) (by kernel_rfl) (by simp) ?_
    refine AllReadyH.cons (o := { dst := some 16, op := Op.call { callee := Callee.value (Operand.func 22), args := #[Operand.tmp 15], argTypes := #[25] }, type := 25, pos := "law.go:98", after := #[{ on := 1, ground := Ground.data }], guard := none }) rfl (fun K hK => ?_) ?_
    · go_simp
      refine (hP.out _ (by first | exact Keeps.drew None wb | exact ((Keeps.refl None wb).andAlloc _).andDrew)).mono ?_
      rintro _ w5 ⟨g0, q0, rfl, ⟨l0, hr0⟩, hk5⟩
      have hkP : Keeps None wb w5 := Keeps.trans (by first | exact Keeps.drew None wb | exact ((Keeps.refl None wb).andAlloc _).andDrew) hk5 (fun _ f _ => f)
      refine hK.out _ _ ?_ (fun hHeld2 => ?_)
      · (try dsimp only); first | with_reducible exact ⟨hkQ.cell c0 (fun f => f), hkQ.cell c1 (fun f => f)⟩ | with_reducible exact ⟨hkP.cell c0 (fun f => f), hkP.cell c1 (fun f => f)⟩ | with_reducible exact two_cells (hkQ.cell c0 (fun f => f)) (hkQ.cell c1 (fun f => f)) (by have := hkP.size; have := HB.out.2.2.1; omega) | go_keep | exact ⟨(hkQ.andAlloc _).cell c0 (fun f => f), (hkQ.andAlloc _).cell c1 (fun f => f)⟩ | exact ⟨(hkP.andAlloc _).cell c0 (fun f => f), (hkP.andAlloc _).cell c1 (fun f => f)⟩
      clear hK K
      try simp only [Act.put, List.setIfInBounds_toArray, List.set_cons_zero, List.set_cons_succ]
      refine wpAnyH_ready (rs := [5, 7]) (by kernel_rfl) (by simp) ?_
      refine AllReadyH.cons (o := { dst := some 19, op := Op.call { callee := Callee.value (Operand.func 22), args := #[Operand.tmp 18], argTypes := #[25] }, type := 25, pos := "law.go:98", after := #[{ on := 4, ground := Ground.data }, { on := 2, ground := Ground.chain }], guard := none }) rfl (fun K hK => ?_) ?_
      · go_simp
        refine (hD.out _ (by first | exact hkP | exact hkP.andAlloc _)).mono ?_
        rintro _ w6 ⟨g1, q1, rfl, ⟨l1, hr1⟩, hk6⟩
        have hkQ : Keeps None wb w6 := Keeps.trans (by first | exact hkP | exact hkP.andAlloc _) hk6 (fun _ f _ => f)
        first | (have b6 := blk_kept (blk_kept (w := (wb.alloc (.cells #[.slice none 0 0, .slice none 0 0] 37)).drew) (blk_new wb (.cells #[.slice none 0 0, .slice none 0 0] 37) _ rfl) hk5 (fun f => f)) hk6 (fun f => f); have r60 := (blk_cell b6 0).trans rfl; have r61 := (blk_cell b6 1).trans rfl; have f60 := blk_free b6 0; have f61 := blk_free b6 1) | (have b6 := blk_kept (blk_new w5 (.cells #[.slice none 0 0, .slice none 0 0] 37) _ rfl) hk6 (fun f => f); have r60 := (blk_cell b6 0).trans rfl; have r61 := (blk_cell b6 1).trans rfl; have f60 := blk_free b6 0; have f61 := blk_free b6 1) | skip
        refine hK.out _ _ ?_ (fun hHeld2 => ?_)
        · (try dsimp only); first | with_reducible exact ⟨hkQ.cell c0 (fun f => f), hkQ.cell c1 (fun f => f)⟩ | with_reducible exact ⟨hkP.cell c0 (fun f => f), hkP.cell c1 (fun f => f)⟩ | with_reducible exact two_cells (hkQ.cell c0 (fun f => f)) (hkQ.cell c1 (fun f => f)) (by have := hkP.size; have := HB.out.2.2.1; omega) | go_keep | exact ⟨(hkQ.andAlloc _).cell c0 (fun f => f), (hkQ.andAlloc _).cell c1 (fun f => f)⟩ | exact ⟨(hkP.andAlloc _).cell c0 (fun f => f), (hkP.andAlloc _).cell c1 (fun f => f)⟩
        clear hK K
        try simp only [Act.put, List.setIfInBounds_toArray, List.set_cons_zero, List.set_cons_succ]
        refine wpAnyH_take (i := 6) (oi := { dst := some 20, op := Op.build 37 #[(0, Operand.tmp 16), (1, Operand.tmp 19)], type := 37, pos := "law.go:98", after := #[{ on := 2, ground := Ground.data }, { on := 5, ground := Ground.data }], guard := none }) (v := ?_) rfl (by kernel_rfl) (by kernel_rfl) (by kernel_rfl) (fun _ _ _ h => h) (Or.inl ⟨by rfl, ?_⟩) (by assumption) ?_
        rotate_left
        · (intro wz hSw; (try dsimp only at hSw); go_simp; try with_reducible rfl)
        simp only [Act.put, List.setIfInBounds_toArray, List.set_cons_zero, List.set_cons_succ]
        refine wpAnyH_ready (rs := [7]) (by kernel_rfl) (by simp) ?_
        refine AllReadyH.cons (o := { dst := some 5, op := Op.alloc 37, type := 0, pos := "law.go:98", after := #[], guard := none }) rfl (fun K hK => ?_) ?_
        · go_simp
          refine hK.out _ _ ?_ (fun hHeld2 => ?_)
          · (try dsimp only); first | with_reducible exact ⟨hkQ.cell c0 (fun f => f), hkQ.cell c1 (fun f => f)⟩ | with_reducible exact ⟨hkP.cell c0 (fun f => f), hkP.cell c1 (fun f => f)⟩ | with_reducible exact two_cells (hkQ.cell c0 (fun f => f)) (hkQ.cell c1 (fun f => f)) (by have := hkP.size; have := HB.out.2.2.1; omega) | go_keep | exact ⟨(hkQ.andAlloc _).cell c0 (fun f => f), (hkQ.andAlloc _).cell c1 (fun f => f)⟩ | exact ⟨(hkP.andAlloc _).cell c0 (fun f => f), (hkP.andAlloc _).cell c1 (fun f => f)⟩
          clear hK K
          try simp only [Act.put, List.setIfInBounds_toArray, List.set_cons_zero, List.set_cons_succ]
          refine wpAnyH_ready (rs := [8]) (by kernel_rfl) (by simp) ?_
          refine AllReadyH.cons (o := { dst := none, op := Op.store 37 (Operand.tmp 5) (Operand.tmp 20), type := 0, pos := "law.go:98", after := #[{ on := 7, ground := Ground.data }, { on := 6, ground := Ground.data }, { on := 5, ground := Ground.chain }, { on := 0, ground := Ground.phase }, { on := 1, ground := Ground.phase }, { on := 2, ground := Ground.phase }, { on := 3, ground := Ground.phase }, { on := 4, ground := Ground.phase }, { on := 5, ground := Ground.phase }, { on := 6, ground := Ground.phase }, { on := 7, ground := Ground.phase }], guard := none }) rfl (fun K hK => ?_) ?_
          · go_simp
            refine hK.out _ _ ?_ (fun hHeld2 => ?_)
            · (try dsimp only); first | with_reducible exact ⟨hkQ.cell c0 (fun f => f), hkQ.cell c1 (fun f => f)⟩ | with_reducible exact ⟨hkP.cell c0 (fun f => f), hkP.cell c1 (fun f => f)⟩ | with_reducible exact two_cells (hkQ.cell c0 (fun f => f)) (hkQ.cell c1 (fun f => f)) (by have := hkP.size; have := HB.out.2.2.1; omega) | go_keep | exact ⟨(hkQ.andAlloc _).cell c0 (fun f => f), (hkQ.andAlloc _).cell c1 (fun f => f)⟩ | exact ⟨(hkP.andAlloc _).cell c0 (fun f => f), (hkP.andAlloc _).cell c1 (fun f => f)⟩
            clear hK K
            try simp only [Act.put, List.setIfInBounds_toArray, List.set_cons_zero, List.set_cons_succ]
            refine wpAnyH_done (by kernel_rfl) ?_ _
            have HBB := HB.out
            have hz5 := hkP.size
            have hz6 := hkQ.size
            first | (have hk65 : Keeps None w5 w6 := (by with_reducible exact hk6)) | (have hk65 : Keeps None w5 w6 := (keeps1 w5 _).trans (by with_reducible exact hk6) (fun _ f _ => f))
            have hz65 := hk65.size
            go_wp2_with fail
            go_meet
            first | exact ⟨_, g0, q0, g1, q1, l0, l1, rfl, cs_last HBB hr0 (by first | (simp; omega) | omega) hr1 (by first | (simp; done) | (simp; omega) | omega) hkP hk65⟩ | exact ⟨_, g0, q0, g1, q1, l0, l1, rfl, cs_set HBB hr0 (by first | (simp; omega) | omega) hr1 (by first | (simp; done) | (simp; omega) | omega) hkP hk65 b6 (by first | omega | (simp; omega))⟩
          exact AllReadyH.nil
        exact AllReadyH.nil
      refine AllReadyH.cons (o := { dst := some 5, op := Op.alloc 37, type := 0, pos := "law.go:98", after := #[], guard := none }) rfl (fun K hK => ?_) ?_
      · go_simp
        refine hK.out _ _ ?_ (fun hHeld2 => ?_)
        · (try dsimp only); first | with_reducible exact ⟨hkQ.cell c0 (fun f => f), hkQ.cell c1 (fun f => f)⟩ | with_reducible exact ⟨hkP.cell c0 (fun f => f), hkP.cell c1 (fun f => f)⟩ | with_reducible exact two_cells (hkQ.cell c0 (fun f => f)) (hkQ.cell c1 (fun f => f)) (by have := hkP.size; have := HB.out.2.2.1; omega) | go_keep | exact ⟨(hkQ.andAlloc _).cell c0 (fun f => f), (hkQ.andAlloc _).cell c1 (fun f => f)⟩ | exact ⟨(hkP.andAlloc _).cell c0 (fun f => f), (hkP.andAlloc _).cell c1 (fun f => f)⟩
        clear hK K
        try simp only [Act.put, List.setIfInBounds_toArray, List.set_cons_zero, List.set_cons_succ]
        refine wpAnyH_ready (rs := [5]) (by kernel_rfl) (by simp) ?_
        refine AllReadyH.cons (o := { dst := some 19, op := Op.call { callee := Callee.value (Operand.func 22), args := #[Operand.tmp 18], argTypes := #[25] }, type := 25, pos := "law.go:98", after := #[{ on := 4, ground := Ground.data }, { on := 2, ground := Ground.chain }], guard := none }) rfl (fun K hK => ?_) ?_
        · go_simp
          refine (hD.out _ (by first | exact hkP | exact hkP.andAlloc _)).mono ?_
          rintro _ w6 ⟨g1, q1, rfl, ⟨l1, hr1⟩, hk6⟩
          have hkQ : Keeps None wb w6 := Keeps.trans (by first | exact hkP | exact hkP.andAlloc _) hk6 (fun _ f _ => f)
          first | (have b6 := blk_kept (blk_kept (w := (wb.alloc (.cells #[.slice none 0 0, .slice none 0 0] 37)).drew) (blk_new wb (.cells #[.slice none 0 0, .slice none 0 0] 37) _ rfl) hk5 (fun f => f)) hk6 (fun f => f); have r60 := (blk_cell b6 0).trans rfl; have r61 := (blk_cell b6 1).trans rfl; have f60 := blk_free b6 0; have f61 := blk_free b6 1) | (have b6 := blk_kept (blk_new w5 (.cells #[.slice none 0 0, .slice none 0 0] 37) _ rfl) hk6 (fun f => f); have r60 := (blk_cell b6 0).trans rfl; have r61 := (blk_cell b6 1).trans rfl; have f60 := blk_free b6 0; have f61 := blk_free b6 1) | skip
          refine hK.out _ _ ?_ (fun hHeld2 => ?_)
          · (try dsimp only); first | with_reducible exact ⟨hkQ.cell c0 (fun f => f), hkQ.cell c1 (fun f => f)⟩ | with_reducible exact ⟨hkP.cell c0 (fun f => f), hkP.cell c1 (fun f => f)⟩ | with_reducible exact two_cells (hkQ.cell c0 (fun f => f)) (hkQ.cell c1 (fun f => f)) (by have := hkP.size; have := HB.out.2.2.1; omega) | go_keep | exact ⟨(hkQ.andAlloc _).cell c0 (fun f => f), (hkQ.andAlloc _).cell c1 (fun f => f)⟩ | exact ⟨(hkP.andAlloc _).cell c0 (fun f => f), (hkP.andAlloc _).cell c1 (fun f => f)⟩
          clear hK K
          try simp only [Act.put, List.setIfInBounds_toArray, List.set_cons_zero, List.set_cons_succ]
          refine wpAnyH_take (i := 6) (oi := { dst := some 20, op := Op.build 37 #[(0, Operand.tmp 16), (1, Operand.tmp 19)], type := 37, pos := "law.go:98", after := #[{ on := 2, ground := Ground.data }, { on := 5, ground := Ground.data }], guard := none }) (v := ?_) rfl (by kernel_rfl) (by kernel_rfl) (by kernel_rfl) (fun _ _ _ h => h) (Or.inl ⟨by rfl, ?_⟩) (by assumption) ?_
          rotate_left
          · (intro wz hSw; (try dsimp only at hSw); go_simp; try with_reducible rfl)
          simp only [Act.put, List.setIfInBounds_toArray, List.set_cons_zero, List.set_cons_succ]
          refine wpAnyH_ready (rs := [8]) (by kernel_rfl) (by simp) ?_
          refine AllReadyH.cons (o := { dst := none, op := Op.store 37 (Operand.tmp 5) (Operand.tmp 20), type := 0, pos := "law.go:98", after := #[{ on := 7, ground := Ground.data }, { on := 6, ground := Ground.data }, { on := 5, ground := Ground.chain }, { on := 0, ground := Ground.phase }, { on := 1, ground := Ground.phase }, { on := 2, ground := Ground.phase }, { on := 3, ground := Ground.phase }, { on := 4, ground := Ground.phase }, { on := 5, ground := Ground.phase }, { on := 6, ground := Ground.phase }, { on := 7, ground := Ground.phase }], guard := none }) rfl (fun K hK => ?_) ?_
          · go_simp
            refine hK.out _ _ ?_ (fun hHeld2 => ?_)
            · (try dsimp only); first | with_reducible exact ⟨hkQ.cell c0 (fun f => f), hkQ.cell c1 (fun f => f)⟩ | with_reducible exact ⟨hkP.cell c0 (fun f => f), hkP.cell c1 (fun f => f)⟩ | with_reducible exact two_cells (hkQ.cell c0 (fun f => f)) (hkQ.cell c1 (fun f => f)) (by have := hkP.size; have := HB.out.2.2.1; omega) | go_keep | exact ⟨(hkQ.andAlloc _).cell c0 (fun f => f), (hkQ.andAlloc _).cell c1 (fun f => f)⟩ | exact ⟨(hkP.andAlloc _).cell c0 (fun f => f), (hkP.andAlloc _).cell c1 (fun f => f)⟩
            clear hK K
            try simp only [Act.put, List.setIfInBounds_toArray, List.set_cons_zero, List.set_cons_succ]
            refine wpAnyH_done (by kernel_rfl) ?_ _
            have HBB := HB.out
            have hz5 := hkP.size
            have hz6 := hkQ.size
            first | (have hk65 : Keeps None w5 w6 := (by with_reducible exact hk6)) | (have hk65 : Keeps None w5 w6 := (keeps1 w5 _).trans (by with_reducible exact hk6) (fun _ f _ => f))
            have hz65 := hk65.size
            go_wp2_with fail
            go_meet
            first | exact ⟨_, g0, q0, g1, q1, l0, l1, rfl, cs_last HBB hr0 (by first | (simp; omega) | omega) hr1 (by first | (simp; done) | (simp; omega) | omega) hkP hk65⟩ | exact ⟨_, g0, q0, g1, q1, l0, l1, rfl, cs_set HBB hr0 (by first | (simp; omega) | omega) hr1 (by first | (simp; done) | (simp; omega) | omega) hkP hk65 b6 (by first | omega | (simp; omega))⟩
          exact AllReadyH.nil
        exact AllReadyH.nil
      exact AllReadyH.nil
    refine AllReadyH.cons (o := { dst := some 5, op := Op.alloc 37, type := 0, pos := "law.go:98", after := #[], guard := none }) rfl (fun K hK => ?_) ?_
    · go_simp
      refine hK.out _ _ ?_ (fun hHeld2 => ?_)
      · (try dsimp only); first | with_reducible exact ⟨hkQ.cell c0 (fun f => f), hkQ.cell c1 (fun f => f)⟩ | with_reducible exact ⟨hkP.cell c0 (fun f => f), hkP.cell c1 (fun f => f)⟩ | with_reducible exact two_cells (hkQ.cell c0 (fun f => f)) (hkQ.cell c1 (fun f => f)) (by have := hkP.size; have := HB.out.2.2.1; omega) | go_keep | exact ⟨(hkQ.andAlloc _).cell c0 (fun f => f), (hkQ.andAlloc _).cell c1 (fun f => f)⟩ | exact ⟨(hkP.andAlloc _).cell c0 (fun f => f), (hkP.andAlloc _).cell c1 (fun f => f)⟩
      clear hK K
      try simp only [Act.put, List.setIfInBounds_toArray, List.set_cons_zero, List.set_cons_succ]
      refine wpAnyH_ready (rs := [2]) (by kernel_rfl) (by simp) ?_
      refine AllReadyH.cons (o := { dst := some 16, op := Op.call { callee := Callee.value (Operand.func 22), args := #[Operand.tmp 15], argTypes := #[25] }, type := 25, pos := "law.go:98", after := #[{ on := 1, ground := Ground.data }], guard := none }) rfl (fun K hK => ?_) ?_
      · go_simp
        refine (hP.out _ (by first | exact Keeps.drew None wb | exact ((Keeps.refl None wb).andAlloc _).andDrew)).mono ?_
        rintro _ w5 ⟨g0, q0, rfl, ⟨l0, hr0⟩, hk5⟩
        have hkP : Keeps None wb w5 := Keeps.trans (by first | exact Keeps.drew None wb | exact ((Keeps.refl None wb).andAlloc _).andDrew) hk5 (fun _ f _ => f)
        refine hK.out _ _ ?_ (fun hHeld2 => ?_)
        · (try dsimp only); first | with_reducible exact ⟨hkQ.cell c0 (fun f => f), hkQ.cell c1 (fun f => f)⟩ | with_reducible exact ⟨hkP.cell c0 (fun f => f), hkP.cell c1 (fun f => f)⟩ | with_reducible exact two_cells (hkQ.cell c0 (fun f => f)) (hkQ.cell c1 (fun f => f)) (by have := hkP.size; have := HB.out.2.2.1; omega) | go_keep | exact ⟨(hkQ.andAlloc _).cell c0 (fun f => f), (hkQ.andAlloc _).cell c1 (fun f => f)⟩ | exact ⟨(hkP.andAlloc _).cell c0 (fun f => f), (hkP.andAlloc _).cell c1 (fun f => f)⟩
        clear hK K
        try simp only [Act.put, List.setIfInBounds_toArray, List.set_cons_zero, List.set_cons_succ]
        refine wpAnyH_ready (rs := [5]) (by kernel_rfl) (by simp) ?_
        refine AllReadyH.cons (o := { dst := some 19, op := Op.call { callee := Callee.value (Operand.func 22), args := #[Operand.tmp 18], argTypes := #[25] }, type := 25, pos := "law.go:98", after := #[{ on := 4, ground := Ground.data }, { on := 2, ground := Ground.chain }], guard := none }) rfl (fun K hK => ?_) ?_
        · go_simp
          refine (hD.out _ (by first | exact hkP | exact hkP.andAlloc _)).mono ?_
          rintro _ w6 ⟨g1, q1, rfl, ⟨l1, hr1⟩, hk6⟩
          have hkQ : Keeps None wb w6 := Keeps.trans (by first | exact hkP | exact hkP.andAlloc _) hk6 (fun _ f _ => f)
          first | (have b6 := blk_kept (blk_kept (w := (wb.alloc (.cells #[.slice none 0 0, .slice none 0 0] 37)).drew) (blk_new wb (.cells #[.slice none 0 0, .slice none 0 0] 37) _ rfl) hk5 (fun f => f)) hk6 (fun f => f); have r60 := (blk_cell b6 0).trans rfl; have r61 := (blk_cell b6 1).trans rfl; have f60 := blk_free b6 0; have f61 := blk_free b6 1) | (have b6 := blk_kept (blk_new w5 (.cells #[.slice none 0 0, .slice none 0 0] 37) _ rfl) hk6 (fun f => f); have r60 := (blk_cell b6 0).trans rfl; have r61 := (blk_cell b6 1).trans rfl; have f60 := blk_free b6 0; have f61 := blk_free b6 1) | skip
          refine hK.out _ _ ?_ (fun hHeld2 => ?_)
          · (try dsimp only); first | with_reducible exact ⟨hkQ.cell c0 (fun f => f), hkQ.cell c1 (fun f => f)⟩ | with_reducible exact ⟨hkP.cell c0 (fun f => f), hkP.cell c1 (fun f => f)⟩ | with_reducible exact two_cells (hkQ.cell c0 (fun f => f)) (hkQ.cell c1 (fun f => f)) (by have := hkP.size; have := HB.out.2.2.1; omega) | go_keep | exact ⟨(hkQ.andAlloc _).cell c0 (fun f => f), (hkQ.andAlloc _).cell c1 (fun f => f)⟩ | exact ⟨(hkP.andAlloc _).cell c0 (fun f => f), (hkP.andAlloc _).cell c1 (fun f => f)⟩
          clear hK K
          try simp only [Act.put, List.setIfInBounds_toArray, List.set_cons_zero, List.set_cons_succ]
          refine wpAnyH_take (i := 6) (oi := { dst := some 20, op := Op.build 37 #[(0, Operand.tmp 16), (1, Operand.tmp 19)], type := 37, pos := "law.go:98", after := #[{ on := 2, ground := Ground.data }, { on := 5, ground := Ground.data }], guard := none }) (v := ?_) rfl (by kernel_rfl) (by kernel_rfl) (by kernel_rfl) (fun _ _ _ h => h) (Or.inl ⟨by rfl, ?_⟩) (by assumption) ?_
          rotate_left
          · (intro wz hSw; (try dsimp only at hSw); go_simp; try with_reducible rfl)
          simp only [Act.put, List.setIfInBounds_toArray, List.set_cons_zero, List.set_cons_succ]
          refine wpAnyH_ready (rs := [8]) (by kernel_rfl) (by simp) ?_
          refine AllReadyH.cons (o := { dst := none, op := Op.store 37 (Operand.tmp 5) (Operand.tmp 20), type := 0, pos := "law.go:98", after := #[{ on := 7, ground := Ground.data }, { on := 6, ground := Ground.data }, { on := 5, ground := Ground.chain }, { on := 0, ground := Ground.phase }, { on := 1, ground := Ground.phase }, { on := 2, ground := Ground.phase }, { on := 3, ground := Ground.phase }, { on := 4, ground := Ground.phase }, { on := 5, ground := Ground.phase }, { on := 6, ground := Ground.phase }, { on := 7, ground := Ground.phase }], guard := none }) rfl (fun K hK => ?_) ?_
          · go_simp
            refine hK.out _ _ ?_ (fun hHeld2 => ?_)
            · (try dsimp only); first | with_reducible exact ⟨hkQ.cell c0 (fun f => f), hkQ.cell c1 (fun f => f)⟩ | with_reducible exact ⟨hkP.cell c0 (fun f => f), hkP.cell c1 (fun f => f)⟩ | with_reducible exact two_cells (hkQ.cell c0 (fun f => f)) (hkQ.cell c1 (fun f => f)) (by have := hkP.size; have := HB.out.2.2.1; omega) | go_keep | exact ⟨(hkQ.andAlloc _).cell c0 (fun f => f), (hkQ.andAlloc _).cell c1 (fun f => f)⟩ | exact ⟨(hkP.andAlloc _).cell c0 (fun f => f), (hkP.andAlloc _).cell c1 (fun f => f)⟩
            clear hK K
            try simp only [Act.put, List.setIfInBounds_toArray, List.set_cons_zero, List.set_cons_succ]
            refine wpAnyH_done (by kernel_rfl) ?_ _
            have HBB := HB.out
            have hz5 := hkP.size
            have hz6 := hkQ.size
            first | (have hk65 : Keeps None w5 w6 := (by with_reducible exact hk6)) | (have hk65 : Keeps None w5 w6 := (keeps1 w5 _).trans (by with_reducible exact hk6) (fun _ f _ => f))
            have hz65 := hk65.size
            go_wp2_with fail
            go_meet
            first | exact ⟨_, g0, q0, g1, q1, l0, l1, rfl, cs_last HBB hr0 (by first | (simp; omega) | omega) hr1 (by first | (simp; done) | (simp; omega) | omega) hkP hk65⟩ | exact ⟨_, g0, q0, g1, q1, l0, l1, rfl, cs_set HBB hr0 (by first | (simp; omega) | omega) hr1 (by first | (simp; done) | (simp; omega) | omega) hkP hk65 b6 (by first | omega | (simp; omega))⟩
          exact AllReadyH.nil
        exact AllReadyH.nil
      exact AllReadyH.nil
    exact AllReadyH.nil
  case rest =>
  obtain ⟨p, g0, q0, g1, q1, l0, l1, rfl, hC⟩ := hcut
  have HC : Hid (Cs w wc s0 p g0 q0 g1 q1 ap ad np cp nd cd l0 l1) := hC
  clear hC c0 c1 hP hD HB
  have c0 : wc.cell? ⟨p, 0, none⟩ = some (.slice (some ⟨g0, 0, none⟩) np q0) := (blk_cell HC.out.bp 0).trans rfl
  have c1 : wc.cell? ⟨p, 1, none⟩ = some (.slice (some ⟨g1, 0, none⟩) nd q1) := (blk_cell HC.out.bp 1).trans rfl
  go_wp2_with fail
  refine (cut_any (some ⟨g0, 0, none⟩) (some ⟨g1, 0, none⟩) np q0 nd q1 n l0 l1 _ HC.out.r0.seen HC.out.r1.seen (by have := HC.out.r0.fits; omega) hs hs2).mono ?_
  rintro _ w1 ⟨_, _, rfl, _, hk1⟩
  have HC1 : Hid (Cs w w1 s0 p g0 q0 g1 q1 ap ad np cp nd cd l0 l1) := HC.out.more hk1
  clear hk1 c0 c1 HC
  have c0 : w1.cell? ⟨p, 0, none⟩ = some (.slice (some ⟨g0, 0, none⟩) np q0) := (blk_cell HC1.out.bp 0).trans rfl
  have c2 : w1.cell? ⟨s0, 0, none⟩ = some (.slice ap np cp) := (blk_cell HC1.out.b0 0).trans rfl
  go_wp2_with fail
  refine (back_any (s0 + 1) g0 np q0 ap cp lp l0 _ (HS.out.1.more HC1.out.kp) HC1.out.r0 (fun h0 q hq => by have := HS.out.1.lt q hq h0; have := HC1.out.r0.low; have := HC1.out.os; omega) hs).mono ?_
  rintro _ w2 ⟨rfl, hr2, hk2⟩
  have HC2 : Hid (Cs w w2 s0 p g0 q0 g1 q1 ap ad np cp nd cd lp l1) := HC1.out.back0 hr2 hk2
  clear hr2 hk2 c0 c2 HC1
  have c0 : w2.cell? ⟨p, 1, none⟩ = some (.slice (some ⟨g1, 0, none⟩) nd q1) := (blk_cell HC2.out.bp 1).trans rfl
  have c2 : w2.cell? ⟨s0, 1, none⟩ = some (.slice ad nd cd) := (blk_cell HC2.out.b0 1).trans rfl
  go_wp2_with fail
  refine (back_any (s0 + 1) g1 nd q1 ad cd ld l1 _ (HS.out.2.more HC2.out.kp) HC2.out.r1 (fun h0 q hq => by have := HS.out.2.lt q hq h0; have := HC2.out.r1.low; have := HC2.out.os; omega) hs2).mono ?_
  rintro _ w4 ⟨rfl, hr2, hk2⟩
  have HC4 : Hid (Cs w w4 s0 p g0 q0 g1 q1 ap ad np cp nd cd lp ld) := HC2.out.back1 hr2 hk2
  clear hr2 hk2 c0 c2 HC2
  have c0 : w4.cell? ⟨p, 0, none⟩ = some (.slice (some ⟨g0, 0, none⟩) np q0) := (blk_cell HC4.out.bp 0).trans rfl
  have c1 : w4.cell? ⟨p, 1, none⟩ = some (.slice (some ⟨g1, 0, none⟩) nd q1) := (blk_cell HC4.out.bp 1).trans rfl
  obtain ⟨k, hk⟩ : ∃ k, k = cutN n np := ⟨_, rfl⟩
  have HK : Hid (k = cutN n np) := hk
  have hkn : k ≤ np := by rw [hk]; exact cutN_le n np
  clear hk
  go_wp2_with fail
  refine (cut_any (some ⟨g0, 0, none⟩) (some ⟨g1, 0, none⟩) np q0 nd q1 n lp ld _ (HC4.out.r0.seen) (HC4.out.r1.seen) (by have := HC4.out.r0.fits; omega) hs hs2).mono ?_
  rintro _ w5a ⟨v0, v1, rfl, hT, hk⟩
  obtain ⟨jx, jc, rfl⟩ := row_shape hT.r0
  obtain ⟨jy, jd, rfl⟩ := row_shape hT.r1
  rw [← HK.out] at hT ⊢
  go_upto_region 6 with fail
  have hB := Bx.new hT hk
  have hkk : Keeps None w4 (w5a.alloc (.cells #[.slice jx k jc, .slice jy nd jd] 37)) := hk.andAlloc _
  obtain ⟨pj, hpj⟩ : ∃ p, p = w5a.heap.size := ⟨_, rfl⟩
  rw [← hpj] at hB ⊢
  generalize w5a.alloc (.cells #[.slice jx k jc, .slice jy nd jd] 37) = w5 at *
  have Hj : Hid (Bx w5 w4.heap.size w5.heap.size pj (.slice jx k jc) (.slice jy nd jd) k nd (lp.take k) ld ∧ Keeps None w4 w5) := ⟨hB, hkk⟩
  have HC5 : Hid (Cs w w5 s0 p g0 q0 g1 q1 ap ad np cp nd cd lp ld) := HC4.out.more hkk
  clear hT hk hB hkk hpj c0 c1
  have c0 : w5.cell? ⟨p, 0, none⟩ = some (.slice (some ⟨g0, 0, none⟩) np q0) := (blk_cell HC5.out.bp 0).trans rfl
  have c1 : w5.cell? ⟨p, 1, none⟩ = some (.slice (some ⟨g1, 0, none⟩) nd q1) := (blk_cell HC5.out.bp 1).trans rfl
  go_wp2_with fail
  refine (cut_any (some ⟨g0, 0, none⟩) (some ⟨g1, 0, none⟩) np q0 nd q1 n lp ld _ (HC5.out.r0.seen) (HC5.out.r1.seen) (by have := HC5.out.r0.fits; omega) hs hs2).mono ?_
  rintro _ w6a ⟨v0, v1, rfl, hT, hk⟩
  obtain ⟨gx, gc, rfl⟩ := row_shape hT.r0
  obtain ⟨gy, gd, rfl⟩ := row_shape hT.r1
  rw [← HK.out] at hT ⊢
  go_upto_region 7 with fail
  have hB := Bx.new hT hk
  have hkk : Keeps None w5 (w6a.alloc (.cells #[.slice gx k gc, .slice gy nd gd] 37)) := hk.andAlloc _
  obtain ⟨pg, hpg⟩ : ∃ p, p = w6a.heap.size := ⟨_, rfl⟩
  rw [← hpg] at hB ⊢
  generalize w6a.alloc (.cells #[.slice gx k gc, .slice gy nd gd] 37) = w6 at *
  have Hg : Hid (Bx w6 w5.heap.size w6.heap.size pg (.slice gx k gc) (.slice gy nd gd) k nd (lp.take k) ld ∧ Keeps None w5 w6) := ⟨hB, hkk⟩
  have HC6 : Hid (Cs w w6 s0 p g0 q0 g1 q1 ap ad np cp nd cd lp ld) := HC5.out.more hkk
  clear hT hk hB hkk hpg c0 c1
  have c0 : w6.cell? ⟨p, 0, none⟩ = some (.slice (some ⟨g0, 0, none⟩) np q0) := (blk_cell HC6.out.bp 0).trans rfl
  have c1 : w6.cell? ⟨p, 1, none⟩ = some (.slice (some ⟨g1, 0, none⟩) nd q1) := (blk_cell HC6.out.bp 1).trans rfl
  go_wp2_with fail
  refine (cut_any (some ⟨g0, 0, none⟩) (some ⟨g1, 0, none⟩) np q0 nd q1 _ lp ld _ (HC6.out.r0.seen) (HC6.out.r1.seen) (by have := HC6.out.r0.fits; omega) hs hs2).mono ?_
  rintro _ w7a ⟨v0, v1, rfl, hT, hk⟩
  obtain ⟨ox, oc, rfl⟩ := row_shape hT.r0
  obtain ⟨oy, od, rfl⟩ := row_shape hT.r1
  obtain ⟨k2, hk2⟩ : ∃ k2, k2 = cutN (wrap64 (n - 1)) np := ⟨_, rfl⟩
  rw [← hk2] at hT ⊢
  have hk2n : k2 ≤ np := by rw [hk2]; exact cutN_le _ np
  clear hk2
  go_upto_region 8 with fail
  have hB := Bx.new hT hk
  have hkk : Keeps None w6 (w7a.alloc (.cells #[.slice ox k2 oc, .slice oy nd od] 37)) := hk.andAlloc _
  obtain ⟨po, hpo⟩ : ∃ p, p = w7a.heap.size := ⟨_, rfl⟩
  rw [← hpo] at hB ⊢
  generalize w7a.alloc (.cells #[.slice ox k2 oc, .slice oy nd od] 37) = w7 at *
  have Ho : Hid (Bx w7 w6.heap.size w7.heap.size po (.slice ox k2 oc) (.slice oy nd od) k2 nd (lp.take k2) ld ∧ Keeps None w6 w7) := ⟨hB, hkk⟩
  have HC7 : Hid (Cs w w7 s0 p g0 q0 g1 q1 ap ad np cp nd cd lp ld) := HC6.out.more hkk
  clear hT hk hB hkk hpo c0 c1
  have c0 : w7.cell? ⟨s0, 0, none⟩ = some (.slice ap np cp) := (blk_cell HC7.out.b0 0).trans rfl
  have c1 : w7.cell? ⟨s0, 1, none⟩ = some (.slice ad nd cd) := (blk_cell HC7.out.b0 1).trans rfl
  go_wp2_with fail
  refine (rcut_any ap ad np cp nd cd n lp ld _ (HS.out.1.more HC7.out.kp) (HS.out.2.more HC7.out.kp) hs hs2).mono ?_
  rintro _ w8a ⟨v0, v1, rfl, hT, hk⟩
  obtain ⟨rx, rc, rfl⟩ := row_shape hT.r0
  obtain ⟨ry, rd, rfl⟩ := row_shape hT.r1
  rw [← HK.out] at hT ⊢
  go_upto_region 9 with fail
  have hB := Bx.new hT hk
  have hkk : Keeps None w7 (w8a.alloc (.cells #[.slice rx k rc, .slice ry nd rd] 37)) := hk.andAlloc _
  obtain ⟨pr, hpr⟩ : ∃ p, p = w8a.heap.size := ⟨_, rfl⟩
  rw [← hpr] at hB ⊢
  generalize w8a.alloc (.cells #[.slice rx k rc, .slice ry nd rd] 37) = w8 at *
  have Hr : Hid (Bx w8 w7.heap.size w8.heap.size pr (.slice rx k rc) (.slice ry nd rd) k nd (lp.take k) ld ∧ Keeps None w7 w8) := ⟨hB, hkk⟩
  have HC8 : Hid (Cs w w8 s0 p g0 q0 g1 q1 ap ad np cp nd cd lp ld) := HC7.out.more hkk
  clear hT hk hB hkk hpr c0 c1
  have K48 : Hid (Keeps None w4 w8) := ((Hj.out.2.trans Hg.out.2 (fun _ f _ => f)).trans Ho.out.2 (fun _ f _ => f)).trans Hr.out.2 (fun _ f _ => f)
  have B6 : Hid (Bx w8 w4.heap.size w5.heap.size pj (.slice jx k jc) (.slice jy nd jd) k nd (lp.take k) ld) := ((Hj.out.1.more Hg.out.2).more Ho.out.2).more Hr.out.2
  have B7 : Hid (Bx w8 w5.heap.size w6.heap.size pg (.slice gx k gc) (.slice gy nd gd) k nd (lp.take k) ld) := (Hg.out.1.more Ho.out.2).more Hr.out.2
  have B8 : Hid (Bx w8 w6.heap.size w7.heap.size po (.slice ox k2 oc) (.slice oy nd od) k2 nd (lp.take k2) ld) := Ho.out.1.more Hr.out.2
  have B9 : Hid (Bx w8 w7.heap.size w8.heap.size pr (.slice rx k rc) (.slice ry nd rd) k nd (lp.take k) ld) := Hr.out.1
  have ZZ : Hid (w4.heap.size ≤ w5.heap.size ∧ w5.heap.size ≤ w6.heap.size ∧ w6.heap.size ≤ w7.heap.size ∧ w7.heap.size ≤ w8.heap.size) := ⟨Hj.out.2.size, Hg.out.2.size, Ho.out.2.size, Hr.out.2.size⟩
  clear Hj Hg Ho Hr
  have x0 := B6.out.c0
  have x1 := B6.out.c1
  have x2 := B7.out.c0
  have x3 := B7.out.c1
  have x4 := B9.out.c0
  have x5 := B9.out.c1
  go_wp2_with fail
  refine (sameScript_any jx jy rx ry k nd jc jd rc rd (lp.take k) ld _ (row_seen B6.out.two.r0) (row_seen B6.out.two.r1) (row_seen B9.out.two.r0) (row_seen B9.out.two.r1) (by omega) hs2).mono ?_
  rintro _ w9 ⟨rfl, hk9⟩
  have y2 := hk9.cell x2 (fun f => f)
  have y3 := hk9.cell x3 (fun f => f)
  have y4 := hk9.cell x4 (fun f => f)
  have y5 := hk9.cell x5 (fun f => f)
  have K9 : Hid (Keeps None w8 w9) := hk9
  clear hk9 x0 x1 x2 x3 x4 x5
  go_wp2_with fail
  refine (sameScript_any gx gy rx ry k nd gc gd rc rd (lp.take k) ld _ (row_seen (B7.out.more K9.out).two.r0) (row_seen (B7.out.more K9.out).two.r1) (row_seen (B9.out.more K9.out).two.r0) (row_seen (B9.out.more K9.out).two.r1) (by omega) hs2).mono ?_
  rintro _ wZ ⟨rfl, hkZ⟩
  have KZ : Hid (Keeps None w8 wZ) := K9.out.trans hkZ (fun _ f _ => f)
  clear hkZ y2 y3 y4 y5 K9
  have F0 : Hid (Fr wZ wZ w4.heap.size w5.heap.size w6.heap.size w7.heap.size wZ.heap.size pj po (.slice jx k jc) (.slice jy nd jd) (.slice ox k2 oc) (.slice oy nd od) k nd k2 nd) := Fr.start (B6.out.more KZ.out) (B8.out.more KZ.out) ZZ.out.2.1 ZZ.out.1
  have KM : Hid (∀ wr, Keeps (Mut w4.heap.size w5.heap.size w6.heap.size w7.heap.size wZ.heap.size) wZ wr → Cs w wr s0 p g0 q0 g1 q1 ap ad np cp nd cd lp ld ∧ Bx wr w5.heap.size w6.heap.size pg (.slice gx k gc) (.slice gy nd gd) k nd (lp.take k) ld ∧ Bx wr w7.heap.size w8.heap.size pr (.slice rx k rc) (.slice ry nd rd) k nd (lp.take k) ld) := by
    intro wr hm
    have z := ZZ.out
    have z8 := KZ.out.size
    have hk : Keeps (fun x => w4.heap.size ≤ x) w4 wr := ((K48.out.trans KZ.out (fun _ f _ => f)).mono (fun _ f _ => f.elim)).trans hm (fun x e _ => by unfold Mut at e; omega)
    exact ⟨HC4.out.keep hk (fun x hx hle => by omega), (B7.out.more KZ.out).keep hm (fun x a b e => by unfold Mut at e; omega), (B9.out.more KZ.out).keep hm (fun x a b e => by unfold Mut at e; omega)⟩
  have hNp : np ≤ 17592186044416 := by omega
  have hNd : nd ≤ 17592186044416 := by omega
  clear B6 B7 B8 B9 K48 HC4 HC5 HC6 HC7 HC8
  generalize w4.heap.size = A0 at *
  generalize w5.heap.size = A1 at *
  generalize w6.heap.size = A2 at *
  generalize w7.heap.size = A3 at *
  go_wp2_with fail
  go_loopw [10] (fun s10 wq => ∃ i : Nat, s10 = .int .i64 i ∧ i ≤ k ∧ Fr wZ wq A0 A1 A2 A3 wZ.heap.size pj po (.slice jx k jc) (.slice jy nd jd) (.slice ox k2 oc) (.slice oy nd od) k nd k2 nd) (fun s10 _ => k - (intOf s10).toNat)
  case atStart => exact ⟨0, rfl, Nat.zero_le _, F0.out⟩
  case round =>
    obtain ⟨i, rfl, hi, hF⟩ := hrel
    have HF : Hid (Fr wZ wr A0 A1 A2 A3 wZ.heap.size pj po (.slice jx k jc) (.slice jy nd jd) (.slice ox k2 oc) (.slice oy nd od) k nd k2 nd) := hF
    clear hF
    have e0 : wr.cell? ⟨pj, 0, none⟩ = some (.slice jx k jc) := (blk_cell HF.out.b6 0).trans rfl
    by_cases hik : i < k
    · obtain ⟨l', hr⟩ := HF.out.r0
      have hl := row_len hr
      obtain ⟨gq, rfl, _, _, hnc, _, d1, fz⟩ := row_elem hr (k := i) (x := l'[i]'(by omega)) (List.getElem?_eq_getElem _)
      have f1 := fz i
      generalize l'[i]'(by omega) = y0 at d1
      have k0 : ¬ k = 0 := by omega
      have j1 : (i : Int) < (k : Int) := by omega
      have HN : Hid (Fr wZ (wr.setCell ⟨gq, i, none⟩ (.int .i64 (-17 - (i : Int)))) A0 A1 A2 A3 wZ.heap.size pj po (.slice (some ⟨gq, 0, none⟩) k jc) (.slice jy nd jd) (.slice ox k2 oc) (.slice oy nd od) k nd k2 nd) :=
        HF.out.in0 (row_setI hr i _) (Keeps.setCell (S := fun x => (Value.slice (some ⟨gq, 0, none⟩) k jc).ownBlock = some x) wr (a := ⟨gq, i, none⟩) rfl _)
      clear hr hl fz
      go_wp2_with fail
      exact ⟨⟨i + 1, by go_num, by omega, HN.out⟩, by simp [intOf]; omega⟩
    · have j1 : ¬ (i : Int) < (k : Int) := by omega
      go_wp2_with fail
      go_loopw [11] (fun s11 wq => ∃ i : Nat, s11 = .int .i64 i ∧ i ≤ nd ∧ Fr wZ wq A0 A1 A2 A3 wZ.heap.size pj po (.slice jx k jc) (.slice jy nd jd) (.slice ox k2 oc) (.slice oy nd od) k nd k2 nd) (fun s11 _ => nd - (intOf s11).toNat)
      case atStart => exact ⟨0, rfl, Nat.zero_le _, HF.out⟩
      case round =>
        obtain ⟨i, rfl, hi, hF⟩ := hrel
        have HF1 : Hid (Fr wZ wr A0 A1 A2 A3 wZ.heap.size pj po (.slice jx k jc) (.slice jy nd jd) (.slice ox k2 oc) (.slice oy nd od) k nd k2 nd) := hF
        clear hF
        have e1 : wr.cell? ⟨pj, 1, none⟩ = some (.slice jy nd jd) := (blk_cell HF1.out.b6 1).trans rfl
        by_cases hik : i < nd
        · obtain ⟨l', hr⟩ := HF1.out.r1
          have hl := row_len hr
          obtain ⟨gq, rfl, _, _, hnc, _, d1, fz⟩ := row_elem hr (k := i) (x := l'[i]'(by omega)) (List.getElem?_eq_getElem _)
          have f1 := fz i
          generalize l'[i]'(by omega) = y0 at d1
          have k0 : ¬ nd = 0 := by omega
          have j1 : (i : Int) < (nd : Int) := by omega
          have HN : Hid (Fr wZ (wr.setCell ⟨gq, i, none⟩ (.int .i64 (1000 + (i : Int)))) A0 A1 A2 A3 wZ.heap.size pj po (.slice jx k jc) (.slice (some ⟨gq, 0, none⟩) nd jd) (.slice ox k2 oc) (.slice oy nd od) k nd k2 nd) :=
            HF1.out.in1 (row_setI hr i _) (Keeps.setCell (S := fun x => (Value.slice (some ⟨gq, 0, none⟩) nd jd).ownBlock = some x) wr (a := ⟨gq, i, none⟩) rfl _)
          clear hr hl fz
          go_wp2_with fail
          exact ⟨⟨i + 1, by go_num, by omega, HN.out⟩, by simp [intOf]; omega⟩
        · have j1 : ¬ (i : Int) < (nd : Int) := by omega
          have hzA := HF1.out.kp.size
          have e8 : wr.cell? ⟨po, 0, none⟩ = some (.slice ox k2 oc) := (blk_cell HF1.out.b8 0).trans rfl
          obtain ⟨lo2, hro⟩ := HF1.out.r2
          have HRO : Hid (wr.ownsRow A0 3 1 (.slice ox k2 oc) k2 (iv lo2)) := hro
          have hA0 : A0 ≤ wr.heap.size := by
            rcases hro.2 with ⟨_, _⟩ | ⟨gg, _, _, _, hb, hg, _⟩
            · have := ZZ.out; have := KZ.out.size; omega
            · have := blk_lt hg; omega
          clear hro
          go_wp2_with fail
          refine (spoilt_any A0 _ k2 lo2 _ HRO.out hA0 (by omega)).mono ?_
          rintro _ w20 ⟨g20, c20, rfl, ⟨l20, hr20⟩, hk20, hm20⟩
          obtain ⟨hF20, hb20⟩ := HF1.out.up2 hr20 hk20 (fun g e => by simp [Value.ownBlock] at e; subst e; exact hm20)
          have HF2 : Hid (Fr wZ (w20.setCell ⟨po, 0, none⟩ (.slice (some ⟨g20, 0, none⟩) (k2 + 1) c20)) A0 A1 A2 A3 wZ.heap.size pj po (.slice jx k jc) (.slice jy nd jd) (.slice (some ⟨g20, 0, none⟩) (k2 + 1) c20) (.slice oy nd od) k nd (k2 + 1) nd) := hF20
          have y0 := (blk_cell hb20 0).trans rfl
          have y1 := blk_free hb20 0
          clear hr20 hk20 hm20 hF20 hb20
          go_upto_region 20 with fail
          generalize w20.setCell ⟨po, 0, none⟩ (.slice (some ⟨g20, 0, none⟩) (k2 + 1) c20) = w21 at *
          clear y0 y1 e8 HRO
          have e9 : w21.cell? ⟨po, 1, none⟩ = some (.slice oy nd od) := (blk_cell HF2.out.b8 1).trans rfl
          obtain ⟨lo3, hro3⟩ := HF2.out.r3
          have HRO3 : Hid (w21.ownsRow A0 3 1 (.slice oy nd od) nd (iv lo3)) := hro3
          have hA1 : A0 ≤ w21.heap.size := by have := HF2.out.kp.size; have := ZZ.out; have := KZ.out.size; omega
          clear hro3
          go_wp2_with fail
          refine (spoilt_any A0 _ nd lo3 _ HRO3.out hA1 (by omega)).mono ?_
          rintro _ w22 ⟨g22, c22, rfl, ⟨l22, hr22⟩, hk22, hm22⟩
          obtain ⟨hF22, hb22⟩ := HF2.out.up3 hr22 hk22 (fun g e => by simp [Value.ownBlock] at e; subst e; exact hm22)
          have HF3 : Hid (Fr wZ (w22.setCell ⟨po, 1, none⟩ (.slice (some ⟨g22, 0, none⟩) (nd + 1) c22)) A0 A1 A2 A3 wZ.heap.size pj po (.slice jx k jc) (.slice jy nd jd) (.slice (some ⟨g20, 0, none⟩) (k2 + 1) c20) (.slice (some ⟨g22, 0, none⟩) (nd + 1) c22) k nd (k2 + 1) (nd + 1)) := hF22
          have y0 := (blk_cell hb22 1).trans rfl
          have y1 := blk_free hb22 1
          clear hr22 hk22 hm22 hF22 hb22
          go_upto_region 21 with fail
          generalize w22.setCell ⟨po, 1, none⟩ (.slice (some ⟨g22, 0, none⟩) (nd + 1) c22) = w23 at *
          clear y0 y1 e9 HRO3 HF2
          go_wp2_with fail
          go_loopw [12] (fun s12 wq => ∃ (i : Nat) (v0 v1 v2 v3 : Value), s12 = .int .i64 i ∧ i ≤ 64 ∧ Fr wZ wq A0 A1 A2 A3 wZ.heap.size pj po v0 v1 v2 v3 (k + i) (nd + i) (k2 + 1 + i) (nd + 1 + i)) (fun s12 _ => 64 - (intOf s12).toNat)
          case atStart => exact ⟨0, _, _, _, _, rfl, Nat.zero_le _, HF3.out⟩
          case round =>
            obtain ⟨i, v0, v1, v2, v3, rfl, hi, hF⟩ := hrel
            obtain ⟨t0, hr0⟩ := hF.r0
            obtain ⟨t1, hr1⟩ := hF.r1
            obtain ⟨t2, hr2⟩ := hF.r2
            obtain ⟨t3, hr3⟩ := hF.r3
            obtain ⟨a0, b0, rfl⟩ := row_shape hr0
            obtain ⟨a1, b1, rfl⟩ := row_shape hr1
            obtain ⟨a2, b2, rfl⟩ := row_shape hr2
            obtain ⟨a3, b3, rfl⟩ := row_shape hr3
            clear hr0 hr1 hr2 hr3 t0 t1 t2 t3
            have HQ0 : Hid (Fr wZ wr A0 A1 A2 A3 wZ.heap.size pj po (.slice a0 (k + i) b0) (.slice a1 (nd + i) b1) (.slice a2 (k2 + 1 + i) b2) (.slice a3 (nd + 1 + i) b3) (k + i) (nd + i) (k2 + 1 + i) (nd + 1 + i)) := hF
            clear hF
            by_cases hi64 : i < 64
            · have j1 : (i : Int) < 64 := by omega
              have zA : A0 ≤ wZ.heap.size := by have := ZZ.out; have := KZ.out.size; omega
              obtain ⟨t0, hr0⟩ := HQ0.out.r0
              obtain ⟨h0, e0, w30, ha0, ho0, hk0, hm0⟩ := int_app hr0 (-5000) (Nat.le_trans zA HQ0.out.kp.size) (by omega) 25
              obtain ⟨hF0, hb0⟩ := HQ0.out.up0 ho0 hk0 hm0
              have HQ1 : Hid (Fr wZ (w30.setCell ⟨pj, 0, none⟩ (.slice (some ⟨h0, 0, none⟩) (k + i + 1) e0)) A0 A1 A2 A3 wZ.heap.size pj po (.slice (some ⟨h0, 0, none⟩) (k + i + 1) e0) (.slice a1 (nd + i) b1) (.slice a2 (k2 + 1 + i) b2) (.slice a3 (nd + 1 + i) b3) (k + i + 1) (nd + i) (k2 + 1 + i) (nd + 1 + i)) := hF0
              have u0a : wr.cell? ⟨pj, 0, none⟩ = some (.slice a0 (k + i) b0) := (blk_cell HQ0.out.b6 0).trans rfl
              have u0d : (wr.alloc (.cells #[.int .i64 (-5000)] 3)).cell? ⟨pj, 0, none⟩ = some (.slice a0 (k + i) b0) := (blk_cell (blk_old HQ0.out.b6 _) 0).trans rfl
              have u0b := (blk_cell hb0 0).trans rfl
              have u0c := blk_free hb0 0
              clear hr0 ho0 hk0 hm0 hF0 hb0
              go_upto_region 25 with (at_builtin; refine wpList_append_run rfl (.tmp 96) (.tmp 97) 25 25 rfl rfl rfl ha0 ?_)
              generalize w30.setCell ⟨pj, 0, none⟩ (.slice (some ⟨h0, 0, none⟩) (k + i + 1) e0) = w40 at *
              clear u0a u0b u0c u0d ha0 HQ0
              obtain ⟨t1, hr1⟩ := HQ1.out.r1
              obtain ⟨h1, e1, w31, ha1, ho1, hk1, hm1⟩ := int_app hr1 (-6000) (Nat.le_trans zA HQ1.out.kp.size) (by omega) 25
              obtain ⟨hF1, hb1⟩ := HQ1.out.up1 ho1 hk1 hm1
              have HQ2 : Hid (Fr wZ (w31.setCell ⟨pj, 1, none⟩ (.slice (some ⟨h1, 0, none⟩) (nd + i + 1) e1)) A0 A1 A2 A3 wZ.heap.size pj po (.slice (some ⟨h0, 0, none⟩) (k + i + 1) e0) (.slice (some ⟨h1, 0, none⟩) (nd + i + 1) e1) (.slice a2 (k2 + 1 + i) b2) (.slice a3 (nd + 1 + i) b3) (k + i + 1) (nd + i + 1) (k2 + 1 + i) (nd + 1 + i)) := hF1
              have u1a : w40.cell? ⟨pj, 1, none⟩ = some (.slice a1 (nd + i) b1) := (blk_cell HQ1.out.b6 1).trans rfl
              have u1d : (w40.alloc (.cells #[.int .i64 (-6000)] 3)).cell? ⟨pj, 1, none⟩ = some (.slice a1 (nd + i) b1) := (blk_cell (blk_old HQ1.out.b6 _) 1).trans rfl
              have u1b := (blk_cell hb1 1).trans rfl
              have u1c := blk_free hb1 1
              clear hr1 ho1 hk1 hm1 hF1 hb1
              go_upto_region 26 with (at_builtin; refine wpList_append_run rfl (.tmp 101) (.tmp 102) 25 25 rfl rfl rfl ha1 ?_)
              generalize w31.setCell ⟨pj, 1, none⟩ (.slice (some ⟨h1, 0, none⟩) (nd + i + 1) e1) = w41 at *
              clear u1a u1b u1c u1d ha1 HQ1
              obtain ⟨t2, hr2⟩ := HQ2.out.r2
              obtain ⟨h2, e2, w32, ha2, ho2, hk2, hm2⟩ := int_app hr2 (-7000) (Nat.le_trans zA HQ2.out.kp.size) (by omega) 25
              obtain ⟨hF2, hb2⟩ := HQ2.out.up2 ho2 hk2 hm2
              have HQ3 : Hid (Fr wZ (w32.setCell ⟨po, 0, none⟩ (.slice (some ⟨h2, 0, none⟩) (k2 + 1 + i + 1) e2)) A0 A1 A2 A3 wZ.heap.size pj po (.slice (some ⟨h0, 0, none⟩) (k + i + 1) e0) (.slice (some ⟨h1, 0, none⟩) (nd + i + 1) e1) (.slice (some ⟨h2, 0, none⟩) (k2 + 1 + i + 1) e2) (.slice a3 (nd + 1 + i) b3) (k + i + 1) (nd + i + 1) (k2 + 1 + i + 1) (nd + 1 + i)) := hF2
              have u2a : w41.cell? ⟨po, 0, none⟩ = some (.slice a2 (k2 + 1 + i) b2) := (blk_cell HQ2.out.b8 0).trans rfl
              have u2d : (w41.alloc (.cells #[.int .i64 (-7000)] 3)).cell? ⟨po, 0, none⟩ = some (.slice a2 (k2 + 1 + i) b2) := (blk_cell (blk_old HQ2.out.b8 _) 0).trans rfl
              have u2b := (blk_cell hb2 0).trans rfl
              have u2c := blk_free hb2 0
              clear hr2 ho2 hk2 hm2 hF2 hb2
              go_upto_region 27 with (at_builtin; refine wpList_append_run rfl (.tmp 106) (.tmp 107) 25 25 rfl rfl rfl ha2 ?_)
              generalize w32.setCell ⟨po, 0, none⟩ (.slice (some ⟨h2, 0, none⟩) (k2 + 1 + i + 1) e2) = w42 at *
              clear u2a u2b u2c u2d ha2 HQ2
              obtain ⟨t3, hr3⟩ := HQ3.out.r3
              obtain ⟨h3, e3, w33, ha3, ho3, hk3, hm3⟩ := int_app hr3 (-8000) (Nat.le_trans zA HQ3.out.kp.size) (by omega) 25
              obtain ⟨hF3, hb3⟩ := HQ3.out.up3 ho3 hk3 hm3
              have HQ4 : Hid (Fr wZ (w33.setCell ⟨po, 1, none⟩ (.slice (some ⟨h3, 0, none⟩) (nd + 1 + i + 1) e3)) A0 A1 A2 A3 wZ.heap.size pj po (.slice (some ⟨h0, 0, none⟩) (k + i + 1) e0) (.slice (some ⟨h1, 0, none⟩) (nd + i + 1) e1) (.slice (some ⟨h2, 0, none⟩) (k2 + 1 + i + 1) e2) (.slice (some ⟨h3, 0, none⟩) (nd + 1 + i + 1) e3) (k + i + 1) (nd + i + 1) (k2 + 1 + i + 1) (nd + 1 + i + 1)) := hF3
              have u3a : w42.cell? ⟨po, 1, none⟩ = some (.slice a3 (nd + 1 + i) b3) := (blk_cell HQ3.out.b8 1).trans rfl
              have u3d : (w42.alloc (.cells #[.int .i64 (-8000)] 3)).cell? ⟨po, 1, none⟩ = some (.slice a3 (nd + 1 + i) b3) := (blk_cell (blk_old HQ3.out.b8 _) 1).trans rfl
              have u3b := (blk_cell hb3 1).trans rfl
              have u3c := blk_free hb3 1
              clear hr3 ho3 hk3 hm3 hF3 hb3
              go_wp2_with (at_builtin; refine wpList_append_run rfl (.tmp 111) (.tmp 112) 25 25 rfl rfl rfl ha3 ?_)
              exact ⟨⟨i + 1, _, _, _, _, by go_num, by omega, HQ4.out⟩, by simp [intOf]; omega⟩
            · have j1 : ¬ (i : Int) < 64 := by omega
              obtain rfl : i = 64 := by omega
              obtain ⟨hCs, hBg, hBr⟩ := KM.out wr HQ0.out.kp
              have HE : Hid (Cs w wr s0 p g0 q0 g1 q1 ap ad np cp nd cd lp ld ∧ Bx wr A1 A2 pg (.slice gx k gc) (.slice gy nd gd) k nd (lp.take k) ld ∧ Bx wr A3 w8.heap.size pr (.slice rx k rc) (.slice ry nd rd) k nd (lp.take k) ld) := ⟨hCs, hBg, hBr⟩
              clear hCs hBg hBr
              have c0 : wr.cell? ⟨p, 0, none⟩ = some (.slice (some ⟨g0, 0, none⟩) np q0) := (blk_cell HE.out.1.bp 0).trans rfl
              have c1 : wr.cell? ⟨p, 1, none⟩ = some (.slice (some ⟨g1, 0, none⟩) nd q1) := (blk_cell HE.out.1.bp 1).trans rfl
              go_wp2_with fail
              refine (cut_any (some ⟨g0, 0, none⟩) (some ⟨g1, 0, none⟩) np q0 nd q1 n lp ld _ HE.out.1.r0.seen HE.out.1.r1.seen (by have := HE.out.1.r0.fits; omega) hs hs2).mono ?_
              rintro _ w50 ⟨v0, v1, rfl, hT, hk50⟩
              obtain ⟨tx, tc, rfl⟩ := row_shape hT.r0
              obtain ⟨ty, td, rfl⟩ := row_shape hT.r1
              rw [← HK.out] at hT ⊢
              go_upto_region 29 with fail
              have hB := Bx.new hT hk50
              have hkk : Keeps None wr (w50.alloc (.cells #[.slice tx k tc, .slice ty nd td] 37)) := hk50.andAlloc _
              obtain ⟨pt, hpt⟩ : ∃ p, p = w50.heap.size := ⟨_, rfl⟩
              rw [← hpt] at hB ⊢
              generalize w50.alloc (.cells #[.slice tx k tc, .slice ty nd td] 37) = w51 at *
              have HG : Hid (Cs w w51 s0 p g0 q0 g1 q1 ap ad np cp nd cd lp ld ∧ Bx w51 A1 A2 pg (.slice gx k gc) (.slice gy nd gd) k nd (lp.take k) ld ∧ Bx w51 A3 w8.heap.size pr (.slice rx k rc) (.slice ry nd rd) k nd (lp.take k) ld ∧ Bx w51 wr.heap.size w51.heap.size pt (.slice tx k tc) (.slice ty nd td) k nd (lp.take k) ld) := ⟨HE.out.1.more hkk, HE.out.2.1.more hkk, HE.out.2.2.more hkk, hB⟩
              have z6 : w51.cell? ⟨pj, 0, none⟩ = some (.slice a0 (k + 64) b0) := hkk.cell ((blk_cell HQ0.out.b6 0).trans rfl) (fun f => f)
              have z8 : w51.cell? ⟨po, 1, none⟩ = some (.slice a3 (nd + 1 + 64) b3) := hkk.cell ((blk_cell HQ0.out.b8 1).trans rfl) (fun f => f)
              clear hT hk50 hB hkk hpt c0 c1
              have x0 : w51.cell? ⟨p, 0, none⟩ = some (.slice (some ⟨g0, 0, none⟩) np q0) := (blk_cell HG.out.1.bp 0).trans rfl
              have x1 : w51.cell? ⟨p, 1, none⟩ = some (.slice (some ⟨g1, 0, none⟩) nd q1) := (blk_cell HG.out.1.bp 1).trans rfl
              have x2 : w51.cell? ⟨s0, 0, none⟩ = some (.slice ap np cp) := (blk_cell HG.out.1.b0 0).trans rfl
              have x3 : w51.cell? ⟨s0, 1, none⟩ = some (.slice ad nd cd) := (blk_cell HG.out.1.b0 1).trans rfl
              have x4 := HG.out.2.1.c0
              have x5 := HG.out.2.1.c1
              have x6 := HG.out.2.2.1.c0
              have x7 := HG.out.2.2.1.c1
              have x8 := HG.out.2.2.2.c0
              have x9 := HG.out.2.2.2.c1
              go_wp2_with fail
              refine (sameScript_any (some ⟨g0, 0, none⟩) (some ⟨g1, 0, none⟩) ap ad np nd q0 q1 cp cd lp ld _ HG.out.1.r0.seen HG.out.1.r1.seen (HS.out.1.more HG.out.1.kp) (HS.out.2.more HG.out.1.kp) hs hs2).mono ?_
              rintro _ w52 ⟨rfl, hk52⟩
              have K52 : Hid (Keeps None w51 w52) := hk52
              have x0 := hk52.cell x0 (fun f => f)
              have x1 := hk52.cell x1 (fun f => f)
              have x4 := hk52.cell x4 (fun f => f)
              have x5 := hk52.cell x5 (fun f => f)
              have x6 := hk52.cell x6 (fun f => f)
              have x7 := hk52.cell x7 (fun f => f)
              have x8 := hk52.cell x8 (fun f => f)
              have x9 := hk52.cell x9 (fun f => f)
              have z6 := hk52.cell z6 (fun f => f)
              have z8 := hk52.cell z8 (fun f => f)
              clear hk52
              go_wp2_with fail
              refine (marked_any _ g0 np q0 lp _ (HG.out.1.r0.more K52.out) hs).mono ?_
              rintro _ wz ⟨rfl, hw⟩
              have hw2 := hw.symm
              subst hw2
              clear hw
              go_wp2_with fail
              refine (marked_any _ g1 nd q1 ld _ (HG.out.1.r1.more K52.out) hs2).mono ?_
              rintro _ wz ⟨rfl, hw⟩
              have hw2 := hw.symm
              subst hw2
              clear hw
              go_wp2_with fail
              refine (sameScript_any gx gy rx ry k nd gc gd rc rd (lp.take k) ld _ (row_seen (HG.out.2.1.more K52.out).two.r0) (row_seen (HG.out.2.1.more K52.out).two.r1) (row_seen (HG.out.2.2.1.more K52.out).two.r0) (row_seen (HG.out.2.2.1.more K52.out).two.r1) (by omega) hs2).mono ?_
              rintro _ w53 ⟨rfl, hk53⟩
              have K53 : Hid (Keeps None w51 w53) := K52.out.trans hk53 (fun _ f _ => f)
              have x6 := hk53.cell x6 (fun f => f)
              have x7 := hk53.cell x7 (fun f => f)
              have x8 := hk53.cell x8 (fun f => f)
              have x9 := hk53.cell x9 (fun f => f)
              have z6 := hk53.cell z6 (fun f => f)
              have z8 := hk53.cell z8 (fun f => f)
              clear hk53
              go_wp2_with fail
              refine (sameScript_any tx ty rx ry k nd tc td rc rd (lp.take k) ld _ (row_seen (HG.out.2.2.2.more K53.out).two.r0) (row_seen (HG.out.2.2.2.more K53.out).two.r1) (row_seen (HG.out.2.2.1.more K53.out).two.r0) (row_seen (HG.out.2.2.1.more K53.out).two.r1) (by omega) hs2).mono ?_
              rintro _ w54 ⟨rfl, hk54⟩
              have K54 : Hid (Keeps None w51 w54) := K53.out.trans hk54 (fun _ f _ => f)
              have x6 := hk54.cell x6 (fun f => f)
              have z6 := hk54.cell z6 (fun f => f)
              have z8 := hk54.cell z8 (fun f => f)
              clear hk54
              have HFin : Hid (Below w.heap.size w w54) := (HG.out.1.kp.trans K54.out (fun _ f _ => f)).below _ (Nat.le_refl _) (fun _ f => f.elim)
              have q9 : (64 : Int) < (nd : Int) + 1 + 64 := by omega
              go_wp2_with fail
              go_ret
              exact ⟨rfl, HFin.out⟩
end Go.Proofs.Ytlajblbfelcalaa
