import Derived.Test.YtlbkfehakomicaaDoorPkBF
import Derived.Laws.EntriesVeiled
/-! A new plan. -/
namespace Go.Proofs.YtlbkfehakomicaaDoor.Dg
set_option linter.unusedVariables false
set_option maxRecDepth 20000
open Go.RowKit Go.HeapKit

theorem lft_zero (l : List Ed) (i : Nat) : lft l (fun _ => 0) i = (bef l i).length := by
  unfold lft
  rw [List.filter_eq_self.2 (fun a _ => by simp)]
theorem IsL.base {w : World} {base base' g n : Nat} {vs : Nat → Value} {L : Nat → List Int} (h : IsL w base g n vs L) (hb : base' ≤ base) : IsL w base' g n vs L :=
  ⟨h.outer, Nat.le_trans hb h.low, fun k hk => row_base (h.rows k hk) hb, h.apart⟩
/-- What newPlan answers. -/
def PlanAns (w w' : World) (n : Nat) (l : List Ed) (p : Nat) : Prop := ∃ B g gl gt vs v hl, Plan w' p B g gl gt n vs l (fun i => (lft l (fun _ => 0) i : Nat)) (fun _ => 0) v hl ∧ Of hl (fun x => x ∈ rds n l (fun _ => 0)) ∧ Keeps None w w' ∧ w.heap.size ≤ p ∧ w.heap.size ≤ gl ∧ w.heap.size ≤ gt ∧ w.heap.size ≤ B
set_option maxHeartbeats 3200000 in
theorem plan_any (n : Nat) (a : Option Addr) (m c : Nat) (l : List Ed) (w : World) (h : SeenE w a m l) (hd : Dag (n : Int) l) :
    Calls Tryd.prog 35 #[dagV n a m c] w fun e w' => ∃ p, e = .returned (.pointer (some ⟨p, 0, none⟩)) ∧ PlanAns w w' n l p := by
  have HS : Hid (SeenE w a m l) := h
  have HD : Hid (Dag (n : Int) l) := hd
  have hl : Hid (m = l.length) := h.len
  have hn : n ≤ 4096 := by have := hd.hi; omega
  have hm : m ≤ 16384 := by have := hd.len; have := hl.out; omega
  clear h hd
  obtain ⟨s0, hs0⟩ : ∃ s0, s0 = w.heap.size := ⟨_, rfl⟩
  have HS0 : Hid (s0 = w.heap.size) := hs0
  unfold dagV
  go_enter Tryd.func35, Tryd.ntmps35
  go_upto_region 1 with fail
  have hbox := blk_new w (.cells #[.int .i64 n, .slice a m c] 34) _ rfl
  have hk0 := keeps1 w (.cells #[.int .i64 n, .slice a m c] 34)
  have hwz : (w.alloc (.cells #[.int .i64 n, .slice a m c] 34)).heap.size = s0 + 1 := by simp; omega
  rw [← hs0] at hbox ⊢
  generalize w.alloc (.cells #[.int .i64 n, .slice a m c] 34) = wa at *
  have c0 : wa.cell? ⟨s0, 0, none⟩ = some (.int .i64 n) := (blk_cell hbox 0).trans rfl
  have c1 : wa.cell? ⟨s0, 1, none⟩ = some (.slice a m c) := (blk_cell hbox 1).trans rfl
  have H0 : Hid (wa.heap[s0]? = some (.cells #[.int .i64 n, .slice a m c] 34 (0, 0)) ∧ Keeps None w wa ∧ wa.heap.size = s0 + 1) := ⟨hbox, hk0, hwz⟩
  have hsee : Hid (∀ W, Keeps None wa W → SeenE W a m l) := fun W hk => (HS.out.more H0.out.2.1).more hk
  clear hs0 hbox hk0 hwz
  go_cut [3] (fun s3 wx => ∃ (p g gl gt : Nat) (vs : Nat → Value), s3 = .pointer (some ⟨p, 0, none⟩) ∧ wx.heap[p]? = some (.cells #[.slice (some ⟨g, 0, none⟩) n n, .slice (some ⟨gl, 0, none⟩) n n, .slice none 0 0, .nilFunc, .slice (some ⟨gt, 0, none⟩) n n] 99 (0, 0)) ∧
      IsL wx wa.heap.size g n vs (flw l) ∧ IsN wx gl n (fun _ => 0) ∧ IsN wx gt n (fun _ => 0) ∧ Keeps None wa wx ∧ gl ≠ gt ∧ wa.heap.size ≤ p ∧ wa.heap.size ≤ gl ∧ wa.heap.size ≤ gt ∧ (∀ k, k < n → (vs k).ownBlock ≠ some gl) ∧ ∀ k, k < n → (vs k).ownBlock ≠ some gt)
  case first =>
    refine wp_region_held_drew (S := (fun w' => w'.cell? ⟨s0, 0, none⟩ = some (.int .i64 n) ∧ w'.cell? ⟨s0, 1, none⟩ = some (.slice a m c))) (by kernel_rfl) ?_ (fun hHeld => ?_)
    · (try dsimp only); first | go_keep | exact ⟨hk.cell hHeld2.1 (fun f => f), hk.cell hHeld2.2 (fun f => f)⟩ | exact ⟨hk.cell hHeld.1 (fun f => f), hk.cell hHeld.2 (fun f => f)⟩
    refine wpAnyH_take (i := 0) (oi := { dst := some 7, op := Op.load 34 (Operand.tmp 1), type := 34, pos := "schedules.go:32", after := #[], guard := none }) (v := ?_) rfl (by kernel_rfl) (by kernel_rfl) (by kernel_rfl) (fun _ _ _ h => h) (Or.inl ⟨by rfl, ?_⟩) (by assumption) ?_
    rotate_left
    · (intro wz hSw; (try dsimp only at hSw); go_simp; try with_reducible rfl)
    simp only [Act.put, List.setIfInBounds_toArray, List.set_cons_zero, List.set_cons_succ]
    refine wpAnyH_take (i := 2) (oi := { dst := some 9, op := Op.fieldAddr 34 (Operand.tmp 1) 0, type := 0, pos := "schedules.go:32", after := #[], guard := none }) (v := ?_) rfl (by kernel_rfl) (by kernel_rfl) (by kernel_rfl) (fun _ _ _ h => h) (Or.inl ⟨by rfl, ?_⟩) (by assumption) ?_
    rotate_left
    · (intro wz hSw; (try dsimp only at hSw); go_simp; try with_reducible rfl)
    simp only [Act.put, List.setIfInBounds_toArray, List.set_cons_zero, List.set_cons_succ]
    refine wpAnyH_take (i := 3) (oi := { dst := some 10, op := Op.load 3 (Operand.tmp 9), type := 3, pos := "schedules.go:32", after := #[{ on := 2, ground := Ground.data }], guard := none }) (v := ?_) rfl (by kernel_rfl) (by kernel_rfl) (by kernel_rfl) (fun _ _ _ h => h) (Or.inl ⟨by rfl, ?_⟩) (by assumption) ?_
    rotate_left
    · (intro wz hSw; (try dsimp only at hSw); go_simp; try with_reducible rfl)
    simp only [Act.put, List.setIfInBounds_toArray, List.set_cons_zero, List.set_cons_succ]
    refine wpAnyH_take (i := 5) (oi := { dst := some 12, op := Op.fieldAddr 34 (Operand.tmp 1) 0, type := 0, pos := "schedules.go:32", after := #[], guard := none }) (v := ?_) rfl (by kernel_rfl) (by kernel_rfl) (by kernel_rfl) (fun _ _ _ h => h) (Or.inl ⟨by rfl, ?_⟩) (by assumption) ?_
    rotate_left
    · (intro wz hSw; (try dsimp only at hSw); go_simp; try with_reducible rfl)
    simp only [Act.put, List.setIfInBounds_toArray, List.set_cons_zero, List.set_cons_succ]
    refine wpAnyH_take (i := 6) (oi := { dst := some 13, op := Op.load 3 (Operand.tmp 12), type := 3, pos := "schedules.go:32", after := #[{ on := 5, ground := Ground.data }], guard := none }) (v := ?_) rfl (by kernel_rfl) (by kernel_rfl) (by kernel_rfl) (fun _ _ _ h => h) (Or.inl ⟨by rfl, ?_⟩) (by assumption) ?_
    rotate_left
    · (intro wz hSw; (try dsimp only at hSw); go_simp; try with_reducible rfl)
    simp only [Act.put, List.setIfInBounds_toArray, List.set_cons_zero, List.set_cons_succ]
    refine wpAnyH_ready (rs := [1, 4, 7]) (by kernel_rfl) (by simp) ?_
    refine AllReadyH.cons (o := { dst := some 8, op := Op.call { callee := Callee.value (Operand.func 52), args := #[Operand.tmp 7], argTypes := #[34] }, type := 86, pos := "schedules.go:32", after := #[{ on := 0, ground := Ground.data }], guard := none }) rfl (fun K hK => ?_) ?_
    · go_simp
      refine (flw_any n a m c l _ (hsee.out _ (by first | exact Keeps.drew None wa | exact ((Keeps.refl None wa).andAlloc _).andDrew | exact (((Keeps.refl None wa).andAlloc _).andAlloc _).andDrew)) HD.out).mono ?_
      rintro _ w3 ⟨g, vs, rfl, hL, hk⟩
      have hkw : Keeps None wa w3 := Keeps.trans (by first | exact Keeps.drew None wa | exact ((Keeps.refl None wa).andAlloc _).andDrew | exact (((Keeps.refl None wa).andAlloc _).andAlloc _).andDrew) hk (fun _ f _ => f)
      have hkd := Keeps.trans (Keeps.drew None _) hk (fun _ f _ => f)
      have hszz := hk.size
      try simp at hszz
      refine hK.out _ _ ?_ (fun hHeld2 => ?_)
      · (try dsimp only); first | go_keep | exact ⟨hk.cell hHeld2.1 (fun f => f), hk.cell hHeld2.2 (fun f => f)⟩ | exact ⟨hk.cell hHeld.1 (fun f => f), hk.cell hHeld.2 (fun f => f)⟩
      clear hK K
      try simp only [Act.put, List.setIfInBounds_toArray, List.set_cons_zero, List.set_cons_succ]
      refine wpAnyH_ready (rs := [4, 7]) (by kernel_rfl) (by simp) ?_
      refine AllReadyH.cons (o := { dst := some 11, op := Op.makeSlice 41 (Operand.tmp 10) (Operand.tmp 10), type := 41, pos := "schedules.go:32", after := #[{ on := 3, ground := Ground.data }, { on := 3, ground := Ground.data }], guard := none }) rfl (fun K hK => ?_) ?_
      · refine step_make_run rfl (.tmp 10) (.tmp 10) 41 rfl (by simp [Act.eval]) (by simp [Act.eval]) (make_ints n _ hn) ?_
        refine hK.out _ _ ?_ (fun hHeld2 => ?_)
        · (try dsimp only); first | go_keep | exact ⟨hk.cell hHeld2.1 (fun f => f), hk.cell hHeld2.2 (fun f => f)⟩ | exact ⟨hk.cell hHeld.1 (fun f => f), hk.cell hHeld.2 (fun f => f)⟩
        clear hK K
        try simp only [Act.put, List.setIfInBounds_toArray, List.set_cons_zero, List.set_cons_succ]
        refine wpAnyH_ready (rs := [7]) (by kernel_rfl) (by simp) ?_
        refine AllReadyH.cons (o := { dst := some 14, op := Op.makeSlice 41 (Operand.tmp 13) (Operand.tmp 13), type := 41, pos := "schedules.go:32", after := #[{ on := 6, ground := Ground.data }, { on := 6, ground := Ground.data }], guard := none }) rfl (fun K hK => ?_) ?_
        · refine step_make_run rfl (.tmp 13) (.tmp 13) 41 rfl (by simp [Act.eval]) (by simp [Act.eval]) (make_ints n _ hn) ?_
          refine hK.out _ _ ?_ (fun hHeld2 => ?_)
          · (try dsimp only); first | go_keep | exact ⟨hk.cell hHeld2.1 (fun f => f), hk.cell hHeld2.2 (fun f => f)⟩ | exact ⟨hk.cell hHeld.1 (fun f => f), hk.cell hHeld.2 (fun f => f)⟩
          clear hK K
          try simp only [Act.put, List.setIfInBounds_toArray, List.set_cons_zero, List.set_cons_succ]
          refine wpAnyH_take (i := 8) (oi := { dst := some 15, op := Op.build 99 #[(0, Operand.tmp 8), (1, Operand.tmp 11), (3, Operand.tmp 14)], type := 99, pos := "schedules.go:32", after := #[{ on := 1, ground := Ground.data }, { on := 4, ground := Ground.data }, { on := 7, ground := Ground.data }], guard := none }) (v := ?_) rfl (by kernel_rfl) (by kernel_rfl) (by kernel_rfl) (fun _ _ _ h => h) (Or.inl ⟨by rfl, ?_⟩) (by assumption) ?_
          rotate_left
          · (intro wz hSw; (try dsimp only at hSw); go_simp; try with_reducible rfl)
          simp only [Act.put, List.setIfInBounds_toArray, List.set_cons_zero, List.set_cons_succ]
          refine wpAnyH_ready (rs := [9]) (by kernel_rfl) (by simp) ?_
          refine AllReadyH.cons (o := { dst := some 16, op := Op.box 99 (Operand.tmp 15), type := 93, pos := "schedules.go:32", after := #[{ on := 8, ground := Ground.data }], guard := none }) rfl (fun K hK => ?_) ?_
          · go_simp
            refine hK.out _ _ ?_ (fun hHeld2 => ?_)
            · (try dsimp only); first | go_keep | exact ⟨hk.cell hHeld2.1 (fun f => f), hk.cell hHeld2.2 (fun f => f)⟩ | exact ⟨hk.cell hHeld.1 (fun f => f), hk.cell hHeld.2 (fun f => f)⟩
            clear hK K
            try simp only [Act.put, List.setIfInBounds_toArray, List.set_cons_zero, List.set_cons_succ]
            refine wpAnyH_take (i := 10) (oi := { dst := some 3, op := Op.assign (Operand.tmp 16), type := 93, pos := "schedules.go:32", after := #[{ on := 9, ground := Ground.data }, { on := 1, ground := Ground.chain }, { on := 0, ground := Ground.phase }, { on := 1, ground := Ground.phase }, { on := 2, ground := Ground.phase }, { on := 3, ground := Ground.phase }, { on := 4, ground := Ground.phase }, { on := 5, ground := Ground.phase }, { on := 6, ground := Ground.phase }, { on := 7, ground := Ground.phase }, { on := 8, ground := Ground.phase }, { on := 9, ground := Ground.phase }], guard := none }) (v := ?_) rfl (by kernel_rfl) (by kernel_rfl) (by kernel_rfl) (fun _ _ _ h => h) (Or.inl ⟨by rfl, ?_⟩) (by assumption) ?_
            rotate_left
            · (intro wz hSw; (try dsimp only at hSw); go_simp; try with_reducible rfl)
            simp only [Act.put, List.setIfInBounds_toArray, List.set_cons_zero, List.set_cons_succ]
            refine wpAnyH_done (by kernel_rfl) ?_ _
            go_wp2_with fail
            go_meet
            have hs1 := hkw.size
            refine ⟨_, g, _, _, vs, rfl, blk_new _ _ _ (by simp), ?_, ?_, ?_, ?_, ?_, ?_, ?_, ?_, ?_, ?_⟩
            · refine IsL.base (IsL.more hL ?_) (by first | (simp; done) | (simp; omega)); first | exact (Keeps.refl None w3).andAlloc _ | exact ((Keeps.refl None w3).andAlloc _).andAlloc _ | exact (((Keeps.refl None w3).andAlloc _).andAlloc _).andAlloc _
            · unfold IsN; first | (refine (blk_old (blk_new _ _ _ ?_) _); first | (with_reducible rfl) | (simp; done)) | (refine (blk_old (blk_old (blk_new _ _ _ ?_) _) _); first | (with_reducible rfl) | (simp; done)) | (refine (blk_old (blk_kept (blk_new _ _ _ ?_) hkd (fun f => f)) _); first | (with_reducible rfl) | (simp; done)) | (refine (blk_old (blk_old (blk_kept (blk_new _ _ _ ?_) hkd (fun f => f)) _) _); first | (with_reducible rfl) | (simp; done)) | (refine (blk_old (blk_kept (blk_old (blk_new _ _ _ ?_) _) hkd (fun f => f)) _); first | (with_reducible rfl) | (simp; done))
            · unfold IsN; first | (refine (blk_old (blk_new _ _ _ ?_) _); first | (with_reducible rfl) | (simp; done)) | (refine (blk_old (blk_old (blk_new _ _ _ ?_) _) _); first | (with_reducible rfl) | (simp; done)) | (refine (blk_old (blk_kept (blk_new _ _ _ ?_) hkd (fun f => f)) _); first | (with_reducible rfl) | (simp; done)) | (refine (blk_old (blk_old (blk_kept (blk_new _ _ _ ?_) hkd (fun f => f)) _) _); first | (with_reducible rfl) | (simp; done)) | (refine (blk_old (blk_kept (blk_old (blk_new _ _ _ ?_) _) hkd (fun f => f)) _); first | (with_reducible rfl) | (simp; done))
            · refine hkw.trans ?_ (fun _ f _ => f); first | exact (Keeps.refl None w3).andAlloc _ | exact ((Keeps.refl None w3).andAlloc _).andAlloc _ | exact (((Keeps.refl None w3).andAlloc _).andAlloc _).andAlloc _
            · omega
            · omega
            · omega
            · omega
            · intro k hkn e; have h1 := row_low (hL.rows k hkn) e; have h2 := own_lt (hL.rows k hkn) e; (try simp at h1); omega
            · intro k hkn e; have h1 := row_low (hL.rows k hkn) e; have h2 := own_lt (hL.rows k hkn) e; (try simp at h1); omega
          exact AllReadyH.nil
        exact AllReadyH.nil
      refine AllReadyH.cons (o := { dst := some 14, op := Op.makeSlice 41 (Operand.tmp 13) (Operand.tmp 13), type := 41, pos := "schedules.go:32", after := #[{ on := 6, ground := Ground.data }, { on := 6, ground := Ground.data }], guard := none }) rfl (fun K hK => ?_) ?_
      · refine step_make_run rfl (.tmp 13) (.tmp 13) 41 rfl (by simp [Act.eval]) (by simp [Act.eval]) (make_ints n _ hn) ?_
        refine hK.out _ _ ?_ (fun hHeld2 => ?_)
        · (try dsimp only); first | go_keep | exact ⟨hk.cell hHeld2.1 (fun f => f), hk.cell hHeld2.2 (fun f => f)⟩ | exact ⟨hk.cell hHeld.1 (fun f => f), hk.cell hHeld.2 (fun f => f)⟩
        clear hK K
        try simp only [Act.put, List.setIfInBounds_toArray, List.set_cons_zero, List.set_cons_succ]
        refine wpAnyH_ready (rs := [4]) (by kernel_rfl) (by simp) ?_
        refine AllReadyH.cons (o := { dst := some 11, op := Op.makeSlice 41 (Operand.tmp 10) (Operand.tmp 10), type := 41, pos := "schedules.go:32", after := #[{ on := 3, ground := Ground.data }, { on := 3, ground := Ground.data }], guard := none }) rfl (fun K hK => ?_) ?_
        · refine step_make_run rfl (.tmp 10) (.tmp 10) 41 rfl (by simp [Act.eval]) (by simp [Act.eval]) (make_ints n _ hn) ?_
          refine hK.out _ _ ?_ (fun hHeld2 => ?_)
          · (try dsimp only); first | go_keep | exact ⟨hk.cell hHeld2.1 (fun f => f), hk.cell hHeld2.2 (fun f => f)⟩ | exact ⟨hk.cell hHeld.1 (fun f => f), hk.cell hHeld.2 (fun f => f)⟩
          clear hK K
          try simp only [Act.put, List.setIfInBounds_toArray, List.set_cons_zero, List.set_cons_succ]
          refine wpAnyH_take (i := 8) (oi := { dst := some 15, op := Op.build 99 #[(0, Operand.tmp 8), (1, Operand.tmp 11), (3, Operand.tmp 14)], type := 99, pos := "schedules.go:32", after := #[{ on := 1, ground := Ground.data }, { on := 4, ground := Ground.data }, { on := 7, ground := Ground.data }], guard := none }) (v := ?_) rfl (by kernel_rfl) (by kernel_rfl) (by kernel_rfl) (fun _ _ _ h => h) (Or.inl ⟨by rfl, ?_⟩) (by assumption) ?_
          rotate_left
          · (intro wz hSw; (try dsimp only at hSw); go_simp; try with_reducible rfl)
          simp only [Act.put, List.setIfInBounds_toArray, List.set_cons_zero, List.set_cons_succ]
          refine wpAnyH_ready (rs := [9]) (by kernel_rfl) (by simp) ?_
          refine AllReadyH.cons (o := { dst := some 16, op := Op.box 99 (Operand.tmp 15), type := 93, pos := "schedules.go:32", after := #[{ on := 8, ground := Ground.data }], guard := none }) rfl (fun K hK => ?_) ?_
          · go_simp
            refine hK.out _ _ ?_ (fun hHeld2 => ?_)
            · (try dsimp only); first | go_keep | exact ⟨hk.cell hHeld2.1 (fun f => f), hk.cell hHeld2.2 (fun f => f)⟩ | exact ⟨hk.cell hHeld.1 (fun f => f), hk.cell hHeld.2 (fun f => f)⟩
            clear hK K
            try simp only [Act.put, List.setIfInBounds_toArray, List.set_cons_zero, List.set_cons_succ]
            refine wpAnyH_take (i := 10) (oi := { dst := some 3, op := Op.assign (Operand.tmp 16), type := 93, pos := "schedules.go:32", after := #[{ on := 9, ground := Ground.data }, { on := 1, ground := Ground.chain }, { on := 0, ground := Ground.phase }, { on := 1, ground := Ground.phase }, { on := 2, ground := Ground.phase }, { on := 3, ground := Ground.phase }, { on := 4, ground := Ground.phase }, { on := 5, ground := Ground.phase }, { on := 6, ground := Ground.phase }, { on := 7, ground := Ground.phase }, { on := 8, ground := Ground.phase }, { on := 9, ground := Ground.phase }], guard := none }) (v := ?_) rfl (by kernel_rfl) (by kernel_rfl) (by kernel_rfl) (fun _ _ _ h => h) (Or.inl ⟨by rfl, ?_⟩) (by assumption) ?_
            rotate_left
            · (intro wz hSw; (try dsimp only at hSw); go_simp; try with_reducible rfl)
            simp only [Act.put, List.setIfInBounds_toArray, List.set_cons_zero, List.set_cons_succ]
            refine wpAnyH_done (by kernel_rfl) ?_ _
            go_wp2_with fail
            go_meet
            have hs1 := hkw.size
            refine ⟨_, g, _, _, vs, rfl, blk_new _ _ _ (by simp), ?_, ?_, ?_, ?_, ?_, ?_, ?_, ?_, ?_, ?_⟩
            · refine IsL.base (IsL.more hL ?_) (by first | (simp; done) | (simp; omega)); first | exact (Keeps.refl None w3).andAlloc _ | exact ((Keeps.refl None w3).andAlloc _).andAlloc _ | exact (((Keeps.refl None w3).andAlloc _).andAlloc _).andAlloc _
            · unfold IsN; first | (refine (blk_old (blk_new _ _ _ ?_) _); first | (with_reducible rfl) | (simp; done)) | (refine (blk_old (blk_old (blk_new _ _ _ ?_) _) _); first | (with_reducible rfl) | (simp; done)) | (refine (blk_old (blk_kept (blk_new _ _ _ ?_) hkd (fun f => f)) _); first | (with_reducible rfl) | (simp; done)) | (refine (blk_old (blk_old (blk_kept (blk_new _ _ _ ?_) hkd (fun f => f)) _) _); first | (with_reducible rfl) | (simp; done)) | (refine (blk_old (blk_kept (blk_old (blk_new _ _ _ ?_) _) hkd (fun f => f)) _); first | (with_reducible rfl) | (simp; done))
            · unfold IsN; first | (refine (blk_old (blk_new _ _ _ ?_) _); first | (with_reducible rfl) | (simp; done)) | (refine (blk_old (blk_old (blk_new _ _ _ ?_) _) _); first | (with_reducible rfl) | (simp; done)) | (refine (blk_old (blk_kept (blk_new _ _ _ ?_) hkd (fun f => f)) _); first | (with_reducible rfl) | (simp; done)) | (refine (blk_old (blk_old (blk_kept (blk_new _ _ _ ?_) hkd (fun f => f)) _) _); first | (with_reducible rfl) | (simp; done)) | (refine (blk_old (blk_kept (blk_old (blk_new _ _ _ ?_) _) hkd (fun f => f)) _); first | (with_reducible rfl) | (simp; done))
            · refine hkw.trans ?_ (fun _ f _ => f); first | exact (Keeps.refl None w3).andAlloc _ | exact ((Keeps.refl None w3).andAlloc _).andAlloc _ | exact (((Keeps.refl None w3).andAlloc _).andAlloc _).andAlloc _
            · omega
            · omega
            · omega
            · omega
            · intro k hkn e; have h1 := row_low (hL.rows k hkn) e; have h2 := own_lt (hL.rows k hkn) e; (try simp at h1); omega
            · intro k hkn e; have h1 := row_low (hL.rows k hkn) e; have h2 := own_lt (hL.rows k hkn) e; (try simp at h1); omega
          exact AllReadyH.nil
        exact AllReadyH.nil
      exact AllReadyH.nil
    refine AllReadyH.cons (o := { dst := some 11, op := Op.makeSlice 41 (Operand.tmp 10) (Operand.tmp 10), type := 41, pos := "schedules.go:32", after := #[{ on := 3, ground := Ground.data }, { on := 3, ground := Ground.data }], guard := none }) rfl (fun K hK => ?_) ?_
    · refine step_make_run rfl (.tmp 10) (.tmp 10) 41 rfl (by simp [Act.eval]) (by simp [Act.eval]) (make_ints n _ hn) ?_
      refine hK.out _ _ ?_ (fun hHeld2 => ?_)
      · (try dsimp only); first | go_keep | exact ⟨hk.cell hHeld2.1 (fun f => f), hk.cell hHeld2.2 (fun f => f)⟩ | exact ⟨hk.cell hHeld.1 (fun f => f), hk.cell hHeld.2 (fun f => f)⟩
      clear hK K
      try simp only [Act.put, List.setIfInBounds_toArray, List.set_cons_zero, List.set_cons_succ]
      refine wpAnyH_ready (rs := [1, 7]) (by kernel_rfl) (by simp) ?_
      refine AllReadyH.cons (o := { dst := some 8, op := Op.call { callee := Callee.value (Operand.func 52), args := #[Operand.tmp 7], argTypes := #[34] }, type := 86, pos := "schedules.go:32", after := #[{ on := 0, ground := Ground.data }], guard := none }) rfl (fun K hK => ?_) ?_
      · go_simp
        refine (flw_any n a m c l _ (hsee.out _ (by first | exact Keeps.drew None wa | exact ((Keeps.refl None wa).andAlloc _).andDrew | exact (((Keeps.refl None wa).andAlloc _).andAlloc _).andDrew)) HD.out).mono ?_
        rintro _ w3 ⟨g, vs, rfl, hL, hk⟩
        have hkw : Keeps None wa w3 := Keeps.trans (by first | exact Keeps.drew None wa | exact ((Keeps.refl None wa).andAlloc _).andDrew | exact (((Keeps.refl None wa).andAlloc _).andAlloc _).andDrew) hk (fun _ f _ => f)
        have hkd := Keeps.trans (Keeps.drew None _) hk (fun _ f _ => f)
        have hszz := hk.size
        try simp at hszz
        refine hK.out _ _ ?_ (fun hHeld2 => ?_)
        · (try dsimp only); first | go_keep | exact ⟨hk.cell hHeld2.1 (fun f => f), hk.cell hHeld2.2 (fun f => f)⟩ | exact ⟨hk.cell hHeld.1 (fun f => f), hk.cell hHeld.2 (fun f => f)⟩
        clear hK K
        try simp only [Act.put, List.setIfInBounds_toArray, List.set_cons_zero, List.set_cons_succ]
        refine wpAnyH_ready (rs := [7]) (by kernel_rfl) (by simp) ?_
        refine AllReadyH.cons (o := { dst := some 14, op := Op.makeSlice 41 (Operand.tmp 13) (Operand.tmp 13), type := 41, pos := "schedules.go:32", after := #[{ on := 6, ground := Ground.data }, { on := 6, ground := Ground.data }], guard := none }) rfl (fun K hK => ?_) ?_
        · refine step_make_run rfl (.tmp 13) (.tmp 13) 41 rfl (by simp [Act.eval]) (by simp [Act.eval]) (make_ints n _ hn) ?_
          refine hK.out _ _ ?_ (fun hHeld2 => ?_)
          · (try dsimp only); first | go_keep | exact ⟨hk.cell hHeld2.1 (fun f => f), hk.cell hHeld2.2 (fun f => f)⟩ | exact ⟨hk.cell hHeld.1 (fun f => f), hk.cell hHeld.2 (fun f => f)⟩
          clear hK K
          try simp only [Act.put, List.setIfInBounds_toArray, List.set_cons_zero, List.set_cons_succ]
          refine wpAnyH_take (i := 8) (oi := { dst := some 15, op := Op.build 99 #[(0, Operand.tmp 8), (1, Operand.tmp 11), (3, Operand.tmp 14)], type := 99, pos := "schedules.go:32", after := #[{ on := 1, ground := Ground.data }, { on := 4, ground := Ground.data }, { on := 7, ground := Ground.data }], guard := none }) (v := ?_) rfl (by kernel_rfl) (by kernel_rfl) (by kernel_rfl) (fun _ _ _ h => h) (Or.inl ⟨by rfl, ?_⟩) (by assumption) ?_
          rotate_left
          · (intro wz hSw; (try dsimp only at hSw); go_simp; try with_reducible rfl)
          simp only [Act.put, List.setIfInBounds_toArray, List.set_cons_zero, List.set_cons_succ]
          refine wpAnyH_ready (rs := [9]) (by kernel_rfl) (by simp) ?_
          refine AllReadyH.cons (o := { dst := some 16, op := Op.box 99 (Operand.tmp 15), type := 93, pos := "schedules.go:32", after := #[{ on := 8, ground := Ground.data }], guard := none }) rfl (fun K hK => ?_) ?_
          · go_simp
            refine hK.out _ _ ?_ (fun hHeld2 => ?_)
            · (try dsimp only); first | go_keep | exact ⟨hk.cell hHeld2.1 (fun f => f), hk.cell hHeld2.2 (fun f => f)⟩ | exact ⟨hk.cell hHeld.1 (fun f => f), hk.cell hHeld.2 (fun f => f)⟩
            clear hK K
            try simp only [Act.put, List.setIfInBounds_toArray, List.set_cons_zero, List.set_cons_succ]
            refine wpAnyH_take (i := 10) (oi := { dst := some 3, op := Op.assign (Operand.tmp 16), type := 93, pos := "schedules.go:32", after := #[{ on := 9, ground := Ground.data }, { on := 1, ground := Ground.chain }, { on := 0, ground := Ground.phase }, { on := 1, ground := Ground.phase }, { on := 2, ground := Ground.phase }, { on := 3, ground := Ground.phase }, { on := 4, ground := Ground.phase }, { on := 5, ground := Ground.phase }, { on := 6, ground := Ground.phase }, { on := 7, ground := Ground.phase }, { on := 8, ground := Ground.phase }, { on := 9, ground := Ground.phase }], guard := none }) (v := ?_) rfl (by kernel_rfl) (by kernel_rfl) (by kernel_rfl) (fun _ _ _ h => h) (Or.inl ⟨by rfl, ?_⟩) (by assumption) ?_
            rotate_left
            · (intro wz hSw; (try dsimp only at hSw); go_simp; try with_reducible rfl)
            simp only [Act.put, List.setIfInBounds_toArray, List.set_cons_zero, List.set_cons_succ]
            refine wpAnyH_done (by kernel_rfl) ?_ _
            go_wp2_with fail
            go_meet
            have hs1 := hkw.size
            refine ⟨_, g, _, _, vs, rfl, blk_new _ _ _ (by simp), ?_, ?_, ?_, ?_, ?_, ?_, ?_, ?_, ?_, ?_⟩
            · refine IsL.base (IsL.more hL ?_) (by first | (simp; done) | (simp; omega)); first | exact (Keeps.refl None w3).andAlloc _ | exact ((Keeps.refl None w3).andAlloc _).andAlloc _ | exact (((Keeps.refl None w3).andAlloc _).andAlloc _).andAlloc _
            · unfold IsN; first | (refine (blk_old (blk_new _ _ _ ?_) _); first | (with_reducible rfl) | (simp; done)) | (refine (blk_old (blk_old (blk_new _ _ _ ?_) _) _); first | (with_reducible rfl) | (simp; done)) | (refine (blk_old (blk_kept (blk_new _ _ _ ?_) hkd (fun f => f)) _); first | (with_reducible rfl) | (simp; done)) | (refine (blk_old (blk_old (blk_kept (blk_new _ _ _ ?_) hkd (fun f => f)) _) _); first | (with_reducible rfl) | (simp; done)) | (refine (blk_old (blk_kept (blk_old (blk_new _ _ _ ?_) _) hkd (fun f => f)) _); first | (with_reducible rfl) | (simp; done))
            · unfold IsN; first | (refine (blk_old (blk_new _ _ _ ?_) _); first | (with_reducible rfl) | (simp; done)) | (refine (blk_old (blk_old (blk_new _ _ _ ?_) _) _); first | (with_reducible rfl) | (simp; done)) | (refine (blk_old (blk_kept (blk_new _ _ _ ?_) hkd (fun f => f)) _); first | (with_reducible rfl) | (simp; done)) | (refine (blk_old (blk_old (blk_kept (blk_new _ _ _ ?_) hkd (fun f => f)) _) _); first | (with_reducible rfl) | (simp; done)) | (refine (blk_old (blk_kept (blk_old (blk_new _ _ _ ?_) _) hkd (fun f => f)) _); first | (with_reducible rfl) | (simp; done))
            · refine hkw.trans ?_ (fun _ f _ => f); first | exact (Keeps.refl None w3).andAlloc _ | exact ((Keeps.refl None w3).andAlloc _).andAlloc _ | exact (((Keeps.refl None w3).andAlloc _).andAlloc _).andAlloc _
            · omega
            · omega
            · omega
            · omega
            · intro k hkn e; have h1 := row_low (hL.rows k hkn) e; have h2 := own_lt (hL.rows k hkn) e; (try simp at h1); omega
            · intro k hkn e; have h1 := row_low (hL.rows k hkn) e; have h2 := own_lt (hL.rows k hkn) e; (try simp at h1); omega
          exact AllReadyH.nil
        exact AllReadyH.nil
      refine AllReadyH.cons (o := { dst := some 14, op := Op.makeSlice 41 (Operand.tmp 13) (Operand.tmp 13), type := 41, pos := "schedules.go:32", after := #[{ on := 6, ground := Ground.data }, { on := 6, ground := Ground.data }], guard := none }) rfl (fun K hK => ?_) ?_
      · refine step_make_run rfl (.tmp 13) (.tmp 13) 41 rfl (by simp [Act.eval]) (by simp [Act.eval]) (make_ints n _ hn) ?_
        refine hK.out _ _ ?_ (fun hHeld2 => ?_)
        · (try dsimp only); first | go_keep | exact ⟨hk.cell hHeld2.1 (fun f => f), hk.cell hHeld2.2 (fun f => f)⟩ | exact ⟨hk.cell hHeld.1 (fun f => f), hk.cell hHeld.2 (fun f => f)⟩
        clear hK K
        try simp only [Act.put, List.setIfInBounds_toArray, List.set_cons_zero, List.set_cons_succ]
        refine wpAnyH_ready (rs := [1]) (by kernel_rfl) (by simp) ?_
        refine AllReadyH.cons (o := { dst := some 8, op := Op.call { callee := Callee.value (Operand.func 52), args := #[Operand.tmp 7], argTypes := #[34] }, type := 86, pos := "schedules.go:32", after := #[{ on := 0, ground := Ground.data }], guard := none }) rfl (fun K hK => ?_) ?_
        · go_simp
          refine (flw_any n a m c l _ (hsee.out _ (by first | exact Keeps.drew None wa | exact ((Keeps.refl None wa).andAlloc _).andDrew | exact (((Keeps.refl None wa).andAlloc _).andAlloc _).andDrew)) HD.out).mono ?_
          rintro _ w3 ⟨g, vs, rfl, hL, hk⟩
          have hkw : Keeps None wa w3 := Keeps.trans (by first | exact Keeps.drew None wa | exact ((Keeps.refl None wa).andAlloc _).andDrew | exact (((Keeps.refl None wa).andAlloc _).andAlloc _).andDrew) hk (fun _ f _ => f)
          have hkd := Keeps.trans (Keeps.drew None _) hk (fun _ f _ => f)
          have hszz := hk.size
          try simp at hszz
          refine hK.out _ _ ?_ (fun hHeld2 => ?_)
          · (try dsimp only); first | go_keep | exact ⟨hk.cell hHeld2.1 (fun f => f), hk.cell hHeld2.2 (fun f => f)⟩ | exact ⟨hk.cell hHeld.1 (fun f => f), hk.cell hHeld.2 (fun f => f)⟩
          clear hK K
          try simp only [Act.put, List.setIfInBounds_toArray, List.set_cons_zero, List.set_cons_succ]
          refine wpAnyH_take (i := 8) (oi := { dst := some 15, op := Op.build 99 #[(0, Operand.tmp 8), (1, Operand.tmp 11), (3, Operand.tmp 14)], type := 99, pos := "schedules.go:32", after := #[{ on := 1, ground := Ground.data }, { on := 4, ground := Ground.data }, { on := 7, ground := Ground.data }], guard := none }) (v := ?_) rfl (by kernel_rfl) (by kernel_rfl) (by kernel_rfl) (fun _ _ _ h => h) (Or.inl ⟨by rfl, ?_⟩) (by assumption) ?_
          rotate_left
          · (intro wz hSw; (try dsimp only at hSw); go_simp; try with_reducible rfl)
          simp only [Act.put, List.setIfInBounds_toArray, List.set_cons_zero, List.set_cons_succ]
          refine wpAnyH_ready (rs := [9]) (by kernel_rfl) (by simp) ?_
          refine AllReadyH.cons (o := { dst := some 16, op := Op.box 99 (Operand.tmp 15), type := 93, pos := "schedules.go:32", after := #[{ on := 8, ground := Ground.data }], guard := none }) rfl (fun K hK => ?_) ?_
          · go_simp
            refine hK.out _ _ ?_ (fun hHeld2 => ?_)
            · (try dsimp only); first | go_keep | exact ⟨hk.cell hHeld2.1 (fun f => f), hk.cell hHeld2.2 (fun f => f)⟩ | exact ⟨hk.cell hHeld.1 (fun f => f), hk.cell hHeld.2 (fun f => f)⟩
            clear hK K
            try simp only [Act.put, List.setIfInBounds_toArray, List.set_cons_zero, List.set_cons_succ]
            refine wpAnyH_take (i := 10) (oi := { dst := some 3, op := Op.assign (Operand.tmp 16), type := 93, pos := "schedules.go:32", after := #[{ on := 9, ground := Ground.data }, { on := 1, ground := Ground.chain }, { on := 0, ground := Ground.phase }, { on := 1, ground := Ground.phase }, { on := 2, ground := Ground.phase }, { on := 3, ground := Ground.phase }, { on := 4, ground := Ground.phase }, { on := 5, ground := Ground.phase }, { on := 6, ground := Ground.phase }, { on := 7, ground := Ground.phase }, { on := 8, ground := Ground.phase }, { on := 9, ground := Ground.phase }], guard := none }) (v := ?_) rfl (by kernel_rfl) (by kernel_rfl) (by kernel_rfl) (fun _ _ _ h => h) (Or.inl ⟨by rfl, ?_⟩) (by assumption) ?_
            rotate_left
            · (intro wz hSw; (try dsimp only at hSw); go_simp; try with_reducible rfl)
            simp only [Act.put, List.setIfInBounds_toArray, List.set_cons_zero, List.set_cons_succ]
            refine wpAnyH_done (by kernel_rfl) ?_ _
            go_wp2_with fail
            go_meet
            have hs1 := hkw.size
            refine ⟨_, g, _, _, vs, rfl, blk_new _ _ _ (by simp), ?_, ?_, ?_, ?_, ?_, ?_, ?_, ?_, ?_, ?_⟩
            · refine IsL.base (IsL.more hL ?_) (by first | (simp; done) | (simp; omega)); first | exact (Keeps.refl None w3).andAlloc _ | exact ((Keeps.refl None w3).andAlloc _).andAlloc _ | exact (((Keeps.refl None w3).andAlloc _).andAlloc _).andAlloc _
            · unfold IsN; first | (refine (blk_old (blk_new _ _ _ ?_) _); first | (with_reducible rfl) | (simp; done)) | (refine (blk_old (blk_old (blk_new _ _ _ ?_) _) _); first | (with_reducible rfl) | (simp; done)) | (refine (blk_old (blk_kept (blk_new _ _ _ ?_) hkd (fun f => f)) _); first | (with_reducible rfl) | (simp; done)) | (refine (blk_old (blk_old (blk_kept (blk_new _ _ _ ?_) hkd (fun f => f)) _) _); first | (with_reducible rfl) | (simp; done)) | (refine (blk_old (blk_kept (blk_old (blk_new _ _ _ ?_) _) hkd (fun f => f)) _); first | (with_reducible rfl) | (simp; done))
            · unfold IsN; first | (refine (blk_old (blk_new _ _ _ ?_) _); first | (with_reducible rfl) | (simp; done)) | (refine (blk_old (blk_old (blk_new _ _ _ ?_) _) _); first | (with_reducible rfl) | (simp; done)) | (refine (blk_old (blk_kept (blk_new _ _ _ ?_) hkd (fun f => f)) _); first | (with_reducible rfl) | (simp; done)) | (refine (blk_old (blk_old (blk_kept (blk_new _ _ _ ?_) hkd (fun f => f)) _) _); first | (with_reducible rfl) | (simp; done)) | (refine (blk_old (blk_kept (blk_old (blk_new _ _ _ ?_) _) hkd (fun f => f)) _); first | (with_reducible rfl) | (simp; done))
            · refine hkw.trans ?_ (fun _ f _ => f); first | exact (Keeps.refl None w3).andAlloc _ | exact ((Keeps.refl None w3).andAlloc _).andAlloc _ | exact (((Keeps.refl None w3).andAlloc _).andAlloc _).andAlloc _
            · omega
            · omega
            · omega
            · omega
            · intro k hkn e; have h1 := row_low (hL.rows k hkn) e; have h2 := own_lt (hL.rows k hkn) e; (try simp at h1); omega
            · intro k hkn e; have h1 := row_low (hL.rows k hkn) e; have h2 := own_lt (hL.rows k hkn) e; (try simp at h1); omega
          exact AllReadyH.nil
        exact AllReadyH.nil
      exact AllReadyH.nil
    refine AllReadyH.cons (o := { dst := some 14, op := Op.makeSlice 41 (Operand.tmp 13) (Operand.tmp 13), type := 41, pos := "schedules.go:32", after := #[{ on := 6, ground := Ground.data }, { on := 6, ground := Ground.data }], guard := none }) rfl (fun K hK => ?_) ?_
    · refine step_make_run rfl (.tmp 13) (.tmp 13) 41 rfl (by simp [Act.eval]) (by simp [Act.eval]) (make_ints n _ hn) ?_
      refine hK.out _ _ ?_ (fun hHeld2 => ?_)
      · (try dsimp only); first | go_keep | exact ⟨hk.cell hHeld2.1 (fun f => f), hk.cell hHeld2.2 (fun f => f)⟩ | exact ⟨hk.cell hHeld.1 (fun f => f), hk.cell hHeld.2 (fun f => f)⟩
      clear hK K
      try simp only [Act.put, List.setIfInBounds_toArray, List.set_cons_zero, List.set_cons_succ]
      refine wpAnyH_ready (rs := [1, 4]) (by kernel_rfl) (by simp) ?_
      refine AllReadyH.cons (o := { dst := some 8, op := Op.call { callee := Callee.value (Operand.func 52), args := #[Operand.tmp 7], argTypes := #[34] }, type := 86, pos := "schedules.go:32", after := #[{ on := 0, ground := Ground.data }], guard := none }) rfl (fun K hK => ?_) ?_
      · go_simp
        refine (flw_any n a m c l _ (hsee.out _ (by first | exact Keeps.drew None wa | exact ((Keeps.refl None wa).andAlloc _).andDrew | exact (((Keeps.refl None wa).andAlloc _).andAlloc _).andDrew)) HD.out).mono ?_
        rintro _ w3 ⟨g, vs, rfl, hL, hk⟩
        have hkw : Keeps None wa w3 := Keeps.trans (by first | exact Keeps.drew None wa | exact ((Keeps.refl None wa).andAlloc _).andDrew | exact (((Keeps.refl None wa).andAlloc _).andAlloc _).andDrew) hk (fun _ f _ => f)
        have hkd := Keeps.trans (Keeps.drew None _) hk (fun _ f _ => f)
        have hszz := hk.size
        try simp at hszz
        refine hK.out _ _ ?_ (fun hHeld2 => ?_)
        · (try dsimp only); first | go_keep | exact ⟨hk.cell hHeld2.1 (fun f => f), hk.cell hHeld2.2 (fun f => f)⟩ | exact ⟨hk.cell hHeld.1 (fun f => f), hk.cell hHeld.2 (fun f => f)⟩
        clear hK K
        try simp only [Act.put, List.setIfInBounds_toArray, List.set_cons_zero, List.set_cons_succ]
        refine wpAnyH_ready (rs := [4]) (by kernel_rfl) (by simp) ?_
        refine AllReadyH.cons (o := { dst := some 11, op := Op.makeSlice 41 (Operand.tmp 10) (Operand.tmp 10), type := 41, pos := "schedules.go:32", after := #[{ on := 3, ground := Ground.data }, { on := 3, ground := Ground.data }], guard := none }) rfl (fun K hK => ?_) ?_
        · refine step_make_run rfl (.tmp 10) (.tmp 10) 41 rfl (by simp [Act.eval]) (by simp [Act.eval]) (make_ints n _ hn) ?_
          refine hK.out _ _ ?_ (fun hHeld2 => ?_)
          · (try dsimp only); first | go_keep | exact ⟨hk.cell hHeld2.1 (fun f => f), hk.cell hHeld2.2 (fun f => f)⟩ | exact ⟨hk.cell hHeld.1 (fun f => f), hk.cell hHeld.2 (fun f => f)⟩
          clear hK K
          try simp only [Act.put, List.setIfInBounds_toArray, List.set_cons_zero, List.set_cons_succ]
          refine wpAnyH_take (i := 8) (oi := { dst := some 15, op := Op.build 99 #[(0, Operand.tmp 8), (1, Operand.tmp 11), (3, Operand.tmp 14)], type := 99, pos := "schedules.go:32", after := #[{ on := 1, ground := Ground.data }, { on := 4, ground := Ground.data }, { on := 7, ground := Ground.data }], guard := none }) (v := ?_) rfl (by kernel_rfl) (by kernel_rfl) (by kernel_rfl) (fun _ _ _ h => h) (Or.inl ⟨by rfl, ?_⟩) (by assumption) ?_
          rotate_left
          · (intro wz hSw; (try dsimp only at hSw); go_simp; try with_reducible rfl)
          simp only [Act.put, List.setIfInBounds_toArray, List.set_cons_zero, List.set_cons_succ]
          refine wpAnyH_ready (rs := [9]) (by kernel_rfl) (by simp) ?_
          refine AllReadyH.cons (o := { dst := some 16, op := Op.box 99 (Operand.tmp 15), type := 93, pos := "schedules.go:32", after := #[{ on := 8, ground := Ground.data }], guard := none }) rfl (fun K hK => ?_) ?_
          · go_simp
            refine hK.out _ _ ?_ (fun hHeld2 => ?_)
            · (try dsimp only); first | go_keep | exact ⟨hk.cell hHeld2.1 (fun f => f), hk.cell hHeld2.2 (fun f => f)⟩ | exact ⟨hk.cell hHeld.1 (fun f => f), hk.cell hHeld.2 (fun f => f)⟩
            clear hK K
            try simp only [Act.put, List.setIfInBounds_toArray, List.set_cons_zero, List.set_cons_succ]
            refine wpAnyH_take (i := 10) (oi := { dst := some 3, op := Op.assign (Operand.tmp 16), type := 93, pos := "schedules.go:32", after := #[{ on := 9, ground := Ground.data }, { on := 1, ground := Ground.chain }, { on := 0, ground := Ground.phase }, { on := 1, ground := Ground.phase }, { on := 2, ground := Ground.phase }, { on := 3, ground := Ground.phase }, { on := 4, ground := Ground.phase }, { on := 5, ground := Ground.phase }, { on := 6, ground := Ground.phase }, { on := 7, ground := Ground.phase }, { on := 8, ground := Ground.phase }, { on := 9, ground := Ground.phase }], guard := none }) (v := ?_) rfl (by kernel_rfl) (by kernel_rfl) (by kernel_rfl) (fun _ _ _ h => h) (Or.inl ⟨by rfl, ?_⟩) (by assumption) ?_
            rotate_left
            · (intro wz hSw; (try dsimp only at hSw); go_simp; try with_reducible rfl)
            simp only [Act.put, List.setIfInBounds_toArray, List.set_cons_zero, List.set_cons_succ]
            refine wpAnyH_done (by kernel_rfl) ?_ _
            go_wp2_with fail
            go_meet
            have hs1 := hkw.size
            refine ⟨_, g, _, _, vs, rfl, blk_new _ _ _ (by simp), ?_, ?_, ?_, ?_, ?_, ?_, ?_, ?_, ?_, ?_⟩
            · refine IsL.base (IsL.more hL ?_) (by first | (simp; done) | (simp; omega)); first | exact (Keeps.refl None w3).andAlloc _ | exact ((Keeps.refl None w3).andAlloc _).andAlloc _ | exact (((Keeps.refl None w3).andAlloc _).andAlloc _).andAlloc _
            · unfold IsN; first | (refine (blk_old (blk_new _ _ _ ?_) _); first | (with_reducible rfl) | (simp; done)) | (refine (blk_old (blk_old (blk_new _ _ _ ?_) _) _); first | (with_reducible rfl) | (simp; done)) | (refine (blk_old (blk_kept (blk_new _ _ _ ?_) hkd (fun f => f)) _); first | (with_reducible rfl) | (simp; done)) | (refine (blk_old (blk_old (blk_kept (blk_new _ _ _ ?_) hkd (fun f => f)) _) _); first | (with_reducible rfl) | (simp; done)) | (refine (blk_old (blk_kept (blk_old (blk_new _ _ _ ?_) _) hkd (fun f => f)) _); first | (with_reducible rfl) | (simp; done))
            · unfold IsN; first | (refine (blk_old (blk_new _ _ _ ?_) _); first | (with_reducible rfl) | (simp; done)) | (refine (blk_old (blk_old (blk_new _ _ _ ?_) _) _); first | (with_reducible rfl) | (simp; done)) | (refine (blk_old (blk_kept (blk_new _ _ _ ?_) hkd (fun f => f)) _); first | (with_reducible rfl) | (simp; done)) | (refine (blk_old (blk_old (blk_kept (blk_new _ _ _ ?_) hkd (fun f => f)) _) _); first | (with_reducible rfl) | (simp; done)) | (refine (blk_old (blk_kept (blk_old (blk_new _ _ _ ?_) _) hkd (fun f => f)) _); first | (with_reducible rfl) | (simp; done))
            · refine hkw.trans ?_ (fun _ f _ => f); first | exact (Keeps.refl None w3).andAlloc _ | exact ((Keeps.refl None w3).andAlloc _).andAlloc _ | exact (((Keeps.refl None w3).andAlloc _).andAlloc _).andAlloc _
            · omega
            · omega
            · omega
            · omega
            · intro k hkn e; have h1 := row_low (hL.rows k hkn) e; have h2 := own_lt (hL.rows k hkn) e; (try simp at h1); omega
            · intro k hkn e; have h1 := row_low (hL.rows k hkn) e; have h2 := own_lt (hL.rows k hkn) e; (try simp at h1); omega
          exact AllReadyH.nil
        exact AllReadyH.nil
      refine AllReadyH.cons (o := { dst := some 11, op := Op.makeSlice 41 (Operand.tmp 10) (Operand.tmp 10), type := 41, pos := "schedules.go:32", after := #[{ on := 3, ground := Ground.data }, { on := 3, ground := Ground.data }], guard := none }) rfl (fun K hK => ?_) ?_
      · refine step_make_run rfl (.tmp 10) (.tmp 10) 41 rfl (by simp [Act.eval]) (by simp [Act.eval]) (make_ints n _ hn) ?_
        refine hK.out _ _ ?_ (fun hHeld2 => ?_)
        · (try dsimp only); first | go_keep | exact ⟨hk.cell hHeld2.1 (fun f => f), hk.cell hHeld2.2 (fun f => f)⟩ | exact ⟨hk.cell hHeld.1 (fun f => f), hk.cell hHeld.2 (fun f => f)⟩
        clear hK K
        try simp only [Act.put, List.setIfInBounds_toArray, List.set_cons_zero, List.set_cons_succ]
        refine wpAnyH_ready (rs := [1]) (by kernel_rfl) (by simp) ?_
        refine AllReadyH.cons (o := { dst := some 8, op := Op.call { callee := Callee.value (Operand.func 52), args := #[Operand.tmp 7], argTypes := #[34] }, type := 86, pos := "schedules.go:32", after := #[{ on := 0, ground := Ground.data }], guard := none }) rfl (fun K hK => ?_) ?_
        · go_simp
          refine (flw_any n a m c l _ (hsee.out _ (by first | exact Keeps.drew None wa | exact ((Keeps.refl None wa).andAlloc _).andDrew | exact (((Keeps.refl None wa).andAlloc _).andAlloc _).andDrew)) HD.out).mono ?_
          rintro _ w3 ⟨g, vs, rfl, hL, hk⟩
          have hkw : Keeps None wa w3 := Keeps.trans (by first | exact Keeps.drew None wa | exact ((Keeps.refl None wa).andAlloc _).andDrew | exact (((Keeps.refl None wa).andAlloc _).andAlloc _).andDrew) hk (fun _ f _ => f)
          have hkd := Keeps.trans (Keeps.drew None _) hk (fun _ f _ => f)
          have hszz := hk.size
          try simp at hszz
          refine hK.out _ _ ?_ (fun hHeld2 => ?_)
          · (try dsimp only); first | go_keep | exact ⟨hk.cell hHeld2.1 (fun f => f), hk.cell hHeld2.2 (fun f => f)⟩ | exact ⟨hk.cell hHeld.1 (fun f => f), hk.cell hHeld.2 (fun f => f)⟩
          clear hK K
          try simp only [Act.put, List.setIfInBounds_toArray, List.set_cons_zero, List.set_cons_succ]
          refine wpAnyH_take (i := 8) (oi := { dst := some 15, op := Op.build 99 #[(0, Operand.tmp 8), (1, Operand.tmp 11), (3, Operand.tmp 14)], type := 99, pos := "schedules.go:32", after := #[{ on := 1, ground := Ground.data }, { on := 4, ground := Ground.data }, { on := 7, ground := Ground.data }], guard := none }) (v := ?_) rfl (by kernel_rfl) (by kernel_rfl) (by kernel_rfl) (fun _ _ _ h => h) (Or.inl ⟨by rfl, ?_⟩) (by assumption) ?_
          rotate_left
          · (intro wz hSw; (try dsimp only at hSw); go_simp; try with_reducible rfl)
          simp only [Act.put, List.setIfInBounds_toArray, List.set_cons_zero, List.set_cons_succ]
          refine wpAnyH_ready (rs := [9]) (by kernel_rfl) (by simp) ?_
          refine AllReadyH.cons (o := { dst := some 16, op := Op.box 99 (Operand.tmp 15), type := 93, pos := "schedules.go:32", after := #[{ on := 8, ground := Ground.data }], guard := none }) rfl (fun K hK => ?_) ?_
          · go_simp
            refine hK.out _ _ ?_ (fun hHeld2 => ?_)
            · (try dsimp only); first | go_keep | exact ⟨hk.cell hHeld2.1 (fun f => f), hk.cell hHeld2.2 (fun f => f)⟩ | exact ⟨hk.cell hHeld.1 (fun f => f), hk.cell hHeld.2 (fun f => f)⟩
            clear hK K
            try simp only [Act.put, List.setIfInBounds_toArray, List.set_cons_zero, List.set_cons_succ]
            refine wpAnyH_take (i := 10) (oi := { dst := some 3, op := Op.assign (Operand.tmp 16), type := 93, pos := "schedules.go:32", after := #[{ on := 9, ground := Ground.data }, { on := 1, ground := Ground.chain }, { on := 0, ground := Ground.phase }, { on := 1, ground := Ground.phase }, { on := 2, ground := Ground.phase }, { on := 3, ground := Ground.phase }, { on := 4, ground := Ground.phase }, { on := 5, ground := Ground.phase }, { on := 6, ground := Ground.phase }, { on := 7, ground := Ground.phase }, { on := 8, ground := Ground.phase }, { on := 9, ground := Ground.phase }], guard := none }) (v := ?_) rfl (by kernel_rfl) (by kernel_rfl) (by kernel_rfl) (fun _ _ _ h => h) (Or.inl ⟨by rfl, ?_⟩) (by assumption) ?_
            rotate_left
            · (intro wz hSw; (try dsimp only at hSw); go_simp; try with_reducible rfl)
            simp only [Act.put, List.setIfInBounds_toArray, List.set_cons_zero, List.set_cons_succ]
            refine wpAnyH_done (by kernel_rfl) ?_ _
            go_wp2_with fail
            go_meet
            have hs1 := hkw.size
            refine ⟨_, g, _, _, vs, rfl, blk_new _ _ _ (by simp), ?_, ?_, ?_, ?_, ?_, ?_, ?_, ?_, ?_, ?_⟩
            · refine IsL.base (IsL.more hL ?_) (by first | (simp; done) | (simp; omega)); first | exact (Keeps.refl None w3).andAlloc _ | exact ((Keeps.refl None w3).andAlloc _).andAlloc _ | exact (((Keeps.refl None w3).andAlloc _).andAlloc _).andAlloc _
            · unfold IsN; first | (refine (blk_old (blk_new _ _ _ ?_) _); first | (with_reducible rfl) | (simp; done)) | (refine (blk_old (blk_old (blk_new _ _ _ ?_) _) _); first | (with_reducible rfl) | (simp; done)) | (refine (blk_old (blk_kept (blk_new _ _ _ ?_) hkd (fun f => f)) _); first | (with_reducible rfl) | (simp; done)) | (refine (blk_old (blk_old (blk_kept (blk_new _ _ _ ?_) hkd (fun f => f)) _) _); first | (with_reducible rfl) | (simp; done)) | (refine (blk_old (blk_kept (blk_old (blk_new _ _ _ ?_) _) hkd (fun f => f)) _); first | (with_reducible rfl) | (simp; done))
            · unfold IsN; first | (refine (blk_old (blk_new _ _ _ ?_) _); first | (with_reducible rfl) | (simp; done)) | (refine (blk_old (blk_old (blk_new _ _ _ ?_) _) _); first | (with_reducible rfl) | (simp; done)) | (refine (blk_old (blk_kept (blk_new _ _ _ ?_) hkd (fun f => f)) _); first | (with_reducible rfl) | (simp; done)) | (refine (blk_old (blk_old (blk_kept (blk_new _ _ _ ?_) hkd (fun f => f)) _) _); first | (with_reducible rfl) | (simp; done)) | (refine (blk_old (blk_kept (blk_old (blk_new _ _ _ ?_) _) hkd (fun f => f)) _); first | (with_reducible rfl) | (simp; done))
            · refine hkw.trans ?_ (fun _ f _ => f); first | exact (Keeps.refl None w3).andAlloc _ | exact ((Keeps.refl None w3).andAlloc _).andAlloc _ | exact (((Keeps.refl None w3).andAlloc _).andAlloc _).andAlloc _
            · omega
            · omega
            · omega
            · omega
            · intro k hkn e; have h1 := row_low (hL.rows k hkn) e; have h2 := own_lt (hL.rows k hkn) e; (try simp at h1); omega
            · intro k hkn e; have h1 := row_low (hL.rows k hkn) e; have h2 := own_lt (hL.rows k hkn) e; (try simp at h1); omega
          exact AllReadyH.nil
        exact AllReadyH.nil
      exact AllReadyH.nil
    exact AllReadyH.nil
  case rest =>
    obtain ⟨p, g, gl, gt, vs, rfl, hb, hL, hN1, hN2, hkx, hne, hp1, hgl, hgt, hv1, hv2⟩ := hcut
    have hs0 := HS0.out
    have hws := H0.out.2.2
    obtain ⟨B, hB⟩ : ∃ B, B = wc.heap.size := ⟨_, rfl⟩
    have hkS : Keeps (· = p) wc (wc.setCell ⟨p, 3, none⟩ lessV) := Keeps.setCell (S := (· = p)) wc rfl _
    have hP0 : Plan (wc.setCell ⟨p, 3, none⟩ lessV) p B g gl gt n vs l (fun j => ((bef (l.take 0) j).length : Nat)) (fun _ => 0) (.slice none 0 0) [] := by
      have e1 : g ≠ p := fun e => by have := hL.outer; rw [e, hb] at this; simp at this
      have e2 : gl ≠ p := fun e => by have := hN1; rw [e] at this; unfold IsN at this; rw [hb] at this; simp at this
      have e3 : gt ≠ p := fun e => by have := hN2; rw [e] at this; unfold IsN at this; rw [hb] at this; simp at this
      refine ⟨⟨by rw [blk_set hb]; rfl, row_nil _ _ _ _⟩, (hL.kept hkS e1 (fun k b hkn e e4 => by subst e4; exact absurd (own_type (hL.rows k hkn) e hb) (by decide))).base (Nat.zero_le _), (hN1.kept hkS e2).congr (fun k _ => by simp [bef]), hN2.kept hkS e3, ⟨?_, ?_, ?_, ?_, ?_⟩, ⟨hne, hv1, hv2⟩, ?_⟩
      · rw [hB]; exact blk_lt hL.outer
      · rw [hB]; exact hN1.lt
      · rw [hB]; exact hN2.lt
      · rw [hB]; exact blk_lt hb
      · intro k b hkn e; rw [hB]; exact own_lt (hL.rows k hkn) e
      · rw [hB]; exact hkS.size
    have H1 : Hid (Plan (wc.setCell ⟨p, 3, none⟩ lessV) p B g gl gt n vs l (fun j => ((bef (l.take 0) j).length : Nat)) (fun _ => 0) (.slice none 0 0) [] ∧ (wc.setCell ⟨p, 3, none⟩ lessV).heap[s0]? = some (.cells #[.int .i64 n, .slice a m c] 34 (0, 0)) ∧ Keeps None w (wc.setCell ⟨p, 3, none⟩ lessV) ∧ w.heap.size ≤ p ∧ w.heap.size ≤ gl ∧ w.heap.size ≤ gt ∧ w.heap.size ≤ B ∧ s0 < p) :=
      ⟨hP0, blk_kept (blk_kept H0.out.1 hkx (fun f => f)) hkS (by omega), (H0.out.2.1.trans hkx (fun _ f _ => f)).trans hkS (fun i e hi => by omega), by omega, by omega, by omega, by have := hkx.size; omega, by omega⟩
    have f3 := blk_free hb 3
    have x3 : wc.cell? ⟨p, 3, none⟩ = some .nilFunc := (blk_cell hb 3).trans rfl
    have d1 : (wc.setCell ⟨p, 3, none⟩ lessV).cell? ⟨s0, 1, none⟩ = some (.slice a m c) := (blk_cell H1.out.2.1 1).trans rfl
    unfold lessV at d1 H1
    clear hb hL hN1 hN2 hkx hne hp1 hgl hgt hv1 hv2 hB hkS hP0 hs0 hws H0
    go_wp2_with fail
    go_loopw [24, 5] (fun s24 _ wr => ∃ i : Nat, s24 = .int .i64 i ∧ i ≤ m ∧ wr.heap[s0]? = some (.cells #[.int .i64 n, .slice a m c] 34 (0, 0)) ∧ Plan wr p B g gl gt n vs l (fun j => ((bef (l.take i) j).length : Nat)) (fun _ => 0) (.slice none 0 0) [] ∧ Keeps None w wr) (fun s24 _ _ => m - (intOf s24).toNat)
    case atStart => exact ⟨0, rfl, Nat.zero_le _, H1.out.2.1, H1.out.1, H1.out.2.2.1⟩
    case round =>
      obtain ⟨i, rfl, hi, b0, hPl, hkp⟩ := hrel
      by_cases hlt : i < m
      · obtain ⟨b, off, e, rfl, he, hat⟩ := (HS.out.more hkp).at hlt
        have hok := HD.out.ok e (List.mem_of_getElem? he)
        have e0 := hat.f
        have e1 := hat.t
        obtain ⟨ef, et⟩ := e
        simp only at e0 e1 hok
        obtain ⟨t, rfl⟩ := Int.eq_ofNat_of_zero_le (show 0 ≤ et by omega)
        have m0 : ¬ m = 0 := by omega
        have n0 : ¬ n = 0 := by omega
        have i1 : (i : Int) < (m : Int) := by omega
        have t1 : (t : Int) < (n : Int) := by omega
        have htn : t < n := by omega
        obtain ⟨wd, hwd⟩ : ∃ wd, wd = wr.alloc (.cells #[.int .i64 ef, .int .i64 t] 70) := ⟨_, rfl⟩
        have hkd : Keeps None wr wd := by rw [hwd]; exact Keeps.alloc None wr _
        have f1 : wd.cell? ⟨wr.heap.size, 1, none⟩ = some (.int .i64 t) := by rw [hwd]; exact (blk_cell (blk_new wr (.cells #[.int .i64 ef, .int .i64 t] 70) _ rfl) 1).trans rfl
        have hPd := hPl.more hkd
        have c1 := hPd.hp.c1
        have x0 : wd.cell? ⟨gl, t, none⟩ = some (.int .i64 ((bef (l.take i) t).length : Nat)) := hPd.left.at htn
        have z0 := hPd.left.free t
        have hble : (bef (l.take i) t).length ≤ 16384 := by
          have := bef_len (l.take i) t
          rw [List.length_take] at this
          have := hl.out
          omega
        have hbt := bef_take l i _ he
        obtain ⟨f, hf⟩ : ∃ f, f = (bef (l.take i) t).length := ⟨_, rfl⟩
        rw [← hf] at x0 hble
        have hw : IntKind.i64.wrap ((f : Int) + 1) = (f : Int) + 1 := by rw [IntKind.wrap_i64]; omega
        have hP3 := hPd.setLeft t ((f : Int) + 1)
        have hP4 : Plan (wd.setCell ⟨gl, t, none⟩ (.int .i64 ((f : Int) + 1))) p B g gl gt n vs l (fun j => ((bef (l.take (i + 1)) j).length : Nat)) (fun _ => 0) (.slice none 0 0) [] := by
          refine ⟨hP3.hp, hP3.lists, hP3.left.congr (fun k _ => ?_), hP3.times, hP3.low, hP3.ne, hP3.size⟩
          rw [hbt k]
          unfold upd
          by_cases e : k = t
          · subst e; simp [hf]
          · have : ¬ (t : Int) = k := by omega
            simp [e, this]
        have hkS : Keeps (· = gl) wd (wd.setCell ⟨gl, t, none⟩ (.int .i64 ((f : Int) + 1))) := Keeps.setCell (S := (· = gl)) wd rfl _
        have h1 := H1.out
        have hs0 := HS0.out
        have HN : Hid ((wd.setCell ⟨gl, t, none⟩ (.int .i64 ((f : Int) + 1))).heap[s0]? = some (.cells #[.int .i64 n, .slice (some ⟨b, off, none⟩) m c] 34 (0, 0)) ∧ Plan (wd.setCell ⟨gl, t, none⟩ (.int .i64 ((f : Int) + 1))) p B g gl gt n vs l (fun j => ((bef (l.take (i + 1)) j).length : Nat)) (fun _ => 0) (.slice none 0 0) [] ∧ Keeps None w (wd.setCell ⟨gl, t, none⟩ (.int .i64 ((f : Int) + 1)))) := by
          refine ⟨blk_kept (blk_kept b0 hkd (fun f => f)) hkS (fun e => ?_), hP4, (hkp.trans hkd (fun _ f _ => f)).trans hkS (fun q e hq => by omega)⟩
          have h2 := hPl.left
          unfold IsN at h2
          rw [← e, b0] at h2
          simp at h2
        clear hPl hkp hPd hP3 hP4 hkS hkd b0 hf hbt he hat hok h1 hs0
        go_upto_region 6 with fail
        rw [← hwd]
        clear hwd
        go_region
        all_goals go_wp2_with fail
        all_goals
          refine ⟨⟨i + 1, by go_num, by omega, ?_⟩, by simp [intOf]; omega⟩
          first | exact HN.out | exact ⟨HN.out.1, HN.out.2.1.more (Keeps.drew None _), HN.out.2.2.andDrew⟩
      · have i1 : ¬ (i : Int) < (m : Int) := by omega
        obtain rfl : m = i := by omega
        have d0 : wr.cell? ⟨s0, 0, none⟩ = some (.int .i64 n) := (blk_cell b0 0).trans rfl
        have H2 : Hid (Plan wr p B g gl gt n vs l (fun j => (lft l (fun _ => 0) j : Nat)) (fun _ => 0) (.slice none 0 0) [] ∧ Keeps None w wr) := by
          refine ⟨⟨hPl.hp, hPl.lists, hPl.left.congr (fun k _ => ?_), hPl.times, hPl.low, hPl.ne, hPl.size⟩, hkp⟩
          rw [List.take_of_length_le (by have := hl.out; omega), lft_zero]
        clear hPl hkp b0
        go_wp2_with fail
        go_loopw [41, 6] (fun s41 _ wr => ∃ (i : Nat) (v : Value) (hl : List Int), s41 = .int .i64 i ∧ i ≤ n ∧ Plan wr p B g gl gt n vs l (fun j => (lft l (fun _ => 0) j : Nat)) (fun _ => 0) v hl ∧ Of hl (fun x => x < i ∧ lft l (fun _ => 0) x = 0) ∧ Keeps None w wr) (fun s41 _ _ => n - (intOf s41).toNat)
        case atStart => exact ⟨0, _, _, rfl, Nat.zero_le _, H2.out.1, ⟨(fun i h0 hi => by simp at hi), List.nodup_nil, (fun x hx => by cases hx), (fun x => ⟨(fun h => by cases h), (fun h => by omega)⟩)⟩, H2.out.2⟩
        case round =>
          obtain ⟨i, v, hv, rfl, hi, hPl, hOf, hkp⟩ := hrel
          have HI : Hid (Plan wr p B g gl gt n vs l (fun j => (lft l (fun _ => 0) j : Nat)) (fun _ => 0) v hv ∧ Of hv (fun x => x < i ∧ lft l (fun _ => 0) x = 0) ∧ Keeps None w wr) := ⟨hPl, hOf, hkp⟩
          by_cases hlt : i < n
          · have i1 : (i : Int) < (n : Int) := by omega
            have n0 : ¬ n = 0 := by omega
            have c1 := hPl.hp.c1
            have x0 : wr.cell? ⟨gl, i, none⟩ = some (.int .i64 (lft l (fun _ => 0) i : Nat)) := hPl.left.at hlt
            obtain ⟨f, hf⟩ : ∃ f, f = lft l (fun _ => 0) i := ⟨_, rfl⟩
            rw [← hf] at x0
            have HF : Hid (f = lft l (fun _ => 0) i) := hf
            clear hPl hOf hkp hf
            by_cases hz : f = 0
            · have hz1 : ((f : Int) == 0) = true := by simpa using hz
              have hz2 : (f : Int) = 0 := by omega
              have HZ : Hid (f = 0) := hz
              clear hz
              have hpl : hv.length + 1 ≤ 4096 := Nat.le_trans (HI.out.2.1.len1 (n := n) (x := i) (fun x hx => by omega) (fun hx => by omega) hlt) hn
              go_wp2_with fail
              refine (push_any p B _ _ _ v hv i _ HI.out.1.hp HI.out.2.1.hp HI.out.1.size hpl).mono ?_
              rintro _ w4 ⟨v2, hl2, rfl, hI4, hp4, hperm, hk4, hv4⟩
              have HF4 : Hid (Plan w4 p B g gl gt n vs l (fun j => (lft l (fun _ => 0) j : Nat)) (fun _ => 0) v2 hl2 ∧ Of hl2 (fun x => x < i + 1 ∧ lft l (fun _ => 0) x = 0) ∧ Keeps None w w4) := by
                have h1 := H1.out
                refine ⟨HI.out.1.heap hI4 hk4, (HI.out.2.1.push (fun hx => by omega) hp4 hperm).congr (fun x => ?_), HI.out.2.2.trans hk4 (fun q e hq => ?_)⟩
                · have h2 := HF.out
                  have h3 := HZ.out
                  constructor
                  · rintro (h | h)
                    · exact ⟨by omega, h.2⟩
                    · subst h; exact ⟨by omega, by omega⟩
                  · rintro ⟨h4, h5⟩
                    by_cases e : x = i
                    · exact .inr e
                    · exact .inl ⟨by omega, h5⟩
                · rcases e with e | e
                  · omega
                  · have := HI.out.1.vg q e; omega
              clear hI4 hp4 hperm hk4 hv4
              go_wp2_with fail
              exact ⟨⟨i + 1, v2, hl2, by go_num, by omega, HF4.out⟩, by simp [intOf]; omega⟩
            · have hz1 : ((f : Int) == 0) = false := by simp; omega
              have hz2 : ¬ (f : Int) = 0 := by omega
              have HZ : Hid (¬ f = 0) := hz
              clear hz
              go_wp2_with fail
              refine ⟨⟨i + 1, v, hv, by go_num, by omega, HI.out.1, HI.out.2.1.congr (fun x => ?_), HI.out.2.2⟩, by simp [intOf]; omega⟩
              have h2 := HF.out
              have h3 := HZ.out
              constructor
              · rintro ⟨h4, h5⟩; exact ⟨by omega, h5⟩
              · rintro ⟨h4, h5⟩
                by_cases e : x = i
                · subst e; omega
                · exact ⟨by omega, h5⟩
          · have i1 : ¬ (i : Int) < (n : Int) := by omega
            obtain rfl : n = i := by omega
            clear hPl hOf hkp
            go_wp2_with fail
            go_ret
            have h1 := H1.out
            have hO : Of hv (fun x => x ∈ rds n l (fun _ => 0)) := HI.out.2.1.congr (fun x => by
              rw [rds, List.mem_filter, List.mem_range, rdy_lft]
              exact ⟨fun h => ⟨h.1, rfl, h.2⟩, fun h => ⟨h.1, h.2.2⟩⟩)
            exact ⟨p, rfl, B, g, gl, gt, vs, v, hv, HI.out.1, hO, HI.out.2.2, h1.2.2.2.1, h1.2.2.2.2.1, h1.2.2.2.2.2.1, h1.2.2.2.2.2.2.1⟩
end Go.Proofs.YtlbkfehakomicaaDoor.Dg
