import Derived.Test.YtlajblbfelcalaaScTwo
/-! The document's Cut. -/
namespace Go.Proofs.Ytlajblbfelcalaa
set_option linter.unusedVariables false
set_option maxRecDepth 20000
open Go.RowKit Go.HeapKit

theorem take_succ_at {l : List Int} {k : Nat} {x : Int} (h : l[k]? = some x) : l.take k ++ [x] = l.take (k + 1) := by rw [List.take_add_one, h]; rfl
/-- What stands while the document cuts. -/
structure Rc (w wr : World) (s0 : Nat) (ap ad : Option Addr) (np cp nd cd : Nat) (lp ld : List Int) (v0 v1 : Value) (kf kg : Nat) : Prop where
  b0 : wr.heap[s0]? = some (.cells #[.slice ap np cp, .slice ad nd cd] 37 (0, 0))
  b1 : wr.heap[s0 + 1]? = some (.cells #[.slice none 0 0, .slice none 0 0] 37 (0, 0))
  b2 : wr.heap[s0 + 1 + 1]? = some (.cells #[v0, v1] 37 (0, 0))
  two : TwoR wr (s0 + 1 + 1 + 1) v0 v1 kf kg (lp.take kf) (ld.take kg)
  kp : Keeps None w wr
  o : w.heap.size = s0
  bl : s0 + 1 + 1 + 1 ≤ wr.heap.size
section
variable {w wr w' : World} {s0 : Nat} {ap ad : Option Addr} {np cp nd cd : Nat} {lp ld : List Int} {v0 v1 : Value} {kf kg : Nat}
theorem Rc.set0 (h : Rc w wr s0 ap ad np cp nd cd lp ld v0 v1 kf kg) {u0 : Value} (ht : TwoR w' (s0 + 1 + 1 + 1) u0 v1 (kf + 1) kg (lp.take (kf + 1)) (ld.take kg)) (hk : Keeps (fun i => s0 + 1 + 1 + 1 ≤ i) wr w') : Rc w (w'.setCell ⟨s0 + 1 + 1, 0, none⟩ u0) s0 ap ad np cp nd cd lp ld u0 v1 (kf + 1) kg := by
  have o := h.o
  have hs : Keeps (· = s0 + 1 + 1) w' (w'.setCell ⟨s0 + 1 + 1, 0, none⟩ u0) := Keeps.setCell (S := (· = s0 + 1 + 1)) w' rfl _
  exact ⟨blk_kept (blk_kept h.b0 hk (by omega)) hs (by omega), blk_kept (blk_kept h.b1 hk (by omega)) hs (by omega), blk_set (i := 0) (blk_kept h.b2 hk (by omega)) u0, ht.kept hs (fun g h1 _ _ => by omega), (h.kp.trans hk (fun i e hi => by omega)).trans hs (fun i e hi => by omega), h.o, Nat.le_trans h.bl (Nat.le_trans hk.size hs.size)⟩
theorem Rc.set1 (h : Rc w wr s0 ap ad np cp nd cd lp ld v0 v1 kf kg) {u1 : Value} (ht : TwoR w' (s0 + 1 + 1 + 1) v0 u1 kf (kg + 1) (lp.take kf) (ld.take (kg + 1))) (hk : Keeps (fun i => s0 + 1 + 1 + 1 ≤ i) wr w') : Rc w (w'.setCell ⟨s0 + 1 + 1, 1, none⟩ u1) s0 ap ad np cp nd cd lp ld v0 u1 kf (kg + 1) := by
  have o := h.o
  have hs : Keeps (· = s0 + 1 + 1) w' (w'.setCell ⟨s0 + 1 + 1, 1, none⟩ u1) := Keeps.setCell (S := (· = s0 + 1 + 1)) w' rfl _
  exact ⟨blk_kept (blk_kept h.b0 hk (by omega)) hs (by omega), blk_kept (blk_kept h.b1 hk (by omega)) hs (by omega), blk_set (i := 1) (blk_kept h.b2 hk (by omega)) u1, ht.kept hs (fun g h1 _ _ => by omega), (h.kp.trans hk (fun i e hi => by omega)).trans hs (fun i e hi => by omega), h.o, Nat.le_trans h.bl (Nat.le_trans hk.size hs.size)⟩
end
set_option maxHeartbeats 3200000 in
theorem rcut_any (ap ad : Option Addr) (np cp nd cd : Nat) (n : Int) (lp ld : List Int) (w : World) (hp : SeenN w ap np lp) (hd : SeenN w ad nd ld) (hs : np * 8 ≤ 140737488351232) (hs2 : nd * 8 ≤ 140737488351232) :
    Calls Try.prog 25 #[.agg #[.slice ap np cp, .slice ad nd cd], .int .i64 n] w fun e w' => ∃ v0 v1, e = .returned (.agg #[v0, v1]) ∧ TwoR w' w.heap.size v0 v1 (cutN n np) nd (lp.take (cutN n np)) ld ∧ Keeps None w w' := by
  have HS : Hid (SeenN w ap np lp ∧ SeenN w ad nd ld) := ⟨hp, hd⟩
  have HLD : Hid (nd = ld.length) := hd.len
  have hkn := cutN_le n np
  obtain ⟨k, hk⟩ : ∃ k, k = cutN n np := ⟨_, rfl⟩
  have HK : Hid (k = cutN n np) := hk
  have HKI : Hid ((k : Int) = max 0 (min n (np : Int))) := by rw [hk]; unfold cutN; show _ = _; omega
  rw [← hk] at hkn
  clear hp hd hk
  obtain ⟨s0, hs0⟩ : ∃ s0, s0 = w.heap.size := ⟨_, rfl⟩
  have hb0 := blk_old (blk_new w (.cells #[.slice ap np cp, .slice ad nd cd] 37) s0 hs0.symm) (.cells #[.slice none 0 0, .slice none 0 0] 37)
  have hb1 := blk_new (w.alloc (.cells #[.slice ap np cp, .slice ad nd cd] 37)) (.cells #[.slice none 0 0, .slice none 0 0] 37) (s0 + 1) (by simp; omega)
  have hkb := (keeps1 w (.cells #[.slice ap np cp, .slice ad nd cd] 37)).andAlloc (.cells #[.slice none 0 0, .slice none 0 0] 37)
  have hsz : ((w.alloc (.cells #[.slice ap np cp, .slice ad nd cd] 37)).alloc (.cells #[.slice none 0 0, .slice none 0 0] 37)).heap.size = s0 + 1 + 1 := by simp; omega
  go_enter Try.func25, Try.ntmps25
  go_upto_region 1 with fail
  rw [← hs0]
  generalize (w.alloc (.cells #[.slice ap np cp, .slice ad nd cd] 37)).alloc (.cells #[.slice none 0 0, .slice none 0 0] 37) = wb at *
  have HB : Hid (wb.heap[s0]? = some (.cells #[.slice ap np cp, .slice ad nd cd] 37 (0, 0)) ∧ wb.heap[s0 + 1]? = some (.cells #[.slice none 0 0, .slice none 0 0] 37 (0, 0)) ∧ Keeps None w wb ∧ wb.heap.size = s0 + 1 + 1 ∧ s0 = w.heap.size) := ⟨hb0, hb1, hkb, hsz, hs0⟩
  have c0 : wb.cell? ⟨s0, 0, none⟩ = some (.slice ap np cp) := (blk_cell hb0 0).trans rfl
  clear hb0 hb1 hkb hsz hs0
  go_cut [1] (fun s1 wx => s1 = .int .i64 (k : Int) ∧ wx = wb)
  case first =>
    by_cases h1 : n < (np : Int)
    · by_cases h2 : n < 0
      · have h3 : ¬ (np : Int) < n := by omega
        have h4 : ¬ 0 < n := by omega
        have hk0 : k = 0 := by have := HKI.out; omega
        subst hk0
        go_wp2_with fail
        all_goals go_meet
        all_goals exact ⟨by first | rfl | (exfalso; omega), rfl⟩
      · have h3 : ¬ (np : Int) < n := by omega
        have hkn2 : n = (k : Int) := by have := HKI.out; omega
        subst hkn2
        go_wp2_with fail
        all_goals go_meet
        all_goals exact ⟨by first | rfl | (congr 1; omega), rfl⟩
    · have hkn2 : k = np := by have := HKI.out; omega
      subst hkn2
      go_wp2_with fail
      all_goals go_meet
      all_goals exact ⟨by first | rfl | (congr 1; omega), rfl⟩
  case rest =>
  obtain ⟨rfl, hwc⟩ := hcut
  have hwc2 := hwc.symm
  subst hwc2
  clear hwc c0
  have HR0 : Hid (Rc w (wb.alloc (.cells #[.slice none 0 0, .slice none 0 0] 37)) s0 ap ad np cp nd cd lp ld (.slice none 0 0) (.slice none 0 0) 0 0) := by
    have e := HB.out
    exact ⟨blk_old e.1 _, blk_old e.2.1 _, blk_new _ _ _ e.2.2.2.1, ⟨by simpa [iv] using row_nil _ _ _ _, by simpa [iv] using row_nil _ _ _ _, fun g h => by simp [Value.ownBlock] at h⟩, e.2.2.1.andAlloc _, e.2.2.2.2.symm, by simp; omega⟩
  have hsz := HB.out.2.2.2.1
  go_upto_region 3 with fail
  generalize wb.alloc (.cells #[.slice none 0 0, .slice none 0 0] 37) = wd at *
  clear hsz HB
  go_wp2_with fail
  go_loopw [6] (fun s6 wq => ∃ (i : Nat) (v0 : Value), s6 = .int .i64 i ∧ i ≤ k ∧ Rc w wq s0 ap ad np cp nd cd lp ld v0 (.slice none 0 0) i 0) (fun s6 _ => k - (intOf s6).toNat)
  case atStart => exact ⟨0, _, rfl, Nat.zero_le _, HR0.out⟩
  case round =>
    obtain ⟨i, v0, rfl, hi, hR⟩ := hrel
    obtain ⟨a0, q0, rfl⟩ := row_shape hR.two.r0
    have HR : Hid (Rc w wr s0 ap ad np cp nd cd lp ld (.slice a0 i q0) (.slice none 0 0) i 0) := hR
    clear hR
    by_cases hik : i < k
    · obtain ⟨b, off, x, rfl, he, c1⟩ := (HS.out.1.more HR.out.kp).at (k := i) (by omega)
      have j1 : (i : Int) < (k : Int) := by omega
      have j2 : (i : Int) < (np : Int) := by omega
      have n0 : ¬ np = 0 := by omega
      have d0 : wr.cell? ⟨s0, 0, none⟩ = some (.slice (some ⟨b, off, none⟩) np cp) := (blk_cell HR.out.b0 0).trans rfl
      have d1 : wr.cell? ⟨s0 + 1 + 1, 0, none⟩ = some (.slice a0 i q0) := (blk_cell HR.out.b2 0).trans rfl
      have d2 : (wr.alloc (.cells #[.int .i64 x] 3)).cell? ⟨s0 + 1 + 1, 0, none⟩ = some (.slice a0 i q0) := (blk_cell (blk_old HR.out.b2 _) 0).trans rfl
      have hDk : Keeps None wr (wr.drew.alloc (.cells #[.int .i64 x] 3)) := (Keeps.drew None _).andAlloc _
      obtain ⟨g, cq, w3, hr, ht, hk3⟩ := HR.out.two.app0 x (wr.drew.alloc (.cells #[.int .i64 x] 3)) hDk wr.heap.size (blk_new _ _ _ rfl) HR.out.bl (by omega) 25
      rw [take_succ_at he] at ht
      have HR5 : Hid (Rc w (w3.setCell ⟨s0 + 1 + 1, 0, none⟩ (.slice (some ⟨g, 0, none⟩) (i + 1) cq)) s0 (some ⟨b, off, none⟩) ad np cp nd cd lp ld (.slice (some ⟨g, 0, none⟩) (i + 1) cq) (.slice none 0 0) (i + 1) 0) := HR.out.set0 ht hk3
      have b3 := blk_kept HR.out.b2 hk3 (by omega)
      have y2 : w3.cell? ⟨s0 + 1 + 1, 0, none⟩ = some (.slice a0 i q0) := (blk_cell b3 0).trans rfl
      have y3 := blk_free b3 0
      clear ht hk3 b3 hDk he
      go_upto_region 6 with fail
      refine wp_region_held_drew (S := (fun w' => True)) (by kernel_rfl) ?_ (fun hHeld => ?_)
      · (try dsimp only); try trivial
      refine wpAnyH_take (i := 0) (oi := { dst := some 19, op := Op.fieldAddr 37 (Operand.tmp 5) 0, type := 0, pos := "script.go:168", after := #[], guard := none }) (v := ?_) rfl (by kernel_rfl) (by kernel_rfl) (by kernel_rfl) (fun _ _ _ h => h) (Or.inl ⟨by rfl, ?_⟩) (by assumption) ?_
      rotate_left
      · (intro wz hSw; (try dsimp only at hSw); go_simp; try with_reducible rfl)
      simp only [Act.put, List.setIfInBounds_toArray, List.set_cons_zero, List.set_cons_succ]
      refine wpAnyH_take (i := 2) (oi := { dst := some 21, op := Op.fieldAddr 37 (Operand.tmp 2) 0, type := 0, pos := "script.go:168", after := #[], guard := none }) (v := ?_) rfl (by kernel_rfl) (by kernel_rfl) (by kernel_rfl) (fun _ _ _ h => h) (Or.inl ⟨by rfl, ?_⟩) (by assumption) ?_
      rotate_left
      · (intro wz hSw; (try dsimp only at hSw); go_simp; try with_reducible rfl)
      simp only [Act.put, List.setIfInBounds_toArray, List.set_cons_zero, List.set_cons_succ]
      refine wpAnyH_take (i := 4) (oi := { dst := some 23, op := Op.move (Operand.tmp 6), type := 3, pos := "script.go:168", after := #[], guard := none }) (v := ?_) rfl (by kernel_rfl) (by kernel_rfl) (by kernel_rfl) (fun _ _ _ h => h) (Or.inl ⟨by rfl, ?_⟩) (by assumption) ?_
      rotate_left
      · (intro wz hSw; (try dsimp only at hSw); go_simp; try with_reducible rfl)
      simp only [Act.put, List.setIfInBounds_toArray, List.set_cons_zero, List.set_cons_succ]
      refine wpAnyH_ready (rs := [1, 3]) (by kernel_rfl) (by simp) ?_
      refine AllReadyH.cons (o := { dst := some 20, op := Op.load 25 (Operand.tmp 19), type := 25, pos := "script.go:168", after := #[{ on := 0, ground := Ground.data }], guard := none }) rfl (fun K hK => ?_) ?_
      · go_simp
        refine hK.out _ _ ?_ (fun hHeld2 => ?_)
        · (try dsimp only); try trivial
        clear hK K
        try simp only [Act.put, List.setIfInBounds_toArray, List.set_cons_zero, List.set_cons_succ]
        refine wpAnyH_ready (rs := [3]) (by kernel_rfl) (by simp) ?_
        refine AllReadyH.cons (o := { dst := some 22, op := Op.load 25 (Operand.tmp 21), type := 25, pos := "script.go:168", after := #[{ on := 2, ground := Ground.data }], guard := none }) rfl (fun K hK => ?_) ?_
        · go_simp
          refine hK.out _ _ ?_ (fun hHeld2 => ?_)
          · (try dsimp only); try trivial
          clear hK K
          try simp only [Act.put, List.setIfInBounds_toArray, List.set_cons_zero, List.set_cons_succ]
          refine wpAnyH_take (i := 5) (oi := { dst := some 24, op := Op.indexAddr 25 (Operand.tmp 22) (Operand.tmp 23), type := 0, pos := "script.go:168", after := #[{ on := 3, ground := Ground.data }, { on := 4, ground := Ground.data }], guard := none }) (v := ?_) rfl (by kernel_rfl) (by kernel_rfl) (by kernel_rfl) (fun _ _ _ h => h) (Or.inl ⟨by rfl, ?_⟩) (by assumption) ?_
          rotate_left
          · (intro wz hSw; (try dsimp only at hSw); go_simp; try with_reducible rfl)
          simp only [Act.put, List.setIfInBounds_toArray, List.set_cons_zero, List.set_cons_succ]
          refine wpAnyH_ready (rs := [6]) (by kernel_rfl) (by simp) ?_
          refine AllReadyH.cons (o := { dst := some 25, op := Op.load 3 (Operand.tmp 24), type := 3, pos := "script.go:168", after := #[{ on := 5, ground := Ground.data }], guard := none }) rfl (fun K hK => ?_) ?_
          · go_simp
            refine hK.out _ _ ?_ (fun hHeld2 => ?_)
            · (try dsimp only); try trivial
            clear hK K
            try simp only [Act.put, List.setIfInBounds_toArray, List.set_cons_zero, List.set_cons_succ]
            refine wpAnyH_ready (rs := [7]) (by kernel_rfl) (by simp) ?_
            refine AllReadyH.cons (o := { dst := some 26, op := Op.buildSlice 25 1 #[(0, Operand.tmp 25)], type := 25, pos := "script.go:168", after := #[{ on := 6, ground := Ground.data }], guard := none }) rfl (fun K hK => ?_) ?_
            · go_simp
              refine hK.out _ _ ?_ (fun hHeld2 => ?_)
              · (try dsimp only); try trivial
              clear hK K
              try simp only [Act.put, List.setIfInBounds_toArray, List.set_cons_zero, List.set_cons_succ]
              refine wpAnyH_ready (rs := [8]) (by kernel_rfl) (by simp) ?_
              refine AllReadyH.cons (o := { dst := some 27, op := Op.call { callee := Callee.builtin Builtin.append, args := #[Operand.tmp 20, Operand.tmp 26], argTypes := #[25, 25] }, type := 25, pos := "script.go:168", after := #[{ on := 1, ground := Ground.data }, { on := 7, ground := Ground.data }], guard := none }) rfl (fun K hK => ?_) ?_
              · refine step_append_run rfl (.tmp 20) (.tmp 26) 25 25 rfl (by simp [Act.eval]) (by simp [Act.eval]) hr ?_
                refine hK.out _ _ ?_ (fun hHeld2 => ?_)
                · (try dsimp only); try trivial
                clear hK K
                try simp only [Act.put, List.setIfInBounds_toArray, List.set_cons_zero, List.set_cons_succ]
                refine wpAnyH_take (i := 9) (oi := { dst := some 28, op := Op.fieldAddr 37 (Operand.tmp 5) 0, type := 0, pos := "script.go:168", after := #[{ on := 0, ground := Ground.phase }, { on := 1, ground := Ground.phase }, { on := 2, ground := Ground.phase }, { on := 3, ground := Ground.phase }, { on := 4, ground := Ground.phase }, { on := 5, ground := Ground.phase }, { on := 6, ground := Ground.phase }, { on := 7, ground := Ground.phase }, { on := 8, ground := Ground.phase }], guard := none }) (v := ?_) rfl (by kernel_rfl) (by kernel_rfl) (by kernel_rfl) (fun _ _ _ h => h) (Or.inl ⟨by rfl, ?_⟩) (by assumption) ?_
                rotate_left
                · (intro wz hSw; (try dsimp only at hSw); go_simp; try with_reducible rfl)
                simp only [Act.put, List.setIfInBounds_toArray, List.set_cons_zero, List.set_cons_succ]
                refine wpAnyH_ready (rs := [10]) (by kernel_rfl) (by simp) ?_
                refine AllReadyH.cons (o := { dst := none, op := Op.store 25 (Operand.tmp 28) (Operand.tmp 27), type := 0, pos := "script.go:168", after := #[{ on := 9, ground := Ground.data }, { on := 8, ground := Ground.data }, { on := 8, ground := Ground.chain }, { on := 0, ground := Ground.phase }, { on := 1, ground := Ground.phase }, { on := 2, ground := Ground.phase }, { on := 3, ground := Ground.phase }, { on := 4, ground := Ground.phase }, { on := 5, ground := Ground.phase }, { on := 6, ground := Ground.phase }, { on := 7, ground := Ground.phase }, { on := 8, ground := Ground.phase }], guard := none }) rfl (fun K hK => ?_) ?_
                · go_simp
                  refine hK.out _ _ ?_ (fun hHeld2 => ?_)
                  · (try dsimp only); try trivial
                  clear hK K
                  try simp only [Act.put, List.setIfInBounds_toArray, List.set_cons_zero, List.set_cons_succ]
                  refine wpAnyH_done (by kernel_rfl) ?_ _
                  go_wp2_with fail
                  exact ⟨⟨i + 1, _, by go_num, by omega, HR5.out⟩, by simp [intOf]; omega⟩
                exact AllReadyH.nil
              exact AllReadyH.nil
            exact AllReadyH.nil
          exact AllReadyH.nil
        exact AllReadyH.nil
      refine AllReadyH.cons (o := { dst := some 22, op := Op.load 25 (Operand.tmp 21), type := 25, pos := "script.go:168", after := #[{ on := 2, ground := Ground.data }], guard := none }) rfl (fun K hK => ?_) ?_
      · go_simp
        refine hK.out _ _ ?_ (fun hHeld2 => ?_)
        · (try dsimp only); try trivial
        clear hK K
        try simp only [Act.put, List.setIfInBounds_toArray, List.set_cons_zero, List.set_cons_succ]
        refine wpAnyH_take (i := 5) (oi := { dst := some 24, op := Op.indexAddr 25 (Operand.tmp 22) (Operand.tmp 23), type := 0, pos := "script.go:168", after := #[{ on := 3, ground := Ground.data }, { on := 4, ground := Ground.data }], guard := none }) (v := ?_) rfl (by kernel_rfl) (by kernel_rfl) (by kernel_rfl) (fun _ _ _ h => h) (Or.inl ⟨by rfl, ?_⟩) (by assumption) ?_
        rotate_left
        · (intro wz hSw; (try dsimp only at hSw); go_simp; try with_reducible rfl)
        simp only [Act.put, List.setIfInBounds_toArray, List.set_cons_zero, List.set_cons_succ]
        refine wpAnyH_ready (rs := [1, 6]) (by kernel_rfl) (by simp) ?_
        refine AllReadyH.cons (o := { dst := some 20, op := Op.load 25 (Operand.tmp 19), type := 25, pos := "script.go:168", after := #[{ on := 0, ground := Ground.data }], guard := none }) rfl (fun K hK => ?_) ?_
        · go_simp
          refine hK.out _ _ ?_ (fun hHeld2 => ?_)
          · (try dsimp only); try trivial
          clear hK K
          try simp only [Act.put, List.setIfInBounds_toArray, List.set_cons_zero, List.set_cons_succ]
          refine wpAnyH_ready (rs := [6]) (by kernel_rfl) (by simp) ?_
          refine AllReadyH.cons (o := { dst := some 25, op := Op.load 3 (Operand.tmp 24), type := 3, pos := "script.go:168", after := #[{ on := 5, ground := Ground.data }], guard := none }) rfl (fun K hK => ?_) ?_
          · go_simp
            refine hK.out _ _ ?_ (fun hHeld2 => ?_)
            · (try dsimp only); try trivial
            clear hK K
            try simp only [Act.put, List.setIfInBounds_toArray, List.set_cons_zero, List.set_cons_succ]
            refine wpAnyH_ready (rs := [7]) (by kernel_rfl) (by simp) ?_
            refine AllReadyH.cons (o := { dst := some 26, op := Op.buildSlice 25 1 #[(0, Operand.tmp 25)], type := 25, pos := "script.go:168", after := #[{ on := 6, ground := Ground.data }], guard := none }) rfl (fun K hK => ?_) ?_
            · go_simp
              refine hK.out _ _ ?_ (fun hHeld2 => ?_)
              · (try dsimp only); try trivial
              clear hK K
              try simp only [Act.put, List.setIfInBounds_toArray, List.set_cons_zero, List.set_cons_succ]
              refine wpAnyH_ready (rs := [8]) (by kernel_rfl) (by simp) ?_
              refine AllReadyH.cons (o := { dst := some 27, op := Op.call { callee := Callee.builtin Builtin.append, args := #[Operand.tmp 20, Operand.tmp 26], argTypes := #[25, 25] }, type := 25, pos := "script.go:168", after := #[{ on := 1, ground := Ground.data }, { on := 7, ground := Ground.data }], guard := none }) rfl (fun K hK => ?_) ?_
              · refine step_append_run rfl (.tmp 20) (.tmp 26) 25 25 rfl (by simp [Act.eval]) (by simp [Act.eval]) hr ?_
                refine hK.out _ _ ?_ (fun hHeld2 => ?_)
                · (try dsimp only); try trivial
                clear hK K
                try simp only [Act.put, List.setIfInBounds_toArray, List.set_cons_zero, List.set_cons_succ]
                refine wpAnyH_take (i := 9) (oi := { dst := some 28, op := Op.fieldAddr 37 (Operand.tmp 5) 0, type := 0, pos := "script.go:168", after := #[{ on := 0, ground := Ground.phase }, { on := 1, ground := Ground.phase }, { on := 2, ground := Ground.phase }, { on := 3, ground := Ground.phase }, { on := 4, ground := Ground.phase }, { on := 5, ground := Ground.phase }, { on := 6, ground := Ground.phase }, { on := 7, ground := Ground.phase }, { on := 8, ground := Ground.phase }], guard := none }) (v := ?_) rfl (by kernel_rfl) (by kernel_rfl) (by kernel_rfl) (fun _ _ _ h => h) (Or.inl ⟨by rfl, ?_⟩) (by assumption) ?_
                rotate_left
                · (intro wz hSw; (try dsimp only at hSw); go_simp; try with_reducible rfl)
                simp only [Act.put, List.setIfInBounds_toArray, List.set_cons_zero, List.set_cons_succ]
                refine wpAnyH_ready (rs := [10]) (by kernel_rfl) (by simp) ?_
                refine AllReadyH.cons (o := { dst := none, op := Op.store 25 (Operand.tmp 28) (Operand.tmp 27), type := 0, pos := "script.go:168", after := #[{ on := 9, ground := Ground.data }, { on := 8, ground := Ground.data }, { on := 8, ground := Ground.chain }, { on := 0, ground := Ground.phase }, { on := 1, ground := Ground.phase }, { on := 2, ground := Ground.phase }, { on := 3, ground := Ground.phase }, { on := 4, ground := Ground.phase }, { on := 5, ground := Ground.phase }, { on := 6, ground := Ground.phase }, { on := 7, ground := Ground.phase }, { on := 8, ground := Ground.phase }], guard := none }) rfl (fun K hK => ?_) ?_
                · go_simp
                  refine hK.out _ _ ?_ (fun hHeld2 => ?_)
                  · (try dsimp only); try trivial
                  clear hK K
                  try simp only [Act.put, List.setIfInBounds_toArray, List.set_cons_zero, List.set_cons_succ]
                  refine wpAnyH_done (by kernel_rfl) ?_ _
                  go_wp2_with fail
                  exact ⟨⟨i + 1, _, by go_num, by omega, HR5.out⟩, by simp [intOf]; omega⟩
                exact AllReadyH.nil
              exact AllReadyH.nil
            exact AllReadyH.nil
          exact AllReadyH.nil
        refine AllReadyH.cons (o := { dst := some 25, op := Op.load 3 (Operand.tmp 24), type := 3, pos := "script.go:168", after := #[{ on := 5, ground := Ground.data }], guard := none }) rfl (fun K hK => ?_) ?_
        · go_simp
          refine hK.out _ _ ?_ (fun hHeld2 => ?_)
          · (try dsimp only); try trivial
          clear hK K
          try simp only [Act.put, List.setIfInBounds_toArray, List.set_cons_zero, List.set_cons_succ]
          refine wpAnyH_ready (rs := [1, 7]) (by kernel_rfl) (by simp) ?_
          refine AllReadyH.cons (o := { dst := some 20, op := Op.load 25 (Operand.tmp 19), type := 25, pos := "script.go:168", after := #[{ on := 0, ground := Ground.data }], guard := none }) rfl (fun K hK => ?_) ?_
          · go_simp
            refine hK.out _ _ ?_ (fun hHeld2 => ?_)
            · (try dsimp only); try trivial
            clear hK K
            try simp only [Act.put, List.setIfInBounds_toArray, List.set_cons_zero, List.set_cons_succ]
            refine wpAnyH_ready (rs := [7]) (by kernel_rfl) (by simp) ?_
            refine AllReadyH.cons (o := { dst := some 26, op := Op.buildSlice 25 1 #[(0, Operand.tmp 25)], type := 25, pos := "script.go:168", after := #[{ on := 6, ground := Ground.data }], guard := none }) rfl (fun K hK => ?_) ?_
            · go_simp
              refine hK.out _ _ ?_ (fun hHeld2 => ?_)
              · (try dsimp only); try trivial
              clear hK K
              try simp only [Act.put, List.setIfInBounds_toArray, List.set_cons_zero, List.set_cons_succ]
              refine wpAnyH_ready (rs := [8]) (by kernel_rfl) (by simp) ?_
              refine AllReadyH.cons (o := { dst := some 27, op := Op.call { callee := Callee.builtin Builtin.append, args := #[Operand.tmp 20, Operand.tmp 26], argTypes := #[25, 25] }, type := 25, pos := "script.go:168", after := #[{ on := 1, ground := Ground.data }, { on := 7, ground := Ground.data }], guard := none }) rfl (fun K hK => ?_) ?_
              · refine step_append_run rfl (.tmp 20) (.tmp 26) 25 25 rfl (by simp [Act.eval]) (by simp [Act.eval]) hr ?_
                refine hK.out _ _ ?_ (fun hHeld2 => ?_)
                · (try dsimp only); try trivial
                clear hK K
                try simp only [Act.put, List.setIfInBounds_toArray, List.set_cons_zero, List.set_cons_succ]
                refine wpAnyH_take (i := 9) (oi := { dst := some 28, op := Op.fieldAddr 37 (Operand.tmp 5) 0, type := 0, pos := "script.go:168", after := #[{ on := 0, ground := Ground.phase }, { on := 1, ground := Ground.phase }, { on := 2, ground := Ground.phase }, { on := 3, ground := Ground.phase }, { on := 4, ground := Ground.phase }, { on := 5, ground := Ground.phase }, { on := 6, ground := Ground.phase }, { on := 7, ground := Ground.phase }, { on := 8, ground := Ground.phase }], guard := none }) (v := ?_) rfl (by kernel_rfl) (by kernel_rfl) (by kernel_rfl) (fun _ _ _ h => h) (Or.inl ⟨by rfl, ?_⟩) (by assumption) ?_
                rotate_left
                · (intro wz hSw; (try dsimp only at hSw); go_simp; try with_reducible rfl)
                simp only [Act.put, List.setIfInBounds_toArray, List.set_cons_zero, List.set_cons_succ]
                refine wpAnyH_ready (rs := [10]) (by kernel_rfl) (by simp) ?_
                refine AllReadyH.cons (o := { dst := none, op := Op.store 25 (Operand.tmp 28) (Operand.tmp 27), type := 0, pos := "script.go:168", after := #[{ on := 9, ground := Ground.data }, { on := 8, ground := Ground.data }, { on := 8, ground := Ground.chain }, { on := 0, ground := Ground.phase }, { on := 1, ground := Ground.phase }, { on := 2, ground := Ground.phase }, { on := 3, ground := Ground.phase }, { on := 4, ground := Ground.phase }, { on := 5, ground := Ground.phase }, { on := 6, ground := Ground.phase }, { on := 7, ground := Ground.phase }, { on := 8, ground := Ground.phase }], guard := none }) rfl (fun K hK => ?_) ?_
                · go_simp
                  refine hK.out _ _ ?_ (fun hHeld2 => ?_)
                  · (try dsimp only); try trivial
                  clear hK K
                  try simp only [Act.put, List.setIfInBounds_toArray, List.set_cons_zero, List.set_cons_succ]
                  refine wpAnyH_done (by kernel_rfl) ?_ _
                  go_wp2_with fail
                  exact ⟨⟨i + 1, _, by go_num, by omega, HR5.out⟩, by simp [intOf]; omega⟩
                exact AllReadyH.nil
              exact AllReadyH.nil
            exact AllReadyH.nil
          refine AllReadyH.cons (o := { dst := some 26, op := Op.buildSlice 25 1 #[(0, Operand.tmp 25)], type := 25, pos := "script.go:168", after := #[{ on := 6, ground := Ground.data }], guard := none }) rfl (fun K hK => ?_) ?_
          · go_simp
            refine hK.out _ _ ?_ (fun hHeld2 => ?_)
            · (try dsimp only); try trivial
            clear hK K
            try simp only [Act.put, List.setIfInBounds_toArray, List.set_cons_zero, List.set_cons_succ]
            refine wpAnyH_ready (rs := [1]) (by kernel_rfl) (by simp) ?_
            refine AllReadyH.cons (o := { dst := some 20, op := Op.load 25 (Operand.tmp 19), type := 25, pos := "script.go:168", after := #[{ on := 0, ground := Ground.data }], guard := none }) rfl (fun K hK => ?_) ?_
            · go_simp
              refine hK.out _ _ ?_ (fun hHeld2 => ?_)
              · (try dsimp only); try trivial
              clear hK K
              try simp only [Act.put, List.setIfInBounds_toArray, List.set_cons_zero, List.set_cons_succ]
              refine wpAnyH_ready (rs := [8]) (by kernel_rfl) (by simp) ?_
              refine AllReadyH.cons (o := { dst := some 27, op := Op.call { callee := Callee.builtin Builtin.append, args := #[Operand.tmp 20, Operand.tmp 26], argTypes := #[25, 25] }, type := 25, pos := "script.go:168", after := #[{ on := 1, ground := Ground.data }, { on := 7, ground := Ground.data }], guard := none }) rfl (fun K hK => ?_) ?_
              · refine step_append_run rfl (.tmp 20) (.tmp 26) 25 25 rfl (by simp [Act.eval]) (by simp [Act.eval]) hr ?_
                refine hK.out _ _ ?_ (fun hHeld2 => ?_)
                · (try dsimp only); try trivial
                clear hK K
                try simp only [Act.put, List.setIfInBounds_toArray, List.set_cons_zero, List.set_cons_succ]
                refine wpAnyH_take (i := 9) (oi := { dst := some 28, op := Op.fieldAddr 37 (Operand.tmp 5) 0, type := 0, pos := "script.go:168", after := #[{ on := 0, ground := Ground.phase }, { on := 1, ground := Ground.phase }, { on := 2, ground := Ground.phase }, { on := 3, ground := Ground.phase }, { on := 4, ground := Ground.phase }, { on := 5, ground := Ground.phase }, { on := 6, ground := Ground.phase }, { on := 7, ground := Ground.phase }, { on := 8, ground := Ground.phase }], guard := none }) (v := ?_) rfl (by kernel_rfl) (by kernel_rfl) (by kernel_rfl) (fun _ _ _ h => h) (Or.inl ⟨by rfl, ?_⟩) (by assumption) ?_
                rotate_left
                · (intro wz hSw; (try dsimp only at hSw); go_simp; try with_reducible rfl)
                simp only [Act.put, List.setIfInBounds_toArray, List.set_cons_zero, List.set_cons_succ]
                refine wpAnyH_ready (rs := [10]) (by kernel_rfl) (by simp) ?_
                refine AllReadyH.cons (o := { dst := none, op := Op.store 25 (Operand.tmp 28) (Operand.tmp 27), type := 0, pos := "script.go:168", after := #[{ on := 9, ground := Ground.data }, { on := 8, ground := Ground.data }, { on := 8, ground := Ground.chain }, { on := 0, ground := Ground.phase }, { on := 1, ground := Ground.phase }, { on := 2, ground := Ground.phase }, { on := 3, ground := Ground.phase }, { on := 4, ground := Ground.phase }, { on := 5, ground := Ground.phase }, { on := 6, ground := Ground.phase }, { on := 7, ground := Ground.phase }, { on := 8, ground := Ground.phase }], guard := none }) rfl (fun K hK => ?_) ?_
                · go_simp
                  refine hK.out _ _ ?_ (fun hHeld2 => ?_)
                  · (try dsimp only); try trivial
                  clear hK K
                  try simp only [Act.put, List.setIfInBounds_toArray, List.set_cons_zero, List.set_cons_succ]
                  refine wpAnyH_done (by kernel_rfl) ?_ _
                  go_wp2_with fail
                  exact ⟨⟨i + 1, _, by go_num, by omega, HR5.out⟩, by simp [intOf]; omega⟩
                exact AllReadyH.nil
              exact AllReadyH.nil
            exact AllReadyH.nil
          exact AllReadyH.nil
        exact AllReadyH.nil
      exact AllReadyH.nil
    · have j1 : ¬ (i : Int) < (k : Int) := by omega
      obtain rfl : i = k := by omega
      go_wp2_with fail
      go_loopw [7] (fun s7 wq => ∃ (j : Nat) (v1 : Value), s7 = .int .i64 j ∧ j ≤ nd ∧ Rc w wq s0 ap ad np cp nd cd lp ld (.slice a0 i q0) v1 i j) (fun s7 _ => nd - (intOf s7).toNat)
      case atStart => exact ⟨0, _, rfl, Nat.zero_le _, HR.out⟩
      case round =>
        obtain ⟨j, v1, rfl, hj, hR⟩ := hrel
        obtain ⟨a1, q1, rfl⟩ := row_shape hR.two.r1
        have HR2 : Hid (Rc w wr s0 ap ad np cp nd cd lp ld (.slice a0 i q0) (.slice a1 j q1) i j) := hR
        clear hR
        by_cases hjn : j < nd
        · obtain ⟨b, off, x, rfl, he, c1⟩ := (HS.out.2.more HR2.out.kp).at (k := j) hjn
          have k1 : (j : Int) < (nd : Int) := by omega
          have n0 : ¬ nd = 0 := by omega
          have d0 : wr.cell? ⟨s0, 1, none⟩ = some (.slice (some ⟨b, off, none⟩) nd cd) := (blk_cell HR2.out.b0 1).trans rfl
          have d1 : wr.cell? ⟨s0 + 1 + 1, 1, none⟩ = some (.slice a1 j q1) := (blk_cell HR2.out.b2 1).trans rfl
          have d2 : (wr.alloc (.cells #[.int .i64 x] 3)).cell? ⟨s0 + 1 + 1, 1, none⟩ = some (.slice a1 j q1) := (blk_cell (blk_old HR2.out.b2 _) 1).trans rfl
          have hDk : Keeps None wr (wr.drew.alloc (.cells #[.int .i64 x] 3)) := (Keeps.drew None _).andAlloc _
          obtain ⟨g, cq, w3, hr, ht, hk3⟩ := HR2.out.two.app1 x (wr.drew.alloc (.cells #[.int .i64 x] 3)) hDk wr.heap.size (blk_new _ _ _ rfl) HR2.out.bl (by omega) 25
          rw [take_succ_at he] at ht
          have HR5 : Hid (Rc w (w3.setCell ⟨s0 + 1 + 1, 1, none⟩ (.slice (some ⟨g, 0, none⟩) (j + 1) cq)) s0 ap (some ⟨b, off, none⟩) np cp nd cd lp ld (.slice a0 i q0) (.slice (some ⟨g, 0, none⟩) (j + 1) cq) i (j + 1)) := HR2.out.set1 ht hk3
          have b3 := blk_kept HR2.out.b2 hk3 (by omega)
          have y2 : w3.cell? ⟨s0 + 1 + 1, 1, none⟩ = some (.slice a1 j q1) := (blk_cell b3 1).trans rfl
          have y3 := blk_free b3 1
          clear ht hk3 b3 hDk he
          go_upto_region 10 with fail
          refine wp_region_held_drew (S := (fun w' => True)) (by kernel_rfl) ?_ (fun hHeld => ?_)
          · (try dsimp only); try trivial
          refine wpAnyH_take (i := 0) (oi := { dst := some 36, op := Op.fieldAddr 37 (Operand.tmp 5) 1, type := 0, pos := "script.go:171", after := #[], guard := none }) (v := ?_) rfl (by kernel_rfl) (by kernel_rfl) (by kernel_rfl) (fun _ _ _ h => h) (Or.inl ⟨by rfl, ?_⟩) (by assumption) ?_
          rotate_left
          · (intro wz hSw; (try dsimp only at hSw); go_simp; try with_reducible rfl)
          simp only [Act.put, List.setIfInBounds_toArray, List.set_cons_zero, List.set_cons_succ]
          refine wpAnyH_take (i := 2) (oi := { dst := some 38, op := Op.fieldAddr 37 (Operand.tmp 2) 1, type := 0, pos := "script.go:171", after := #[], guard := none }) (v := ?_) rfl (by kernel_rfl) (by kernel_rfl) (by kernel_rfl) (fun _ _ _ h => h) (Or.inl ⟨by rfl, ?_⟩) (by assumption) ?_
          rotate_left
          · (intro wz hSw; (try dsimp only at hSw); go_simp; try with_reducible rfl)
          simp only [Act.put, List.setIfInBounds_toArray, List.set_cons_zero, List.set_cons_succ]
          refine wpAnyH_take (i := 4) (oi := { dst := some 40, op := Op.move (Operand.tmp 7), type := 3, pos := "script.go:171", after := #[], guard := none }) (v := ?_) rfl (by kernel_rfl) (by kernel_rfl) (by kernel_rfl) (fun _ _ _ h => h) (Or.inl ⟨by rfl, ?_⟩) (by assumption) ?_
          rotate_left
          · (intro wz hSw; (try dsimp only at hSw); go_simp; try with_reducible rfl)
          simp only [Act.put, List.setIfInBounds_toArray, List.set_cons_zero, List.set_cons_succ]
          refine wpAnyH_ready (rs := [1, 3]) (by kernel_rfl) (by simp) ?_
          refine AllReadyH.cons (o := { dst := some 37, op := Op.load 25 (Operand.tmp 36), type := 25, pos := "script.go:171", after := #[{ on := 0, ground := Ground.data }], guard := none }) rfl (fun K hK => ?_) ?_
          · go_simp
            refine hK.out _ _ ?_ (fun hHeld2 => ?_)
            · (try dsimp only); try trivial
            clear hK K
            try simp only [Act.put, List.setIfInBounds_toArray, List.set_cons_zero, List.set_cons_succ]
            refine wpAnyH_ready (rs := [3]) (by kernel_rfl) (by simp) ?_
            refine AllReadyH.cons (o := { dst := some 39, op := Op.load 25 (Operand.tmp 38), type := 25, pos := "script.go:171", after := #[{ on := 2, ground := Ground.data }], guard := none }) rfl (fun K hK => ?_) ?_
            · go_simp
              refine hK.out _ _ ?_ (fun hHeld2 => ?_)
              · (try dsimp only); try trivial
              clear hK K
              try simp only [Act.put, List.setIfInBounds_toArray, List.set_cons_zero, List.set_cons_succ]
              refine wpAnyH_take (i := 5) (oi := { dst := some 41, op := Op.indexAddr 25 (Operand.tmp 39) (Operand.tmp 40), type := 0, pos := "script.go:171", after := #[{ on := 3, ground := Ground.data }, { on := 4, ground := Ground.data }], guard := none }) (v := ?_) rfl (by kernel_rfl) (by kernel_rfl) (by kernel_rfl) (fun _ _ _ h => h) (Or.inl ⟨by rfl, ?_⟩) (by assumption) ?_
              rotate_left
              · (intro wz hSw; (try dsimp only at hSw); go_simp; try with_reducible rfl)
              simp only [Act.put, List.setIfInBounds_toArray, List.set_cons_zero, List.set_cons_succ]
              refine wpAnyH_ready (rs := [6]) (by kernel_rfl) (by simp) ?_
              refine AllReadyH.cons (o := { dst := some 42, op := Op.load 3 (Operand.tmp 41), type := 3, pos := "script.go:171", after := #[{ on := 5, ground := Ground.data }], guard := none }) rfl (fun K hK => ?_) ?_
              · go_simp
                refine hK.out _ _ ?_ (fun hHeld2 => ?_)
                · (try dsimp only); try trivial
                clear hK K
                try simp only [Act.put, List.setIfInBounds_toArray, List.set_cons_zero, List.set_cons_succ]
                refine wpAnyH_ready (rs := [7]) (by kernel_rfl) (by simp) ?_
                refine AllReadyH.cons (o := { dst := some 43, op := Op.buildSlice 25 1 #[(0, Operand.tmp 42)], type := 25, pos := "script.go:171", after := #[{ on := 6, ground := Ground.data }], guard := none }) rfl (fun K hK => ?_) ?_
                · go_simp
                  refine hK.out _ _ ?_ (fun hHeld2 => ?_)
                  · (try dsimp only); try trivial
                  clear hK K
                  try simp only [Act.put, List.setIfInBounds_toArray, List.set_cons_zero, List.set_cons_succ]
                  refine wpAnyH_ready (rs := [8]) (by kernel_rfl) (by simp) ?_
                  refine AllReadyH.cons (o := { dst := some 44, op := Op.call { callee := Callee.builtin Builtin.append, args := #[Operand.tmp 37, Operand.tmp 43], argTypes := #[25, 25] }, type := 25, pos := "script.go:171", after := #[{ on := 1, ground := Ground.data }, { on := 7, ground := Ground.data }], guard := none }) rfl (fun K hK => ?_) ?_
                  · refine step_append_run rfl (.tmp 37) (.tmp 43) 25 25 rfl (by simp [Act.eval]) (by simp [Act.eval]) hr ?_
                    refine hK.out _ _ ?_ (fun hHeld2 => ?_)
                    · (try dsimp only); try trivial
                    clear hK K
                    try simp only [Act.put, List.setIfInBounds_toArray, List.set_cons_zero, List.set_cons_succ]
                    refine wpAnyH_take (i := 9) (oi := { dst := some 45, op := Op.fieldAddr 37 (Operand.tmp 5) 1, type := 0, pos := "script.go:171", after := #[{ on := 0, ground := Ground.phase }, { on := 1, ground := Ground.phase }, { on := 2, ground := Ground.phase }, { on := 3, ground := Ground.phase }, { on := 4, ground := Ground.phase }, { on := 5, ground := Ground.phase }, { on := 6, ground := Ground.phase }, { on := 7, ground := Ground.phase }, { on := 8, ground := Ground.phase }], guard := none }) (v := ?_) rfl (by kernel_rfl) (by kernel_rfl) (by kernel_rfl) (fun _ _ _ h => h) (Or.inl ⟨by rfl, ?_⟩) (by assumption) ?_
                    rotate_left
                    · (intro wz hSw; (try dsimp only at hSw); go_simp; try with_reducible rfl)
                    simp only [Act.put, List.setIfInBounds_toArray, List.set_cons_zero, List.set_cons_succ]
                    refine wpAnyH_ready (rs := [10]) (by kernel_rfl) (by simp) ?_
                    refine AllReadyH.cons (o := { dst := none, op := Op.store 25 (Operand.tmp 45) (Operand.tmp 44), type := 0, pos := "script.go:171", after := #[{ on := 9, ground := Ground.data }, { on := 8, ground := Ground.data }, { on := 8, ground := Ground.chain }, { on := 0, ground := Ground.phase }, { on := 1, ground := Ground.phase }, { on := 2, ground := Ground.phase }, { on := 3, ground := Ground.phase }, { on := 4, ground := Ground.phase }, { on := 5, ground := Ground.phase }, { on := 6, ground := Ground.phase }, { on := 7, ground := Ground.phase }, { on := 8, ground := Ground.phase }], guard := none }) rfl (fun K hK => ?_) ?_
                    · go_simp
                      refine hK.out _ _ ?_ (fun hHeld2 => ?_)
                      · (try dsimp only); try trivial
                      clear hK K
                      try simp only [Act.put, List.setIfInBounds_toArray, List.set_cons_zero, List.set_cons_succ]
                      refine wpAnyH_done (by kernel_rfl) ?_ _
                      go_wp2_with fail
                      exact ⟨⟨j + 1, _, by go_num, by omega, HR5.out⟩, by simp [intOf]; omega⟩
                    exact AllReadyH.nil
                  exact AllReadyH.nil
                exact AllReadyH.nil
              exact AllReadyH.nil
            exact AllReadyH.nil
          refine AllReadyH.cons (o := { dst := some 39, op := Op.load 25 (Operand.tmp 38), type := 25, pos := "script.go:171", after := #[{ on := 2, ground := Ground.data }], guard := none }) rfl (fun K hK => ?_) ?_
          · go_simp
            refine hK.out _ _ ?_ (fun hHeld2 => ?_)
            · (try dsimp only); try trivial
            clear hK K
            try simp only [Act.put, List.setIfInBounds_toArray, List.set_cons_zero, List.set_cons_succ]
            refine wpAnyH_take (i := 5) (oi := { dst := some 41, op := Op.indexAddr 25 (Operand.tmp 39) (Operand.tmp 40), type := 0, pos := "script.go:171", after := #[{ on := 3, ground := Ground.data }, { on := 4, ground := Ground.data }], guard := none }) (v := ?_) rfl (by kernel_rfl) (by kernel_rfl) (by kernel_rfl) (fun _ _ _ h => h) (Or.inl ⟨by rfl, ?_⟩) (by assumption) ?_
            rotate_left
            · (intro wz hSw; (try dsimp only at hSw); go_simp; try with_reducible rfl)
            simp only [Act.put, List.setIfInBounds_toArray, List.set_cons_zero, List.set_cons_succ]
            refine wpAnyH_ready (rs := [1, 6]) (by kernel_rfl) (by simp) ?_
            refine AllReadyH.cons (o := { dst := some 37, op := Op.load 25 (Operand.tmp 36), type := 25, pos := "script.go:171", after := #[{ on := 0, ground := Ground.data }], guard := none }) rfl (fun K hK => ?_) ?_
            · go_simp
              refine hK.out _ _ ?_ (fun hHeld2 => ?_)
              · (try dsimp only); try trivial
              clear hK K
              try simp only [Act.put, List.setIfInBounds_toArray, List.set_cons_zero, List.set_cons_succ]
              refine wpAnyH_ready (rs := [6]) (by kernel_rfl) (by simp) ?_
              refine AllReadyH.cons (o := { dst := some 42, op := Op.load 3 (Operand.tmp 41), type := 3, pos := "script.go:171", after := #[{ on := 5, ground := Ground.data }], guard := none }) rfl (fun K hK => ?_) ?_
              · go_simp
                refine hK.out _ _ ?_ (fun hHeld2 => ?_)
                · (try dsimp only); try trivial
                clear hK K
                try simp only [Act.put, List.setIfInBounds_toArray, List.set_cons_zero, List.set_cons_succ]
                refine wpAnyH_ready (rs := [7]) (by kernel_rfl) (by simp) ?_
                refine AllReadyH.cons (o := { dst := some 43, op := Op.buildSlice 25 1 #[(0, Operand.tmp 42)], type := 25, pos := "script.go:171", after := #[{ on := 6, ground := Ground.data }], guard := none }) rfl (fun K hK => ?_) ?_
                · go_simp
                  refine hK.out _ _ ?_ (fun hHeld2 => ?_)
                  · (try dsimp only); try trivial
                  clear hK K
                  try simp only [Act.put, List.setIfInBounds_toArray, List.set_cons_zero, List.set_cons_succ]
                  refine wpAnyH_ready (rs := [8]) (by kernel_rfl) (by simp) ?_
                  refine AllReadyH.cons (o := { dst := some 44, op := Op.call { callee := Callee.builtin Builtin.append, args := #[Operand.tmp 37, Operand.tmp 43], argTypes := #[25, 25] }, type := 25, pos := "script.go:171", after := #[{ on := 1, ground := Ground.data }, { on := 7, ground := Ground.data }], guard := none }) rfl (fun K hK => ?_) ?_
                  · refine step_append_run rfl (.tmp 37) (.tmp 43) 25 25 rfl (by simp [Act.eval]) (by simp [Act.eval]) hr ?_
                    refine hK.out _ _ ?_ (fun hHeld2 => ?_)
                    · (try dsimp only); try trivial
                    clear hK K
                    try simp only [Act.put, List.setIfInBounds_toArray, List.set_cons_zero, List.set_cons_succ]
                    refine wpAnyH_take (i := 9) (oi := { dst := some 45, op := Op.fieldAddr 37 (Operand.tmp 5) 1, type := 0, pos := "script.go:171", after := #[{ on := 0, ground := Ground.phase }, { on := 1, ground := Ground.phase }, { on := 2, ground := Ground.phase }, { on := 3, ground := Ground.phase }, { on := 4, ground := Ground.phase }, { on := 5, ground := Ground.phase }, { on := 6, ground := Ground.phase }, { on := 7, ground := Ground.phase }, { on := 8, ground := Ground.phase }], guard := none }) (v := ?_) rfl (by kernel_rfl) (by kernel_rfl) (by kernel_rfl) (fun _ _ _ h => h) (Or.inl ⟨by rfl, ?_⟩) (by assumption) ?_
                    rotate_left
                    · (intro wz hSw; (try dsimp only at hSw); go_simp; try with_reducible rfl)
                    simp only [Act.put, List.setIfInBounds_toArray, List.set_cons_zero, List.set_cons_succ]
                    refine wpAnyH_ready (rs := [10]) (by kernel_rfl) (by simp) ?_
                    refine AllReadyH.cons (o := { dst := none, op := Op.store 25 (Operand.tmp 45) (Operand.tmp 44), type := 0, pos := "script.go:171", after := #[{ on := 9, ground := Ground.data }, { on := 8, ground := Ground.data }, { on := 8, ground := Ground.chain }, { on := 0, ground := Ground.phase }, { on := 1, ground := Ground.phase }, { on := 2, ground := Ground.phase }, { on := 3, ground := Ground.phase }, { on := 4, ground := Ground.phase }, { on := 5, ground := Ground.phase }, { on := 6, ground := Ground.phase }, { on := 7, ground := Ground.phase }, { on := 8, ground := Ground.phase }], guard := none }) rfl (fun K hK => ?_) ?_
                    · go_simp
                      refine hK.out _ _ ?_ (fun hHeld2 => ?_)
                      · (try dsimp only); try trivial
                      clear hK K
                      try simp only [Act.put, List.setIfInBounds_toArray, List.set_cons_zero, List.set_cons_succ]
                      refine wpAnyH_done (by kernel_rfl) ?_ _
                      go_wp2_with fail
                      exact ⟨⟨j + 1, _, by go_num, by omega, HR5.out⟩, by simp [intOf]; omega⟩
                    exact AllReadyH.nil
                  exact AllReadyH.nil
                exact AllReadyH.nil
              exact AllReadyH.nil
            refine AllReadyH.cons (o := { dst := some 42, op := Op.load 3 (Operand.tmp 41), type := 3, pos := "script.go:171", after := #[{ on := 5, ground := Ground.data }], guard := none }) rfl (fun K hK => ?_) ?_
            · go_simp
              refine hK.out _ _ ?_ (fun hHeld2 => ?_)
              · (try dsimp only); try trivial
              clear hK K
              try simp only [Act.put, List.setIfInBounds_toArray, List.set_cons_zero, List.set_cons_succ]
              refine wpAnyH_ready (rs := [1, 7]) (by kernel_rfl) (by simp) ?_
              refine AllReadyH.cons (o := { dst := some 37, op := Op.load 25 (Operand.tmp 36), type := 25, pos := "script.go:171", after := #[{ on := 0, ground := Ground.data }], guard := none }) rfl (fun K hK => ?_) ?_
              · go_simp
                refine hK.out _ _ ?_ (fun hHeld2 => ?_)
                · (try dsimp only); try trivial
                clear hK K
                try simp only [Act.put, List.setIfInBounds_toArray, List.set_cons_zero, List.set_cons_succ]
                refine wpAnyH_ready (rs := [7]) (by kernel_rfl) (by simp) ?_
                refine AllReadyH.cons (o := { dst := some 43, op := Op.buildSlice 25 1 #[(0, Operand.tmp 42)], type := 25, pos := "script.go:171", after := #[{ on := 6, ground := Ground.data }], guard := none }) rfl (fun K hK => ?_) ?_
                · go_simp
                  refine hK.out _ _ ?_ (fun hHeld2 => ?_)
                  · (try dsimp only); try trivial
                  clear hK K
                  try simp only [Act.put, List.setIfInBounds_toArray, List.set_cons_zero, List.set_cons_succ]
                  refine wpAnyH_ready (rs := [8]) (by kernel_rfl) (by simp) ?_
                  refine AllReadyH.cons (o := { dst := some 44, op := Op.call { callee := Callee.builtin Builtin.append, args := #[Operand.tmp 37, Operand.tmp 43], argTypes := #[25, 25] }, type := 25, pos := "script.go:171", after := #[{ on := 1, ground := Ground.data }, { on := 7, ground := Ground.data }], guard := none }) rfl (fun K hK => ?_) ?_
                  · refine step_append_run rfl (.tmp 37) (.tmp 43) 25 25 rfl (by simp [Act.eval]) (by simp [Act.eval]) hr ?_
                    refine hK.out _ _ ?_ (fun hHeld2 => ?_)
                    · (try dsimp only); try trivial
                    clear hK K
                    try simp only [Act.put, List.setIfInBounds_toArray, List.set_cons_zero, List.set_cons_succ]
                    refine wpAnyH_take (i := 9) (oi := { dst := some 45, op := Op.fieldAddr 37 (Operand.tmp 5) 1, type := 0, pos := "script.go:171", after := #[{ on := 0, ground := Ground.phase }, { on := 1, ground := Ground.phase }, { on := 2, ground := Ground.phase }, { on := 3, ground := Ground.phase }, { on := 4, ground := Ground.phase }, { on := 5, ground := Ground.phase }, { on := 6, ground := Ground.phase }, { on := 7, ground := Ground.phase }, { on := 8, ground := Ground.phase }], guard := none }) (v := ?_) rfl (by kernel_rfl) (by kernel_rfl) (by kernel_rfl) (fun _ _ _ h => h) (Or.inl ⟨by rfl, ?_⟩) (by assumption) ?_
                    rotate_left
                    · (intro wz hSw; (try dsimp only at hSw); go_simp; try with_reducible rfl)
                    simp only [Act.put, List.setIfInBounds_toArray, List.set_cons_zero, List.set_cons_succ]
                    refine wpAnyH_ready (rs := [10]) (by kernel_rfl) (by simp) ?_
                    refine AllReadyH.cons (o := { dst := none, op := Op.store 25 (Operand.tmp 45) (Operand.tmp 44), type := 0, pos := "script.go:171", after := #[{ on := 9, ground := Ground.data }, { on := 8, ground := Ground.data }, { on := 8, ground := Ground.chain }, { on := 0, ground := Ground.phase }, { on := 1, ground := Ground.phase }, { on := 2, ground := Ground.phase }, { on := 3, ground := Ground.phase }, { on := 4, ground := Ground.phase }, { on := 5, ground := Ground.phase }, { on := 6, ground := Ground.phase }, { on := 7, ground := Ground.phase }, { on := 8, ground := Ground.phase }], guard := none }) rfl (fun K hK => ?_) ?_
                    · go_simp
                      refine hK.out _ _ ?_ (fun hHeld2 => ?_)
                      · (try dsimp only); try trivial
                      clear hK K
                      try simp only [Act.put, List.setIfInBounds_toArray, List.set_cons_zero, List.set_cons_succ]
                      refine wpAnyH_done (by kernel_rfl) ?_ _
                      go_wp2_with fail
                      exact ⟨⟨j + 1, _, by go_num, by omega, HR5.out⟩, by simp [intOf]; omega⟩
                    exact AllReadyH.nil
                  exact AllReadyH.nil
                exact AllReadyH.nil
              refine AllReadyH.cons (o := { dst := some 43, op := Op.buildSlice 25 1 #[(0, Operand.tmp 42)], type := 25, pos := "script.go:171", after := #[{ on := 6, ground := Ground.data }], guard := none }) rfl (fun K hK => ?_) ?_
              · go_simp
                refine hK.out _ _ ?_ (fun hHeld2 => ?_)
                · (try dsimp only); try trivial
                clear hK K
                try simp only [Act.put, List.setIfInBounds_toArray, List.set_cons_zero, List.set_cons_succ]
                refine wpAnyH_ready (rs := [1]) (by kernel_rfl) (by simp) ?_
                refine AllReadyH.cons (o := { dst := some 37, op := Op.load 25 (Operand.tmp 36), type := 25, pos := "script.go:171", after := #[{ on := 0, ground := Ground.data }], guard := none }) rfl (fun K hK => ?_) ?_
                · go_simp
                  refine hK.out _ _ ?_ (fun hHeld2 => ?_)
                  · (try dsimp only); try trivial
                  clear hK K
                  try simp only [Act.put, List.setIfInBounds_toArray, List.set_cons_zero, List.set_cons_succ]
                  refine wpAnyH_ready (rs := [8]) (by kernel_rfl) (by simp) ?_
                  refine AllReadyH.cons (o := { dst := some 44, op := Op.call { callee := Callee.builtin Builtin.append, args := #[Operand.tmp 37, Operand.tmp 43], argTypes := #[25, 25] }, type := 25, pos := "script.go:171", after := #[{ on := 1, ground := Ground.data }, { on := 7, ground := Ground.data }], guard := none }) rfl (fun K hK => ?_) ?_
                  · refine step_append_run rfl (.tmp 37) (.tmp 43) 25 25 rfl (by simp [Act.eval]) (by simp [Act.eval]) hr ?_
                    refine hK.out _ _ ?_ (fun hHeld2 => ?_)
                    · (try dsimp only); try trivial
                    clear hK K
                    try simp only [Act.put, List.setIfInBounds_toArray, List.set_cons_zero, List.set_cons_succ]
                    refine wpAnyH_take (i := 9) (oi := { dst := some 45, op := Op.fieldAddr 37 (Operand.tmp 5) 1, type := 0, pos := "script.go:171", after := #[{ on := 0, ground := Ground.phase }, { on := 1, ground := Ground.phase }, { on := 2, ground := Ground.phase }, { on := 3, ground := Ground.phase }, { on := 4, ground := Ground.phase }, { on := 5, ground := Ground.phase }, { on := 6, ground := Ground.phase }, { on := 7, ground := Ground.phase }, { on := 8, ground := Ground.phase }], guard := none }) (v := ?_) rfl (by kernel_rfl) (by kernel_rfl) (by kernel_rfl) (fun _ _ _ h => h) (Or.inl ⟨by rfl, ?_⟩) (by assumption) ?_
                    rotate_left
                    · (intro wz hSw; (try dsimp only at hSw); go_simp; try with_reducible rfl)
                    simp only [Act.put, List.setIfInBounds_toArray, List.set_cons_zero, List.set_cons_succ]
                    refine wpAnyH_ready (rs := [10]) (by kernel_rfl) (by simp) ?_
                    refine AllReadyH.cons (o := { dst := none, op := Op.store 25 (Operand.tmp 45) (Operand.tmp 44), type := 0, pos := "script.go:171", after := #[{ on := 9, ground := Ground.data }, { on := 8, ground := Ground.data }, { on := 8, ground := Ground.chain }, { on := 0, ground := Ground.phase }, { on := 1, ground := Ground.phase }, { on := 2, ground := Ground.phase }, { on := 3, ground := Ground.phase }, { on := 4, ground := Ground.phase }, { on := 5, ground := Ground.phase }, { on := 6, ground := Ground.phase }, { on := 7, ground := Ground.phase }, { on := 8, ground := Ground.phase }], guard := none }) rfl (fun K hK => ?_) ?_
                    · go_simp
                      refine hK.out _ _ ?_ (fun hHeld2 => ?_)
                      · (try dsimp only); try trivial
                      clear hK K
                      try simp only [Act.put, List.setIfInBounds_toArray, List.set_cons_zero, List.set_cons_succ]
                      refine wpAnyH_done (by kernel_rfl) ?_ _
                      go_wp2_with fail
                      exact ⟨⟨j + 1, _, by go_num, by omega, HR5.out⟩, by simp [intOf]; omega⟩
                    exact AllReadyH.nil
                  exact AllReadyH.nil
                exact AllReadyH.nil
              exact AllReadyH.nil
            exact AllReadyH.nil
          exact AllReadyH.nil
        · have k1 : ¬ (j : Int) < (nd : Int) := by omega
          obtain rfl : j = nd := by omega
          have d0 : wr.cell? ⟨s0, 1, none⟩ = some (.slice ad j cd) := (blk_cell HR2.out.b0 1).trans rfl
          have c0 : wr.cell? ⟨s0 + 1 + 1, 0, none⟩ = some (.slice a0 i q0) := (blk_cell HR2.out.b2 0).trans rfl
          have c1 : wr.cell? ⟨s0 + 1 + 1, 1, none⟩ = some (.slice a1 j q1) := (blk_cell HR2.out.b2 1).trans rfl
          have r0 := (blk_cell HR2.out.b1 0).trans rfl
          have r1 := (blk_cell HR2.out.b1 1).trans rfl
          have f0 := blk_free HR2.out.b1 0
          have f1 := blk_free HR2.out.b1 1
          go_wp2_with fail
          refine script_end1 4 rfl rfl HR2.out.b1 rfl rfl _ _ (fun w' hk => ⟨_, _, rfl, ?_, ?_⟩)
          · have o := HR2.out.o
            have e2 : ld.take j = ld := List.take_of_length_le (by rw [← HLD.out]; exact Nat.le_refl _)
            have := (HR2.out.two.kept hk (fun g h1 _ _ => by omega)).base (base' := w.heap.size) (by omega)
            rw [e2] at this
            rw [← HK.out]
            exact this
          · have o := HR2.out.o
            exact HR2.out.kp.trans hk (fun i e hi => by omega)
end Go.Proofs.Ytlajblbfelcalaa
