import Derived.Test.YtdiabpoafennlabPkAD
/-! A deed: something is put. -/
namespace Go.Proofs.Ytdiabpoafennlab
set_option linter.unusedVariables false
set_option maxRecDepth 20000
set_option linter.unusedSimpArgs false
open Go.RowKit Go.HeapKit

theorem put_region (base pb : Nat) (st : List Bool) (X : PX) (K : Ky → Value) (H R : Nat → Value) (s : PS) (w : World) (a : Nat) (l : List Int) (x : Int) (h : PM w base pb st X K H R s) (hb : base ≤ w.heap.size) (ha : a < s.vs.length) (hl : s.vs.getD a [] = l) (hlen : l.length ≤ 100000) :
    Calls Try.prog 34 #[K (.inl a), .int .i64 x] w fun e w' => ∃ y n c vb, e = .returned (.slice y n c) ∧ X.va = some ⟨vb, 0, none⟩ ∧ PM (w'.setCell ⟨vb, a, none⟩ (.slice y n c)) base pb st X (upd K (.inl a) (.slice y n c)) H R { s with vs := s.vs.set a (l ++ [x]) } ∧ w'.heap[pb]? = some (.cells (X.cells st s) 59 (0, 0)) ∧ w'.cell? ⟨vb, a, none⟩ = some (K (.inl a)) ∧ w'.frozen? ⟨vb, a, none⟩ = false ∧ Keeps (fun k => (K (.inl a)).ownBlock = some k) w w' ∧ Keeps (fun i => base ≤ i) w (w'.setCell ⟨vb, a, none⟩ (.slice y n c)) := by
  have h1 := h.vw.rows (.inl a)
  simp only [Lf] at h1
  rw [hl] at h1
  refine (put_ok base _ l x w h1 hb (by omega)).mono ?_
  rintro e w' ⟨V', rfl, -, ho, hk, hm⟩
  obtain ⟨y, c, rfl⟩ := row_shape ho
  obtain ⟨vb, hva, hvc, c1, hf⟩ := h.viewAt ha
  have hT := onlyT_own h1
  have hP := h.putView ha hva ho hk hm
  have hv2 := row_other h.vw.views hk hT (by decide)
  obtain ⟨g1, e1, hlo, -, -, d1, hf1⟩ := own_cellS hv2 (k := a) (range_get _ ha)
  rw [hva] at e1
  injection e1 with e1
  injection e1 with e1
  subst e1
  exact ⟨y, _, c, vb, rfl, hva, hP, blk_other h.blk hk hT (by decide), d1, hf1 a, hk, (hk.mono (T := fun i => base ≤ i) (fun i e _ => row_low h1 e)).andSet (x := ⟨vb, a, none⟩) (.inl hlo) _⟩
set_option maxHeartbeats 3200000 in
theorem do_write (base pb at0 : Nat) (st : List Bool) (X : PX) (K0 : Ky → Value) (R : Nat → Value) (s : PS) (w : World) (tk : List (Nat × List Nat)) (sp : Nat) (r : List Nat) (loc : Int) (h : PM w base pb st X K0 R R s) (hx : s.tk = tk ++ [(sp, r)]) (hr : r ≠ []) (hn : tk.length ≤ 100000) (hn2 : r.length ≤ 100000) (hb : base ≤ w.heap.size) (a : Nat) (ha : a = r.getLastD 0) (l : List Int) (hll : s.vs.getD a [] = l) (hv : a < s.vs.length) (hl : l.length ≤ 100000) :
    Calls Try.prog 30 #[.pointer (some ⟨pb, 0, none⟩), .int .i64 at0, .agg #[.int .i64 4, .int .i64 loc]] w fun e w' => e = .returned (.tuple #[]) ∧ (∃ X' K0' R', PM w' base pb st X' K0' R' R' { s with vs := s.vs.set a (l ++ [loc]) }) ∧ Keeps (fun i => base ≤ i) w w' := by
  have HP : Hid (PM w base pb st X K0 R R s ∧ s.tk = tk ++ [(sp, r)] ∧ r ≠ [] ∧ base ≤ w.heap.size ∧ a < s.vs.length ∧ s.vs.getD a [] = l ∧ a = r.getLastD 0) := ⟨h, hx, hr, hb, hv, hll, ha⟩
  clear h hx hr hb hv hll ha
  have hb0 := blk_new w (.cells #[.int .i64 4, .int .i64 loc] 44) w.heap.size rfl
  have hkb := (Keeps.alloc None w (.cells #[.int .i64 4, .int .i64 loc] 44))
  obtain ⟨db, hdb⟩ : ∃ db, db = w.heap.size := ⟨_, rfl⟩
  rw [← hdb] at hb0
  go_enter Try.func30, Try.ntmps30
  go_upto_region 1 with fail
  rw [← hdb]
  have HDB : Hid (db = w.heap.size) := hdb
  clear hdb
  generalize w.alloc (.cells #[.int .i64 4, .int .i64 loc] 44) = wa at *
  have HA : Hid (PM wa base pb st X K0 R R s ∧ Keeps None w wa ∧ wa.heap[db]? = some (.cells #[.int .i64 4, .int .i64 loc] 44 (0, 0)) ∧ base ≤ wa.heap.size) := ⟨HP.out.1.more hkb, hkb, hb0, Nat.le_trans HP.out.2.2.2.1 hkb.size⟩
  have d0 : wa.cell? ⟨db, 0, none⟩ = some (.int .i64 4) := blk_cell hb0 0
  clear hb0 hkb
  go_wp2_with fail
  refine (hand_ok base pb st X K0 R s wa tk sp r HA.out.1 HP.out.2.1 HP.out.2.2.1 hn hn2).mono ?_
  rintro e w1 ⟨rfl, hk1⟩
  have HM : Hid (PM w1 base pb st X K0 R R s ∧ Keeps (fun i => base ≤ i) w w1 ∧ base ≤ w1.heap.size) := ⟨HA.out.1.more hk1, (keeps_tr HA.out.2.1 hk1).mono (fun _ f _ => f.elim), Nat.le_trans HA.out.2.2.2 hk1.size⟩
  have d1 : w1.cell? ⟨db, 1, none⟩ = some (.int .i64 loc) := blk_cell (blk_kept HA.out.2.2.1 hk1 (fun f => f)) 1
  rw [← HP.out.2.2.2.2.2.2]
  have HD : Hid (w1.heap[db]? = some (.cells #[.int .i64 4, .int .i64 loc] 44 (0, 0))) := blk_kept HA.out.2.2.1 hk1 (fun f => f)
  clear hk1 d0 HA
  go_upto_region 4 with fail
  have HJN := put_region base pb st X K0 R R s w1.drew a l loc (HM.out.1.more (Keeps.drew None _)) HM.out.2.2 HP.out.2.2.2.2.1 HP.out.2.2.2.2.2.1 hl
  obtain ⟨vb, hva, hvc, u1, -⟩ := HM.out.1.viewAt HP.out.2.2.2.2.1
  obtain ⟨-, q1, -, -, -, -, q6, -, -, -, -⟩ := HM.out.1.c0
  rw [hva] at q6
  have HVA : Hid (X.va = some ⟨vb, 0, none⟩) := hva
  have HJN2 : Hid _ := HJN
  obtain ⟨Ka, hKa⟩ : ∃ Ka, Ka = K0 (.inl a) := ⟨_, rfl⟩
  rw [← hKa] at u1
  have HKK : Hid (Ka = K0 (.inl a)) := hKa
  have z1 : (a : Int) < (s.vs.length : Int) := by have := HP.out.2.2.2.2.1; omega
  have HDB2 : Hid (∀ w', Keeps (fun k => (K0 (.inl a)).ownBlock = some k) w1.drew w' → w'.cell? ⟨db, 1, none⟩ = some (.int .i64 loc)) := fun w' hk => blk_cell (blk_other (w := w1.drew) (show w1.drew.heap[db]? = _ from HD.out) hk (onlyT_own ((HM.out.1.more (Keeps.drew None _)).vw.rows (.inl a))) (by decide)) 1
  have HDV : Hid (db ≠ vb) := by
    intro e
    have hd := HD.out
    rw [e] at hd
    obtain ⟨cur, hc⟩ := own_block HM.out.1.vw.views (g := vb) (by rw [HVA.out]; rfl)
    rw [hd] at hc
    injection hc with hc
    injection hc with _ hc
    exact absurd hc (by decide)
  clear HJN hva hvc hKa HP HD
  refine wp_region_held_drew (S := (fun w' => w'.cell? ⟨pb, 6, none⟩ = some (.slice (some ⟨vb, 0, none⟩) s.vs.length X.vc) ∧ w'.cell? ⟨pb, 1, none⟩ = some (.func (.func 34) #[] #[]) ∧ w'.cell? ⟨db, 1, none⟩ = some (.int .i64 loc))) (by kernel_rfl) ?_ (fun hHeld => ?_)
  · (try dsimp only); first | exact ⟨q6, q1, d1⟩ | exact ⟨r6, r1, y5⟩ | exact ⟨t6, t1, y6⟩
  refine wpAnyH_take (i := 0) (oi := { dst := some 15, op := Op.move (Operand.tmp 0), type := 48, pos := "play.go:47", after := #[], guard := none }) (v := ?_) rfl (by kernel_rfl) (by kernel_rfl) (by kernel_rfl) (fun _ _ _ h => h) (Or.inl ⟨by rfl, ?_⟩) (by assumption) ?_
  rotate_left
  · (intro wz hSw; (try dsimp only at hSw); go_simp; try with_reducible rfl)
  simp only [Act.put, List.setIfInBounds_toArray, List.set_cons_zero, List.set_cons_succ]
  refine wpAnyH_take (i := 1) (oi := { dst := some 16, op := Op.nilCheck (Operand.tmp 15), type := 0, pos := "play.go:47", after := #[{ on := 0, ground := Ground.data }], guard := none }) (v := ?_) rfl (by kernel_rfl) (by kernel_rfl) (by kernel_rfl) (fun _ _ _ h => h) (Or.inl ⟨by rfl, ?_⟩) (by assumption) ?_
  rotate_left
  · (intro wz hSw; (try dsimp only at hSw); go_simp; try with_reducible rfl)
  simp only [Act.put, List.setIfInBounds_toArray, List.set_cons_zero, List.set_cons_succ]
  refine wpAnyH_take (i := 2) (oi := { dst := some 17, op := Op.fieldAddr 59 (Operand.tmp 16) 3, type := 0, pos := "play.go:47", after := #[{ on := 1, ground := Ground.data }], guard := none }) (v := ?_) rfl (by kernel_rfl) (by kernel_rfl) (by kernel_rfl) (fun _ _ _ h => h) (Or.inl ⟨by rfl, ?_⟩) (by assumption) ?_
  rotate_left
  · (intro wz hSw; (try dsimp only at hSw); go_simp; try with_reducible rfl)
  simp only [Act.put, List.setIfInBounds_toArray, List.set_cons_zero, List.set_cons_succ]
  refine wpAnyH_take (i := 3) (oi := { dst := some 18, op := Op.load 30 (Operand.tmp 17), type := 30, pos := "play.go:47", after := #[{ on := 2, ground := Ground.data }], guard := none }) (v := ?_) rfl (by kernel_rfl) (by kernel_rfl) (by kernel_rfl) (fun _ _ _ h => h) (Or.inl ⟨by rfl, ?_⟩) (by assumption) ?_
  rotate_left
  · (intro wz hSw; (try dsimp only at hSw); go_simp; try with_reducible rfl)
  simp only [Act.put, List.setIfInBounds_toArray, List.set_cons_zero, List.set_cons_succ]
  refine wpAnyH_take (i := 4) (oi := { dst := some 19, op := Op.move (Operand.tmp 6), type := 3, pos := "play.go:47", after := #[], guard := none }) (v := ?_) rfl (by kernel_rfl) (by kernel_rfl) (by kernel_rfl) (fun _ _ _ h => h) (Or.inl ⟨by rfl, ?_⟩) (by assumption) ?_
  rotate_left
  · (intro wz hSw; (try dsimp only at hSw); go_simp; try with_reducible rfl)
  simp only [Act.put, List.setIfInBounds_toArray, List.set_cons_zero, List.set_cons_succ]
  refine wpAnyH_take (i := 5) (oi := { dst := some 20, op := Op.move (Operand.tmp 0), type := 48, pos := "play.go:47", after := #[], guard := none }) (v := ?_) rfl (by kernel_rfl) (by kernel_rfl) (by kernel_rfl) (fun _ _ _ h => h) (Or.inl ⟨by rfl, ?_⟩) (by assumption) ?_
  rotate_left
  · (intro wz hSw; (try dsimp only at hSw); go_simp; try with_reducible rfl)
  simp only [Act.put, List.setIfInBounds_toArray, List.set_cons_zero, List.set_cons_succ]
  refine wpAnyH_take (i := 6) (oi := { dst := some 21, op := Op.nilCheck (Operand.tmp 20), type := 0, pos := "play.go:47", after := #[{ on := 5, ground := Ground.data }], guard := none }) (v := ?_) rfl (by kernel_rfl) (by kernel_rfl) (by kernel_rfl) (fun _ _ _ h => h) (Or.inl ⟨by rfl, ?_⟩) (by assumption) ?_
  rotate_left
  · (intro wz hSw; (try dsimp only at hSw); go_simp; try with_reducible rfl)
  simp only [Act.put, List.setIfInBounds_toArray, List.set_cons_zero, List.set_cons_succ]
  refine wpAnyH_take (i := 7) (oi := { dst := some 22, op := Op.fieldAddr 59 (Operand.tmp 21) 0, type := 0, pos := "play.go:47", after := #[{ on := 6, ground := Ground.data }], guard := none }) (v := ?_) rfl (by kernel_rfl) (by kernel_rfl) (by kernel_rfl) (fun _ _ _ h => h) (Or.inl ⟨by rfl, ?_⟩) (by assumption) ?_
  rotate_left
  · (intro wz hSw; (try dsimp only at hSw); go_simp; try with_reducible rfl)
  simp only [Act.put, List.setIfInBounds_toArray, List.set_cons_zero, List.set_cons_succ]
  refine wpAnyH_take (i := 8) (oi := { dst := some 23, op := Op.fieldAddr 55 (Operand.tmp 22) 1, type := 0, pos := "play.go:47", after := #[{ on := 7, ground := Ground.data }], guard := none }) (v := ?_) rfl (by kernel_rfl) (by kernel_rfl) (by kernel_rfl) (fun _ _ _ h => h) (Or.inl ⟨by rfl, ?_⟩) (by assumption) ?_
  rotate_left
  · (intro wz hSw; (try dsimp only at hSw); go_simp; try with_reducible rfl)
  simp only [Act.put, List.setIfInBounds_toArray, List.set_cons_zero, List.set_cons_succ]
  refine wpAnyH_take (i := 9) (oi := { dst := some 24, op := Op.load 51 (Operand.tmp 23), type := 51, pos := "play.go:47", after := #[{ on := 8, ground := Ground.data }], guard := none }) (v := ?_) rfl (by kernel_rfl) (by kernel_rfl) (by kernel_rfl) (fun _ _ _ h => h) (Or.inl ⟨by rfl, ?_⟩) (by assumption) ?_
  rotate_left
  · (intro wz hSw; (try dsimp only at hSw); go_simp; try with_reducible rfl)
  simp only [Act.put, List.setIfInBounds_toArray, List.set_cons_zero, List.set_cons_succ]
  refine wpAnyH_take (i := 10) (oi := { dst := some 25, op := Op.move (Operand.tmp 0), type := 48, pos := "play.go:47", after := #[], guard := none }) (v := ?_) rfl (by kernel_rfl) (by kernel_rfl) (by kernel_rfl) (fun _ _ _ h => h) (Or.inl ⟨by rfl, ?_⟩) (by assumption) ?_
  rotate_left
  · (intro wz hSw; (try dsimp only at hSw); go_simp; try with_reducible rfl)
  simp only [Act.put, List.setIfInBounds_toArray, List.set_cons_zero, List.set_cons_succ]
  refine wpAnyH_take (i := 11) (oi := { dst := some 26, op := Op.nilCheck (Operand.tmp 25), type := 0, pos := "play.go:47", after := #[{ on := 10, ground := Ground.data }], guard := none }) (v := ?_) rfl (by kernel_rfl) (by kernel_rfl) (by kernel_rfl) (fun _ _ _ h => h) (Or.inl ⟨by rfl, ?_⟩) (by assumption) ?_
  rotate_left
  · (intro wz hSw; (try dsimp only at hSw); go_simp; try with_reducible rfl)
  simp only [Act.put, List.setIfInBounds_toArray, List.set_cons_zero, List.set_cons_succ]
  refine wpAnyH_take (i := 12) (oi := { dst := some 27, op := Op.fieldAddr 59 (Operand.tmp 26) 3, type := 0, pos := "play.go:47", after := #[{ on := 11, ground := Ground.data }], guard := none }) (v := ?_) rfl (by kernel_rfl) (by kernel_rfl) (by kernel_rfl) (fun _ _ _ h => h) (Or.inl ⟨by rfl, ?_⟩) (by assumption) ?_
  rotate_left
  · (intro wz hSw; (try dsimp only at hSw); go_simp; try with_reducible rfl)
  simp only [Act.put, List.setIfInBounds_toArray, List.set_cons_zero, List.set_cons_succ]
  refine wpAnyH_take (i := 13) (oi := { dst := some 28, op := Op.load 30 (Operand.tmp 27), type := 30, pos := "play.go:47", after := #[{ on := 12, ground := Ground.data }], guard := none }) (v := ?_) rfl (by kernel_rfl) (by kernel_rfl) (by kernel_rfl) (fun _ _ _ h => h) (Or.inl ⟨by rfl, ?_⟩) (by assumption) ?_
  rotate_left
  · (intro wz hSw; (try dsimp only at hSw); go_simp; try with_reducible rfl)
  simp only [Act.put, List.setIfInBounds_toArray, List.set_cons_zero, List.set_cons_succ]
  refine wpAnyH_take (i := 14) (oi := { dst := some 29, op := Op.move (Operand.tmp 6), type := 3, pos := "play.go:47", after := #[], guard := none }) (v := ?_) rfl (by kernel_rfl) (by kernel_rfl) (by kernel_rfl) (fun _ _ _ h => h) (Or.inl ⟨by rfl, ?_⟩) (by assumption) ?_
  rotate_left
  · (intro wz hSw; (try dsimp only at hSw); go_simp; try with_reducible rfl)
  simp only [Act.put, List.setIfInBounds_toArray, List.set_cons_zero, List.set_cons_succ]
  refine wpAnyH_take (i := 15) (oi := _) (v := ?_) rfl (by kernel_rfl) (by kernel_rfl) (by kernel_rfl) (fun _ _ _ h => h) (Or.inl ⟨by rfl, ?_⟩) (by assumption) ?_
  rotate_left
  · (intro wz hSw; (try dsimp only at hSw); go_simp; try with_reducible rfl)
  simp only [Act.put, List.setIfInBounds_toArray, List.set_cons_zero, List.set_cons_succ]
  refine wpAnyH_take (i := 17) (oi := { dst := some 32, op := Op.fieldAddr 44 (Operand.tmp 5) 1, type := 0, pos := "play.go:47", after := #[], guard := none }) (v := ?_) rfl (by kernel_rfl) (by kernel_rfl) (by kernel_rfl) (fun _ _ _ h => h) (Or.inl ⟨by rfl, ?_⟩) (by assumption) ?_
  rotate_left
  · (intro wz hSw; (try dsimp only at hSw); go_simp; try with_reducible rfl)
  simp only [Act.put, List.setIfInBounds_toArray, List.set_cons_zero, List.set_cons_succ]
  refine wpAnyH_take (i := 18) (oi := { dst := some 33, op := Op.load 2 (Operand.tmp 32), type := 2, pos := "play.go:47", after := #[{ on := 17, ground := Ground.data }], guard := none }) (v := ?_) rfl (by kernel_rfl) (by kernel_rfl) (by kernel_rfl) (fun _ _ _ h => h) (Or.inl ⟨by rfl, ?_⟩) (by assumption) ?_
  rotate_left
  · (intro wz hSw; (try dsimp only at hSw); go_simp; try with_reducible rfl)
  simp only [Act.put, List.setIfInBounds_toArray, List.set_cons_zero, List.set_cons_succ]
  refine wpAnyH_ready (rs := [16]) (by kernel_rfl) (by simp) ?_
  refine AllReadyH.cons (o := { dst := some 31, op := Op.load 28 (Operand.tmp 30), type := 28, pos := "play.go:47", after := #[{ on := 15, ground := Ground.data }], guard := none }) rfl (fun K hK => ?_) ?_
  · go_simp
    refine hK.out _ _ ?_ (fun hHeld2 => ?_)
    · (try dsimp only); first | exact ⟨q6, q1, d1⟩ | exact ⟨r6, r1, y5⟩ | exact ⟨t6, t1, y6⟩
    clear hK K
    try simp only [Act.put, List.setIfInBounds_toArray, List.set_cons_zero, List.set_cons_succ]
    refine wpAnyH_ready (rs := [19]) (by kernel_rfl) (by simp) ?_
    refine AllReadyH.cons (o := _) rfl (fun K hK => ?_) ?_
    · go_simp
      rw [HKK.out]
      refine Calls.mono HJN2.out ?_
      rintro _ w5 ⟨x, n, c, vb2, rfl, hv2, hP5, hb5, y1, yf, hk5, hk6⟩
      have hvv := hv2.symm.trans HVA.out; injection hvv with hvv; injection hvv with hvv; subst hvv
      have r6 : w5.cell? ⟨pb, 6, none⟩ = some (.slice X.va s.vs.length X.vc) := blk_cell hb5 6
      have r1 : w5.cell? ⟨pb, 1, none⟩ = some (.func (.func 34) #[] #[]) := blk_cell hb5 1
      rw [HVA.out] at r6
      have t6 : (w5.setCell ⟨vb2, a, none⟩ (.slice x n c)).cell? ⟨pb, 6, none⟩ = some (.slice X.va (s.vs.set a (l ++ [loc])).length X.vc) := hP5.c0.2.2.2.2.2.2.1
      rw [HVA.out, List.length_set] at t6
      have t1 := hP5.c0.2.1
      have y5 := HDB2.out w5 hk5
      have y6 : (w5.setCell ⟨vb2, a, none⟩ (.slice x n c)).cell? ⟨db, 1, none⟩ = some (.int .i64 loc) := (Keeps.setCell (S := (· = vb2)) w5 (a := ⟨vb2, a, none⟩) rfl (.slice x n c)).cell y5 (fun e => HDV.out e)
      have HF : Hid (PM (w5.setCell ⟨vb2, a, none⟩ (.slice x n c)) base pb st X (upd K0 (.inl a) (.slice x n c)) R R { s with vs := s.vs.set a (l ++ [loc]) } ∧ Keeps (fun i => base ≤ i) w (w5.setCell ⟨vb2, a, none⟩ (.slice x n c))) := ⟨hP5, (HM.out.2.1.andDrew).trans hk6 (fun i e _ => e)⟩
      clear hP5 hk5 hk6 hb5 hv2
      refine hK.out _ _ ?_ (fun hHeld2 => ?_)
      · (try dsimp only); first | exact ⟨q6, q1, d1⟩ | exact ⟨r6, r1, y5⟩ | exact ⟨t6, t1, y6⟩
      clear hK K
      try simp only [Act.put, List.setIfInBounds_toArray, List.set_cons_zero, List.set_cons_succ]
      refine wpAnyH_take (i := 20) (oi := _) (v := ?_) rfl (by kernel_rfl) (by kernel_rfl) (by kernel_rfl) (fun _ _ _ h => h) (Or.inl ⟨by rfl, ?_⟩) (by assumption) ?_
      rotate_left
      · (intro wz hSw; (try dsimp only at hSw); go_simp; try with_reducible rfl)
      simp only [Act.put, List.setIfInBounds_toArray, List.set_cons_zero, List.set_cons_succ]
      refine wpAnyH_ready (rs := [21]) (by kernel_rfl) (by simp) ?_
      refine AllReadyH.cons (o := _) rfl (fun K hK => ?_) ?_
      · go_simp
        refine hK.out _ _ ?_ (fun hHeld2 => ?_)
        · (try dsimp only); first | exact ⟨q6, q1, d1⟩ | exact ⟨r6, r1, y5⟩ | exact ⟨t6, t1, y6⟩
        clear hK K
        try simp only [Act.put, List.setIfInBounds_toArray, List.set_cons_zero, List.set_cons_succ]
        refine wpAnyH_done (by kernel_rfl) ?_ _
        go_wp2_with fail
        go_end0
        exact ⟨rfl, ⟨X, _, R, HF.out.1⟩, HF.out.2⟩
      exact AllReadyH.nil
    exact AllReadyH.nil
  exact AllReadyH.nil
end Go.Proofs.Ytdiabpoafennlab
/-! A deed: a look. -/
namespace Go.Proofs.Ytdiabpoafennlab
set_option linter.unusedVariables false
set_option maxRecDepth 20000
set_option linter.unusedSimpArgs false
open Go.RowKit Go.HeapKit

theorem PM.sizeLe {w : World} {base pb : Nat} {st : List Bool} {X : PX} {K : Ky → Value} {H R : Nat → Value} {s : PS} (h : PM w base pb st X K H R s) : base ≤ w.heap.size := Nat.le_trans h.low (Nat.le_of_lt (blk_lt h.blk))
theorem look_told {w w1 w2 : World} {base pb : Nat} {st : List Bool} {X : PX} {K : Ky → Value} {H R : Nat → Value} {s : PS} (h : PM w base pb st X K H R s) {V : Value} {l : List Int} {g cap a vb : Nat} (hv : a < s.vs.length) (hva : X.va = some ⟨vb, 0, none⟩) (ho : w1.ownsRow base 2 1 V l.length (iv l)) (hk : Keeps None w w1) (hm : ∀ b, V.ownBlock = some b → w.heap.size ≤ b)
    (ho2 : w2.ownsRow base 28 1 (.slice (some ⟨g, 0, none⟩) (s.lk.length + 1) cap) (s.lk.length + 1) (((List.range s.lk.length).map fun i => K (.inr i)) ++ [V])) (hk2 : Keeps (fun k => (Value.slice X.la s.lk.length X.lc).ownBlock = some k) w1 w2)
    (hm2 : (Value.slice X.la s.lk.length X.lc).ownBlock = some g ∨ w1.heap.size ≤ g) :
    (w2.cell? ⟨pb, 3, none⟩ = some (.func (.func 36) #[] #[]) ∧ w2.cell? ⟨pb, 6, none⟩ = some (.slice (some ⟨vb, 0, none⟩) s.vs.length X.vc) ∧ w2.cell? ⟨vb, a, none⟩ = some (K (.inl a))) ∧
    ((w2.setCell ⟨pb, 10, none⟩ (.slice (some ⟨g, 0, none⟩) (s.lk.length + 1) cap)).cell? ⟨pb, 3, none⟩ = some (.func (.func 36) #[] #[]) ∧ (w2.setCell ⟨pb, 10, none⟩ (.slice (some ⟨g, 0, none⟩) (s.lk.length + 1) cap)).cell? ⟨pb, 6, none⟩ = some (.slice (some ⟨vb, 0, none⟩) s.vs.length X.vc) ∧ (w2.setCell ⟨pb, 10, none⟩ (.slice (some ⟨g, 0, none⟩) (s.lk.length + 1) cap)).cell? ⟨vb, a, none⟩ = some (K (.inl a))) ∧
    w2.frozen? ⟨pb, 10, none⟩ = false ∧ w2.cell? ⟨pb, 10, none⟩ = some (.slice X.la s.lk.length X.lc) := by
  have h1 := h.more hk
  have hP := h.newLook ho hk hm ho2 hk2 hm2
  have hb4 := blk_other h1.blk hk2 (onlyT_own h1.vw.looks) (by decide)
  have hvl := row_kept h1.vw.views hk2 (fun b e e2 => h.vw.vl b _ _ _ _ e e2)
  obtain ⟨g2, e2, -, -, -, c2, -⟩ := own_cellS hvl (k := a) (range_get _ hv)
  rw [hva] at e2
  injection e2 with e2
  injection e2 with e2
  subst e2
  have c6 : w2.cell? ⟨pb, 6, none⟩ = some (.slice X.va s.vs.length X.vc) := blk_cell hb4 6
  have d6 : (w2.setCell ⟨pb, 10, none⟩ (.slice (some ⟨g, 0, none⟩) (s.lk.length + 1) cap)).cell? ⟨pb, 6, none⟩ = some (.slice X.va s.vs.length X.vc) := hP.c0.2.2.2.2.2.2.1
  rw [hva] at c6 d6
  have d7 := hP.viewAt2 (a := a) hv hva
  rw [upd_ne (by simp)] at d7
  exact ⟨⟨blk_cell hb4 3, c6, c2⟩, ⟨hP.c0.2.2.2.1, d6, d7⟩, blk_free hb4 10, blk_cell hb4 10⟩
set_option maxHeartbeats 3200000 in
theorem do_look (base pb at0 : Nat) (st : List Bool) (X : PX) (K0 : Ky → Value) (R : Nat → Value) (s : PS) (w : World) (tk : List (Nat × List Nat)) (sp : Nat) (r : List Nat) (loc : Int) (h : PM w base pb st X K0 R R s) (hx : s.tk = tk ++ [(sp, r)]) (hr : r ≠ []) (hn : tk.length ≤ 100000) (hn2 : r.length ≤ 100000) (a : Nat) (ha : a = r.getLastD 0) (l : List Int) (hll : s.vs.getD a [] = l) (hv : a < s.vs.length) (hl : l.length ≤ 100000) (hlk : s.lk.length ≤ 100000) :
    Calls Try.prog 30 #[.pointer (some ⟨pb, 0, none⟩), .int .i64 at0, .agg #[.int .i64 3, .int .i64 loc]] w fun e w' => e = .returned (.tuple #[]) ∧ (∃ X' K' R', PM w' base pb st X' K' R' R' { s with lk := s.lk ++ [l] }) ∧ Keeps (fun i => base ≤ i) w w' := by
  have HP : Hid (PM w base pb st X K0 R R s ∧ s.tk = tk ++ [(sp, r)] ∧ r ≠ [] ∧ a < s.vs.length ∧ l.length ≤ 100000 ∧ s.lk.length ≤ 100000 ∧ s.vs.getD a [] = l ∧ a = r.getLastD 0) := ⟨h, hx, hr, hv, hl, hlk, hll, ha⟩
  clear h hx hr hv hl hlk hll ha
  have hb0 := blk_new w (.cells #[.int .i64 3, .int .i64 loc] 44) w.heap.size rfl
  have hkb := (Keeps.alloc None w (.cells #[.int .i64 3, .int .i64 loc] 44))
  obtain ⟨db, hdb⟩ : ∃ db, db = w.heap.size := ⟨_, rfl⟩
  rw [← hdb] at hb0
  go_enter Try.func30, Try.ntmps30
  go_upto_region 1 with fail
  rw [← hdb]
  clear hdb
  generalize w.alloc (.cells #[.int .i64 3, .int .i64 loc] 44) = wa at *
  have HA : Hid (PM wa base pb st X K0 R R s ∧ Keeps (fun i => base ≤ i) w wa) := ⟨HP.out.1.more hkb, hkb.mono (fun _ f _ => f.elim)⟩
  have d0 : wa.cell? ⟨db, 0, none⟩ = some (.int .i64 3) := blk_cell hb0 0
  clear hb0 hkb
  have HH : Hid (∀ wx, Keeps None wa wx → Calls Try.prog 55 #[.pointer (some ⟨pb, 0, none⟩)] wx fun e w' => e = .returned (.int .i64 (a : Nat)) ∧ Keeps None wx w') := fun wx hk => by
    rw [HP.out.2.2.2.2.2.2.2]
    exact hand_ok base pb st X K0 R s wx tk sp r (HA.out.1.more hk) HP.out.2.1 HP.out.2.2.1 hn hn2
  go_upto_region 6 with fail
  clear d0
  obtain ⟨vb, hva, hvc, u1, -⟩ := HA.out.1.viewAt HP.out.2.2.2.1
  obtain ⟨-, -, -, q3, -, -, q6, -, -, -, q10⟩ := HA.out.1.c0
  rw [hva] at q6
  obtain ⟨Ka, hKa⟩ : ∃ Ka, Ka = K0 (.inl a) := ⟨_, rfl⟩
  rw [← hKa] at u1
  have HKK : Hid (Ka = K0 (.inl a)) := hKa
  have z1 : (a : Int) < (s.vs.length : Int) := by have := HP.out.2.2.2.1; omega
  have HS : Hid (∀ wx, Keeps None wa wx → (wx.cell? ⟨pb, 3, none⟩ = some (.func (.func 36) #[] #[]) ∧ wx.cell? ⟨pb, 6, none⟩ = some (.slice (some ⟨vb, 0, none⟩) s.vs.length X.vc) ∧ wx.cell? ⟨vb, a, none⟩ = some Ka) ∧ wx.cell? ⟨pb, 10, none⟩ = some (.slice X.la s.lk.length X.lc)) := fun wx hk => ⟨⟨hk.cell q3 (fun f => f), hk.cell q6 (fun f => f), hk.cell u1 (fun f => f)⟩, hk.cell q10 (fun f => f)⟩
  have HVA : Hid (X.va = some ⟨vb, 0, none⟩) := hva
  have hQ : Keeps None wa wa.drew := Keeps.drew None wa
  have hqq := HS.out _ hQ
  have q10' : wa.drew.cell? ⟨pb, 10, none⟩ = some (.slice X.la s.lk.length X.lc) := q10
  clear hva hvc hKa q3 q6 u1
  refine wp_region_held_drew (S := (fun w' => w'.cell? ⟨pb, 3, none⟩ = some (.func (.func 36) #[] #[]) ∧ w'.cell? ⟨pb, 6, none⟩ = some (.slice (some ⟨vb, 0, none⟩) s.vs.length X.vc) ∧ w'.cell? ⟨vb, a, none⟩ = some Ka)) (by kernel_rfl) ?_ (fun hHeld => ?_)
  · (try dsimp only); first | exact t7 | exact t6 | exact hqq.1 | exact (HS.out _ hQ).1
  refine wpAnyH_take (i := 0) (oi := { dst := some 38, op := Op.move (Operand.tmp 0), type := 48, pos := "play.go:49", after := #[], guard := none }) (v := ?_) rfl (by kernel_rfl) (by kernel_rfl) (by kernel_rfl) (fun _ _ _ h => h) (Or.inl ⟨by rfl, ?_⟩) (by assumption) ?_
  rotate_left
  · (intro wz hSw; (try dsimp only at hSw); go_simp; try with_reducible rfl)
  simp only [Act.put, List.setIfInBounds_toArray, List.set_cons_zero, List.set_cons_succ]
  refine wpAnyH_take (i := 1) (oi := { dst := some 39, op := Op.move (Operand.tmp 0), type := 48, pos := "play.go:49", after := #[], guard := none }) (v := ?_) rfl (by kernel_rfl) (by kernel_rfl) (by kernel_rfl) (fun _ _ _ h => h) (Or.inl ⟨by rfl, ?_⟩) (by assumption) ?_
  rotate_left
  · (intro wz hSw; (try dsimp only at hSw); go_simp; try with_reducible rfl)
  simp only [Act.put, List.setIfInBounds_toArray, List.set_cons_zero, List.set_cons_succ]
  refine wpAnyH_take (i := 2) (oi := { dst := some 40, op := Op.nilCheck (Operand.tmp 39), type := 0, pos := "play.go:49", after := #[{ on := 1, ground := Ground.data }], guard := none }) (v := ?_) rfl (by kernel_rfl) (by kernel_rfl) (by kernel_rfl) (fun _ _ _ h => h) (Or.inl ⟨by rfl, ?_⟩) (by assumption) ?_
  rotate_left
  · (intro wz hSw; (try dsimp only at hSw); go_simp; try with_reducible rfl)
  simp only [Act.put, List.setIfInBounds_toArray, List.set_cons_zero, List.set_cons_succ]
  refine wpAnyH_take (i := 3) (oi := { dst := some 41, op := Op.fieldAddr 59 (Operand.tmp 40) 7, type := 0, pos := "play.go:49", after := #[{ on := 2, ground := Ground.data }], guard := none }) (v := ?_) rfl (by kernel_rfl) (by kernel_rfl) (by kernel_rfl) (fun _ _ _ h => h) (Or.inl ⟨by rfl, ?_⟩) (by assumption) ?_
  rotate_left
  · (intro wz hSw; (try dsimp only at hSw); go_simp; try with_reducible rfl)
  simp only [Act.put, List.setIfInBounds_toArray, List.set_cons_zero, List.set_cons_succ]
  refine wpAnyH_take (i := 5) (oi := { dst := some 43, op := Op.move (Operand.tmp 0), type := 48, pos := "play.go:49", after := #[], guard := none }) (v := ?_) rfl (by kernel_rfl) (by kernel_rfl) (by kernel_rfl) (fun _ _ _ h => h) (Or.inl ⟨by rfl, ?_⟩) (by assumption) ?_
  rotate_left
  · (intro wz hSw; (try dsimp only at hSw); go_simp; try with_reducible rfl)
  simp only [Act.put, List.setIfInBounds_toArray, List.set_cons_zero, List.set_cons_succ]
  refine wpAnyH_take (i := 6) (oi := { dst := some 44, op := Op.nilCheck (Operand.tmp 43), type := 0, pos := "play.go:49", after := #[{ on := 5, ground := Ground.data }], guard := none }) (v := ?_) rfl (by kernel_rfl) (by kernel_rfl) (by kernel_rfl) (fun _ _ _ h => h) (Or.inl ⟨by rfl, ?_⟩) (by assumption) ?_
  rotate_left
  · (intro wz hSw; (try dsimp only at hSw); go_simp; try with_reducible rfl)
  simp only [Act.put, List.setIfInBounds_toArray, List.set_cons_zero, List.set_cons_succ]
  refine wpAnyH_take (i := 7) (oi := { dst := some 45, op := Op.fieldAddr 59 (Operand.tmp 44) 0, type := 0, pos := "play.go:49", after := #[{ on := 6, ground := Ground.data }], guard := none }) (v := ?_) rfl (by kernel_rfl) (by kernel_rfl) (by kernel_rfl) (fun _ _ _ h => h) (Or.inl ⟨by rfl, ?_⟩) (by assumption) ?_
  rotate_left
  · (intro wz hSw; (try dsimp only at hSw); go_simp; try with_reducible rfl)
  simp only [Act.put, List.setIfInBounds_toArray, List.set_cons_zero, List.set_cons_succ]
  refine wpAnyH_take (i := 8) (oi := { dst := some 46, op := Op.fieldAddr 55 (Operand.tmp 45) 3, type := 0, pos := "play.go:49", after := #[{ on := 7, ground := Ground.data }], guard := none }) (v := ?_) rfl (by kernel_rfl) (by kernel_rfl) (by kernel_rfl) (fun _ _ _ h => h) (Or.inl ⟨by rfl, ?_⟩) (by assumption) ?_
  rotate_left
  · (intro wz hSw; (try dsimp only at hSw); go_simp; try with_reducible rfl)
  simp only [Act.put, List.setIfInBounds_toArray, List.set_cons_zero, List.set_cons_succ]
  refine wpAnyH_take (i := 9) (oi := { dst := some 47, op := Op.load 53 (Operand.tmp 46), type := 53, pos := "play.go:49", after := #[{ on := 8, ground := Ground.data }], guard := none }) (v := ?_) rfl (by kernel_rfl) (by kernel_rfl) (by kernel_rfl) (fun _ _ _ h => h) (Or.inl ⟨by rfl, ?_⟩) (by assumption) ?_
  rotate_left
  · (intro wz hSw; (try dsimp only at hSw); go_simp; try with_reducible rfl)
  simp only [Act.put, List.setIfInBounds_toArray, List.set_cons_zero, List.set_cons_succ]
  refine wpAnyH_take (i := 10) (oi := { dst := some 48, op := Op.move (Operand.tmp 0), type := 48, pos := "play.go:49", after := #[], guard := none }) (v := ?_) rfl (by kernel_rfl) (by kernel_rfl) (by kernel_rfl) (fun _ _ _ h => h) (Or.inl ⟨by rfl, ?_⟩) (by assumption) ?_
  rotate_left
  · (intro wz hSw; (try dsimp only at hSw); go_simp; try with_reducible rfl)
  simp only [Act.put, List.setIfInBounds_toArray, List.set_cons_zero, List.set_cons_succ]
  refine wpAnyH_take (i := 11) (oi := { dst := some 49, op := Op.nilCheck (Operand.tmp 48), type := 0, pos := "play.go:49", after := #[{ on := 10, ground := Ground.data }], guard := none }) (v := ?_) rfl (by kernel_rfl) (by kernel_rfl) (by kernel_rfl) (fun _ _ _ h => h) (Or.inl ⟨by rfl, ?_⟩) (by assumption) ?_
  rotate_left
  · (intro wz hSw; (try dsimp only at hSw); go_simp; try with_reducible rfl)
  simp only [Act.put, List.setIfInBounds_toArray, List.set_cons_zero, List.set_cons_succ]
  refine wpAnyH_take (i := 12) (oi := { dst := some 50, op := Op.fieldAddr 59 (Operand.tmp 49) 3, type := 0, pos := "play.go:49", after := #[{ on := 11, ground := Ground.data }], guard := none }) (v := ?_) rfl (by kernel_rfl) (by kernel_rfl) (by kernel_rfl) (fun _ _ _ h => h) (Or.inl ⟨by rfl, ?_⟩) (by assumption) ?_
  rotate_left
  · (intro wz hSw; (try dsimp only at hSw); go_simp; try with_reducible rfl)
  simp only [Act.put, List.setIfInBounds_toArray, List.set_cons_zero, List.set_cons_succ]
  refine wpAnyH_take (i := 13) (oi := { dst := some 51, op := Op.load 30 (Operand.tmp 50), type := 30, pos := "play.go:49", after := #[{ on := 12, ground := Ground.data }], guard := none }) (v := ?_) rfl (by kernel_rfl) (by kernel_rfl) (by kernel_rfl) (fun _ _ _ h => h) (Or.inl ⟨by rfl, ?_⟩) (by assumption) ?_
  rotate_left
  · (intro wz hSw; (try dsimp only at hSw); go_simp; try with_reducible rfl)
  simp only [Act.put, List.setIfInBounds_toArray, List.set_cons_zero, List.set_cons_succ]
  refine wpAnyH_take (i := 14) (oi := { dst := some 52, op := Op.move (Operand.tmp 0), type := 48, pos := "play.go:49", after := #[], guard := none }) (v := ?_) rfl (by kernel_rfl) (by kernel_rfl) (by kernel_rfl) (fun _ _ _ h => h) (Or.inl ⟨by rfl, ?_⟩) (by assumption) ?_
  rotate_left
  · (intro wz hSw; (try dsimp only at hSw); go_simp; try with_reducible rfl)
  simp only [Act.put, List.setIfInBounds_toArray, List.set_cons_zero, List.set_cons_succ]
  refine wpAnyH_ready (rs := [4, 15]) (by kernel_rfl) (by simp) ?_
  refine AllReadyH.cons (o := { dst := some 42, op := Op.load 30 (Operand.tmp 41), type := 30, pos := "play.go:49", after := #[{ on := 3, ground := Ground.data }], guard := none }) rfl (fun K hK => ?_) ?_
  · go_simp
    refine hK.out _ _ ?_ (fun hHeld2 => ?_)
    · (try dsimp only); first | exact t7 | exact t6 | exact hqq.1 | exact (HS.out _ hQ).1
    clear hK K
    try simp only [Act.put, List.setIfInBounds_toArray, List.set_cons_zero, List.set_cons_succ]
    refine wpAnyH_ready (rs := [15]) (by kernel_rfl) (by simp) ?_
    refine AllReadyH.cons (o := _) rfl (fun K hK => ?_) ?_
    · go_simp
      refine (HH.out _ hQ).mono ?_
      rintro _ w2 ⟨rfl, hk2⟩
      replace hQ := hQ.trans hk2 (fun _ f _ => f)
      clear hk2 q10 q10'
      have q10 := (HS.out _ hQ).2
      refine hK.out _ _ ?_ (fun hHeld2 => ?_)
      · (try dsimp only); first | exact t7 | exact t6 | exact hqq.1 | exact (HS.out _ hQ).1
      clear hK K
      try simp only [Act.put, List.setIfInBounds_toArray, List.set_cons_zero, List.set_cons_succ]
      refine wpAnyH_take (i := 16) (oi := _) (v := ?_) rfl (by kernel_rfl) (by kernel_rfl) (by kernel_rfl) (fun _ _ _ h => h) (Or.inl ⟨by rfl, ?_⟩) (by assumption) ?_
      rotate_left
      · (intro wz hSw; (try dsimp only at hSw); go_simp; try with_reducible rfl)
      simp only [Act.put, List.setIfInBounds_toArray, List.set_cons_zero, List.set_cons_succ]
      refine wpAnyH_take (i := 17) (oi := { dst := some 55, op := Op.load 28 (Operand.tmp 54), type := 28, pos := "play.go:49", after := #[{ on := 16, ground := Ground.data }], guard := none }) (v := ?_) rfl (by kernel_rfl) (by kernel_rfl) (by kernel_rfl) (fun _ _ _ h => h) (Or.inl ⟨by rfl, ?_⟩) (by assumption) ?_
      rotate_left
      · (intro wz hSw; (try dsimp only at hSw); go_simp; try with_reducible rfl)
      simp only [Act.put, List.setIfInBounds_toArray, List.set_cons_zero, List.set_cons_succ]
      refine wpAnyH_ready (rs := [18]) (by kernel_rfl) (by simp) ?_
      refine AllReadyH.cons (o := _) rfl (fun K hK => ?_) ?_
      · go_simp
        rw [HKK.out]
        have hrw := (HA.out.1.more hQ).vw.rows (.inl a); simp only [Lf] at hrw; rw [HP.out.2.2.2.2.2.2.1] at hrw
        refine (tell_ok base _ _ _ hrw ((HA.out.1.more hQ).sizeLe) (by have := HP.out.2.2.2.2.1; omega)).mono ?_
        rintro _ w3 ⟨V', rfl, -, ho3, hk3, hm3⟩
        obtain ⟨x, c, rfl⟩ := row_shape ho3
        clear hrw
        have hQ2 := hQ
        replace hQ := hQ.trans hk3 (fun _ f _ => f)
        have q10 := (HS.out _ hQ).2
        have q10A : (w3.alloc (.cells #[.slice x (l).length c] 28)).cell? ⟨pb, 10, none⟩ = some (.slice X.la s.lk.length X.lc) := (HS.out _ (hQ.andAlloc _)).2
        refine hK.out _ _ ?_ (fun hHeld2 => ?_)
        · (try dsimp only); first | exact t7 | exact t6 | exact hqq.1 | exact (HS.out _ hQ).1
        clear hK K
        try simp only [Act.put, List.setIfInBounds_toArray, List.set_cons_zero, List.set_cons_succ]
        refine wpAnyH_ready (rs := [19]) (by kernel_rfl) (by simp) ?_
        refine AllReadyH.cons (o := { dst := some 57, op := Op.buildSlice 30 1 #[(0, Operand.tmp 56)], type := 30, pos := "play.go:49", after := #[{ on := 18, ground := Ground.data }], guard := none }) rfl (fun K hK => ?_) ?_
        · go_simp
          have hQ3 := hQ
          replace hQ := hQ.andAlloc (.cells #[.slice x (l).length c] 28)
          refine hK.out _ _ ?_ (fun hHeld2 => ?_)
          · (try dsimp only); first | exact t7 | exact t6 | exact hqq.1 | exact (HS.out _ hQ).1
          clear hK K
          try simp only [Act.put, List.setIfInBounds_toArray, List.set_cons_zero, List.set_cons_succ]
          refine wpAnyH_ready (rs := [20]) (by kernel_rfl) (by simp) ?_
          refine AllReadyH.cons (o := _) rfl (fun K hK => ?_) ?_
          · (obtain ⟨g, cap, w4, hr4, ho4, hk4, hm4⟩ := rows_more base (.slice X.la s.lk.length X.lc) (.slice x (l).length c) s.lk.length _ 30 w3.heap.size _ (HA.out.1.more hQ).vw.looks ((HA.out.1.more hQ).sizeLe) (by have := HP.out.2.2.2.2.2.1; omega) rfl (blk_new w3 _ _ rfl); refine step_append_run rfl (.tmp 42) (.tmp 57) 30 30 rfl (by first | rfl | simp [Act.eval]) (by first | rfl | simp [Act.eval]) hr4 ?_)
            have hP5 := (HA.out.1.more hQ2).newLook (l := l) (w1 := w3.alloc (.cells #[.slice x (l).length c] 28)) (ho3.alloc _) (hk3.andAlloc _) (fun b e => hm3 b e) ho4 hk4 hm4
            obtain ⟨t6, t7, f10, z10⟩ := look_told (HA.out.1.more hQ2) (a := a) HP.out.2.2.2.1 HVA.out (w1 := w3.alloc (.cells #[.slice x l.length c] 28)) (ho3.alloc _) (hk3.andAlloc _) (fun b e => hm3 b e) ho4 hk4 hm4
            rw [← HKK.out] at t6 t7
            have HF : Hid (PM (w4.setCell ⟨pb, 10, none⟩ (.slice (some ⟨g, 0, none⟩) (s.lk.length + 1) cap)) base pb st { X with la := some ⟨g, 0, none⟩, lc := cap } (upd K0 (.inr s.lk.length) (.slice x l.length c)) R R { s with lk := s.lk ++ [l] } ∧ Keeps (fun i => base ≤ i) w (w4.setCell ⟨pb, 10, none⟩ (.slice (some ⟨g, 0, none⟩) (s.lk.length + 1) cap))) := ⟨hP5, ((keeps_tr HA.out.2 hQ).trans hk4 (fun i e _ => row_low (HA.out.1.more hQ).vw.looks e)).andSet (x := ⟨pb, 10, none⟩) (.inl HA.out.1.low) _⟩
            refine hK.out _ _ ?_ (fun hHeld2 => ?_)
            · (try dsimp only); first | exact t7 | exact t6 | exact hqq.1 | exact (HS.out _ hQ).1
            clear hK K
            try simp only [Act.put, List.setIfInBounds_toArray, List.set_cons_zero, List.set_cons_succ]
            refine wpAnyH_take (i := 21) (oi := _) (v := ?_) rfl (by kernel_rfl) (by kernel_rfl) (by kernel_rfl) (fun _ _ _ h => h) (Or.inl ⟨by rfl, ?_⟩) (by assumption) ?_
            rotate_left
            · (intro wz hSw; (try dsimp only at hSw); go_simp; try with_reducible rfl)
            simp only [Act.put, List.setIfInBounds_toArray, List.set_cons_zero, List.set_cons_succ]
            refine wpAnyH_take (i := 22) (oi := _) (v := ?_) rfl (by kernel_rfl) (by kernel_rfl) (by kernel_rfl) (fun _ _ _ h => h) (Or.inl ⟨by rfl, ?_⟩) (by assumption) ?_
            rotate_left
            · (intro wz hSw; (try dsimp only at hSw); go_simp; try with_reducible rfl)
            simp only [Act.put, List.setIfInBounds_toArray, List.set_cons_zero, List.set_cons_succ]
            refine wpAnyH_ready (rs := [23]) (by kernel_rfl) (by simp) ?_
            refine AllReadyH.cons (o := _) rfl (fun K hK => ?_) ?_
            · go_simp
              refine hK.out _ _ ?_ (fun hHeld2 => ?_)
              · (try dsimp only); first | exact t7 | exact t6 | exact hqq.1 | exact (HS.out _ hQ).1
              clear hK K
              try simp only [Act.put, List.setIfInBounds_toArray, List.set_cons_zero, List.set_cons_succ]
              refine wpAnyH_done (by kernel_rfl) ?_ _
              go_wp2_with fail
              go_end0
              exact ⟨rfl, ⟨_, _, R, HF.out.1⟩, HF.out.2⟩
            exact AllReadyH.nil
          exact AllReadyH.nil
        exact AllReadyH.nil
      exact AllReadyH.nil
    exact AllReadyH.nil
  refine AllReadyH.cons (o := _) rfl (fun K hK => ?_) ?_
  · go_simp
    refine (HH.out _ hQ).mono ?_
    rintro _ w2 ⟨rfl, hk2⟩
    replace hQ := hQ.trans hk2 (fun _ f _ => f)
    clear hk2 q10 q10'
    have q10 := (HS.out _ hQ).2
    refine hK.out _ _ ?_ (fun hHeld2 => ?_)
    · (try dsimp only); first | exact t7 | exact t6 | exact hqq.1 | exact (HS.out _ hQ).1
    clear hK K
    try simp only [Act.put, List.setIfInBounds_toArray, List.set_cons_zero, List.set_cons_succ]
    refine wpAnyH_take (i := 16) (oi := _) (v := ?_) rfl (by kernel_rfl) (by kernel_rfl) (by kernel_rfl) (fun _ _ _ h => h) (Or.inl ⟨by rfl, ?_⟩) (by assumption) ?_
    rotate_left
    · (intro wz hSw; (try dsimp only at hSw); go_simp; try with_reducible rfl)
    simp only [Act.put, List.setIfInBounds_toArray, List.set_cons_zero, List.set_cons_succ]
    refine wpAnyH_take (i := 17) (oi := { dst := some 55, op := Op.load 28 (Operand.tmp 54), type := 28, pos := "play.go:49", after := #[{ on := 16, ground := Ground.data }], guard := none }) (v := ?_) rfl (by kernel_rfl) (by kernel_rfl) (by kernel_rfl) (fun _ _ _ h => h) (Or.inl ⟨by rfl, ?_⟩) (by assumption) ?_
    rotate_left
    · (intro wz hSw; (try dsimp only at hSw); go_simp; try with_reducible rfl)
    simp only [Act.put, List.setIfInBounds_toArray, List.set_cons_zero, List.set_cons_succ]
    refine wpAnyH_ready (rs := [4, 18]) (by kernel_rfl) (by simp) ?_
    refine AllReadyH.cons (o := { dst := some 42, op := Op.load 30 (Operand.tmp 41), type := 30, pos := "play.go:49", after := #[{ on := 3, ground := Ground.data }], guard := none }) rfl (fun K hK => ?_) ?_
    · go_simp
      refine hK.out _ _ ?_ (fun hHeld2 => ?_)
      · (try dsimp only); first | exact t7 | exact t6 | exact hqq.1 | exact (HS.out _ hQ).1
      clear hK K
      try simp only [Act.put, List.setIfInBounds_toArray, List.set_cons_zero, List.set_cons_succ]
      refine wpAnyH_ready (rs := [18]) (by kernel_rfl) (by simp) ?_
      refine AllReadyH.cons (o := _) rfl (fun K hK => ?_) ?_
      · go_simp
        rw [HKK.out]
        have hrw := (HA.out.1.more hQ).vw.rows (.inl a); simp only [Lf] at hrw; rw [HP.out.2.2.2.2.2.2.1] at hrw
        refine (tell_ok base _ _ _ hrw ((HA.out.1.more hQ).sizeLe) (by have := HP.out.2.2.2.2.1; omega)).mono ?_
        rintro _ w3 ⟨V', rfl, -, ho3, hk3, hm3⟩
        obtain ⟨x, c, rfl⟩ := row_shape ho3
        clear hrw
        have hQ2 := hQ
        replace hQ := hQ.trans hk3 (fun _ f _ => f)
        have q10 := (HS.out _ hQ).2
        have q10A : (w3.alloc (.cells #[.slice x (l).length c] 28)).cell? ⟨pb, 10, none⟩ = some (.slice X.la s.lk.length X.lc) := (HS.out _ (hQ.andAlloc _)).2
        refine hK.out _ _ ?_ (fun hHeld2 => ?_)
        · (try dsimp only); first | exact t7 | exact t6 | exact hqq.1 | exact (HS.out _ hQ).1
        clear hK K
        try simp only [Act.put, List.setIfInBounds_toArray, List.set_cons_zero, List.set_cons_succ]
        refine wpAnyH_ready (rs := [19]) (by kernel_rfl) (by simp) ?_
        refine AllReadyH.cons (o := { dst := some 57, op := Op.buildSlice 30 1 #[(0, Operand.tmp 56)], type := 30, pos := "play.go:49", after := #[{ on := 18, ground := Ground.data }], guard := none }) rfl (fun K hK => ?_) ?_
        · go_simp
          have hQ3 := hQ
          replace hQ := hQ.andAlloc (.cells #[.slice x (l).length c] 28)
          refine hK.out _ _ ?_ (fun hHeld2 => ?_)
          · (try dsimp only); first | exact t7 | exact t6 | exact hqq.1 | exact (HS.out _ hQ).1
          clear hK K
          try simp only [Act.put, List.setIfInBounds_toArray, List.set_cons_zero, List.set_cons_succ]
          refine wpAnyH_ready (rs := [20]) (by kernel_rfl) (by simp) ?_
          refine AllReadyH.cons (o := _) rfl (fun K hK => ?_) ?_
          · (obtain ⟨g, cap, w4, hr4, ho4, hk4, hm4⟩ := rows_more base (.slice X.la s.lk.length X.lc) (.slice x (l).length c) s.lk.length _ 30 w3.heap.size _ (HA.out.1.more hQ).vw.looks ((HA.out.1.more hQ).sizeLe) (by have := HP.out.2.2.2.2.2.1; omega) rfl (blk_new w3 _ _ rfl); refine step_append_run rfl (.tmp 42) (.tmp 57) 30 30 rfl (by first | rfl | simp [Act.eval]) (by first | rfl | simp [Act.eval]) hr4 ?_)
            have hP5 := (HA.out.1.more hQ2).newLook (l := l) (w1 := w3.alloc (.cells #[.slice x (l).length c] 28)) (ho3.alloc _) (hk3.andAlloc _) (fun b e => hm3 b e) ho4 hk4 hm4
            obtain ⟨t6, t7, f10, z10⟩ := look_told (HA.out.1.more hQ2) (a := a) HP.out.2.2.2.1 HVA.out (w1 := w3.alloc (.cells #[.slice x l.length c] 28)) (ho3.alloc _) (hk3.andAlloc _) (fun b e => hm3 b e) ho4 hk4 hm4
            rw [← HKK.out] at t6 t7
            have HF : Hid (PM (w4.setCell ⟨pb, 10, none⟩ (.slice (some ⟨g, 0, none⟩) (s.lk.length + 1) cap)) base pb st { X with la := some ⟨g, 0, none⟩, lc := cap } (upd K0 (.inr s.lk.length) (.slice x l.length c)) R R { s with lk := s.lk ++ [l] } ∧ Keeps (fun i => base ≤ i) w (w4.setCell ⟨pb, 10, none⟩ (.slice (some ⟨g, 0, none⟩) (s.lk.length + 1) cap))) := ⟨hP5, ((keeps_tr HA.out.2 hQ).trans hk4 (fun i e _ => row_low (HA.out.1.more hQ).vw.looks e)).andSet (x := ⟨pb, 10, none⟩) (.inl HA.out.1.low) _⟩
            refine hK.out _ _ ?_ (fun hHeld2 => ?_)
            · (try dsimp only); first | exact t7 | exact t6 | exact hqq.1 | exact (HS.out _ hQ).1
            clear hK K
            try simp only [Act.put, List.setIfInBounds_toArray, List.set_cons_zero, List.set_cons_succ]
            refine wpAnyH_take (i := 21) (oi := _) (v := ?_) rfl (by kernel_rfl) (by kernel_rfl) (by kernel_rfl) (fun _ _ _ h => h) (Or.inl ⟨by rfl, ?_⟩) (by assumption) ?_
            rotate_left
            · (intro wz hSw; (try dsimp only at hSw); go_simp; try with_reducible rfl)
            simp only [Act.put, List.setIfInBounds_toArray, List.set_cons_zero, List.set_cons_succ]
            refine wpAnyH_take (i := 22) (oi := _) (v := ?_) rfl (by kernel_rfl) (by kernel_rfl) (by kernel_rfl) (fun _ _ _ h => h) (Or.inl ⟨by rfl, ?_⟩) (by assumption) ?_
            rotate_left
            · (intro wz hSw; (try dsimp only at hSw); go_simp; try with_reducible rfl)
            simp only [Act.put, List.setIfInBounds_toArray, List.set_cons_zero, List.set_cons_succ]
            refine wpAnyH_ready (rs := [23]) (by kernel_rfl) (by simp) ?_
            refine AllReadyH.cons (o := _) rfl (fun K hK => ?_) ?_
            · go_simp
              refine hK.out _ _ ?_ (fun hHeld2 => ?_)
              · (try dsimp only); first | exact t7 | exact t6 | exact hqq.1 | exact (HS.out _ hQ).1
              clear hK K
              try simp only [Act.put, List.setIfInBounds_toArray, List.set_cons_zero, List.set_cons_succ]
              refine wpAnyH_done (by kernel_rfl) ?_ _
              go_wp2_with fail
              go_end0
              exact ⟨rfl, ⟨_, _, R, HF.out.1⟩, HF.out.2⟩
            exact AllReadyH.nil
          exact AllReadyH.nil
        exact AllReadyH.nil
      exact AllReadyH.nil
    refine AllReadyH.cons (o := _) rfl (fun K hK => ?_) ?_
    · go_simp
      rw [HKK.out]
      have hrw := (HA.out.1.more hQ).vw.rows (.inl a); simp only [Lf] at hrw; rw [HP.out.2.2.2.2.2.2.1] at hrw
      refine (tell_ok base _ _ _ hrw ((HA.out.1.more hQ).sizeLe) (by have := HP.out.2.2.2.2.1; omega)).mono ?_
      rintro _ w3 ⟨V', rfl, -, ho3, hk3, hm3⟩
      obtain ⟨x, c, rfl⟩ := row_shape ho3
      clear hrw
      have hQ2 := hQ
      replace hQ := hQ.trans hk3 (fun _ f _ => f)
      have q10 := (HS.out _ hQ).2
      have q10A : (w3.alloc (.cells #[.slice x (l).length c] 28)).cell? ⟨pb, 10, none⟩ = some (.slice X.la s.lk.length X.lc) := (HS.out _ (hQ.andAlloc _)).2
      refine hK.out _ _ ?_ (fun hHeld2 => ?_)
      · (try dsimp only); first | exact t7 | exact t6 | exact hqq.1 | exact (HS.out _ hQ).1
      clear hK K
      try simp only [Act.put, List.setIfInBounds_toArray, List.set_cons_zero, List.set_cons_succ]
      refine wpAnyH_ready (rs := [4, 19]) (by kernel_rfl) (by simp) ?_
      refine AllReadyH.cons (o := { dst := some 42, op := Op.load 30 (Operand.tmp 41), type := 30, pos := "play.go:49", after := #[{ on := 3, ground := Ground.data }], guard := none }) rfl (fun K hK => ?_) ?_
      · go_simp
        refine hK.out _ _ ?_ (fun hHeld2 => ?_)
        · (try dsimp only); first | exact t7 | exact t6 | exact hqq.1 | exact (HS.out _ hQ).1
        clear hK K
        try simp only [Act.put, List.setIfInBounds_toArray, List.set_cons_zero, List.set_cons_succ]
        refine wpAnyH_ready (rs := [19]) (by kernel_rfl) (by simp) ?_
        refine AllReadyH.cons (o := { dst := some 57, op := Op.buildSlice 30 1 #[(0, Operand.tmp 56)], type := 30, pos := "play.go:49", after := #[{ on := 18, ground := Ground.data }], guard := none }) rfl (fun K hK => ?_) ?_
        · go_simp
          have hQ3 := hQ
          replace hQ := hQ.andAlloc (.cells #[.slice x (l).length c] 28)
          refine hK.out _ _ ?_ (fun hHeld2 => ?_)
          · (try dsimp only); first | exact t7 | exact t6 | exact hqq.1 | exact (HS.out _ hQ).1
          clear hK K
          try simp only [Act.put, List.setIfInBounds_toArray, List.set_cons_zero, List.set_cons_succ]
          refine wpAnyH_ready (rs := [20]) (by kernel_rfl) (by simp) ?_
          refine AllReadyH.cons (o := _) rfl (fun K hK => ?_) ?_
          · (obtain ⟨g, cap, w4, hr4, ho4, hk4, hm4⟩ := rows_more base (.slice X.la s.lk.length X.lc) (.slice x (l).length c) s.lk.length _ 30 w3.heap.size _ (HA.out.1.more hQ).vw.looks ((HA.out.1.more hQ).sizeLe) (by have := HP.out.2.2.2.2.2.1; omega) rfl (blk_new w3 _ _ rfl); refine step_append_run rfl (.tmp 42) (.tmp 57) 30 30 rfl (by first | rfl | simp [Act.eval]) (by first | rfl | simp [Act.eval]) hr4 ?_)
            have hP5 := (HA.out.1.more hQ2).newLook (l := l) (w1 := w3.alloc (.cells #[.slice x (l).length c] 28)) (ho3.alloc _) (hk3.andAlloc _) (fun b e => hm3 b e) ho4 hk4 hm4
            obtain ⟨t6, t7, f10, z10⟩ := look_told (HA.out.1.more hQ2) (a := a) HP.out.2.2.2.1 HVA.out (w1 := w3.alloc (.cells #[.slice x l.length c] 28)) (ho3.alloc _) (hk3.andAlloc _) (fun b e => hm3 b e) ho4 hk4 hm4
            rw [← HKK.out] at t6 t7
            have HF : Hid (PM (w4.setCell ⟨pb, 10, none⟩ (.slice (some ⟨g, 0, none⟩) (s.lk.length + 1) cap)) base pb st { X with la := some ⟨g, 0, none⟩, lc := cap } (upd K0 (.inr s.lk.length) (.slice x l.length c)) R R { s with lk := s.lk ++ [l] } ∧ Keeps (fun i => base ≤ i) w (w4.setCell ⟨pb, 10, none⟩ (.slice (some ⟨g, 0, none⟩) (s.lk.length + 1) cap))) := ⟨hP5, ((keeps_tr HA.out.2 hQ).trans hk4 (fun i e _ => row_low (HA.out.1.more hQ).vw.looks e)).andSet (x := ⟨pb, 10, none⟩) (.inl HA.out.1.low) _⟩
            refine hK.out _ _ ?_ (fun hHeld2 => ?_)
            · (try dsimp only); first | exact t7 | exact t6 | exact hqq.1 | exact (HS.out _ hQ).1
            clear hK K
            try simp only [Act.put, List.setIfInBounds_toArray, List.set_cons_zero, List.set_cons_succ]
            refine wpAnyH_take (i := 21) (oi := _) (v := ?_) rfl (by kernel_rfl) (by kernel_rfl) (by kernel_rfl) (fun _ _ _ h => h) (Or.inl ⟨by rfl, ?_⟩) (by assumption) ?_
            rotate_left
            · (intro wz hSw; (try dsimp only at hSw); go_simp; try with_reducible rfl)
            simp only [Act.put, List.setIfInBounds_toArray, List.set_cons_zero, List.set_cons_succ]
            refine wpAnyH_take (i := 22) (oi := _) (v := ?_) rfl (by kernel_rfl) (by kernel_rfl) (by kernel_rfl) (fun _ _ _ h => h) (Or.inl ⟨by rfl, ?_⟩) (by assumption) ?_
            rotate_left
            · (intro wz hSw; (try dsimp only at hSw); go_simp; try with_reducible rfl)
            simp only [Act.put, List.setIfInBounds_toArray, List.set_cons_zero, List.set_cons_succ]
            refine wpAnyH_ready (rs := [23]) (by kernel_rfl) (by simp) ?_
            refine AllReadyH.cons (o := _) rfl (fun K hK => ?_) ?_
            · go_simp
              refine hK.out _ _ ?_ (fun hHeld2 => ?_)
              · (try dsimp only); first | exact t7 | exact t6 | exact hqq.1 | exact (HS.out _ hQ).1
              clear hK K
              try simp only [Act.put, List.setIfInBounds_toArray, List.set_cons_zero, List.set_cons_succ]
              refine wpAnyH_done (by kernel_rfl) ?_ _
              go_wp2_with fail
              go_end0
              exact ⟨rfl, ⟨_, _, R, HF.out.1⟩, HF.out.2⟩
            exact AllReadyH.nil
          exact AllReadyH.nil
        exact AllReadyH.nil
      refine AllReadyH.cons (o := { dst := some 57, op := Op.buildSlice 30 1 #[(0, Operand.tmp 56)], type := 30, pos := "play.go:49", after := #[{ on := 18, ground := Ground.data }], guard := none }) rfl (fun K hK => ?_) ?_
      · go_simp
        have hQ3 := hQ
        replace hQ := hQ.andAlloc (.cells #[.slice x (l).length c] 28)
        refine hK.out _ _ ?_ (fun hHeld2 => ?_)
        · (try dsimp only); first | exact t7 | exact t6 | exact hqq.1 | exact (HS.out _ hQ).1
        clear hK K
        try simp only [Act.put, List.setIfInBounds_toArray, List.set_cons_zero, List.set_cons_succ]
        refine wpAnyH_ready (rs := [4]) (by kernel_rfl) (by simp) ?_
        refine AllReadyH.cons (o := { dst := some 42, op := Op.load 30 (Operand.tmp 41), type := 30, pos := "play.go:49", after := #[{ on := 3, ground := Ground.data }], guard := none }) rfl (fun K hK => ?_) ?_
        · go_simp
          refine hK.out _ _ ?_ (fun hHeld2 => ?_)
          · (try dsimp only); first | exact t7 | exact t6 | exact hqq.1 | exact (HS.out _ hQ).1
          clear hK K
          try simp only [Act.put, List.setIfInBounds_toArray, List.set_cons_zero, List.set_cons_succ]
          refine wpAnyH_ready (rs := [20]) (by kernel_rfl) (by simp) ?_
          refine AllReadyH.cons (o := _) rfl (fun K hK => ?_) ?_
          · (obtain ⟨g, cap, w4, hr4, ho4, hk4, hm4⟩ := rows_more base (.slice X.la s.lk.length X.lc) (.slice x (l).length c) s.lk.length _ 30 w3.heap.size _ (HA.out.1.more hQ).vw.looks ((HA.out.1.more hQ).sizeLe) (by have := HP.out.2.2.2.2.2.1; omega) rfl (blk_new w3 _ _ rfl); refine step_append_run rfl (.tmp 42) (.tmp 57) 30 30 rfl (by first | rfl | simp [Act.eval]) (by first | rfl | simp [Act.eval]) hr4 ?_)
            have hP5 := (HA.out.1.more hQ2).newLook (l := l) (w1 := w3.alloc (.cells #[.slice x (l).length c] 28)) (ho3.alloc _) (hk3.andAlloc _) (fun b e => hm3 b e) ho4 hk4 hm4
            obtain ⟨t6, t7, f10, z10⟩ := look_told (HA.out.1.more hQ2) (a := a) HP.out.2.2.2.1 HVA.out (w1 := w3.alloc (.cells #[.slice x l.length c] 28)) (ho3.alloc _) (hk3.andAlloc _) (fun b e => hm3 b e) ho4 hk4 hm4
            rw [← HKK.out] at t6 t7
            have HF : Hid (PM (w4.setCell ⟨pb, 10, none⟩ (.slice (some ⟨g, 0, none⟩) (s.lk.length + 1) cap)) base pb st { X with la := some ⟨g, 0, none⟩, lc := cap } (upd K0 (.inr s.lk.length) (.slice x l.length c)) R R { s with lk := s.lk ++ [l] } ∧ Keeps (fun i => base ≤ i) w (w4.setCell ⟨pb, 10, none⟩ (.slice (some ⟨g, 0, none⟩) (s.lk.length + 1) cap))) := ⟨hP5, ((keeps_tr HA.out.2 hQ).trans hk4 (fun i e _ => row_low (HA.out.1.more hQ).vw.looks e)).andSet (x := ⟨pb, 10, none⟩) (.inl HA.out.1.low) _⟩
            refine hK.out _ _ ?_ (fun hHeld2 => ?_)
            · (try dsimp only); first | exact t7 | exact t6 | exact hqq.1 | exact (HS.out _ hQ).1
            clear hK K
            try simp only [Act.put, List.setIfInBounds_toArray, List.set_cons_zero, List.set_cons_succ]
            refine wpAnyH_take (i := 21) (oi := _) (v := ?_) rfl (by kernel_rfl) (by kernel_rfl) (by kernel_rfl) (fun _ _ _ h => h) (Or.inl ⟨by rfl, ?_⟩) (by assumption) ?_
            rotate_left
            · (intro wz hSw; (try dsimp only at hSw); go_simp; try with_reducible rfl)
            simp only [Act.put, List.setIfInBounds_toArray, List.set_cons_zero, List.set_cons_succ]
            refine wpAnyH_take (i := 22) (oi := _) (v := ?_) rfl (by kernel_rfl) (by kernel_rfl) (by kernel_rfl) (fun _ _ _ h => h) (Or.inl ⟨by rfl, ?_⟩) (by assumption) ?_
            rotate_left
            · (intro wz hSw; (try dsimp only at hSw); go_simp; try with_reducible rfl)
            simp only [Act.put, List.setIfInBounds_toArray, List.set_cons_zero, List.set_cons_succ]
            refine wpAnyH_ready (rs := [23]) (by kernel_rfl) (by simp) ?_
            refine AllReadyH.cons (o := _) rfl (fun K hK => ?_) ?_
            · go_simp
              refine hK.out _ _ ?_ (fun hHeld2 => ?_)
              · (try dsimp only); first | exact t7 | exact t6 | exact hqq.1 | exact (HS.out _ hQ).1
              clear hK K
              try simp only [Act.put, List.setIfInBounds_toArray, List.set_cons_zero, List.set_cons_succ]
              refine wpAnyH_done (by kernel_rfl) ?_ _
              go_wp2_with fail
              go_end0
              exact ⟨rfl, ⟨_, _, R, HF.out.1⟩, HF.out.2⟩
            exact AllReadyH.nil
          exact AllReadyH.nil
        exact AllReadyH.nil
      exact AllReadyH.nil
    exact AllReadyH.nil
  exact AllReadyH.nil
end Go.Proofs.Ytdiabpoafennlab
