import Derived.Test.YtdiabpoafennlabPkAU
import Derived.Test.YtdiabpoafennlabPkAE
/-! A deed: something is put, of a player of numbers. -/
namespace Go.Proofs.Ytdiabpoafennlab.Nm
set_option linter.unusedVariables false
set_option maxRecDepth 20000
set_option linter.unusedSimpArgs false
open Go.RowKit Go.HeapKit Go.PlainOps

set_option maxHeartbeats 3200000 in
theorem do_write (base pb at0 : Nat) (st : List Bool) (X : PX) (K0 : NP) (R : Nat → Value) (s : PS) (w : World) (tk : List (Nat × List Nat)) (sp : Nat) (r : List Nat) (loc : Int) (h : PM w base pb st X K0 R R s) (hx : s.tk = tk ++ [(sp, r)]) (hr : r ≠ []) (hn : tk.length ≤ 100000) (hn2 : r.length ≤ 100000) (hb : base ≤ w.heap.size) (a : Nat) (ha : a = r.getLastD 0) (l : List Int) (hll : s.vs.getD a [] = l) (hv : a < s.vs.length) (hl : l.length ≤ 100000) (hu : hasU K0.op = true) :
    Calls Try.prog 46 #[.pointer (some ⟨pb, 0, none⟩), .int .i64 at0, .agg #[.int .i64 4, .int .i64 loc]] w fun e w' => e = .returned (.tuple #[]) ∧ (∃ X' R', PM w' base pb st X' K0 R' R' { s with vs := s.vs.set a (l ++ [loc]) }) ∧ Keeps (fun i => base ≤ i) w w' := by
  have HP : Hid (PM w base pb st X K0 R R s ∧ s.tk = tk ++ [(sp, r)] ∧ r ≠ [] ∧ base ≤ w.heap.size ∧ a < s.vs.length ∧ s.vs.getD a [] = l ∧ a = r.getLastD 0) := ⟨h, hx, hr, hb, hv, hll, ha⟩
  clear h hx hr hb hv hll ha
  have hb0 := blk_new w (.cells #[.int .i64 4, .int .i64 loc] 44) w.heap.size rfl
  have hkb := (Keeps.alloc None w (.cells #[.int .i64 4, .int .i64 loc] 44))
  obtain ⟨db, hdb⟩ : ∃ db, db = w.heap.size := ⟨_, rfl⟩
  rw [← hdb] at hb0
  go_enter Try.func46, Try.ntmps46
  go_upto_region 1 with fail
  rw [← hdb]
  have HDB : Hid (db = w.heap.size) := hdb
  clear hdb
  generalize w.alloc (.cells #[.int .i64 4, .int .i64 loc] 44) = wa at *
  have HA : Hid (PM wa base pb st X K0 R R s ∧ Keeps None w wa ∧ wa.heap[db]? = some (.cells #[.int .i64 4, .int .i64 loc] 44 (0, 0)) ∧ base ≤ wa.heap.size) := ⟨HP.out.1.more hkb, hkb, hb0, Nat.le_trans HP.out.2.2.2.1 hkb.size⟩
  have d0 : wa.cell? ⟨db, 0, none⟩ = some (.int .i64 4) := blk_cell hb0 0
  clear hb0 hkb
  go_wp2_with fail
  refine (hand_ok base pb st X K0 R s wa tk sp r HA.out.1 HP.out.2.1 HP.out.2.2.1 hn hn2).mono ?_
  rintro e w1 ⟨rfl, hk1⟩
  have HM : Hid (PM w1 base pb st X K0 R R s ∧ Keeps (fun i => base ≤ i) w w1 ∧ base ≤ w1.heap.size) := ⟨HA.out.1.more hk1, (keeps_tr HA.out.2.1 hk1).mono (fun _ f _ => f.elim), Nat.le_trans HA.out.2.2.2 hk1.size⟩
  have d1 : w1.cell? ⟨db, 1, none⟩ = some (.int .i64 loc) := blk_cell (blk_kept HA.out.2.2.1 hk1 (fun f => f)) 1
  rw [← HP.out.2.2.2.2.2.2]
  have HD : Hid (w1.heap[db]? = some (.cells #[.int .i64 4, .int .i64 loc] 44 (0, 0))) := blk_kept HA.out.2.2.1 hk1 (fun f => f)
  clear hk1 d0 HA
  go_upto_region 4 with fail
  obtain ⟨vb, hva, hvc, v1, hf, hvl⟩ := HM.out.1.viewAt HP.out.2.2.2.2.1
  obtain ⟨-, q1, -, -, -, -, q6, -, -, -, -⟩ := HM.out.1.c0
  rw [hva] at q6
  rw [HP.out.2.2.2.2.2.1] at v1
  obtain ⟨Va, hVa⟩ : ∃ V, V = fV K0 l := ⟨_, rfl⟩
  rw [← hVa] at v1
  obtain ⟨V, hV⟩ : ∃ V, V = fV K0 (l ++ [loc]) := ⟨_, rfl⟩
  have HV : Hid (workV K0.op Va loc = V) := by rw [hVa, hV]; exact fV_put K0 l loc
  have f1 := hf a
  have z1 : (a : Int) < (s.vs.length : Int) := by have := HP.out.2.2.2.2.1; omega
  have HB4 : Hid (w1.drew.cell? ⟨K0.pa, 0, none⟩ = some (.int .i64 K0.op) ∧ hasU K0.op = true) := ⟨(Keeps.drew None w1).cell HM.out.1.ar.b1 (fun f => f), hu⟩
  have hP5 := (HM.out.1.more (Keeps.drew None w1)).putView (v := a) (l ++ [loc]) hva
  rw [← hV] at hP5
  have HF : Hid (PM (w1.drew.setCell ⟨vb, a, none⟩ (.int .i64 V)) base pb st X K0 R R { s with vs := s.vs.set a (l ++ [loc]) } ∧ Keeps (fun i => base ≤ i) w (w1.drew.setCell ⟨vb, a, none⟩ (.int .i64 V))) := ⟨hP5, (HM.out.2.1.andDrew).andSet (x := ⟨vb, a, none⟩) (.inl hvl) _⟩
  have t6 : (w1.drew.setCell ⟨vb, a, none⟩ (.int .i64 V)).cell? ⟨pb, 6, none⟩ = some (.slice (some ⟨vb, 0, none⟩) s.vs.length X.vc) := by
    have := hP5.c0.2.2.2.2.2.2.1
    rw [hva] at this
    rw [this]
    show some (Value.slice _ (s.vs.set a _).length _) = _
    rw [List.length_set]
  have t1 := hP5.c0.2.1
  have HDV : Hid (db ≠ vb) := by
    intro e
    have hd := HD.out
    rw [e] at hd
    obtain ⟨cur, hc⟩ := own_block HM.out.1.vw.views (g := vb) (by rw [hva]; rfl)
    rw [hd] at hc
    injection hc with hc
    injection hc with _ hc
    exact absurd hc (by decide)
  have y6 : (w1.drew.setCell ⟨vb, a, none⟩ (.int .i64 V)).cell? ⟨db, 1, none⟩ = some (.int .i64 loc) := (Keeps.setCell (S := (· = vb)) w1.drew (a := ⟨vb, a, none⟩) rfl (.int .i64 V)).cell d1 (fun e => HDV.out e)
  clear hP5 hva hvc hf hvl hVa hV HP HD hu
  refine wp_region_held_drew (S := (fun w' => w'.cell? ⟨pb, 6, none⟩ = some (.slice (some ⟨vb, 0, none⟩) s.vs.length X.vc) ∧ w'.cell? ⟨pb, 1, none⟩ = some (.func (.func 49) #[] #[.pointer (some ⟨K0.pa, 0, none⟩)]) ∧ w'.cell? ⟨db, 1, none⟩ = some (.int .i64 loc))) (by kernel_rfl) ?_ (fun hHeld => ?_)
  · (try dsimp only); first | exact ⟨q6, q1, d1⟩ | exact ⟨t6, t1, y6⟩
  refine wpAnyH_take (i := 0) (oi := { dst := some 15, op := Op.move (Operand.tmp 0), type := 77, pos := "play.go:47", after := #[], guard := none }) (v := ?_) rfl (by kernel_rfl) (by kernel_rfl) (by kernel_rfl) (fun _ _ _ h => h) (Or.inl ⟨by rfl, ?_⟩) (by assumption) ?_
  rotate_left
  · (intro wz hSw; (try dsimp only at hSw); go_simp; try with_reducible rfl)
  simp only [Act.put, List.setIfInBounds_toArray, List.set_cons_zero, List.set_cons_succ]
  refine wpAnyH_take (i := 1) (oi := { dst := some 16, op := Op.nilCheck (Operand.tmp 15), type := 0, pos := "play.go:47", after := #[{ on := 0, ground := Ground.data }], guard := none }) (v := ?_) rfl (by kernel_rfl) (by kernel_rfl) (by kernel_rfl) (fun _ _ _ h => h) (Or.inl ⟨by rfl, ?_⟩) (by assumption) ?_
  rotate_left
  · (intro wz hSw; (try dsimp only at hSw); go_simp; try with_reducible rfl)
  simp only [Act.put, List.setIfInBounds_toArray, List.set_cons_zero, List.set_cons_succ]
  refine wpAnyH_take (i := 2) (oi := { dst := some 17, op := Op.fieldAddr 76 (Operand.tmp 16) 3, type := 0, pos := "play.go:47", after := #[{ on := 1, ground := Ground.data }], guard := none }) (v := ?_) rfl (by kernel_rfl) (by kernel_rfl) (by kernel_rfl) (fun _ _ _ h => h) (Or.inl ⟨by rfl, ?_⟩) (by assumption) ?_
  rotate_left
  · (intro wz hSw; (try dsimp only at hSw); go_simp; try with_reducible rfl)
  simp only [Act.put, List.setIfInBounds_toArray, List.set_cons_zero, List.set_cons_succ]
  refine wpAnyH_take (i := 3) (oi := { dst := some 18, op := Op.load 28 (Operand.tmp 17), type := 28, pos := "play.go:47", after := #[{ on := 2, ground := Ground.data }], guard := none }) (v := ?_) rfl (by kernel_rfl) (by kernel_rfl) (by kernel_rfl) (fun _ _ _ h => h) (Or.inl ⟨by rfl, ?_⟩) (by assumption) ?_
  rotate_left
  · (intro wz hSw; (try dsimp only at hSw); go_simp; try with_reducible rfl)
  simp only [Act.put, List.setIfInBounds_toArray, List.set_cons_zero, List.set_cons_succ]
  refine wpAnyH_take (i := 4) (oi := { dst := some 19, op := Op.move (Operand.tmp 6), type := 3, pos := "play.go:47", after := #[], guard := none }) (v := ?_) rfl (by kernel_rfl) (by kernel_rfl) (by kernel_rfl) (fun _ _ _ h => h) (Or.inl ⟨by rfl, ?_⟩) (by assumption) ?_
  rotate_left
  · (intro wz hSw; (try dsimp only at hSw); go_simp; try with_reducible rfl)
  simp only [Act.put, List.setIfInBounds_toArray, List.set_cons_zero, List.set_cons_succ]
  refine wpAnyH_take (i := 5) (oi := { dst := some 20, op := Op.move (Operand.tmp 0), type := 77, pos := "play.go:47", after := #[], guard := none }) (v := ?_) rfl (by kernel_rfl) (by kernel_rfl) (by kernel_rfl) (fun _ _ _ h => h) (Or.inl ⟨by rfl, ?_⟩) (by assumption) ?_
  rotate_left
  · (intro wz hSw; (try dsimp only at hSw); go_simp; try with_reducible rfl)
  simp only [Act.put, List.setIfInBounds_toArray, List.set_cons_zero, List.set_cons_succ]
  refine wpAnyH_take (i := 6) (oi := { dst := some 21, op := Op.nilCheck (Operand.tmp 20), type := 0, pos := "play.go:47", after := #[{ on := 5, ground := Ground.data }], guard := none }) (v := ?_) rfl (by kernel_rfl) (by kernel_rfl) (by kernel_rfl) (fun _ _ _ h => h) (Or.inl ⟨by rfl, ?_⟩) (by assumption) ?_
  rotate_left
  · (intro wz hSw; (try dsimp only at hSw); go_simp; try with_reducible rfl)
  simp only [Act.put, List.setIfInBounds_toArray, List.set_cons_zero, List.set_cons_succ]
  refine wpAnyH_take (i := 7) (oi := { dst := some 22, op := Op.fieldAddr 76 (Operand.tmp 21) 0, type := 0, pos := "play.go:47", after := #[{ on := 6, ground := Ground.data }], guard := none }) (v := ?_) rfl (by kernel_rfl) (by kernel_rfl) (by kernel_rfl) (fun _ _ _ h => h) (Or.inl ⟨by rfl, ?_⟩) (by assumption) ?_
  rotate_left
  · (intro wz hSw; (try dsimp only at hSw); go_simp; try with_reducible rfl)
  simp only [Act.put, List.setIfInBounds_toArray, List.set_cons_zero, List.set_cons_succ]
  refine wpAnyH_take (i := 8) (oi := { dst := some 23, op := Op.fieldAddr 74 (Operand.tmp 22) 1, type := 0, pos := "play.go:47", after := #[{ on := 7, ground := Ground.data }], guard := none }) (v := ?_) rfl (by kernel_rfl) (by kernel_rfl) (by kernel_rfl) (fun _ _ _ h => h) (Or.inl ⟨by rfl, ?_⟩) (by assumption) ?_
  rotate_left
  · (intro wz hSw; (try dsimp only at hSw); go_simp; try with_reducible rfl)
  simp only [Act.put, List.setIfInBounds_toArray, List.set_cons_zero, List.set_cons_succ]
  refine wpAnyH_take (i := 9) (oi := { dst := some 24, op := Op.load 71 (Operand.tmp 23), type := 71, pos := "play.go:47", after := #[{ on := 8, ground := Ground.data }], guard := none }) (v := ?_) rfl (by kernel_rfl) (by kernel_rfl) (by kernel_rfl) (fun _ _ _ h => h) (Or.inl ⟨by rfl, ?_⟩) (by assumption) ?_
  rotate_left
  · (intro wz hSw; (try dsimp only at hSw); go_simp; try with_reducible rfl)
  simp only [Act.put, List.setIfInBounds_toArray, List.set_cons_zero, List.set_cons_succ]
  refine wpAnyH_take (i := 10) (oi := { dst := some 25, op := Op.move (Operand.tmp 0), type := 77, pos := "play.go:47", after := #[], guard := none }) (v := ?_) rfl (by kernel_rfl) (by kernel_rfl) (by kernel_rfl) (fun _ _ _ h => h) (Or.inl ⟨by rfl, ?_⟩) (by assumption) ?_
  rotate_left
  · (intro wz hSw; (try dsimp only at hSw); go_simp; try with_reducible rfl)
  simp only [Act.put, List.setIfInBounds_toArray, List.set_cons_zero, List.set_cons_succ]
  refine wpAnyH_take (i := 11) (oi := { dst := some 26, op := Op.nilCheck (Operand.tmp 25), type := 0, pos := "play.go:47", after := #[{ on := 10, ground := Ground.data }], guard := none }) (v := ?_) rfl (by kernel_rfl) (by kernel_rfl) (by kernel_rfl) (fun _ _ _ h => h) (Or.inl ⟨by rfl, ?_⟩) (by assumption) ?_
  rotate_left
  · (intro wz hSw; (try dsimp only at hSw); go_simp; try with_reducible rfl)
  simp only [Act.put, List.setIfInBounds_toArray, List.set_cons_zero, List.set_cons_succ]
  refine wpAnyH_take (i := 12) (oi := { dst := some 27, op := Op.fieldAddr 76 (Operand.tmp 26) 3, type := 0, pos := "play.go:47", after := #[{ on := 11, ground := Ground.data }], guard := none }) (v := ?_) rfl (by kernel_rfl) (by kernel_rfl) (by kernel_rfl) (fun _ _ _ h => h) (Or.inl ⟨by rfl, ?_⟩) (by assumption) ?_
  rotate_left
  · (intro wz hSw; (try dsimp only at hSw); go_simp; try with_reducible rfl)
  simp only [Act.put, List.setIfInBounds_toArray, List.set_cons_zero, List.set_cons_succ]
  refine wpAnyH_take (i := 13) (oi := { dst := some 28, op := Op.load 28 (Operand.tmp 27), type := 28, pos := "play.go:47", after := #[{ on := 12, ground := Ground.data }], guard := none }) (v := ?_) rfl (by kernel_rfl) (by kernel_rfl) (by kernel_rfl) (fun _ _ _ h => h) (Or.inl ⟨by rfl, ?_⟩) (by assumption) ?_
  rotate_left
  · (intro wz hSw; (try dsimp only at hSw); go_simp; try with_reducible rfl)
  simp only [Act.put, List.setIfInBounds_toArray, List.set_cons_zero, List.set_cons_succ]
  refine wpAnyH_take (i := 14) (oi := { dst := some 29, op := Op.move (Operand.tmp 6), type := 3, pos := "play.go:47", after := #[], guard := none }) (v := ?_) rfl (by kernel_rfl) (by kernel_rfl) (by kernel_rfl) (fun _ _ _ h => h) (Or.inl ⟨by rfl, ?_⟩) (by assumption) ?_
  rotate_left
  · (intro wz hSw; (try dsimp only at hSw); go_simp; try with_reducible rfl)
  simp only [Act.put, List.setIfInBounds_toArray, List.set_cons_zero, List.set_cons_succ]
  refine wpAnyH_take (i := 15) (oi := _) (v := ?_) rfl (by kernel_rfl) (by kernel_rfl) (by kernel_rfl) (fun _ _ _ h => h) (Or.inl ⟨by rfl, ?_⟩) (by assumption) ?_
  rotate_left
  · (intro wz hSw; (try dsimp only at hSw); go_simp; try with_reducible rfl)
  simp only [Act.put, List.setIfInBounds_toArray, List.set_cons_zero, List.set_cons_succ]
  refine wpAnyH_take (i := 17) (oi := { dst := some 32, op := Op.fieldAddr 44 (Operand.tmp 5) 1, type := 0, pos := "play.go:47", after := #[], guard := none }) (v := ?_) rfl (by kernel_rfl) (by kernel_rfl) (by kernel_rfl) (fun _ _ _ h => h) (Or.inl ⟨by rfl, ?_⟩) (by assumption) ?_
  rotate_left
  · (intro wz hSw; (try dsimp only at hSw); go_simp; try with_reducible rfl)
  simp only [Act.put, List.setIfInBounds_toArray, List.set_cons_zero, List.set_cons_succ]
  refine wpAnyH_take (i := 18) (oi := { dst := some 33, op := Op.load 2 (Operand.tmp 32), type := 2, pos := "play.go:47", after := #[{ on := 17, ground := Ground.data }], guard := none }) (v := ?_) rfl (by kernel_rfl) (by kernel_rfl) (by kernel_rfl) (fun _ _ _ h => h) (Or.inl ⟨by rfl, ?_⟩) (by assumption) ?_
  rotate_left
  · (intro wz hSw; (try dsimp only at hSw); go_simp; try with_reducible rfl)
  simp only [Act.put, List.setIfInBounds_toArray, List.set_cons_zero, List.set_cons_succ]
  refine wpAnyH_ready (rs := [16]) (by kernel_rfl) (by simp) ?_
  refine AllReadyH.cons (o := { dst := some 31, op := Op.load 2 (Operand.tmp 30), type := 2, pos := "play.go:47", after := #[{ on := 15, ground := Ground.data }], guard := none }) rfl (fun K hK => ?_) ?_
  · go_simp
    refine hK.out _ _ ?_ (fun hHeld2 => ?_)
    · (try dsimp only); first | exact ⟨q6, q1, d1⟩ | exact ⟨t6, t1, y6⟩
    clear hK K
    try simp only [Act.put, List.setIfInBounds_toArray, List.set_cons_zero, List.set_cons_succ]
    refine wpAnyH_ready (rs := [19]) (by kernel_rfl) (by simp) ?_
    refine AllReadyH.cons (o := _) rfl (fun K hK => ?_) ?_
    · go_simp
      refine (app_ok _ _ _ _ _ HB4.out.1 HB4.out.2).mono ?_
      rintro _ _ ⟨rfl, rfl⟩
      rw [HV.out]
      refine hK.out _ _ ?_ (fun hHeld2 => ?_)
      · (try dsimp only); first | exact ⟨q6, q1, d1⟩ | exact ⟨t6, t1, y6⟩
      clear hK K
      try simp only [Act.put, List.setIfInBounds_toArray, List.set_cons_zero, List.set_cons_succ]
      refine wpAnyH_take (i := 20) (oi := _) (v := ?_) rfl (by kernel_rfl) (by kernel_rfl) (by kernel_rfl) (fun _ _ _ h => h) (Or.inl ⟨by rfl, ?_⟩) (by assumption) ?_
      rotate_left
      · (intro wz hSw; (try dsimp only at hSw); go_simp; try with_reducible rfl)
      simp only [Act.put, List.setIfInBounds_toArray, List.set_cons_zero, List.set_cons_succ]
      refine wpAnyH_ready (rs := [21]) (by kernel_rfl) (by simp) ?_
      refine AllReadyH.cons (o := _) rfl (fun K hK => ?_) ?_
      · go_simp
        refine hK.out _ _ ?_ (fun hHeld2 => ?_)
        · (try dsimp only); first | exact ⟨q6, q1, d1⟩ | exact ⟨t6, t1, y6⟩
        clear hK K
        try simp only [Act.put, List.setIfInBounds_toArray, List.set_cons_zero, List.set_cons_succ]
        refine wpAnyH_done (by kernel_rfl) ?_ _
        go_wp2_with fail
        go_end0
        exact ⟨rfl, ⟨X, R, HF.out.1⟩, HF.out.2⟩
      exact AllReadyH.nil
    exact AllReadyH.nil
  exact AllReadyH.nil
end Go.Proofs.Ytdiabpoafennlab.Nm
/-! A deed: a look, of a player of numbers. -/
namespace Go.Proofs.Ytdiabpoafennlab.Nm
set_option linter.unusedVariables false
set_option maxRecDepth 20000
set_option linter.unusedSimpArgs false
open Go.RowKit Go.HeapKit Go.PlainOps

theorem look_told {w w2 : World} {base pb : Nat} {st : List Bool} {X : PX} {K : NP} {H R : Nat → Value} {s : PS} (h : PM w base pb st X K H R s) {l : List Int} {g cap a vb : Nat} (hv : a < s.vs.length) (hva : X.va = some ⟨vb, 0, none⟩)
    (ho2 : w2.ownsRow base 2 1 (.slice (some ⟨g, 0, none⟩) (s.lk.length + 1) cap) (s.lk.length + 1) (fvs K s.lk ++ [.int .i64 (fV K l)])) (hk2 : Keeps (fun k => (Value.slice X.la s.lk.length X.lc).ownBlock = some k) w w2)
    (hm2 : (Value.slice X.la s.lk.length X.lc).ownBlock = some g ∨ w.heap.size ≤ g) :
    (w2.cell? ⟨pb, 3, none⟩ = some (.func (.func 52) #[] #[]) ∧ w2.cell? ⟨pb, 6, none⟩ = some (.slice (some ⟨vb, 0, none⟩) s.vs.length X.vc) ∧ w2.cell? ⟨vb, a, none⟩ = some (.int .i64 (fV K (s.vs.getD a [])))) ∧
    ((w2.setCell ⟨pb, 10, none⟩ (.slice (some ⟨g, 0, none⟩) (s.lk.length + 1) cap)).cell? ⟨pb, 3, none⟩ = some (.func (.func 52) #[] #[]) ∧ (w2.setCell ⟨pb, 10, none⟩ (.slice (some ⟨g, 0, none⟩) (s.lk.length + 1) cap)).cell? ⟨pb, 6, none⟩ = some (.slice (some ⟨vb, 0, none⟩) s.vs.length X.vc) ∧ (w2.setCell ⟨pb, 10, none⟩ (.slice (some ⟨g, 0, none⟩) (s.lk.length + 1) cap)).cell? ⟨vb, a, none⟩ = some (.int .i64 (fV K (s.vs.getD a [])))) ∧
    w2.frozen? ⟨pb, 10, none⟩ = false ∧ w2.cell? ⟨pb, 10, none⟩ = some (.slice X.la s.lk.length X.lc) := by
  have hP := h.newLook ho2 hk2 hm2
  have hb4 := blk_other h.blk hk2 (onlyT_own h.vw.looks) (by decide)
  have hvl := row_kept h.vw.views hk2 (fun b e e2 => h.vw.vl b _ _ _ _ e e2)
  obtain ⟨g2, e2, -, -, -, c2, -⟩ := own_cellS hvl (k := a) (fvs_at (l := s.vs.getD a []) (by rw [List.getD_eq_getElem?_getD, List.getElem?_eq_getElem hv]; rfl))
  rw [hva] at e2
  injection e2 with e2
  injection e2 with e2
  subst e2
  have c6 : w2.cell? ⟨pb, 6, none⟩ = some (.slice X.va s.vs.length X.vc) := blk_cell hb4 6
  have d6 : (w2.setCell ⟨pb, 10, none⟩ (.slice (some ⟨g, 0, none⟩) (s.lk.length + 1) cap)).cell? ⟨pb, 6, none⟩ = some (.slice X.va s.vs.length X.vc) := hP.c0.2.2.2.2.2.2.1
  rw [hva] at c6 d6
  exact ⟨⟨blk_cell hb4 3, c6, c2⟩, ⟨hP.c0.2.2.2.1, d6, hP.viewAt2 (a := a) hv hva⟩, blk_free hb4 10, blk_cell hb4 10⟩
set_option maxHeartbeats 3200000 in
theorem do_look (base pb at0 : Nat) (st : List Bool) (X : PX) (K0 : NP) (R : Nat → Value) (s : PS) (w : World) (tk : List (Nat × List Nat)) (sp : Nat) (r : List Nat) (loc : Int) (h : PM w base pb st X K0 R R s) (hx : s.tk = tk ++ [(sp, r)]) (hr : r ≠ []) (hn : tk.length ≤ 100000) (hn2 : r.length ≤ 100000) (a : Nat) (ha : a = r.getLastD 0) (l : List Int) (hll : s.vs.getD a [] = l) (hv : a < s.vs.length) (hl : l.length ≤ 100000) (hlk : s.lk.length ≤ 100000) :
    Calls Try.prog 46 #[.pointer (some ⟨pb, 0, none⟩), .int .i64 at0, .agg #[.int .i64 3, .int .i64 loc]] w fun e w' => e = .returned (.tuple #[]) ∧ (∃ X' R', PM w' base pb st X' K0 R' R' { s with lk := s.lk ++ [l] }) ∧ Keeps (fun i => base ≤ i) w w' := by
  have HP : Hid (PM w base pb st X K0 R R s ∧ s.tk = tk ++ [(sp, r)] ∧ r ≠ [] ∧ a < s.vs.length ∧ l.length ≤ 100000 ∧ s.lk.length ≤ 100000 ∧ s.vs.getD a [] = l ∧ a = r.getLastD 0) := ⟨h, hx, hr, hv, hl, hlk, hll, ha⟩
  clear h hx hr hv hl hlk hll ha
  have hb0 := blk_new w (.cells #[.int .i64 3, .int .i64 loc] 44) w.heap.size rfl
  have hkb := (Keeps.alloc None w (.cells #[.int .i64 3, .int .i64 loc] 44))
  obtain ⟨db, hdb⟩ : ∃ db, db = w.heap.size := ⟨_, rfl⟩
  rw [← hdb] at hb0
  go_enter Try.func46, Try.ntmps46
  go_upto_region 1 with fail
  rw [← hdb]
  clear hdb
  generalize w.alloc (.cells #[.int .i64 3, .int .i64 loc] 44) = wa at *
  have HA : Hid (PM wa base pb st X K0 R R s ∧ Keeps (fun i => base ≤ i) w wa) := ⟨HP.out.1.more hkb, hkb.mono (fun _ f _ => f.elim)⟩
  have d0 : wa.cell? ⟨db, 0, none⟩ = some (.int .i64 3) := blk_cell hb0 0
  clear hb0 hkb
  have HH : Hid (∀ wx, Keeps None wa wx → Calls Try.prog 69 #[.pointer (some ⟨pb, 0, none⟩)] wx fun e w' => e = .returned (.int .i64 (a : Nat)) ∧ Keeps None wx w') := fun wx hk => by
    rw [HP.out.2.2.2.2.2.2.2]
    exact hand_ok base pb st X K0 R s wx tk sp r (HA.out.1.more hk) HP.out.2.1 HP.out.2.2.1 hn hn2
  go_upto_region 6 with fail
  clear d0
  obtain ⟨vb, hva, hvc, v1, -, -⟩ := HA.out.1.viewAt HP.out.2.2.2.1
  obtain ⟨-, -, -, q3, -, -, q6, -, -, -, q10⟩ := HA.out.1.c0
  rw [hva] at q6
  obtain ⟨Va, hVa⟩ : ∃ V, V = fV K0 (s.vs.getD a []) := ⟨_, rfl⟩
  rw [← hVa] at v1
  have HKK : Hid (Va = fV K0 (s.vs.getD a []) ∧ Va = fV K0 l) := ⟨hVa, by rw [hVa, HP.out.2.2.2.2.2.2.1]⟩
  have z1 : (a : Int) < (s.vs.length : Int) := by have := HP.out.2.2.2.1; omega
  have HS : Hid (∀ wx, Keeps None wa wx → (wx.cell? ⟨pb, 3, none⟩ = some (.func (.func 52) #[] #[]) ∧ wx.cell? ⟨pb, 6, none⟩ = some (.slice (some ⟨vb, 0, none⟩) s.vs.length X.vc) ∧ wx.cell? ⟨vb, a, none⟩ = some (.int .i64 Va)) ∧ wx.cell? ⟨pb, 10, none⟩ = some (.slice X.la s.lk.length X.lc)) := fun wx hk => ⟨⟨hk.cell q3 (fun f => f), hk.cell q6 (fun f => f), hk.cell v1 (fun f => f)⟩, hk.cell q10 (fun f => f)⟩
  have HVA : Hid (X.va = some ⟨vb, 0, none⟩) := hva
  have hQ : Keeps None wa wa.drew := Keeps.drew None wa
  have hqq := HS.out _ hQ
  have q10' : wa.drew.cell? ⟨pb, 10, none⟩ = some (.slice X.la s.lk.length X.lc) := q10
  clear hva hvc hVa q3 q6 v1
  refine wp_region_held_drew (S := (fun w' => w'.cell? ⟨pb, 3, none⟩ = some (.func (.func 52) #[] #[]) ∧ w'.cell? ⟨pb, 6, none⟩ = some (.slice (some ⟨vb, 0, none⟩) s.vs.length X.vc) ∧ w'.cell? ⟨vb, a, none⟩ = some (.int .i64 Va))) (by kernel_rfl) ?_ (fun hHeld => ?_)
  · (try dsimp only); first | exact t7 | exact t6 | exact hqq.1 | exact (HS.out _ hQ).1
  refine wpAnyH_take (i := 0) (oi := { dst := some 38, op := Op.move (Operand.tmp 0), type := 77, pos := "play.go:49", after := #[], guard := none }) (v := ?_) rfl (by kernel_rfl) (by kernel_rfl) (by kernel_rfl) (fun _ _ _ h => h) (Or.inl ⟨by rfl, ?_⟩) (by assumption) ?_
  rotate_left
  · (intro wz hSw; (try dsimp only at hSw); go_simp; try with_reducible rfl)
  simp only [Act.put, List.setIfInBounds_toArray, List.set_cons_zero, List.set_cons_succ]
  refine wpAnyH_take (i := 1) (oi := { dst := some 39, op := Op.move (Operand.tmp 0), type := 77, pos := "play.go:49", after := #[], guard := none }) (v := ?_) rfl (by kernel_rfl) (by kernel_rfl) (by kernel_rfl) (fun _ _ _ h => h) (Or.inl ⟨by rfl, ?_⟩) (by assumption) ?_
  rotate_left
  · (intro wz hSw; (try dsimp only at hSw); go_simp; try with_reducible rfl)
  simp only [Act.put, List.setIfInBounds_toArray, List.set_cons_zero, List.set_cons_succ]
  refine wpAnyH_take (i := 2) (oi := { dst := some 40, op := Op.nilCheck (Operand.tmp 39), type := 0, pos := "play.go:49", after := #[{ on := 1, ground := Ground.data }], guard := none }) (v := ?_) rfl (by kernel_rfl) (by kernel_rfl) (by kernel_rfl) (fun _ _ _ h => h) (Or.inl ⟨by rfl, ?_⟩) (by assumption) ?_
  rotate_left
  · (intro wz hSw; (try dsimp only at hSw); go_simp; try with_reducible rfl)
  simp only [Act.put, List.setIfInBounds_toArray, List.set_cons_zero, List.set_cons_succ]
  refine wpAnyH_take (i := 3) (oi := { dst := some 41, op := Op.fieldAddr 76 (Operand.tmp 40) 7, type := 0, pos := "play.go:49", after := #[{ on := 2, ground := Ground.data }], guard := none }) (v := ?_) rfl (by kernel_rfl) (by kernel_rfl) (by kernel_rfl) (fun _ _ _ h => h) (Or.inl ⟨by rfl, ?_⟩) (by assumption) ?_
  rotate_left
  · (intro wz hSw; (try dsimp only at hSw); go_simp; try with_reducible rfl)
  simp only [Act.put, List.setIfInBounds_toArray, List.set_cons_zero, List.set_cons_succ]
  refine wpAnyH_take (i := 5) (oi := { dst := some 43, op := Op.move (Operand.tmp 0), type := 77, pos := "play.go:49", after := #[], guard := none }) (v := ?_) rfl (by kernel_rfl) (by kernel_rfl) (by kernel_rfl) (fun _ _ _ h => h) (Or.inl ⟨by rfl, ?_⟩) (by assumption) ?_
  rotate_left
  · (intro wz hSw; (try dsimp only at hSw); go_simp; try with_reducible rfl)
  simp only [Act.put, List.setIfInBounds_toArray, List.set_cons_zero, List.set_cons_succ]
  refine wpAnyH_take (i := 6) (oi := { dst := some 44, op := Op.nilCheck (Operand.tmp 43), type := 0, pos := "play.go:49", after := #[{ on := 5, ground := Ground.data }], guard := none }) (v := ?_) rfl (by kernel_rfl) (by kernel_rfl) (by kernel_rfl) (fun _ _ _ h => h) (Or.inl ⟨by rfl, ?_⟩) (by assumption) ?_
  rotate_left
  · (intro wz hSw; (try dsimp only at hSw); go_simp; try with_reducible rfl)
  simp only [Act.put, List.setIfInBounds_toArray, List.set_cons_zero, List.set_cons_succ]
  refine wpAnyH_take (i := 7) (oi := { dst := some 45, op := Op.fieldAddr 76 (Operand.tmp 44) 0, type := 0, pos := "play.go:49", after := #[{ on := 6, ground := Ground.data }], guard := none }) (v := ?_) rfl (by kernel_rfl) (by kernel_rfl) (by kernel_rfl) (fun _ _ _ h => h) (Or.inl ⟨by rfl, ?_⟩) (by assumption) ?_
  rotate_left
  · (intro wz hSw; (try dsimp only at hSw); go_simp; try with_reducible rfl)
  simp only [Act.put, List.setIfInBounds_toArray, List.set_cons_zero, List.set_cons_succ]
  refine wpAnyH_take (i := 8) (oi := { dst := some 46, op := Op.fieldAddr 74 (Operand.tmp 45) 3, type := 0, pos := "play.go:49", after := #[{ on := 7, ground := Ground.data }], guard := none }) (v := ?_) rfl (by kernel_rfl) (by kernel_rfl) (by kernel_rfl) (fun _ _ _ h => h) (Or.inl ⟨by rfl, ?_⟩) (by assumption) ?_
  rotate_left
  · (intro wz hSw; (try dsimp only at hSw); go_simp; try with_reducible rfl)
  simp only [Act.put, List.setIfInBounds_toArray, List.set_cons_zero, List.set_cons_succ]
  refine wpAnyH_take (i := 9) (oi := { dst := some 47, op := Op.load 72 (Operand.tmp 46), type := 72, pos := "play.go:49", after := #[{ on := 8, ground := Ground.data }], guard := none }) (v := ?_) rfl (by kernel_rfl) (by kernel_rfl) (by kernel_rfl) (fun _ _ _ h => h) (Or.inl ⟨by rfl, ?_⟩) (by assumption) ?_
  rotate_left
  · (intro wz hSw; (try dsimp only at hSw); go_simp; try with_reducible rfl)
  simp only [Act.put, List.setIfInBounds_toArray, List.set_cons_zero, List.set_cons_succ]
  refine wpAnyH_take (i := 10) (oi := { dst := some 48, op := Op.move (Operand.tmp 0), type := 77, pos := "play.go:49", after := #[], guard := none }) (v := ?_) rfl (by kernel_rfl) (by kernel_rfl) (by kernel_rfl) (fun _ _ _ h => h) (Or.inl ⟨by rfl, ?_⟩) (by assumption) ?_
  rotate_left
  · (intro wz hSw; (try dsimp only at hSw); go_simp; try with_reducible rfl)
  simp only [Act.put, List.setIfInBounds_toArray, List.set_cons_zero, List.set_cons_succ]
  refine wpAnyH_take (i := 11) (oi := { dst := some 49, op := Op.nilCheck (Operand.tmp 48), type := 0, pos := "play.go:49", after := #[{ on := 10, ground := Ground.data }], guard := none }) (v := ?_) rfl (by kernel_rfl) (by kernel_rfl) (by kernel_rfl) (fun _ _ _ h => h) (Or.inl ⟨by rfl, ?_⟩) (by assumption) ?_
  rotate_left
  · (intro wz hSw; (try dsimp only at hSw); go_simp; try with_reducible rfl)
  simp only [Act.put, List.setIfInBounds_toArray, List.set_cons_zero, List.set_cons_succ]
  refine wpAnyH_take (i := 12) (oi := { dst := some 50, op := Op.fieldAddr 76 (Operand.tmp 49) 3, type := 0, pos := "play.go:49", after := #[{ on := 11, ground := Ground.data }], guard := none }) (v := ?_) rfl (by kernel_rfl) (by kernel_rfl) (by kernel_rfl) (fun _ _ _ h => h) (Or.inl ⟨by rfl, ?_⟩) (by assumption) ?_
  rotate_left
  · (intro wz hSw; (try dsimp only at hSw); go_simp; try with_reducible rfl)
  simp only [Act.put, List.setIfInBounds_toArray, List.set_cons_zero, List.set_cons_succ]
  refine wpAnyH_take (i := 13) (oi := { dst := some 51, op := Op.load 28 (Operand.tmp 50), type := 28, pos := "play.go:49", after := #[{ on := 12, ground := Ground.data }], guard := none }) (v := ?_) rfl (by kernel_rfl) (by kernel_rfl) (by kernel_rfl) (fun _ _ _ h => h) (Or.inl ⟨by rfl, ?_⟩) (by assumption) ?_
  rotate_left
  · (intro wz hSw; (try dsimp only at hSw); go_simp; try with_reducible rfl)
  simp only [Act.put, List.setIfInBounds_toArray, List.set_cons_zero, List.set_cons_succ]
  refine wpAnyH_take (i := 14) (oi := { dst := some 52, op := Op.move (Operand.tmp 0), type := 77, pos := "play.go:49", after := #[], guard := none }) (v := ?_) rfl (by kernel_rfl) (by kernel_rfl) (by kernel_rfl) (fun _ _ _ h => h) (Or.inl ⟨by rfl, ?_⟩) (by assumption) ?_
  rotate_left
  · (intro wz hSw; (try dsimp only at hSw); go_simp; try with_reducible rfl)
  simp only [Act.put, List.setIfInBounds_toArray, List.set_cons_zero, List.set_cons_succ]
  refine wpAnyH_ready (rs := [4, 15]) (by kernel_rfl) (by simp) ?_
  refine AllReadyH.cons (o := { dst := some 42, op := Op.load 28 (Operand.tmp 41), type := 28, pos := "play.go:49", after := #[{ on := 3, ground := Ground.data }], guard := none }) rfl (fun K hK => ?_) ?_
  · go_simp
    refine hK.out _ _ ?_ (fun hHeld2 => ?_)
    · (try dsimp only); first | exact t7 | exact t6 | exact hqq.1 | exact (HS.out _ hQ).1
    clear hK K
    try simp only [Act.put, List.setIfInBounds_toArray, List.set_cons_zero, List.set_cons_succ]
    refine wpAnyH_ready (rs := [15]) (by kernel_rfl) (by simp) ?_
    refine AllReadyH.cons (o := _) rfl (fun K hK => ?_) ?_
    · go_simp
      refine (HH.out _ hQ).mono ?_
      rintro _ w2 ⟨rfl, hk2⟩
      replace hQ := hQ.trans hk2 (fun _ f _ => f)
      clear hk2 q10 q10'
      have q10 := (HS.out _ hQ).2
      have q10A : (w2.alloc (.cells #[.int .i64 Va] 2)).cell? ⟨pb, 10, none⟩ = some (.slice X.la s.lk.length X.lc) := (HS.out _ (hQ.andAlloc _)).2
      refine hK.out _ _ ?_ (fun hHeld2 => ?_)
      · (try dsimp only); first | exact t7 | exact t6 | exact hqq.1 | exact (HS.out _ hQ).1
      clear hK K
      try simp only [Act.put, List.setIfInBounds_toArray, List.set_cons_zero, List.set_cons_succ]
      refine wpAnyH_take (i := 16) (oi := _) (v := ?_) rfl (by kernel_rfl) (by kernel_rfl) (by kernel_rfl) (fun _ _ _ h => h) (Or.inl ⟨by rfl, ?_⟩) (by assumption) ?_
      rotate_left
      · (intro wz hSw; (try dsimp only at hSw); go_simp; try with_reducible rfl)
      simp only [Act.put, List.setIfInBounds_toArray, List.set_cons_zero, List.set_cons_succ]
      refine wpAnyH_take (i := 17) (oi := { dst := some 55, op := Op.load 2 (Operand.tmp 54), type := 2, pos := "play.go:49", after := #[{ on := 16, ground := Ground.data }], guard := none }) (v := ?_) rfl (by kernel_rfl) (by kernel_rfl) (by kernel_rfl) (fun _ _ _ h => h) (Or.inl ⟨by rfl, ?_⟩) (by assumption) ?_
      rotate_left
      · (intro wz hSw; (try dsimp only at hSw); go_simp; try with_reducible rfl)
      simp only [Act.put, List.setIfInBounds_toArray, List.set_cons_zero, List.set_cons_succ]
      refine wpAnyH_ready (rs := [18]) (by kernel_rfl) (by simp) ?_
      refine AllReadyH.cons (o := _) rfl (fun K hK => ?_) ?_
      · go_simp
        refine (tell_ok _ _).mono ?_
        rintro _ _ ⟨rfl, rfl⟩
        refine hK.out _ _ ?_ (fun hHeld2 => ?_)
        · (try dsimp only); first | exact t7 | exact t6 | exact hqq.1 | exact (HS.out _ hQ).1
        clear hK K
        try simp only [Act.put, List.setIfInBounds_toArray, List.set_cons_zero, List.set_cons_succ]
        refine wpAnyH_ready (rs := [19]) (by kernel_rfl) (by simp) ?_
        refine AllReadyH.cons (o := { dst := some 57, op := Op.buildSlice 28 1 #[(0, Operand.tmp 56)], type := 28, pos := "play.go:49", after := #[{ on := 18, ground := Ground.data }], guard := none }) rfl (fun K hK => ?_) ?_
        · go_simp
          replace hQ := hQ.andAlloc (.cells #[.int .i64 Va] 2)
          refine hK.out _ _ ?_ (fun hHeld2 => ?_)
          · (try dsimp only); first | exact t7 | exact t6 | exact hqq.1 | exact (HS.out _ hQ).1
          clear hK K
          try simp only [Act.put, List.setIfInBounds_toArray, List.set_cons_zero, List.set_cons_succ]
          refine wpAnyH_ready (rs := [20]) (by kernel_rfl) (by simp) ?_
          refine AllReadyH.cons (o := _) rfl (fun K hK => ?_) ?_
          · (obtain ⟨g, cap, w4, hr4, ho4, hk4, hm4⟩ := fvs_more K0 base X.la X.lc s.lk Va 28 _ _ (HA.out.1.more hQ).vw.looks ((HA.out.1.more hQ).sizeLe) (by have := HP.out.2.2.2.2.2.1; omega) (blk_new _ _ _ rfl); refine step_append_run rfl (.tmp 42) (.tmp 57) 28 28 rfl (by first | rfl | simp [Act.eval]) (by first | rfl | simp [Act.eval]) hr4 ?_)
            rw [HKK.out.2] at ho4
            have hP5 := (HA.out.1.more hQ).newLook (l := l) ho4 hk4 hm4
            obtain ⟨t6, t7, f10, z10⟩ := look_told (HA.out.1.more hQ) (a := a) HP.out.2.2.2.1 HVA.out ho4 hk4 hm4
            rw [← HKK.out.1] at t6 t7
            have HF : Hid (PM (w4.setCell ⟨pb, 10, none⟩ (.slice (some ⟨g, 0, none⟩) (s.lk.length + 1) cap)) base pb st { X with la := some ⟨g, 0, none⟩, lc := cap } K0 R R { s with lk := s.lk ++ [l] } ∧ Keeps (fun i => base ≤ i) w (w4.setCell ⟨pb, 10, none⟩ (.slice (some ⟨g, 0, none⟩) (s.lk.length + 1) cap))) := ⟨hP5, ((keeps_tr HA.out.2 hQ).trans hk4 (fun i e _ => row_low (HA.out.1.more hQ).vw.looks e)).andSet (x := ⟨pb, 10, none⟩) (.inl HA.out.1.low) _⟩
            refine hK.out _ _ ?_ (fun hHeld2 => ?_)
            · (try dsimp only); first | exact t7 | exact t6 | exact hqq.1 | exact (HS.out _ hQ).1
            clear hK K
            try simp only [Act.put, List.setIfInBounds_toArray, List.set_cons_zero, List.set_cons_succ]
            refine wpAnyH_take (i := 21) (oi := _) (v := ?_) rfl (by kernel_rfl) (by kernel_rfl) (by kernel_rfl) (fun _ _ _ h => h) (Or.inl ⟨by rfl, ?_⟩) (by assumption) ?_
            rotate_left
            · (intro wz hSw; (try dsimp only at hSw); go_simp; try with_reducible rfl)
            simp only [Act.put, List.setIfInBounds_toArray, List.set_cons_zero, List.set_cons_succ]
            refine wpAnyH_take (i := 22) (oi := _) (v := ?_) rfl (by kernel_rfl) (by kernel_rfl) (by kernel_rfl) (fun _ _ _ h => h) (Or.inl ⟨by rfl, ?_⟩) (by assumption) ?_
            rotate_left
            · (intro wz hSw; (try dsimp only at hSw); go_simp; try with_reducible rfl)
            simp only [Act.put, List.setIfInBounds_toArray, List.set_cons_zero, List.set_cons_succ]
            refine wpAnyH_ready (rs := [23]) (by kernel_rfl) (by simp) ?_
            refine AllReadyH.cons (o := _) rfl (fun K hK => ?_) ?_
            · go_simp
              refine hK.out _ _ ?_ (fun hHeld2 => ?_)
              · (try dsimp only); first | exact t7 | exact t6 | exact hqq.1 | exact (HS.out _ hQ).1
              clear hK K
              try simp only [Act.put, List.setIfInBounds_toArray, List.set_cons_zero, List.set_cons_succ]
              refine wpAnyH_done (by kernel_rfl) ?_ _
              go_wp2_with fail
              go_end0
              exact ⟨rfl, ⟨_, R, HF.out.1⟩, HF.out.2⟩
            exact AllReadyH.nil
          exact AllReadyH.nil
        exact AllReadyH.nil
      exact AllReadyH.nil
    exact AllReadyH.nil
  refine AllReadyH.cons (o := _) rfl (fun K hK => ?_) ?_
  · go_simp
    refine (HH.out _ hQ).mono ?_
    rintro _ w2 ⟨rfl, hk2⟩
    replace hQ := hQ.trans hk2 (fun _ f _ => f)
    clear hk2 q10 q10'
    have q10 := (HS.out _ hQ).2
    have q10A : (w2.alloc (.cells #[.int .i64 Va] 2)).cell? ⟨pb, 10, none⟩ = some (.slice X.la s.lk.length X.lc) := (HS.out _ (hQ.andAlloc _)).2
    refine hK.out _ _ ?_ (fun hHeld2 => ?_)
    · (try dsimp only); first | exact t7 | exact t6 | exact hqq.1 | exact (HS.out _ hQ).1
    clear hK K
    try simp only [Act.put, List.setIfInBounds_toArray, List.set_cons_zero, List.set_cons_succ]
    refine wpAnyH_take (i := 16) (oi := _) (v := ?_) rfl (by kernel_rfl) (by kernel_rfl) (by kernel_rfl) (fun _ _ _ h => h) (Or.inl ⟨by rfl, ?_⟩) (by assumption) ?_
    rotate_left
    · (intro wz hSw; (try dsimp only at hSw); go_simp; try with_reducible rfl)
    simp only [Act.put, List.setIfInBounds_toArray, List.set_cons_zero, List.set_cons_succ]
    refine wpAnyH_take (i := 17) (oi := { dst := some 55, op := Op.load 2 (Operand.tmp 54), type := 2, pos := "play.go:49", after := #[{ on := 16, ground := Ground.data }], guard := none }) (v := ?_) rfl (by kernel_rfl) (by kernel_rfl) (by kernel_rfl) (fun _ _ _ h => h) (Or.inl ⟨by rfl, ?_⟩) (by assumption) ?_
    rotate_left
    · (intro wz hSw; (try dsimp only at hSw); go_simp; try with_reducible rfl)
    simp only [Act.put, List.setIfInBounds_toArray, List.set_cons_zero, List.set_cons_succ]
    refine wpAnyH_ready (rs := [4, 18]) (by kernel_rfl) (by simp) ?_
    refine AllReadyH.cons (o := { dst := some 42, op := Op.load 28 (Operand.tmp 41), type := 28, pos := "play.go:49", after := #[{ on := 3, ground := Ground.data }], guard := none }) rfl (fun K hK => ?_) ?_
    · go_simp
      refine hK.out _ _ ?_ (fun hHeld2 => ?_)
      · (try dsimp only); first | exact t7 | exact t6 | exact hqq.1 | exact (HS.out _ hQ).1
      clear hK K
      try simp only [Act.put, List.setIfInBounds_toArray, List.set_cons_zero, List.set_cons_succ]
      refine wpAnyH_ready (rs := [18]) (by kernel_rfl) (by simp) ?_
      refine AllReadyH.cons (o := _) rfl (fun K hK => ?_) ?_
      · go_simp
        refine (tell_ok _ _).mono ?_
        rintro _ _ ⟨rfl, rfl⟩
        refine hK.out _ _ ?_ (fun hHeld2 => ?_)
        · (try dsimp only); first | exact t7 | exact t6 | exact hqq.1 | exact (HS.out _ hQ).1
        clear hK K
        try simp only [Act.put, List.setIfInBounds_toArray, List.set_cons_zero, List.set_cons_succ]
        refine wpAnyH_ready (rs := [19]) (by kernel_rfl) (by simp) ?_
        refine AllReadyH.cons (o := { dst := some 57, op := Op.buildSlice 28 1 #[(0, Operand.tmp 56)], type := 28, pos := "play.go:49", after := #[{ on := 18, ground := Ground.data }], guard := none }) rfl (fun K hK => ?_) ?_
        · go_simp
          replace hQ := hQ.andAlloc (.cells #[.int .i64 Va] 2)
          refine hK.out _ _ ?_ (fun hHeld2 => ?_)
          · (try dsimp only); first | exact t7 | exact t6 | exact hqq.1 | exact (HS.out _ hQ).1
          clear hK K
          try simp only [Act.put, List.setIfInBounds_toArray, List.set_cons_zero, List.set_cons_succ]
          refine wpAnyH_ready (rs := [20]) (by kernel_rfl) (by simp) ?_
          refine AllReadyH.cons (o := _) rfl (fun K hK => ?_) ?_
          · (obtain ⟨g, cap, w4, hr4, ho4, hk4, hm4⟩ := fvs_more K0 base X.la X.lc s.lk Va 28 _ _ (HA.out.1.more hQ).vw.looks ((HA.out.1.more hQ).sizeLe) (by have := HP.out.2.2.2.2.2.1; omega) (blk_new _ _ _ rfl); refine step_append_run rfl (.tmp 42) (.tmp 57) 28 28 rfl (by first | rfl | simp [Act.eval]) (by first | rfl | simp [Act.eval]) hr4 ?_)
            rw [HKK.out.2] at ho4
            have hP5 := (HA.out.1.more hQ).newLook (l := l) ho4 hk4 hm4
            obtain ⟨t6, t7, f10, z10⟩ := look_told (HA.out.1.more hQ) (a := a) HP.out.2.2.2.1 HVA.out ho4 hk4 hm4
            rw [← HKK.out.1] at t6 t7
            have HF : Hid (PM (w4.setCell ⟨pb, 10, none⟩ (.slice (some ⟨g, 0, none⟩) (s.lk.length + 1) cap)) base pb st { X with la := some ⟨g, 0, none⟩, lc := cap } K0 R R { s with lk := s.lk ++ [l] } ∧ Keeps (fun i => base ≤ i) w (w4.setCell ⟨pb, 10, none⟩ (.slice (some ⟨g, 0, none⟩) (s.lk.length + 1) cap))) := ⟨hP5, ((keeps_tr HA.out.2 hQ).trans hk4 (fun i e _ => row_low (HA.out.1.more hQ).vw.looks e)).andSet (x := ⟨pb, 10, none⟩) (.inl HA.out.1.low) _⟩
            refine hK.out _ _ ?_ (fun hHeld2 => ?_)
            · (try dsimp only); first | exact t7 | exact t6 | exact hqq.1 | exact (HS.out _ hQ).1
            clear hK K
            try simp only [Act.put, List.setIfInBounds_toArray, List.set_cons_zero, List.set_cons_succ]
            refine wpAnyH_take (i := 21) (oi := _) (v := ?_) rfl (by kernel_rfl) (by kernel_rfl) (by kernel_rfl) (fun _ _ _ h => h) (Or.inl ⟨by rfl, ?_⟩) (by assumption) ?_
            rotate_left
            · (intro wz hSw; (try dsimp only at hSw); go_simp; try with_reducible rfl)
            simp only [Act.put, List.setIfInBounds_toArray, List.set_cons_zero, List.set_cons_succ]
            refine wpAnyH_take (i := 22) (oi := _) (v := ?_) rfl (by kernel_rfl) (by kernel_rfl) (by kernel_rfl) (fun _ _ _ h => h) (Or.inl ⟨by rfl, ?_⟩) (by assumption) ?_
            rotate_left
            · (intro wz hSw; (try dsimp only at hSw); go_simp; try with_reducible rfl)
            simp only [Act.put, List.setIfInBounds_toArray, List.set_cons_zero, List.set_cons_succ]
            refine wpAnyH_ready (rs := [23]) (by kernel_rfl) (by simp) ?_
            refine AllReadyH.cons (o := _) rfl (fun K hK => ?_) ?_
            · go_simp
              refine hK.out _ _ ?_ (fun hHeld2 => ?_)
              · (try dsimp only); first | exact t7 | exact t6 | exact hqq.1 | exact (HS.out _ hQ).1
              clear hK K
              try simp only [Act.put, List.setIfInBounds_toArray, List.set_cons_zero, List.set_cons_succ]
              refine wpAnyH_done (by kernel_rfl) ?_ _
              go_wp2_with fail
              go_end0
              exact ⟨rfl, ⟨_, R, HF.out.1⟩, HF.out.2⟩
            exact AllReadyH.nil
          exact AllReadyH.nil
        exact AllReadyH.nil
      exact AllReadyH.nil
    refine AllReadyH.cons (o := _) rfl (fun K hK => ?_) ?_
    · go_simp
      refine (tell_ok _ _).mono ?_
      rintro _ _ ⟨rfl, rfl⟩
      refine hK.out _ _ ?_ (fun hHeld2 => ?_)
      · (try dsimp only); first | exact t7 | exact t6 | exact hqq.1 | exact (HS.out _ hQ).1
      clear hK K
      try simp only [Act.put, List.setIfInBounds_toArray, List.set_cons_zero, List.set_cons_succ]
      refine wpAnyH_ready (rs := [4, 19]) (by kernel_rfl) (by simp) ?_
      refine AllReadyH.cons (o := { dst := some 42, op := Op.load 28 (Operand.tmp 41), type := 28, pos := "play.go:49", after := #[{ on := 3, ground := Ground.data }], guard := none }) rfl (fun K hK => ?_) ?_
      · go_simp
        refine hK.out _ _ ?_ (fun hHeld2 => ?_)
        · (try dsimp only); first | exact t7 | exact t6 | exact hqq.1 | exact (HS.out _ hQ).1
        clear hK K
        try simp only [Act.put, List.setIfInBounds_toArray, List.set_cons_zero, List.set_cons_succ]
        refine wpAnyH_ready (rs := [19]) (by kernel_rfl) (by simp) ?_
        refine AllReadyH.cons (o := { dst := some 57, op := Op.buildSlice 28 1 #[(0, Operand.tmp 56)], type := 28, pos := "play.go:49", after := #[{ on := 18, ground := Ground.data }], guard := none }) rfl (fun K hK => ?_) ?_
        · go_simp
          replace hQ := hQ.andAlloc (.cells #[.int .i64 Va] 2)
          refine hK.out _ _ ?_ (fun hHeld2 => ?_)
          · (try dsimp only); first | exact t7 | exact t6 | exact hqq.1 | exact (HS.out _ hQ).1
          clear hK K
          try simp only [Act.put, List.setIfInBounds_toArray, List.set_cons_zero, List.set_cons_succ]
          refine wpAnyH_ready (rs := [20]) (by kernel_rfl) (by simp) ?_
          refine AllReadyH.cons (o := _) rfl (fun K hK => ?_) ?_
          · (obtain ⟨g, cap, w4, hr4, ho4, hk4, hm4⟩ := fvs_more K0 base X.la X.lc s.lk Va 28 _ _ (HA.out.1.more hQ).vw.looks ((HA.out.1.more hQ).sizeLe) (by have := HP.out.2.2.2.2.2.1; omega) (blk_new _ _ _ rfl); refine step_append_run rfl (.tmp 42) (.tmp 57) 28 28 rfl (by first | rfl | simp [Act.eval]) (by first | rfl | simp [Act.eval]) hr4 ?_)
            rw [HKK.out.2] at ho4
            have hP5 := (HA.out.1.more hQ).newLook (l := l) ho4 hk4 hm4
            obtain ⟨t6, t7, f10, z10⟩ := look_told (HA.out.1.more hQ) (a := a) HP.out.2.2.2.1 HVA.out ho4 hk4 hm4
            rw [← HKK.out.1] at t6 t7
            have HF : Hid (PM (w4.setCell ⟨pb, 10, none⟩ (.slice (some ⟨g, 0, none⟩) (s.lk.length + 1) cap)) base pb st { X with la := some ⟨g, 0, none⟩, lc := cap } K0 R R { s with lk := s.lk ++ [l] } ∧ Keeps (fun i => base ≤ i) w (w4.setCell ⟨pb, 10, none⟩ (.slice (some ⟨g, 0, none⟩) (s.lk.length + 1) cap))) := ⟨hP5, ((keeps_tr HA.out.2 hQ).trans hk4 (fun i e _ => row_low (HA.out.1.more hQ).vw.looks e)).andSet (x := ⟨pb, 10, none⟩) (.inl HA.out.1.low) _⟩
            refine hK.out _ _ ?_ (fun hHeld2 => ?_)
            · (try dsimp only); first | exact t7 | exact t6 | exact hqq.1 | exact (HS.out _ hQ).1
            clear hK K
            try simp only [Act.put, List.setIfInBounds_toArray, List.set_cons_zero, List.set_cons_succ]
            refine wpAnyH_take (i := 21) (oi := _) (v := ?_) rfl (by kernel_rfl) (by kernel_rfl) (by kernel_rfl) (fun _ _ _ h => h) (Or.inl ⟨by rfl, ?_⟩) (by assumption) ?_
            rotate_left
            · (intro wz hSw; (try dsimp only at hSw); go_simp; try with_reducible rfl)
            simp only [Act.put, List.setIfInBounds_toArray, List.set_cons_zero, List.set_cons_succ]
            refine wpAnyH_take (i := 22) (oi := _) (v := ?_) rfl (by kernel_rfl) (by kernel_rfl) (by kernel_rfl) (fun _ _ _ h => h) (Or.inl ⟨by rfl, ?_⟩) (by assumption) ?_
            rotate_left
            · (intro wz hSw; (try dsimp only at hSw); go_simp; try with_reducible rfl)
            simp only [Act.put, List.setIfInBounds_toArray, List.set_cons_zero, List.set_cons_succ]
            refine wpAnyH_ready (rs := [23]) (by kernel_rfl) (by simp) ?_
            refine AllReadyH.cons (o := _) rfl (fun K hK => ?_) ?_
            · go_simp
              refine hK.out _ _ ?_ (fun hHeld2 => ?_)
              · (try dsimp only); first | exact t7 | exact t6 | exact hqq.1 | exact (HS.out _ hQ).1
              clear hK K
              try simp only [Act.put, List.setIfInBounds_toArray, List.set_cons_zero, List.set_cons_succ]
              refine wpAnyH_done (by kernel_rfl) ?_ _
              go_wp2_with fail
              go_end0
              exact ⟨rfl, ⟨_, R, HF.out.1⟩, HF.out.2⟩
            exact AllReadyH.nil
          exact AllReadyH.nil
        exact AllReadyH.nil
      refine AllReadyH.cons (o := { dst := some 57, op := Op.buildSlice 28 1 #[(0, Operand.tmp 56)], type := 28, pos := "play.go:49", after := #[{ on := 18, ground := Ground.data }], guard := none }) rfl (fun K hK => ?_) ?_
      · go_simp
        replace hQ := hQ.andAlloc (.cells #[.int .i64 Va] 2)
        refine hK.out _ _ ?_ (fun hHeld2 => ?_)
        · (try dsimp only); first | exact t7 | exact t6 | exact hqq.1 | exact (HS.out _ hQ).1
        clear hK K
        try simp only [Act.put, List.setIfInBounds_toArray, List.set_cons_zero, List.set_cons_succ]
        refine wpAnyH_ready (rs := [4]) (by kernel_rfl) (by simp) ?_
        refine AllReadyH.cons (o := { dst := some 42, op := Op.load 28 (Operand.tmp 41), type := 28, pos := "play.go:49", after := #[{ on := 3, ground := Ground.data }], guard := none }) rfl (fun K hK => ?_) ?_
        · go_simp
          refine hK.out _ _ ?_ (fun hHeld2 => ?_)
          · (try dsimp only); first | exact t7 | exact t6 | exact hqq.1 | exact (HS.out _ hQ).1
          clear hK K
          try simp only [Act.put, List.setIfInBounds_toArray, List.set_cons_zero, List.set_cons_succ]
          refine wpAnyH_ready (rs := [20]) (by kernel_rfl) (by simp) ?_
          refine AllReadyH.cons (o := _) rfl (fun K hK => ?_) ?_
          · (obtain ⟨g, cap, w4, hr4, ho4, hk4, hm4⟩ := fvs_more K0 base X.la X.lc s.lk Va 28 _ _ (HA.out.1.more hQ).vw.looks ((HA.out.1.more hQ).sizeLe) (by have := HP.out.2.2.2.2.2.1; omega) (blk_new _ _ _ rfl); refine step_append_run rfl (.tmp 42) (.tmp 57) 28 28 rfl (by first | rfl | simp [Act.eval]) (by first | rfl | simp [Act.eval]) hr4 ?_)
            rw [HKK.out.2] at ho4
            have hP5 := (HA.out.1.more hQ).newLook (l := l) ho4 hk4 hm4
            obtain ⟨t6, t7, f10, z10⟩ := look_told (HA.out.1.more hQ) (a := a) HP.out.2.2.2.1 HVA.out ho4 hk4 hm4
            rw [← HKK.out.1] at t6 t7
            have HF : Hid (PM (w4.setCell ⟨pb, 10, none⟩ (.slice (some ⟨g, 0, none⟩) (s.lk.length + 1) cap)) base pb st { X with la := some ⟨g, 0, none⟩, lc := cap } K0 R R { s with lk := s.lk ++ [l] } ∧ Keeps (fun i => base ≤ i) w (w4.setCell ⟨pb, 10, none⟩ (.slice (some ⟨g, 0, none⟩) (s.lk.length + 1) cap))) := ⟨hP5, ((keeps_tr HA.out.2 hQ).trans hk4 (fun i e _ => row_low (HA.out.1.more hQ).vw.looks e)).andSet (x := ⟨pb, 10, none⟩) (.inl HA.out.1.low) _⟩
            refine hK.out _ _ ?_ (fun hHeld2 => ?_)
            · (try dsimp only); first | exact t7 | exact t6 | exact hqq.1 | exact (HS.out _ hQ).1
            clear hK K
            try simp only [Act.put, List.setIfInBounds_toArray, List.set_cons_zero, List.set_cons_succ]
            refine wpAnyH_take (i := 21) (oi := _) (v := ?_) rfl (by kernel_rfl) (by kernel_rfl) (by kernel_rfl) (fun _ _ _ h => h) (Or.inl ⟨by rfl, ?_⟩) (by assumption) ?_
            rotate_left
            · (intro wz hSw; (try dsimp only at hSw); go_simp; try with_reducible rfl)
            simp only [Act.put, List.setIfInBounds_toArray, List.set_cons_zero, List.set_cons_succ]
            refine wpAnyH_take (i := 22) (oi := _) (v := ?_) rfl (by kernel_rfl) (by kernel_rfl) (by kernel_rfl) (fun _ _ _ h => h) (Or.inl ⟨by rfl, ?_⟩) (by assumption) ?_
            rotate_left
            · (intro wz hSw; (try dsimp only at hSw); go_simp; try with_reducible rfl)
            simp only [Act.put, List.setIfInBounds_toArray, List.set_cons_zero, List.set_cons_succ]
            refine wpAnyH_ready (rs := [23]) (by kernel_rfl) (by simp) ?_
            refine AllReadyH.cons (o := _) rfl (fun K hK => ?_) ?_
            · go_simp
              refine hK.out _ _ ?_ (fun hHeld2 => ?_)
              · (try dsimp only); first | exact t7 | exact t6 | exact hqq.1 | exact (HS.out _ hQ).1
              clear hK K
              try simp only [Act.put, List.setIfInBounds_toArray, List.set_cons_zero, List.set_cons_succ]
              refine wpAnyH_done (by kernel_rfl) ?_ _
              go_wp2_with fail
              go_end0
              exact ⟨rfl, ⟨_, R, HF.out.1⟩, HF.out.2⟩
            exact AllReadyH.nil
          exact AllReadyH.nil
        exact AllReadyH.nil
      exact AllReadyH.nil
    exact AllReadyH.nil
  exact AllReadyH.nil
end Go.Proofs.Ytdiabpoafennlab.Nm
