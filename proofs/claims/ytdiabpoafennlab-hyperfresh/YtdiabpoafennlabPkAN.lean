import Derived.Test.YtdiabpoafennlabPkAM
/-! The document's run: a deed that looks. -/
namespace Go.Proofs.Ytdiabpoafennlab.Rn
set_option linter.unusedVariables false
set_option maxRecDepth 20000
set_option linter.unusedSimpArgs false
open Go.RowKit Go.HeapKit Go.PlainOps

/-- What a look leaves as it was. -/
theorem look_told {w w1 : World} {base pb nx : Nat} {K : RP} {X : RX} {L M R : Nat → Value} {s : PS} (h : PM w base pb K X L M R nx s) {V : Value} {l : List Int} {g cap a vb x0 : Nat} {x : Option Addr} (hv : a < s.vs.length) (hva : X.va = some ⟨vb, 0, none⟩) (hV : w.ownsRow base 2 1 V l.length (iv l))
    (ho : w1.ownsRow base 28 1 (.slice (some ⟨g, 0, none⟩) (s.lk.length + 1) cap) (s.lk.length + 1) ((List.range s.lk.length).map M ++ [V])) (hk : Keeps (fun k => (Value.slice X.la s.lk.length X.lc).ownBlock = some k) w w1) :
    (w1.cell? ⟨pb, 2, none⟩ = some (.slice (some ⟨vb, 0, none⟩) s.vs.length X.vc) ∧ w1.cell? ⟨vb, a * 2, none⟩ = some (L a)) ∧
    ((w1.setCell ⟨pb, 10, none⟩ (.slice (some ⟨g, 0, none⟩) (s.lk.length + 1) cap)).cell? ⟨pb, 2, none⟩ = some (.slice (some ⟨vb, 0, none⟩) s.vs.length X.vc) ∧ (w1.setCell ⟨pb, 10, none⟩ (.slice (some ⟨g, 0, none⟩) (s.lk.length + 1) cap)).cell? ⟨vb, a * 2, none⟩ = some (L a)) ∧
    w1.frozen? ⟨pb, 10, none⟩ = false ∧ w1.cell? ⟨pb, 10, none⟩ = some (.slice X.la s.lk.length X.lc) := by
  have hP := h.newLook hV ho hk
  have hT := onlyT_own h.vw.looks
  have hb4 := blk_other h.blk hk hT (by decide)
  have hvl := row_other h.vw.views hk hT (by decide)
  obtain ⟨g2, e2, -, -, -, c2, -⟩ := own_cellS hvl (k := a * 2) (range_get _ (by omega))
  rw [hva] at e2
  injection e2 with e2
  injection e2 with e2
  subst e2
  have c6 : w1.cell? ⟨pb, 2, none⟩ = some (.slice X.va s.vs.length X.vc) := blk_cell hb4 2
  have d6 : (w1.setCell ⟨pb, 10, none⟩ (.slice (some ⟨g, 0, none⟩) (s.lk.length + 1) cap)).cell? ⟨pb, 2, none⟩ = some (.slice X.va s.vs.length X.vc) := hP.c0.2.2.1
  rw [hva] at c6 d6
  obtain ⟨x, c, hLa, d7, -, -⟩ := hP.viewAt (a := a) hv hva
  rw [← hLa] at d7
  exact ⟨⟨c6, by rw [c2]; simp [vF]⟩, ⟨d6, d7⟩, blk_free hb4 10, blk_cell hb4 10⟩
set_option maxHeartbeats 3200000 in
theorem do_look (base pb at0 nx : Nat) (K0 : RP) (X : RX) (L M R : Nat → Value) (s : PS) (w : World) (tk : List (Nat × List Nat)) (sp : Nat) (r : List Nat) (loc : Int) (st0 : Option Addr) (sn sc : Nat) (h : PM w base pb K0 X L M R nx s) (hx : s.tk = tk ++ [(sp, r)]) (hr : r ≠ []) (hn : tk.length ≤ 100000) (hn2 : r.length ≤ 100000) (a : Nat) (ha : a = r.getLastD 0) (l : List Int) (hll : s.vs.getD a [] = l) (hv : a < s.vs.length) (hl : l.length ≤ 100000) (hlk : s.lk.length ≤ 100000) :
    Calls Try.prog 40 #[.pointer (some ⟨pb, 0, none⟩), .int .i64 at0, .agg #[.int .i64 3, .int .i64 loc], .slice st0 sn sc] w fun e w' => e = .returned (.tuple #[]) ∧ (∃ X' M', PM w' base pb K0 X' L M' R nx { s with lk := s.lk ++ [l] }) ∧ Keeps (fun i => base ≤ i) w w' := by
  have HP : Hid (PM w base pb K0 X L M R nx s ∧ s.tk = tk ++ [(sp, r)] ∧ r ≠ [] ∧ a < s.vs.length ∧ s.vs.getD a [] = l ∧ a = r.getLastD 0) := ⟨h, hx, hr, hv, hll, ha⟩
  clear h hx hr hv hll ha
  have hb0 := blk_new w (.cells #[.int .i64 3, .int .i64 loc] 44) w.heap.size rfl
  have hkb := (Keeps.alloc None w (.cells #[.int .i64 3, .int .i64 loc] 44))
  obtain ⟨db, hdb⟩ : ∃ db, db = w.heap.size := ⟨_, rfl⟩
  rw [← hdb] at hb0
  go_enter Try.func40, Try.ntmps40
  go_upto_region 1 with fail
  rw [← hdb]
  clear hdb
  generalize w.alloc (.cells #[.int .i64 3, .int .i64 loc] 44) = wa at *
  have HA : Hid (PM wa base pb K0 X L M R nx s ∧ Keeps None w wa ∧ wa.heap[db]? = some (.cells #[.int .i64 3, .int .i64 loc] 44 (0, 0))) := ⟨HP.out.1.more hkb, hkb, hb0⟩
  clear hb0 hkb
  go_wp2_with fail
  refine (hand_ok base pb nx K0 X L M R s wa tk sp r HA.out.1 HP.out.2.1 HP.out.2.2.1 hn hn2).mono ?_
  rintro e w2 ⟨rfl, hk1⟩
  rw [← HP.out.2.2.2.2.2]
  have HM2 : Hid (PM w2 base pb K0 X L M R nx s ∧ Keeps (fun i => base ≤ i) w w2) := ⟨HA.out.1.more hk1, (keeps_tr HA.out.2.1 hk1).mono (fun _ f _ => f.elim)⟩
  have d0 : w2.cell? ⟨db, 0, none⟩ = some (.int .i64 3) := blk_cell (blk_kept HA.out.2.2 hk1 (fun f => f)) 0
  clear hk1
  go_upto_region 9 with fail
  clear d0
  obtain ⟨vb, hva, hvlo, hvf⟩ := HM2.out.1.viewB (a := a) HP.out.2.2.2.1
  obtain ⟨xa, ca, hLa, u0, -, sa⟩ := HM2.out.1.viewAt (a := a) HP.out.2.2.2.1 hva
  have q2 := HM2.out.1.c0.2.2.1
  have q10 := HM2.out.1.c0.2.2.2.2.2.2.2.2
  rw [hva] at q2
  rw [HP.out.2.2.2.2.1] at u0 sa hLa
  obtain ⟨na, hna⟩ : ∃ n, n = l.length := ⟨_, rfl⟩
  rw [← hna] at u0 sa hl hLa
  have za : (a : Int) < (s.vs.length : Int) := by have := HP.out.2.2.2.1; omega
  have hd := HM2.out.1.more (Keeps.drew None w2)
  obtain ⟨y, cy, w3, hr3, ho3, hk3, hy3⟩ := copy64 base w2.drew xa na ca l 28 (sa.more (Keeps.drew None w2)) (by omega) hd.size
  have hd3 := (hd.more hk3).more (Keeps.alloc None w3 (.cells #[.slice y na cy] 28))
  obtain ⟨g, cap, w4, hr4, ho4, hk4, hm4⟩ := rows_more base (.slice X.la s.lk.length X.lc) (.slice y na cy) s.lk.length _ 30 w3.heap.size (w3.alloc (.cells #[.slice y na cy] 28)) hd3.vw.looks hd3.size (by omega) rfl (blk_new w3 _ _ rfl)
  have hV3 : (w3.alloc (.cells #[.slice y na cy] 28)).ownsRow base 2 1 (.slice y na cy) l.length (iv l) := by rw [← hna]; exact ho3.alloc _
  have hP5 := hd3.newLook (l := l) hV3 ho4 hk4
  obtain ⟨t4, t5, f10, z10⟩ := look_told hd3 (a := a) (x0 := 0) (x := none) HP.out.2.2.2.1 hva hV3 ho4 hk4
  rw [hLa] at t4 t5
  have kA := Keeps.alloc None w2 (.cells #[] 2)
  have kd := (Keeps.drew None w2).trans hk3 (fun _ f _ => f)
  have k3 := kd.trans (Keeps.alloc None w3 (.cells #[.slice y na cy] 28)) (fun _ f _ => f)
  have sD : w2.drew.cell? ⟨pb, 2, none⟩ = some (.slice (some ⟨vb, 0, none⟩) s.vs.length X.vc) ∧ w2.drew.cell? ⟨vb, a * 2, none⟩ = some (.slice xa na ca) := ⟨q2, u0⟩
  have sA : (w2.drew.alloc (.cells #[] 2)).cell? ⟨pb, 2, none⟩ = some (.slice (some ⟨vb, 0, none⟩) s.vs.length X.vc) ∧ (w2.drew.alloc (.cells #[] 2)).cell? ⟨vb, a * 2, none⟩ = some (.slice xa na ca) := ⟨kA.cell q2 (fun f => f), kA.cell u0 (fun f => f)⟩
  have s3 : w3.cell? ⟨pb, 2, none⟩ = some (.slice (some ⟨vb, 0, none⟩) s.vs.length X.vc) ∧ w3.cell? ⟨vb, a * 2, none⟩ = some (.slice xa na ca) := ⟨kd.cell q2 (fun f => f), kd.cell u0 (fun f => f)⟩
  have s3A : (w3.alloc (.cells #[.slice y na cy] 28)).cell? ⟨pb, 2, none⟩ = some (.slice (some ⟨vb, 0, none⟩) s.vs.length X.vc) ∧ (w3.alloc (.cells #[.slice y na cy] 28)).cell? ⟨vb, a * 2, none⟩ = some (.slice xa na ca) := ⟨k3.cell q2 (fun f => f), k3.cell u0 (fun f => f)⟩
  have q10A : (w2.alloc (.cells #[] 2)).cell? ⟨pb, 10, none⟩ = some (.slice X.la s.lk.length X.lc) := kA.cell q10 (fun f => f)
  have q103 := kd.cell q10 (fun f => f)
  have q103A := k3.cell q10 (fun f => f)
  have HF : Hid (PM (w4.setCell ⟨pb, 10, none⟩ (.slice (some ⟨g, 0, none⟩) (s.lk.length + 1) cap)) base pb K0 { X with la := some ⟨g, 0, none⟩, lc := cap } L (upd M s.lk.length (.slice y na cy)) R nx { s with lk := s.lk ++ [l] } ∧ Keeps (fun i => base ≤ i) w (w4.setCell ⟨pb, 10, none⟩ (.slice (some ⟨g, 0, none⟩) (s.lk.length + 1) cap))) :=
    ⟨hP5, ((keeps_tr HM2.out.2 k3).trans hk4 (fun i e _ => row_low hd3.vw.looks e)).andSet (x := ⟨pb, 10, none⟩) (.inl HM2.out.1.lo) _⟩
  clear hva hvlo hvf hLa sa hna hd hd3 ho3 hk3 hy3 ho4 hk4 hm4 hV3 hP5 kA kd k3 q2 u0 hl hlk
  refine wp_region_held_drew (S := (fun w' => w'.cell? ⟨pb, 2, none⟩ = some (.slice (some ⟨vb, 0, none⟩) s.vs.length X.vc) ∧ w'.cell? ⟨vb, a * 2, none⟩ = some (.slice xa na ca))) (by kernel_rfl) ?_ (fun hHeld => ?_)
  · (try dsimp only); first | exact sD | exact sA | exact s3 | exact s3A | exact t4 | exact t5
  refine wpAnyH_take (i := 0) (oi := { dst := some 57, op := Op.move (Operand.tmp 0), type := 60, pos := "hyper.go:106", after := #[], guard := none }) (v := ?_) rfl (by kernel_rfl) (by kernel_rfl) (by kernel_rfl) (fun _ _ _ h => h) (Or.inl ⟨by rfl, ?_⟩) (by assumption) ?_
  rotate_left
  · (intro wz hSw; (try dsimp only at hSw); go_simp; try with_reducible rfl)
  simp only [Act.put, List.setIfInBounds_toArray, List.set_cons_zero, List.set_cons_succ]
  refine wpAnyH_take (i := 1) (oi := { dst := some 58, op := Op.move (Operand.tmp 0), type := 60, pos := "hyper.go:106", after := #[], guard := none }) (v := ?_) rfl (by kernel_rfl) (by kernel_rfl) (by kernel_rfl) (fun _ _ _ h => h) (Or.inl ⟨by rfl, ?_⟩) (by assumption) ?_
  rotate_left
  · (intro wz hSw; (try dsimp only at hSw); go_simp; try with_reducible rfl)
  simp only [Act.put, List.setIfInBounds_toArray, List.set_cons_zero, List.set_cons_succ]
  refine wpAnyH_take (i := 2) (oi := { dst := some 59, op := Op.nilCheck (Operand.tmp 58), type := 0, pos := "hyper.go:106", after := #[{ on := 1, ground := Ground.data }], guard := none }) (v := ?_) rfl (by kernel_rfl) (by kernel_rfl) (by kernel_rfl) (fun _ _ _ h => h) (Or.inl ⟨by rfl, ?_⟩) (by assumption) ?_
  rotate_left
  · (intro wz hSw; (try dsimp only at hSw); go_simp; try with_reducible rfl)
  simp only [Act.put, List.setIfInBounds_toArray, List.set_cons_zero, List.set_cons_succ]
  refine wpAnyH_take (i := 3) (oi := { dst := some 60, op := Op.fieldAddr 65 (Operand.tmp 59) 7, type := 0, pos := "hyper.go:106", after := #[{ on := 2, ground := Ground.data }], guard := none }) (v := ?_) rfl (by kernel_rfl) (by kernel_rfl) (by kernel_rfl) (fun _ _ _ h => h) (Or.inl ⟨by rfl, ?_⟩) (by assumption) ?_
  rotate_left
  · (intro wz hSw; (try dsimp only at hSw); go_simp; try with_reducible rfl)
  simp only [Act.put, List.setIfInBounds_toArray, List.set_cons_zero, List.set_cons_succ]
  refine wpAnyH_take (i := 4) (oi := { dst := some 61, op := Op.fieldAddr 32 (Operand.tmp 60) 3, type := 0, pos := "hyper.go:106", after := #[{ on := 3, ground := Ground.data }], guard := none }) (v := ?_) rfl (by kernel_rfl) (by kernel_rfl) (by kernel_rfl) (fun _ _ _ h => h) (Or.inl ⟨by rfl, ?_⟩) (by assumption) ?_
  rotate_left
  · (intro wz hSw; (try dsimp only at hSw); go_simp; try with_reducible rfl)
  simp only [Act.put, List.setIfInBounds_toArray, List.set_cons_zero, List.set_cons_succ]
  refine wpAnyH_take (i := 7) (oi := { dst := some 64, op := Op.move (Operand.tmp 0), type := 60, pos := "hyper.go:106", after := #[], guard := none }) (v := ?_) rfl (by kernel_rfl) (by kernel_rfl) (by kernel_rfl) (fun _ _ _ h => h) (Or.inl ⟨by rfl, ?_⟩) (by assumption) ?_
  rotate_left
  · (intro wz hSw; (try dsimp only at hSw); go_simp; try with_reducible rfl)
  simp only [Act.put, List.setIfInBounds_toArray, List.set_cons_zero, List.set_cons_succ]
  refine wpAnyH_take (i := 8) (oi := { dst := some 65, op := Op.nilCheck (Operand.tmp 64), type := 0, pos := "hyper.go:106", after := #[{ on := 7, ground := Ground.data }], guard := none }) (v := ?_) rfl (by kernel_rfl) (by kernel_rfl) (by kernel_rfl) (fun _ _ _ h => h) (Or.inl ⟨by rfl, ?_⟩) (by assumption) ?_
  rotate_left
  · (intro wz hSw; (try dsimp only at hSw); go_simp; try with_reducible rfl)
  simp only [Act.put, List.setIfInBounds_toArray, List.set_cons_zero, List.set_cons_succ]
  refine wpAnyH_take (i := 9) (oi := { dst := some 66, op := Op.fieldAddr 65 (Operand.tmp 65) 2, type := 0, pos := "hyper.go:106", after := #[{ on := 8, ground := Ground.data }], guard := none }) (v := ?_) rfl (by kernel_rfl) (by kernel_rfl) (by kernel_rfl) (fun _ _ _ h => h) (Or.inl ⟨by rfl, ?_⟩) (by assumption) ?_
  rotate_left
  · (intro wz hSw; (try dsimp only at hSw); go_simp; try with_reducible rfl)
  simp only [Act.put, List.setIfInBounds_toArray, List.set_cons_zero, List.set_cons_succ]
  refine wpAnyH_take (i := 10) (oi := { dst := some 67, op := Op.load 62 (Operand.tmp 66), type := 62, pos := "hyper.go:106", after := #[{ on := 9, ground := Ground.data }], guard := none }) (v := ?_) rfl (by kernel_rfl) (by kernel_rfl) (by kernel_rfl) (fun _ _ _ h => h) (Or.inl ⟨by rfl, ?_⟩) (by assumption) ?_
  rotate_left
  · (intro wz hSw; (try dsimp only at hSw); go_simp; try with_reducible rfl)
  simp only [Act.put, List.setIfInBounds_toArray, List.set_cons_zero, List.set_cons_succ]
  refine wpAnyH_take (i := 11) (oi := { dst := some 68, op := Op.move (Operand.tmp 8), type := 3, pos := "hyper.go:106", after := #[], guard := none }) (v := ?_) rfl (by kernel_rfl) (by kernel_rfl) (by kernel_rfl) (fun _ _ _ h => h) (Or.inl ⟨by rfl, ?_⟩) (by assumption) ?_
  rotate_left
  · (intro wz hSw; (try dsimp only at hSw); go_simp; try with_reducible rfl)
  simp only [Act.put, List.setIfInBounds_toArray, List.set_cons_zero, List.set_cons_succ]
  refine wpAnyH_take (i := 12) (oi := { dst := some 69, op := Op.indexAddr 62 (Operand.tmp 67) (Operand.tmp 68), type := 0, pos := "hyper.go:106", after := #[{ on := 10, ground := Ground.data }, { on := 11, ground := Ground.data }], guard := none }) (v := ?_) rfl (by kernel_rfl) (by kernel_rfl) (by kernel_rfl) (fun _ _ _ h => h) (Or.inl ⟨by rfl, ?_⟩) (by assumption) ?_
  rotate_left
  · (intro wz hSw; (try dsimp only at hSw); go_simp; try with_reducible rfl)
  simp only [Act.put, List.setIfInBounds_toArray, List.set_cons_zero, List.set_cons_succ]
  refine wpAnyH_take (i := 13) (oi := { dst := some 70, op := Op.fieldAddr 83 (Operand.tmp 69) 0, type := 0, pos := "hyper.go:106", after := #[{ on := 12, ground := Ground.data }], guard := none }) (v := ?_) rfl (by kernel_rfl) (by kernel_rfl) (by kernel_rfl) (fun _ _ _ h => h) (Or.inl ⟨by rfl, ?_⟩) (by assumption) ?_
  rotate_left
  · (intro wz hSw; (try dsimp only at hSw); go_simp; try with_reducible rfl)
  simp only [Act.put, List.setIfInBounds_toArray, List.set_cons_zero, List.set_cons_succ]
  refine wpAnyH_take (i := 14) (oi := { dst := some 71, op := Op.load 28 (Operand.tmp 70), type := 28, pos := "hyper.go:106", after := #[{ on := 13, ground := Ground.data }], guard := none }) (v := ?_) rfl (by kernel_rfl) (by kernel_rfl) (by kernel_rfl) (fun _ _ _ h => h) (Or.inl ⟨by rfl, ?_⟩) (by assumption) ?_
  rotate_left
  · (intro wz hSw; (try dsimp only at hSw); go_simp; try with_reducible rfl)
  simp only [Act.put, List.setIfInBounds_toArray, List.set_cons_zero, List.set_cons_succ]
  refine wpAnyH_ready (rs := [5, 6]) (by kernel_rfl) (by simp) ?_
  refine AllReadyH.cons (o := { dst := some 62, op := Op.load 30 (Operand.tmp 61), type := 30, pos := "hyper.go:106", after := #[{ on := 4, ground := Ground.data }], guard := none }) rfl (fun K hK => ?_) ?_
  · go_simp
    refine hK.out _ _ ?_ (fun hHeld2 => ?_)
    · (try dsimp only); first | exact sD | exact sA | exact s3 | exact s3A | exact t4 | exact t5
    clear hK K
    try simp only [Act.put, List.setIfInBounds_toArray, List.set_cons_zero, List.set_cons_succ]
    refine wpAnyH_ready (rs := [6]) (by kernel_rfl) (by simp) ?_
    refine AllReadyH.cons (o := { dst := some 63, op := Op.buildSlice 28 0 #[], type := 28, pos := "hyper.go:106", after := #[], guard := none }) rfl (fun K hK => ?_) ?_
    · go_simp
      refine hK.out _ _ ?_ (fun hHeld2 => ?_)
      · (try dsimp only); first | exact sD | exact sA | exact s3 | exact s3A | exact t4 | exact t5
      clear hK K
      try simp only [Act.put, List.setIfInBounds_toArray, List.set_cons_zero, List.set_cons_succ]
      refine wpAnyH_ready (rs := [15]) (by kernel_rfl) (by simp) ?_
      refine AllReadyH.cons (o := { dst := some 72, op := Op.call { callee := Callee.builtin Builtin.append, args := #[Operand.tmp 63, Operand.tmp 71], argTypes := #[28, 28] }, type := 28, pos := "hyper.go:106", after := #[{ on := 6, ground := Ground.data }, { on := 14, ground := Ground.data }], guard := none }) rfl (fun K hK => ?_) ?_
      · refine step_append_run rfl (.tmp 63) (.tmp 71) 28 28 rfl (by first | rfl | simp [Act.eval]) (by first | rfl | simp [Act.eval]) hr3 ?_
        refine hK.out _ _ ?_ (fun hHeld2 => ?_)
        · (try dsimp only); first | exact sD | exact sA | exact s3 | exact s3A | exact t4 | exact t5
        clear hK K
        try simp only [Act.put, List.setIfInBounds_toArray, List.set_cons_zero, List.set_cons_succ]
        refine wpAnyH_ready (rs := [16]) (by kernel_rfl) (by simp) ?_
        refine AllReadyH.cons (o := { dst := some 73, op := Op.buildSlice 30 1 #[(0, Operand.tmp 72)], type := 30, pos := "hyper.go:106", after := #[{ on := 15, ground := Ground.data }], guard := none }) rfl (fun K hK => ?_) ?_
        · go_simp
          refine hK.out _ _ ?_ (fun hHeld2 => ?_)
          · (try dsimp only); first | exact sD | exact sA | exact s3 | exact s3A | exact t4 | exact t5
          clear hK K
          try simp only [Act.put, List.setIfInBounds_toArray, List.set_cons_zero, List.set_cons_succ]
          refine wpAnyH_ready (rs := [17]) (by kernel_rfl) (by simp) ?_
          refine AllReadyH.cons (o := { dst := some 74, op := Op.call { callee := Callee.builtin Builtin.append, args := #[Operand.tmp 62, Operand.tmp 73], argTypes := #[30, 30] }, type := 30, pos := "hyper.go:106", after := #[{ on := 5, ground := Ground.data }, { on := 16, ground := Ground.data }, { on := 15, ground := Ground.chain }], guard := none }) rfl (fun K hK => ?_) ?_
          · refine step_append_run rfl (.tmp 62) (.tmp 73) 30 30 rfl (by first | rfl | simp [Act.eval]) (by first | rfl | simp [Act.eval]) hr4 ?_
            refine hK.out _ _ ?_ (fun hHeld2 => ?_)
            · (try dsimp only); first | exact sD | exact sA | exact s3 | exact s3A | exact t4 | exact t5
            clear hK K
            try simp only [Act.put, List.setIfInBounds_toArray, List.set_cons_zero, List.set_cons_succ]
            refine wpAnyH_take (i := 18) (oi := _) (v := ?_) rfl (by kernel_rfl) (by kernel_rfl) (by kernel_rfl) (fun _ _ _ h => h) (Or.inl ⟨by rfl, ?_⟩) (by assumption) ?_
            rotate_left
            · (intro wz hSw; (try dsimp only at hSw); go_simp; try with_reducible rfl)
            simp only [Act.put, List.setIfInBounds_toArray, List.set_cons_zero, List.set_cons_succ]
            refine wpAnyH_take (i := 19) (oi := _) (v := ?_) rfl (by kernel_rfl) (by kernel_rfl) (by kernel_rfl) (fun _ _ _ h => h) (Or.inl ⟨by rfl, ?_⟩) (by assumption) ?_
            rotate_left
            · (intro wz hSw; (try dsimp only at hSw); go_simp; try with_reducible rfl)
            simp only [Act.put, List.setIfInBounds_toArray, List.set_cons_zero, List.set_cons_succ]
            refine wpAnyH_take (i := 20) (oi := _) (v := ?_) rfl (by kernel_rfl) (by kernel_rfl) (by kernel_rfl) (fun _ _ _ h => h) (Or.inl ⟨by rfl, ?_⟩) (by assumption) ?_
            rotate_left
            · (intro wz hSw; (try dsimp only at hSw); go_simp; try with_reducible rfl)
            simp only [Act.put, List.setIfInBounds_toArray, List.set_cons_zero, List.set_cons_succ]
            refine wpAnyH_ready (rs := [21]) (by kernel_rfl) (by simp) ?_
            refine AllReadyH.cons (o := _) rfl (fun K hK => ?_) ?_
            · go_simp
              refine hK.out _ _ ?_ (fun hHeld2 => ?_)
              · (try dsimp only); first | exact sD | exact sA | exact s3 | exact s3A | exact t4 | exact t5
              clear hK K
              try simp only [Act.put, List.setIfInBounds_toArray, List.set_cons_zero, List.set_cons_succ]
              refine wpAnyH_done (by kernel_rfl) ?_ _
              go_wp2_with fail
              go_end0
              exact ⟨rfl, ⟨_, _, HF.out.1⟩, HF.out.2⟩
            exact AllReadyH.nil
          exact AllReadyH.nil
        exact AllReadyH.nil
      exact AllReadyH.nil
    exact AllReadyH.nil
  refine AllReadyH.cons (o := { dst := some 63, op := Op.buildSlice 28 0 #[], type := 28, pos := "hyper.go:106", after := #[], guard := none }) rfl (fun K hK => ?_) ?_
  · go_simp
    refine hK.out _ _ ?_ (fun hHeld2 => ?_)
    · (try dsimp only); first | exact sD | exact sA | exact s3 | exact s3A | exact t4 | exact t5
    clear hK K
    try simp only [Act.put, List.setIfInBounds_toArray, List.set_cons_zero, List.set_cons_succ]
    refine wpAnyH_ready (rs := [5, 15]) (by kernel_rfl) (by simp) ?_
    refine AllReadyH.cons (o := { dst := some 62, op := Op.load 30 (Operand.tmp 61), type := 30, pos := "hyper.go:106", after := #[{ on := 4, ground := Ground.data }], guard := none }) rfl (fun K hK => ?_) ?_
    · go_simp
      refine hK.out _ _ ?_ (fun hHeld2 => ?_)
      · (try dsimp only); first | exact sD | exact sA | exact s3 | exact s3A | exact t4 | exact t5
      clear hK K
      try simp only [Act.put, List.setIfInBounds_toArray, List.set_cons_zero, List.set_cons_succ]
      refine wpAnyH_ready (rs := [15]) (by kernel_rfl) (by simp) ?_
      refine AllReadyH.cons (o := { dst := some 72, op := Op.call { callee := Callee.builtin Builtin.append, args := #[Operand.tmp 63, Operand.tmp 71], argTypes := #[28, 28] }, type := 28, pos := "hyper.go:106", after := #[{ on := 6, ground := Ground.data }, { on := 14, ground := Ground.data }], guard := none }) rfl (fun K hK => ?_) ?_
      · refine step_append_run rfl (.tmp 63) (.tmp 71) 28 28 rfl (by first | rfl | simp [Act.eval]) (by first | rfl | simp [Act.eval]) hr3 ?_
        refine hK.out _ _ ?_ (fun hHeld2 => ?_)
        · (try dsimp only); first | exact sD | exact sA | exact s3 | exact s3A | exact t4 | exact t5
        clear hK K
        try simp only [Act.put, List.setIfInBounds_toArray, List.set_cons_zero, List.set_cons_succ]
        refine wpAnyH_ready (rs := [16]) (by kernel_rfl) (by simp) ?_
        refine AllReadyH.cons (o := { dst := some 73, op := Op.buildSlice 30 1 #[(0, Operand.tmp 72)], type := 30, pos := "hyper.go:106", after := #[{ on := 15, ground := Ground.data }], guard := none }) rfl (fun K hK => ?_) ?_
        · go_simp
          refine hK.out _ _ ?_ (fun hHeld2 => ?_)
          · (try dsimp only); first | exact sD | exact sA | exact s3 | exact s3A | exact t4 | exact t5
          clear hK K
          try simp only [Act.put, List.setIfInBounds_toArray, List.set_cons_zero, List.set_cons_succ]
          refine wpAnyH_ready (rs := [17]) (by kernel_rfl) (by simp) ?_
          refine AllReadyH.cons (o := { dst := some 74, op := Op.call { callee := Callee.builtin Builtin.append, args := #[Operand.tmp 62, Operand.tmp 73], argTypes := #[30, 30] }, type := 30, pos := "hyper.go:106", after := #[{ on := 5, ground := Ground.data }, { on := 16, ground := Ground.data }, { on := 15, ground := Ground.chain }], guard := none }) rfl (fun K hK => ?_) ?_
          · refine step_append_run rfl (.tmp 62) (.tmp 73) 30 30 rfl (by first | rfl | simp [Act.eval]) (by first | rfl | simp [Act.eval]) hr4 ?_
            refine hK.out _ _ ?_ (fun hHeld2 => ?_)
            · (try dsimp only); first | exact sD | exact sA | exact s3 | exact s3A | exact t4 | exact t5
            clear hK K
            try simp only [Act.put, List.setIfInBounds_toArray, List.set_cons_zero, List.set_cons_succ]
            refine wpAnyH_take (i := 18) (oi := _) (v := ?_) rfl (by kernel_rfl) (by kernel_rfl) (by kernel_rfl) (fun _ _ _ h => h) (Or.inl ⟨by rfl, ?_⟩) (by assumption) ?_
            rotate_left
            · (intro wz hSw; (try dsimp only at hSw); go_simp; try with_reducible rfl)
            simp only [Act.put, List.setIfInBounds_toArray, List.set_cons_zero, List.set_cons_succ]
            refine wpAnyH_take (i := 19) (oi := _) (v := ?_) rfl (by kernel_rfl) (by kernel_rfl) (by kernel_rfl) (fun _ _ _ h => h) (Or.inl ⟨by rfl, ?_⟩) (by assumption) ?_
            rotate_left
            · (intro wz hSw; (try dsimp only at hSw); go_simp; try with_reducible rfl)
            simp only [Act.put, List.setIfInBounds_toArray, List.set_cons_zero, List.set_cons_succ]
            refine wpAnyH_take (i := 20) (oi := _) (v := ?_) rfl (by kernel_rfl) (by kernel_rfl) (by kernel_rfl) (fun _ _ _ h => h) (Or.inl ⟨by rfl, ?_⟩) (by assumption) ?_
            rotate_left
            · (intro wz hSw; (try dsimp only at hSw); go_simp; try with_reducible rfl)
            simp only [Act.put, List.setIfInBounds_toArray, List.set_cons_zero, List.set_cons_succ]
            refine wpAnyH_ready (rs := [21]) (by kernel_rfl) (by simp) ?_
            refine AllReadyH.cons (o := _) rfl (fun K hK => ?_) ?_
            · go_simp
              refine hK.out _ _ ?_ (fun hHeld2 => ?_)
              · (try dsimp only); first | exact sD | exact sA | exact s3 | exact s3A | exact t4 | exact t5
              clear hK K
              try simp only [Act.put, List.setIfInBounds_toArray, List.set_cons_zero, List.set_cons_succ]
              refine wpAnyH_done (by kernel_rfl) ?_ _
              go_wp2_with fail
              go_end0
              exact ⟨rfl, ⟨_, _, HF.out.1⟩, HF.out.2⟩
            exact AllReadyH.nil
          exact AllReadyH.nil
        exact AllReadyH.nil
      exact AllReadyH.nil
    refine AllReadyH.cons (o := { dst := some 72, op := Op.call { callee := Callee.builtin Builtin.append, args := #[Operand.tmp 63, Operand.tmp 71], argTypes := #[28, 28] }, type := 28, pos := "hyper.go:106", after := #[{ on := 6, ground := Ground.data }, { on := 14, ground := Ground.data }], guard := none }) rfl (fun K hK => ?_) ?_
    · refine step_append_run rfl (.tmp 63) (.tmp 71) 28 28 rfl (by first | rfl | simp [Act.eval]) (by first | rfl | simp [Act.eval]) hr3 ?_
      refine hK.out _ _ ?_ (fun hHeld2 => ?_)
      · (try dsimp only); first | exact sD | exact sA | exact s3 | exact s3A | exact t4 | exact t5
      clear hK K
      try simp only [Act.put, List.setIfInBounds_toArray, List.set_cons_zero, List.set_cons_succ]
      refine wpAnyH_ready (rs := [5, 16]) (by kernel_rfl) (by simp) ?_
      refine AllReadyH.cons (o := { dst := some 62, op := Op.load 30 (Operand.tmp 61), type := 30, pos := "hyper.go:106", after := #[{ on := 4, ground := Ground.data }], guard := none }) rfl (fun K hK => ?_) ?_
      · go_simp
        refine hK.out _ _ ?_ (fun hHeld2 => ?_)
        · (try dsimp only); first | exact sD | exact sA | exact s3 | exact s3A | exact t4 | exact t5
        clear hK K
        try simp only [Act.put, List.setIfInBounds_toArray, List.set_cons_zero, List.set_cons_succ]
        refine wpAnyH_ready (rs := [16]) (by kernel_rfl) (by simp) ?_
        refine AllReadyH.cons (o := { dst := some 73, op := Op.buildSlice 30 1 #[(0, Operand.tmp 72)], type := 30, pos := "hyper.go:106", after := #[{ on := 15, ground := Ground.data }], guard := none }) rfl (fun K hK => ?_) ?_
        · go_simp
          refine hK.out _ _ ?_ (fun hHeld2 => ?_)
          · (try dsimp only); first | exact sD | exact sA | exact s3 | exact s3A | exact t4 | exact t5
          clear hK K
          try simp only [Act.put, List.setIfInBounds_toArray, List.set_cons_zero, List.set_cons_succ]
          refine wpAnyH_ready (rs := [17]) (by kernel_rfl) (by simp) ?_
          refine AllReadyH.cons (o := { dst := some 74, op := Op.call { callee := Callee.builtin Builtin.append, args := #[Operand.tmp 62, Operand.tmp 73], argTypes := #[30, 30] }, type := 30, pos := "hyper.go:106", after := #[{ on := 5, ground := Ground.data }, { on := 16, ground := Ground.data }, { on := 15, ground := Ground.chain }], guard := none }) rfl (fun K hK => ?_) ?_
          · refine step_append_run rfl (.tmp 62) (.tmp 73) 30 30 rfl (by first | rfl | simp [Act.eval]) (by first | rfl | simp [Act.eval]) hr4 ?_
            refine hK.out _ _ ?_ (fun hHeld2 => ?_)
            · (try dsimp only); first | exact sD | exact sA | exact s3 | exact s3A | exact t4 | exact t5
            clear hK K
            try simp only [Act.put, List.setIfInBounds_toArray, List.set_cons_zero, List.set_cons_succ]
            refine wpAnyH_take (i := 18) (oi := _) (v := ?_) rfl (by kernel_rfl) (by kernel_rfl) (by kernel_rfl) (fun _ _ _ h => h) (Or.inl ⟨by rfl, ?_⟩) (by assumption) ?_
            rotate_left
            · (intro wz hSw; (try dsimp only at hSw); go_simp; try with_reducible rfl)
            simp only [Act.put, List.setIfInBounds_toArray, List.set_cons_zero, List.set_cons_succ]
            refine wpAnyH_take (i := 19) (oi := _) (v := ?_) rfl (by kernel_rfl) (by kernel_rfl) (by kernel_rfl) (fun _ _ _ h => h) (Or.inl ⟨by rfl, ?_⟩) (by assumption) ?_
            rotate_left
            · (intro wz hSw; (try dsimp only at hSw); go_simp; try with_reducible rfl)
            simp only [Act.put, List.setIfInBounds_toArray, List.set_cons_zero, List.set_cons_succ]
            refine wpAnyH_take (i := 20) (oi := _) (v := ?_) rfl (by kernel_rfl) (by kernel_rfl) (by kernel_rfl) (fun _ _ _ h => h) (Or.inl ⟨by rfl, ?_⟩) (by assumption) ?_
            rotate_left
            · (intro wz hSw; (try dsimp only at hSw); go_simp; try with_reducible rfl)
            simp only [Act.put, List.setIfInBounds_toArray, List.set_cons_zero, List.set_cons_succ]
            refine wpAnyH_ready (rs := [21]) (by kernel_rfl) (by simp) ?_
            refine AllReadyH.cons (o := _) rfl (fun K hK => ?_) ?_
            · go_simp
              refine hK.out _ _ ?_ (fun hHeld2 => ?_)
              · (try dsimp only); first | exact sD | exact sA | exact s3 | exact s3A | exact t4 | exact t5
              clear hK K
              try simp only [Act.put, List.setIfInBounds_toArray, List.set_cons_zero, List.set_cons_succ]
              refine wpAnyH_done (by kernel_rfl) ?_ _
              go_wp2_with fail
              go_end0
              exact ⟨rfl, ⟨_, _, HF.out.1⟩, HF.out.2⟩
            exact AllReadyH.nil
          exact AllReadyH.nil
        exact AllReadyH.nil
      refine AllReadyH.cons (o := { dst := some 73, op := Op.buildSlice 30 1 #[(0, Operand.tmp 72)], type := 30, pos := "hyper.go:106", after := #[{ on := 15, ground := Ground.data }], guard := none }) rfl (fun K hK => ?_) ?_
      · go_simp
        refine hK.out _ _ ?_ (fun hHeld2 => ?_)
        · (try dsimp only); first | exact sD | exact sA | exact s3 | exact s3A | exact t4 | exact t5
        clear hK K
        try simp only [Act.put, List.setIfInBounds_toArray, List.set_cons_zero, List.set_cons_succ]
        refine wpAnyH_ready (rs := [5]) (by kernel_rfl) (by simp) ?_
        refine AllReadyH.cons (o := { dst := some 62, op := Op.load 30 (Operand.tmp 61), type := 30, pos := "hyper.go:106", after := #[{ on := 4, ground := Ground.data }], guard := none }) rfl (fun K hK => ?_) ?_
        · go_simp
          refine hK.out _ _ ?_ (fun hHeld2 => ?_)
          · (try dsimp only); first | exact sD | exact sA | exact s3 | exact s3A | exact t4 | exact t5
          clear hK K
          try simp only [Act.put, List.setIfInBounds_toArray, List.set_cons_zero, List.set_cons_succ]
          refine wpAnyH_ready (rs := [17]) (by kernel_rfl) (by simp) ?_
          refine AllReadyH.cons (o := { dst := some 74, op := Op.call { callee := Callee.builtin Builtin.append, args := #[Operand.tmp 62, Operand.tmp 73], argTypes := #[30, 30] }, type := 30, pos := "hyper.go:106", after := #[{ on := 5, ground := Ground.data }, { on := 16, ground := Ground.data }, { on := 15, ground := Ground.chain }], guard := none }) rfl (fun K hK => ?_) ?_
          · refine step_append_run rfl (.tmp 62) (.tmp 73) 30 30 rfl (by first | rfl | simp [Act.eval]) (by first | rfl | simp [Act.eval]) hr4 ?_
            refine hK.out _ _ ?_ (fun hHeld2 => ?_)
            · (try dsimp only); first | exact sD | exact sA | exact s3 | exact s3A | exact t4 | exact t5
            clear hK K
            try simp only [Act.put, List.setIfInBounds_toArray, List.set_cons_zero, List.set_cons_succ]
            refine wpAnyH_take (i := 18) (oi := _) (v := ?_) rfl (by kernel_rfl) (by kernel_rfl) (by kernel_rfl) (fun _ _ _ h => h) (Or.inl ⟨by rfl, ?_⟩) (by assumption) ?_
            rotate_left
            · (intro wz hSw; (try dsimp only at hSw); go_simp; try with_reducible rfl)
            simp only [Act.put, List.setIfInBounds_toArray, List.set_cons_zero, List.set_cons_succ]
            refine wpAnyH_take (i := 19) (oi := _) (v := ?_) rfl (by kernel_rfl) (by kernel_rfl) (by kernel_rfl) (fun _ _ _ h => h) (Or.inl ⟨by rfl, ?_⟩) (by assumption) ?_
            rotate_left
            · (intro wz hSw; (try dsimp only at hSw); go_simp; try with_reducible rfl)
            simp only [Act.put, List.setIfInBounds_toArray, List.set_cons_zero, List.set_cons_succ]
            refine wpAnyH_take (i := 20) (oi := _) (v := ?_) rfl (by kernel_rfl) (by kernel_rfl) (by kernel_rfl) (fun _ _ _ h => h) (Or.inl ⟨by rfl, ?_⟩) (by assumption) ?_
            rotate_left
            · (intro wz hSw; (try dsimp only at hSw); go_simp; try with_reducible rfl)
            simp only [Act.put, List.setIfInBounds_toArray, List.set_cons_zero, List.set_cons_succ]
            refine wpAnyH_ready (rs := [21]) (by kernel_rfl) (by simp) ?_
            refine AllReadyH.cons (o := _) rfl (fun K hK => ?_) ?_
            · go_simp
              refine hK.out _ _ ?_ (fun hHeld2 => ?_)
              · (try dsimp only); first | exact sD | exact sA | exact s3 | exact s3A | exact t4 | exact t5
              clear hK K
              try simp only [Act.put, List.setIfInBounds_toArray, List.set_cons_zero, List.set_cons_succ]
              refine wpAnyH_done (by kernel_rfl) ?_ _
              go_wp2_with fail
              go_end0
              exact ⟨rfl, ⟨_, _, HF.out.1⟩, HF.out.2⟩
            exact AllReadyH.nil
          exact AllReadyH.nil
        exact AllReadyH.nil
      exact AllReadyH.nil
    exact AllReadyH.nil
  exact AllReadyH.nil
end Go.Proofs.Ytdiabpoafennlab.Rn
/-! The document's run: a deed that spawns. -/
namespace Go.Proofs.Ytdiabpoafennlab.Rn
set_option linter.unusedVariables false
set_option maxRecDepth 20000
set_option linter.unusedSimpArgs false
open Go.RowKit Go.HeapKit Go.PlainOps

theorem own_one {w : World} {base : Nat} (a : Nat) (hb : base ≤ w.heap.size) : (w.alloc (.cells #[.int .i64 a] 3)).ownsRow base 3 1 (.slice (some ⟨w.heap.size, 0, none⟩) 1 1) [a].length (nv [a]) :=
  ⟨rfl, .inr ⟨w.heap.size, 1, #[.int .i64 a], rfl, hb, heap_alloc_new w _, Nat.le_refl _, by unfold maxLen; omega, rfl, rfl⟩⟩
set_option maxHeartbeats 3200000 in
theorem do_spawn (base pb at0 nx : Nat) (K0 : RP) (X : RX) (L M R : Nat → Value) (s : PS) (w : World) (tk : List (Nat × List Nat)) (sp : Nat) (r : List Nat) (loc : Int) (st0 : Option Addr) (sn sc : Nat) (h : PM w base pb K0 X L M R nx s) (hx : s.tk = tk ++ [(sp, r)]) (hr : r ≠ []) (hn : tk.length ≤ 100000) (hn2 : r.length ≤ 100000) (a : Nat) (ha : a = r.getLastD 0) (hsp : s.spn ≤ 100000) :
    Calls Try.prog 40 #[.pointer (some ⟨pb, 0, none⟩), .int .i64 at0, .agg #[.int .i64 0, .int .i64 loc], .slice st0 sn sc] w fun e w' => e = .returned (.tuple #[]) ∧ (∃ X' R', PM w' base pb K0 X' L M R' nx { s with tk := s.tk ++ [(s.spn, [a])], spn := s.spn + 1 }) ∧ Keeps (fun i => base ≤ i) w w' := by
  have hsl : s.tk.length = tk.length + 1 := by rw [hx]; simp
  have hne : s.tk ≠ [] := by rw [hx]; simp
  have HP : Hid (PM w base pb K0 X L M R nx s ∧ s.tk = tk ++ [(sp, r)] ∧ r ≠ [] ∧ a = r.getLastD 0 ∧ s.tk.length ≤ 100001 ∧ s.tk ≠ []) := ⟨h, hx, hr, ha, by omega, hne⟩
  clear h hx hr ha hsl hne
  have hb0 := blk_new w (.cells #[.int .i64 0, .int .i64 loc] 44) w.heap.size rfl
  have hkb := (Keeps.alloc None w (.cells #[.int .i64 0, .int .i64 loc] 44))
  obtain ⟨db, hdb⟩ : ∃ db, db = w.heap.size := ⟨_, rfl⟩
  rw [← hdb] at hb0
  go_enter Try.func40, Try.ntmps40
  go_upto_region 1 with fail
  rw [← hdb]
  clear hdb
  generalize w.alloc (.cells #[.int .i64 0, .int .i64 loc] 44) = wa at *
  have HA : Hid (PM wa base pb K0 X L M R nx s ∧ Keeps None w wa ∧ wa.heap[db]? = some (.cells #[.int .i64 0, .int .i64 loc] 44 (0, 0))) := ⟨HP.out.1.more hkb, hkb, hb0⟩
  clear hb0 hkb
  go_wp2_with fail
  refine (hand_ok base pb nx K0 X L M R s wa tk sp r HA.out.1 HP.out.2.1 HP.out.2.2.1 hn hn2).mono ?_
  rintro e w2 ⟨rfl, hk1⟩
  rw [← HP.out.2.2.2.1]
  have HM2 : Hid (PM w2 base pb K0 X L M R nx s ∧ Keeps (fun i => base ≤ i) w w2) := ⟨HA.out.1.more hk1, (keeps_tr HA.out.2.1 hk1).mono (fun _ f _ => f.elim)⟩
  have d0 : w2.cell? ⟨db, 0, none⟩ = some (.int .i64 0) := blk_cell (blk_kept HA.out.2.2 hk1 (fun f => f)) 0
  clear hk1
  go_upto_region 11 with fail
  clear d0
  have q3 := HM2.out.1.c0.2.2.2.1
  have q6 := HM2.out.1.c0.2.2.2.2.2.2.1
  have hd := HM2.out.1.more (Keeps.drew None w2)
  have hdA := hd.more (Keeps.alloc None w2.drew (.cells #[.int .i64 a] 3))
  have hdB := hdA.more (Keeps.alloc None (w2.drew.alloc (.cells #[.int .i64 a] 3)) (.cells #[.int .i64 s.spn, .slice (some ⟨w2.heap.size, 0, none⟩) 1 1] 93))
  obtain ⟨g, cap, w4, hr4, ho4, hk4⟩ := rtask_more base (.slice X.ta s.tk.length X.tc) s.spn (.slice (some ⟨w2.heap.size, 0, none⟩) 1 1) s.tk.length _ 63 (w2.heap.size + 1) _ hdB.tk.tks hdB.size (by have := HP.out.2.2.2.2.1; omega) rfl (blk_new (w2.drew.alloc (.cells #[.int .i64 a] 3)) _ _ (by simp))
  have ho1 := (own_one (w := w2.drew) a hd.size).alloc (.cells #[.int .i64 s.spn, .slice (some ⟨w2.heap.size, 0, none⟩) 1 1] 93)
  have hP5 := hdB.spawn HP.out.2.2.2.2.2 (x := (s.spn, [a])) (V := .slice (some ⟨w2.heap.size, 0, none⟩) 1 1) ho1 ho4 hk4
  have hb4 := blk_other hdB.blk hk4 (onlyT_own hdB.tk.tks) (by decide)
  have kA := (Keeps.drew None w2).andAlloc (.cells #[.int .i64 a] 3)
  have kB := kA.andAlloc (.cells #[.int .i64 s.spn, .slice (some ⟨w2.heap.size, 0, none⟩) 1 1] 93)
  have s0 : w2.drew.cell? ⟨pb, 6, none⟩ = some (.int .i64 s.spn) := q6
  have sA := kA.cell q6 (fun f => f)
  have sB := kB.cell q6 (fun f => f)
  have s4 : w4.cell? ⟨pb, 6, none⟩ = some (.int .i64 s.spn) := blk_cell hb4 6
  have s5 := hP5.c0.2.2.2.2.2.2.1
  have q3A : (w2.alloc (.cells #[.int .i64 a] 3)).cell? ⟨pb, 3, none⟩ = some (.slice X.ta s.tk.length X.tc) := kA.cell q3 (fun f => f)
  have q3B : ((w2.alloc (.cells #[.int .i64 a] 3)).alloc (.cells #[.int .i64 s.spn, .slice (some ⟨w2.heap.size, 0, none⟩) 1 1] 93)).cell? ⟨pb, 3, none⟩ = some (.slice X.ta s.tk.length X.tc) := kB.cell q3 (fun f => f)
  have f3 : w4.frozen? ⟨pb, 3, none⟩ = false := blk_free hb4 3
  have q34 : w4.cell? ⟨pb, 3, none⟩ = some (.slice X.ta s.tk.length X.tc) := blk_cell hb4 3
  have HF : Hid ((∃ X' R', PM (w4.setCell ⟨pb, 3, none⟩ (.slice (some ⟨g, 0, none⟩) (s.tk.length + 1) cap)) base pb K0 X' L M R' nx { s with tk := s.tk ++ [(s.spn, [a])] }) ∧ Keeps (fun i => base ≤ i) w (w4.setCell ⟨pb, 3, none⟩ (.slice (some ⟨g, 0, none⟩) (s.tk.length + 1) cap))) :=
    ⟨⟨_, _, hP5⟩, ((keeps_tr HM2.out.2 kB).trans hk4 (fun i e _ => row_low hdB.tk.tks e)).andSet (x := ⟨pb, 3, none⟩) (.inl HM2.out.1.lo) _⟩
  clear hd hdA hdB ho4 hk4 ho1 hP5 hb4 kA kB q6
  go_cut [] (fun wx => (∃ X' R', PM wx base pb K0 X' L M R' nx { s with tk := s.tk ++ [(s.spn, [a])] }) ∧ Keeps (fun i => base ≤ i) w wx)
  case first =>
    refine wp_region_held_drew (S := (fun w' => w'.cell? ⟨pb, 6, none⟩ = some (.int .i64 s.spn))) (by kernel_rfl) ?_ (fun hHeld => ?_)
    · (try dsimp only); first | exact s0 | exact sA | exact sB | exact s4 | exact s5
    refine wpAnyH_take (i := 0) (oi := { dst := some 80, op := Op.move (Operand.tmp 0), type := 60, pos := "hyper.go:108", after := #[], guard := none }) (v := ?_) rfl (by kernel_rfl) (by kernel_rfl) (by kernel_rfl) (fun _ _ _ h => h) (Or.inl ⟨by rfl, ?_⟩) (by assumption) ?_
    rotate_left
    · (intro wz hSw; (try dsimp only at hSw); go_simp; try with_reducible rfl)
    simp only [Act.put, List.setIfInBounds_toArray, List.set_cons_zero, List.set_cons_succ]
    refine wpAnyH_take (i := 1) (oi := { dst := some 81, op := Op.move (Operand.tmp 0), type := 60, pos := "hyper.go:108", after := #[], guard := none }) (v := ?_) rfl (by kernel_rfl) (by kernel_rfl) (by kernel_rfl) (fun _ _ _ h => h) (Or.inl ⟨by rfl, ?_⟩) (by assumption) ?_
    rotate_left
    · (intro wz hSw; (try dsimp only at hSw); go_simp; try with_reducible rfl)
    simp only [Act.put, List.setIfInBounds_toArray, List.set_cons_zero, List.set_cons_succ]
    refine wpAnyH_take (i := 2) (oi := { dst := some 82, op := Op.nilCheck (Operand.tmp 81), type := 0, pos := "hyper.go:108", after := #[{ on := 1, ground := Ground.data }], guard := none }) (v := ?_) rfl (by kernel_rfl) (by kernel_rfl) (by kernel_rfl) (fun _ _ _ h => h) (Or.inl ⟨by rfl, ?_⟩) (by assumption) ?_
    rotate_left
    · (intro wz hSw; (try dsimp only at hSw); go_simp; try with_reducible rfl)
    simp only [Act.put, List.setIfInBounds_toArray, List.set_cons_zero, List.set_cons_succ]
    refine wpAnyH_take (i := 3) (oi := { dst := some 83, op := Op.fieldAddr 65 (Operand.tmp 82) 3, type := 0, pos := "hyper.go:108", after := #[{ on := 2, ground := Ground.data }], guard := none }) (v := ?_) rfl (by kernel_rfl) (by kernel_rfl) (by kernel_rfl) (fun _ _ _ h => h) (Or.inl ⟨by rfl, ?_⟩) (by assumption) ?_
    rotate_left
    · (intro wz hSw; (try dsimp only at hSw); go_simp; try with_reducible rfl)
    simp only [Act.put, List.setIfInBounds_toArray, List.set_cons_zero, List.set_cons_succ]
    refine wpAnyH_take (i := 5) (oi := { dst := some 85, op := Op.move (Operand.tmp 0), type := 60, pos := "hyper.go:108", after := #[], guard := none }) (v := ?_) rfl (by kernel_rfl) (by kernel_rfl) (by kernel_rfl) (fun _ _ _ h => h) (Or.inl ⟨by rfl, ?_⟩) (by assumption) ?_
    rotate_left
    · (intro wz hSw; (try dsimp only at hSw); go_simp; try with_reducible rfl)
    simp only [Act.put, List.setIfInBounds_toArray, List.set_cons_zero, List.set_cons_succ]
    refine wpAnyH_take (i := 6) (oi := { dst := some 86, op := Op.nilCheck (Operand.tmp 85), type := 0, pos := "hyper.go:108", after := #[{ on := 5, ground := Ground.data }], guard := none }) (v := ?_) rfl (by kernel_rfl) (by kernel_rfl) (by kernel_rfl) (fun _ _ _ h => h) (Or.inl ⟨by rfl, ?_⟩) (by assumption) ?_
    rotate_left
    · (intro wz hSw; (try dsimp only at hSw); go_simp; try with_reducible rfl)
    simp only [Act.put, List.setIfInBounds_toArray, List.set_cons_zero, List.set_cons_succ]
    refine wpAnyH_take (i := 7) (oi := { dst := some 87, op := Op.fieldAddr 65 (Operand.tmp 86) 6, type := 0, pos := "hyper.go:108", after := #[{ on := 6, ground := Ground.data }], guard := none }) (v := ?_) rfl (by kernel_rfl) (by kernel_rfl) (by kernel_rfl) (fun _ _ _ h => h) (Or.inl ⟨by rfl, ?_⟩) (by assumption) ?_
    rotate_left
    · (intro wz hSw; (try dsimp only at hSw); go_simp; try with_reducible rfl)
    simp only [Act.put, List.setIfInBounds_toArray, List.set_cons_zero, List.set_cons_succ]
    refine wpAnyH_take (i := 8) (oi := { dst := some 88, op := Op.load 3 (Operand.tmp 87), type := 3, pos := "hyper.go:108", after := #[{ on := 7, ground := Ground.data }], guard := none }) (v := ?_) rfl (by kernel_rfl) (by kernel_rfl) (by kernel_rfl) (fun _ _ _ h => h) (Or.inl ⟨by rfl, ?_⟩) (by assumption) ?_
    rotate_left
    · (intro wz hSw; (try dsimp only at hSw); go_simp; try with_reducible rfl)
    simp only [Act.put, List.setIfInBounds_toArray, List.set_cons_zero, List.set_cons_succ]
    refine wpAnyH_take (i := 9) (oi := { dst := some 89, op := Op.move (Operand.tmp 8), type := 3, pos := "hyper.go:108", after := #[], guard := none }) (v := ?_) rfl (by kernel_rfl) (by kernel_rfl) (by kernel_rfl) (fun _ _ _ h => h) (Or.inl ⟨by rfl, ?_⟩) (by assumption) ?_
    rotate_left
    · (intro wz hSw; (try dsimp only at hSw); go_simp; try with_reducible rfl)
    simp only [Act.put, List.setIfInBounds_toArray, List.set_cons_zero, List.set_cons_succ]
    refine wpAnyH_ready (rs := [4, 10]) (by kernel_rfl) (by simp) ?_
    refine AllReadyH.cons (o := { dst := some 84, op := Op.load 63 (Operand.tmp 83), type := 63, pos := "hyper.go:108", after := #[{ on := 3, ground := Ground.data }], guard := none }) rfl (fun K hK => ?_) ?_
    · go_simp
      refine hK.out _ _ ?_ (fun hHeld2 => ?_)
      · (try dsimp only); first | exact s0 | exact sA | exact sB | exact s4 | exact s5
      clear hK K
      try simp only [Act.put, List.setIfInBounds_toArray, List.set_cons_zero, List.set_cons_succ]
      refine wpAnyH_ready (rs := [10]) (by kernel_rfl) (by simp) ?_
      refine AllReadyH.cons (o := { dst := some 90, op := Op.buildSlice 24 1 #[(0, Operand.tmp 89)], type := 24, pos := "hyper.go:108", after := #[{ on := 9, ground := Ground.data }], guard := none }) rfl (fun K hK => ?_) ?_
      · go_simp
        refine hK.out _ _ ?_ (fun hHeld2 => ?_)
        · (try dsimp only); first | exact s0 | exact sA | exact sB | exact s4 | exact s5
        clear hK K
        try simp only [Act.put, List.setIfInBounds_toArray, List.set_cons_zero, List.set_cons_succ]
        refine wpAnyH_take (i := 11) (oi := { dst := some 91, op := Op.build 93 #[(0, Operand.tmp 88), (1, Operand.tmp 90)], type := 93, pos := "hyper.go:108", after := #[{ on := 8, ground := Ground.data }, { on := 10, ground := Ground.data }], guard := none }) (v := ?_) rfl (by kernel_rfl) (by kernel_rfl) (by kernel_rfl) (fun _ _ _ h => h) (Or.inl ⟨by rfl, ?_⟩) (by assumption) ?_
        rotate_left
        · (intro wz hSw; (try dsimp only at hSw); go_simp; try with_reducible rfl)
        simp only [Act.put, List.setIfInBounds_toArray, List.set_cons_zero, List.set_cons_succ]
        refine wpAnyH_ready (rs := [12]) (by kernel_rfl) (by simp) ?_
        refine AllReadyH.cons (o := { dst := some 92, op := Op.buildSlice 63 1 #[(0, Operand.tmp 91)], type := 63, pos := "hyper.go:108", after := #[{ on := 11, ground := Ground.data }], guard := none }) rfl (fun K hK => ?_) ?_
        · go_simp
          refine hK.out _ _ ?_ (fun hHeld2 => ?_)
          · (try dsimp only); first | exact s0 | exact sA | exact sB | exact s4 | exact s5
          clear hK K
          try simp only [Act.put, List.setIfInBounds_toArray, List.set_cons_zero, List.set_cons_succ]
          refine wpAnyH_ready (rs := [13]) (by kernel_rfl) (by simp) ?_
          refine AllReadyH.cons (o := { dst := some 93, op := Op.call { callee := Callee.builtin Builtin.append, args := #[Operand.tmp 84, Operand.tmp 92], argTypes := #[63, 63] }, type := 63, pos := "hyper.go:108", after := #[{ on := 4, ground := Ground.data }, { on := 12, ground := Ground.data }], guard := none }) rfl (fun K hK => ?_) ?_
          · refine step_append_run rfl (.tmp 84) (.tmp 92) 63 63 rfl (by first | rfl | simp [Act.eval]) (by first | rfl | simp [Act.eval]) hr4 ?_
            refine hK.out _ _ ?_ (fun hHeld2 => ?_)
            · (try dsimp only); first | exact s0 | exact sA | exact sB | exact s4 | exact s5
            clear hK K
            try simp only [Act.put, List.setIfInBounds_toArray, List.set_cons_zero, List.set_cons_succ]
            refine wpAnyH_take (i := 14) (oi := _) (v := ?_) rfl (by kernel_rfl) (by kernel_rfl) (by kernel_rfl) (fun _ _ _ h => h) (Or.inl ⟨by rfl, ?_⟩) (by assumption) ?_
            rotate_left
            · (intro wz hSw; (try dsimp only at hSw); go_simp; try with_reducible rfl)
            simp only [Act.put, List.setIfInBounds_toArray, List.set_cons_zero, List.set_cons_succ]
            refine wpAnyH_take (i := 15) (oi := _) (v := ?_) rfl (by kernel_rfl) (by kernel_rfl) (by kernel_rfl) (fun _ _ _ h => h) (Or.inl ⟨by rfl, ?_⟩) (by assumption) ?_
            rotate_left
            · (intro wz hSw; (try dsimp only at hSw); go_simp; try with_reducible rfl)
            simp only [Act.put, List.setIfInBounds_toArray, List.set_cons_zero, List.set_cons_succ]
            refine wpAnyH_ready (rs := [16]) (by kernel_rfl) (by simp) ?_
            refine AllReadyH.cons (o := _) rfl (fun K hK => ?_) ?_
            · go_simp
              refine hK.out _ _ ?_ (fun hHeld2 => ?_)
              · (try dsimp only); first | exact s0 | exact sA | exact sB | exact s4 | exact s5
              clear hK K
              try simp only [Act.put, List.setIfInBounds_toArray, List.set_cons_zero, List.set_cons_succ]
              refine wpAnyH_done (by kernel_rfl) ?_ _
              go_wp2_with fail
              go_meet
              exact HF.out
            exact AllReadyH.nil
          exact AllReadyH.nil
        exact AllReadyH.nil
      exact AllReadyH.nil
    refine AllReadyH.cons (o := { dst := some 90, op := Op.buildSlice 24 1 #[(0, Operand.tmp 89)], type := 24, pos := "hyper.go:108", after := #[{ on := 9, ground := Ground.data }], guard := none }) rfl (fun K hK => ?_) ?_
    · go_simp
      refine hK.out _ _ ?_ (fun hHeld2 => ?_)
      · (try dsimp only); first | exact s0 | exact sA | exact sB | exact s4 | exact s5
      clear hK K
      try simp only [Act.put, List.setIfInBounds_toArray, List.set_cons_zero, List.set_cons_succ]
      refine wpAnyH_take (i := 11) (oi := { dst := some 91, op := Op.build 93 #[(0, Operand.tmp 88), (1, Operand.tmp 90)], type := 93, pos := "hyper.go:108", after := #[{ on := 8, ground := Ground.data }, { on := 10, ground := Ground.data }], guard := none }) (v := ?_) rfl (by kernel_rfl) (by kernel_rfl) (by kernel_rfl) (fun _ _ _ h => h) (Or.inl ⟨by rfl, ?_⟩) (by assumption) ?_
      rotate_left
      · (intro wz hSw; (try dsimp only at hSw); go_simp; try with_reducible rfl)
      simp only [Act.put, List.setIfInBounds_toArray, List.set_cons_zero, List.set_cons_succ]
      refine wpAnyH_ready (rs := [4, 12]) (by kernel_rfl) (by simp) ?_
      refine AllReadyH.cons (o := { dst := some 84, op := Op.load 63 (Operand.tmp 83), type := 63, pos := "hyper.go:108", after := #[{ on := 3, ground := Ground.data }], guard := none }) rfl (fun K hK => ?_) ?_
      · go_simp
        refine hK.out _ _ ?_ (fun hHeld2 => ?_)
        · (try dsimp only); first | exact s0 | exact sA | exact sB | exact s4 | exact s5
        clear hK K
        try simp only [Act.put, List.setIfInBounds_toArray, List.set_cons_zero, List.set_cons_succ]
        refine wpAnyH_ready (rs := [12]) (by kernel_rfl) (by simp) ?_
        refine AllReadyH.cons (o := { dst := some 92, op := Op.buildSlice 63 1 #[(0, Operand.tmp 91)], type := 63, pos := "hyper.go:108", after := #[{ on := 11, ground := Ground.data }], guard := none }) rfl (fun K hK => ?_) ?_
        · go_simp
          refine hK.out _ _ ?_ (fun hHeld2 => ?_)
          · (try dsimp only); first | exact s0 | exact sA | exact sB | exact s4 | exact s5
          clear hK K
          try simp only [Act.put, List.setIfInBounds_toArray, List.set_cons_zero, List.set_cons_succ]
          refine wpAnyH_ready (rs := [13]) (by kernel_rfl) (by simp) ?_
          refine AllReadyH.cons (o := { dst := some 93, op := Op.call { callee := Callee.builtin Builtin.append, args := #[Operand.tmp 84, Operand.tmp 92], argTypes := #[63, 63] }, type := 63, pos := "hyper.go:108", after := #[{ on := 4, ground := Ground.data }, { on := 12, ground := Ground.data }], guard := none }) rfl (fun K hK => ?_) ?_
          · refine step_append_run rfl (.tmp 84) (.tmp 92) 63 63 rfl (by first | rfl | simp [Act.eval]) (by first | rfl | simp [Act.eval]) hr4 ?_
            refine hK.out _ _ ?_ (fun hHeld2 => ?_)
            · (try dsimp only); first | exact s0 | exact sA | exact sB | exact s4 | exact s5
            clear hK K
            try simp only [Act.put, List.setIfInBounds_toArray, List.set_cons_zero, List.set_cons_succ]
            refine wpAnyH_take (i := 14) (oi := _) (v := ?_) rfl (by kernel_rfl) (by kernel_rfl) (by kernel_rfl) (fun _ _ _ h => h) (Or.inl ⟨by rfl, ?_⟩) (by assumption) ?_
            rotate_left
            · (intro wz hSw; (try dsimp only at hSw); go_simp; try with_reducible rfl)
            simp only [Act.put, List.setIfInBounds_toArray, List.set_cons_zero, List.set_cons_succ]
            refine wpAnyH_take (i := 15) (oi := _) (v := ?_) rfl (by kernel_rfl) (by kernel_rfl) (by kernel_rfl) (fun _ _ _ h => h) (Or.inl ⟨by rfl, ?_⟩) (by assumption) ?_
            rotate_left
            · (intro wz hSw; (try dsimp only at hSw); go_simp; try with_reducible rfl)
            simp only [Act.put, List.setIfInBounds_toArray, List.set_cons_zero, List.set_cons_succ]
            refine wpAnyH_ready (rs := [16]) (by kernel_rfl) (by simp) ?_
            refine AllReadyH.cons (o := _) rfl (fun K hK => ?_) ?_
            · go_simp
              refine hK.out _ _ ?_ (fun hHeld2 => ?_)
              · (try dsimp only); first | exact s0 | exact sA | exact sB | exact s4 | exact s5
              clear hK K
              try simp only [Act.put, List.setIfInBounds_toArray, List.set_cons_zero, List.set_cons_succ]
              refine wpAnyH_done (by kernel_rfl) ?_ _
              go_wp2_with fail
              go_meet
              exact HF.out
            exact AllReadyH.nil
          exact AllReadyH.nil
        exact AllReadyH.nil
      refine AllReadyH.cons (o := { dst := some 92, op := Op.buildSlice 63 1 #[(0, Operand.tmp 91)], type := 63, pos := "hyper.go:108", after := #[{ on := 11, ground := Ground.data }], guard := none }) rfl (fun K hK => ?_) ?_
      · go_simp
        refine hK.out _ _ ?_ (fun hHeld2 => ?_)
        · (try dsimp only); first | exact s0 | exact sA | exact sB | exact s4 | exact s5
        clear hK K
        try simp only [Act.put, List.setIfInBounds_toArray, List.set_cons_zero, List.set_cons_succ]
        refine wpAnyH_ready (rs := [4]) (by kernel_rfl) (by simp) ?_
        refine AllReadyH.cons (o := { dst := some 84, op := Op.load 63 (Operand.tmp 83), type := 63, pos := "hyper.go:108", after := #[{ on := 3, ground := Ground.data }], guard := none }) rfl (fun K hK => ?_) ?_
        · go_simp
          refine hK.out _ _ ?_ (fun hHeld2 => ?_)
          · (try dsimp only); first | exact s0 | exact sA | exact sB | exact s4 | exact s5
          clear hK K
          try simp only [Act.put, List.setIfInBounds_toArray, List.set_cons_zero, List.set_cons_succ]
          refine wpAnyH_ready (rs := [13]) (by kernel_rfl) (by simp) ?_
          refine AllReadyH.cons (o := { dst := some 93, op := Op.call { callee := Callee.builtin Builtin.append, args := #[Operand.tmp 84, Operand.tmp 92], argTypes := #[63, 63] }, type := 63, pos := "hyper.go:108", after := #[{ on := 4, ground := Ground.data }, { on := 12, ground := Ground.data }], guard := none }) rfl (fun K hK => ?_) ?_
          · refine step_append_run rfl (.tmp 84) (.tmp 92) 63 63 rfl (by first | rfl | simp [Act.eval]) (by first | rfl | simp [Act.eval]) hr4 ?_
            refine hK.out _ _ ?_ (fun hHeld2 => ?_)
            · (try dsimp only); first | exact s0 | exact sA | exact sB | exact s4 | exact s5
            clear hK K
            try simp only [Act.put, List.setIfInBounds_toArray, List.set_cons_zero, List.set_cons_succ]
            refine wpAnyH_take (i := 14) (oi := _) (v := ?_) rfl (by kernel_rfl) (by kernel_rfl) (by kernel_rfl) (fun _ _ _ h => h) (Or.inl ⟨by rfl, ?_⟩) (by assumption) ?_
            rotate_left
            · (intro wz hSw; (try dsimp only at hSw); go_simp; try with_reducible rfl)
            simp only [Act.put, List.setIfInBounds_toArray, List.set_cons_zero, List.set_cons_succ]
            refine wpAnyH_take (i := 15) (oi := _) (v := ?_) rfl (by kernel_rfl) (by kernel_rfl) (by kernel_rfl) (fun _ _ _ h => h) (Or.inl ⟨by rfl, ?_⟩) (by assumption) ?_
            rotate_left
            · (intro wz hSw; (try dsimp only at hSw); go_simp; try with_reducible rfl)
            simp only [Act.put, List.setIfInBounds_toArray, List.set_cons_zero, List.set_cons_succ]
            refine wpAnyH_ready (rs := [16]) (by kernel_rfl) (by simp) ?_
            refine AllReadyH.cons (o := _) rfl (fun K hK => ?_) ?_
            · go_simp
              refine hK.out _ _ ?_ (fun hHeld2 => ?_)
              · (try dsimp only); first | exact s0 | exact sA | exact sB | exact s4 | exact s5
              clear hK K
              try simp only [Act.put, List.setIfInBounds_toArray, List.set_cons_zero, List.set_cons_succ]
              refine wpAnyH_done (by kernel_rfl) ?_ _
              go_wp2_with fail
              go_meet
              exact HF.out
            exact AllReadyH.nil
          exact AllReadyH.nil
        exact AllReadyH.nil
      exact AllReadyH.nil
    exact AllReadyH.nil
  case rest =>
    obtain ⟨⟨X5, R5, hM⟩, hkc⟩ := hcut
    have q6 : wc.cell? ⟨pb, 6, none⟩ = some (.int .i64 s.spn) := hM.c0.2.2.2.2.2.2.1
    have f6 := hM.free 6
    have hw : wrap64 ((s.spn : Int) + 1) = ((s.spn + 1 : Nat) : Int) := by unfold wrap64; omega
    have HF : Hid (PM (wc.setCell ⟨pb, 6, none⟩ (.int .i64 ((s.spn + 1 : Nat) : Int))) base pb K0 X5 L M R5 nx { s with tk := s.tk ++ [(s.spn, [a])], spn := s.spn + 1 } ∧ Keeps (fun i => base ≤ i) w (wc.setCell ⟨pb, 6, none⟩ (.int .i64 ((s.spn + 1 : Nat) : Int)))) := ⟨hM.spawned, hkc.andSet (x := ⟨pb, 6, none⟩) (.inl hM.lo) _⟩
    rw [show ((s.spn + 1 : Nat) : Int) = (s.spn : Int) + 1 by omega] at HF hw
    clear hM hkc s0 sA sB s4 s5 q3 q3A q3B f3 q34 hr4
    go_wp2
    go_end0
    exact ⟨rfl, ⟨_, _, HF.out.1⟩, HF.out.2⟩
end Go.Proofs.Ytdiabpoafennlab.Rn
/-! The document's run: a deed that waits. -/
namespace Go.Proofs.Ytdiabpoafennlab.Rn
set_option linter.unusedVariables false
set_option maxRecDepth 20000
set_option linter.unusedSimpArgs false
open Go.RowKit Go.HeapKit Go.PlainOps

set_option maxHeartbeats 1600000 in
theorem do_sync (base pb at0 nx : Nat) (K0 : RP) (X : RX) (L M R : Nat → Value) (s : PS) (w : World) (tk : List (Nat × List Nat)) (sp : Nat) (m0 : MS (List Int)) (pre : List Nat) (P : List Int) (loc : Int) (st0 : Option Addr) (sn sc : Nat) (h : PM w base pb K0 X L M R nx (psOf s tk sp m0)) (hK : OkK K0) (hpk : K0.pk.length ≤ 1048576) (hline : LineOk pre P m0) (hP : P.length ≤ 4096) (hf : Fits P) (h0 : 0 < m0.row.length) (hr : m0.row.length ≤ 5000) (hn : tk.length ≤ 5000) (hmg : m0.mg.length + m0.row.length ≤ 100000) :
    Calls Try.prog 40 #[.pointer (some ⟨pb, 0, none⟩), .int .i64 at0, .agg #[.int .i64 2, .int .i64 loc], .slice st0 sn sc] w fun e w' => e = .returned (.tuple #[]) ∧ (∃ X' L' R' nx', PM w' base pb K0 X' L' M R' nx' (psOf s tk sp (m0.all listK at0))) ∧ Keeps (fun i => base ≤ i) w w' := by
  have HP : Hid (PM w base pb K0 X L M R nx (psOf s tk sp m0) ∧ LineOk pre P m0 ∧ OkK K0 ∧ K0.pk.length ≤ 1048576 ∧ Fits P ∧ 0 < m0.row.length) := ⟨h, hline, hK, hpk, hf, h0⟩
  clear h hline hK hpk hf h0
  have hb0 := blk_new w (.cells #[.int .i64 2, .int .i64 loc] 44) w.heap.size rfl
  have hkb := (Keeps.alloc None w (.cells #[.int .i64 2, .int .i64 loc] 44))
  obtain ⟨db, hdb⟩ : ∃ db, db = w.heap.size := ⟨_, rfl⟩
  rw [← hdb] at hb0
  go_enter Try.func40, Try.ntmps40
  go_upto_region 1 with fail
  rw [← hdb]
  clear hdb
  generalize w.alloc (.cells #[.int .i64 2, .int .i64 loc] 44) = wa at *
  have HA : Hid (PM wa base pb K0 X L M R nx (psOf s tk sp m0) ∧ Keeps None w wa ∧ wa.heap[db]? = some (.cells #[.int .i64 2, .int .i64 loc] 44 (0, 0))) := ⟨HP.out.1.more hkb, hkb, hb0⟩
  clear hb0 hkb
  go_wp2_with fail
  refine (hand_ok base pb nx K0 X L M R (psOf s tk sp m0) wa tk sp m0.row HA.out.1 rfl (List.length_pos_iff.1 HP.out.2.2.2.2.2) (by omega) (by omega)).mono ?_
  rintro e w2 ⟨rfl, hk1⟩
  have HM2 : Hid (PM w2 base pb K0 X L M R nx (psOf s tk sp m0) ∧ Keeps (fun i => base ≤ i) w w2) := ⟨HA.out.1.more hk1, (keeps_tr HA.out.2.1 hk1).mono (fun _ f _ => f.elim)⟩
  have hD2 := blk_kept HA.out.2.2 hk1 (fun f => f)
  have d0 : w2.cell? ⟨db, 0, none⟩ = some (.int .i64 2) := blk_cell hD2 0
  clear hk1 hD2
  generalize m0.row.getLastD 0 = hd0
  go_wp2_with fail
  refine (merge_ok base pb at0 nx K0 X L M R s w2 tk sp m0 pre P HM2.out.1 HP.out.2.2.1 HP.out.2.2.2.1 HP.out.2.1 hP HP.out.2.2.2.2.1 HP.out.2.2.2.2.2 hr hn hmg).mono ?_
  rintro e w3 ⟨rfl, hM, hk⟩
  have HF : Hid ((∃ X' L' R' nx', PM w3 base pb K0 X' L' M R' nx' (psOf s tk sp (m0.all listK at0))) ∧ Keeps (fun i => base ≤ i) w w3) := ⟨hM, HM2.out.2.trans hk (fun i e _ => e)⟩
  clear hM hk
  go_wp2
  go_end0
  exact ⟨rfl, HF.out⟩
end Go.Proofs.Ytdiabpoafennlab.Rn
