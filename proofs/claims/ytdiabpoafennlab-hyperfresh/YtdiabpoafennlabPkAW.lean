import Derived.Test.YtdiabpoafennlabPkAU
import Derived.Test.YtdiabpoafennlabPkAF
import Derived.Deep.Cut
import Derived.Test.YtdiabpoafennlabPkAV
import Derived.Test.YtdiabpoafennlabPkAG
/-! A deed: a spawn, of a player of numbers. -/
namespace Go.Proofs.Ytdiabpoafennlab.Nm
set_option linter.unusedVariables false
set_option maxRecDepth 20000
set_option linter.unusedSimpArgs false
open Go.RowKit Go.HeapKit Go.PlainOps

theorem spawn_told {w w1 w2 : World} {base pb : Nat} {st : List Bool} {X : PX} {K : NP} {H R : Nat → Value} {s : PS} (h : PM w base pb st X K H R s) {V : Value} {x : Nat × List Nat} {g cap : Nat} (hk : Keeps None w w1) (ho : w1.ownsRow base 3 1 V x.2.length (nv x.2)) (hm : ∀ b, V.ownBlock = some b → w.heap.size ≤ b)
    (ho2 : w2.ownsRow base 89 2 (.slice (some ⟨g, 0, none⟩) (s.tk.length + 1) cap) (s.tk.length + 1) ((List.range (s.tk.length * 2)).map (tkF s.tk H) ++ [.int .i64 x.1, V])) (hk2 : Keeps (fun k => (Value.slice X.ta s.tk.length X.tc).ownBlock = some k) w1 w2) :
    w2.cell? ⟨pb, 8, none⟩ = some (.int .i64 s.spn) ∧ (w2.setCell ⟨pb, 7, none⟩ (.slice (some ⟨g, 0, none⟩) (s.tk.length + 1) cap)).cell? ⟨pb, 8, none⟩ = some (.int .i64 s.spn) ∧ w2.frozen? ⟨pb, 7, none⟩ = false ∧ w2.cell? ⟨pb, 7, none⟩ = some (.slice X.ta s.tk.length X.tc) ∧ (w2.setCell ⟨pb, 7, none⟩ (.slice (some ⟨g, 0, none⟩) (s.tk.length + 1) cap)).frozen? ⟨pb, 8, none⟩ = false := by
  have h1 := h.more hk
  have hP := h.spawn hk ho hm ho2 hk2
  have hb4 := blk_other h1.blk hk2 (onlyT_own h1.tk.tks) (by decide)
  exact ⟨blk_cell hb4 8, hP.c0.2.2.2.2.2.2.2.2.1, blk_free hb4 7, blk_cell hb4 7, hP.free 8⟩
set_option maxHeartbeats 3200000 in
theorem do_spawn (base pb at0 : Nat) (st : List Bool) (X : PX) (K0 : NP) (R : Nat → Value) (s : PS) (w : World) (tk : List (Nat × List Nat)) (sp : Nat) (r : List Nat) (loc : Int) (h : PM w base pb st X K0 R R s) (hx : s.tk = tk ++ [(sp, r)]) (hr : r ≠ []) (hn : tk.length ≤ 100000) (hn2 : r.length ≤ 100000) (a : Nat) (ha : a = r.getLastD 0) (hsp : s.spn ≤ 100000) :
    Calls Try.prog 46 #[.pointer (some ⟨pb, 0, none⟩), .int .i64 at0, .agg #[.int .i64 0, .int .i64 loc]] w fun e w' => e = .returned (.tuple #[]) ∧ (∃ X' R', PM w' base pb st X' K0 R' R' { s with tk := s.tk ++ [(s.spn, [a])], spn := s.spn + 1 }) ∧ Keeps (fun i => base ≤ i) w w' := by
  have hsl : s.tk.length = tk.length + 1 := by rw [hx]; simp
  have HP : Hid (PM w base pb st X K0 R R s ∧ s.tk = tk ++ [(sp, r)] ∧ r ≠ [] ∧ a = r.getLastD 0 ∧ s.tk.length ≤ 100001) := ⟨h, hx, hr, ha, by omega⟩
  clear h hx hr ha hsl
  have hb0 := blk_new w (.cells #[.int .i64 0, .int .i64 loc] 44) w.heap.size rfl
  have hkb := (Keeps.alloc None w (.cells #[.int .i64 0, .int .i64 loc] 44))
  obtain ⟨db, hdb⟩ : ∃ db, db = w.heap.size := ⟨_, rfl⟩
  rw [← hdb] at hb0
  go_enter Try.func46, Try.ntmps46
  go_upto_region 1 with fail
  rw [← hdb]
  clear hdb
  generalize w.alloc (.cells #[.int .i64 0, .int .i64 loc] 44) = wa at *
  have HA : Hid (PM wa base pb st X K0 R R s ∧ Keeps (fun i => base ≤ i) w wa) := ⟨HP.out.1.more hkb, hkb.mono (fun _ f _ => f.elim)⟩
  have d0 : wa.cell? ⟨db, 0, none⟩ = some (.int .i64 0) := blk_cell hb0 0
  clear hb0 hkb
  have HH : Hid (∀ wx, Keeps None wa wx → Calls Try.prog 69 #[.pointer (some ⟨pb, 0, none⟩)] wx fun e w' => e = .returned (.int .i64 (a : Nat)) ∧ Keeps None wx w') := fun wx hk => by
    rw [HP.out.2.2.2.1]
    exact hand_ok base pb st X K0 R s wx tk sp r (HA.out.1.more hk) HP.out.2.1 HP.out.2.2.1 hn hn2
  go_upto_region 8 with fail
  clear d0
  obtain ⟨-, -, -, -, -, -, -, q7, q8, -, -⟩ := HA.out.1.c0
  have HS : Hid (∀ wx, Keeps None wa wx → wx.cell? ⟨pb, 8, none⟩ = some (.int .i64 s.spn) ∧ wx.cell? ⟨pb, 7, none⟩ = some (.slice X.ta s.tk.length X.tc)) := fun wx hk => ⟨hk.cell q8 (fun f => f), hk.cell q7 (fun f => f)⟩
  have hQ : Keeps None wa wa.drew := Keeps.drew None wa
  have hqq := HS.out _ hQ
  clear q8
  go_cut [] (fun wx => (∃ X' R', PM wx base pb st X' K0 R' R' { s with tk := s.tk ++ [(s.spn, [a])] }) ∧ Keeps (fun i => base ≤ i) w wx)
  case first =>
    refine wp_region_held_drew (S := (fun w' => w'.cell? ⟨pb, 8, none⟩ = some (.int .i64 s.spn))) (by kernel_rfl) ?_ (fun hHeld => ?_)
    · (try dsimp only); first | exact t7 | exact t6 | exact hqq.1 | exact (HS.out _ hQ).1
    refine wpAnyH_take (i := 0) (oi := { dst := some 63, op := Op.move (Operand.tmp 0), type := 77, pos := "play.go:51", after := #[], guard := none }) (v := ?_) rfl (by kernel_rfl) (by kernel_rfl) (by kernel_rfl) (fun _ _ _ h => h) (Or.inl ⟨by rfl, ?_⟩) (by assumption) ?_
    rotate_left
    · (intro wz hSw; (try dsimp only at hSw); go_simp; try with_reducible rfl)
    simp only [Act.put, List.setIfInBounds_toArray, List.set_cons_zero, List.set_cons_succ]
    refine wpAnyH_take (i := 1) (oi := { dst := some 64, op := Op.move (Operand.tmp 0), type := 77, pos := "play.go:51", after := #[], guard := none }) (v := ?_) rfl (by kernel_rfl) (by kernel_rfl) (by kernel_rfl) (fun _ _ _ h => h) (Or.inl ⟨by rfl, ?_⟩) (by assumption) ?_
    rotate_left
    · (intro wz hSw; (try dsimp only at hSw); go_simp; try with_reducible rfl)
    simp only [Act.put, List.setIfInBounds_toArray, List.set_cons_zero, List.set_cons_succ]
    refine wpAnyH_take (i := 2) (oi := { dst := some 65, op := Op.nilCheck (Operand.tmp 64), type := 0, pos := "play.go:51", after := #[{ on := 1, ground := Ground.data }], guard := none }) (v := ?_) rfl (by kernel_rfl) (by kernel_rfl) (by kernel_rfl) (fun _ _ _ h => h) (Or.inl ⟨by rfl, ?_⟩) (by assumption) ?_
    rotate_left
    · (intro wz hSw; (try dsimp only at hSw); go_simp; try with_reducible rfl)
    simp only [Act.put, List.setIfInBounds_toArray, List.set_cons_zero, List.set_cons_succ]
    refine wpAnyH_take (i := 3) (oi := { dst := some 66, op := Op.fieldAddr 76 (Operand.tmp 65) 4, type := 0, pos := "play.go:51", after := #[{ on := 2, ground := Ground.data }], guard := none }) (v := ?_) rfl (by kernel_rfl) (by kernel_rfl) (by kernel_rfl) (fun _ _ _ h => h) (Or.inl ⟨by rfl, ?_⟩) (by assumption) ?_
    rotate_left
    · (intro wz hSw; (try dsimp only at hSw); go_simp; try with_reducible rfl)
    simp only [Act.put, List.setIfInBounds_toArray, List.set_cons_zero, List.set_cons_succ]
    refine wpAnyH_take (i := 5) (oi := { dst := some 68, op := Op.move (Operand.tmp 0), type := 77, pos := "play.go:51", after := #[], guard := none }) (v := ?_) rfl (by kernel_rfl) (by kernel_rfl) (by kernel_rfl) (fun _ _ _ h => h) (Or.inl ⟨by rfl, ?_⟩) (by assumption) ?_
    rotate_left
    · (intro wz hSw; (try dsimp only at hSw); go_simp; try with_reducible rfl)
    simp only [Act.put, List.setIfInBounds_toArray, List.set_cons_zero, List.set_cons_succ]
    refine wpAnyH_take (i := 6) (oi := { dst := some 69, op := Op.nilCheck (Operand.tmp 68), type := 0, pos := "play.go:51", after := #[{ on := 5, ground := Ground.data }], guard := none }) (v := ?_) rfl (by kernel_rfl) (by kernel_rfl) (by kernel_rfl) (fun _ _ _ h => h) (Or.inl ⟨by rfl, ?_⟩) (by assumption) ?_
    rotate_left
    · (intro wz hSw; (try dsimp only at hSw); go_simp; try with_reducible rfl)
    simp only [Act.put, List.setIfInBounds_toArray, List.set_cons_zero, List.set_cons_succ]
    refine wpAnyH_take (i := 7) (oi := { dst := some 70, op := Op.fieldAddr 76 (Operand.tmp 69) 5, type := 0, pos := "play.go:51", after := #[{ on := 6, ground := Ground.data }], guard := none }) (v := ?_) rfl (by kernel_rfl) (by kernel_rfl) (by kernel_rfl) (fun _ _ _ h => h) (Or.inl ⟨by rfl, ?_⟩) (by assumption) ?_
    rotate_left
    · (intro wz hSw; (try dsimp only at hSw); go_simp; try with_reducible rfl)
    simp only [Act.put, List.setIfInBounds_toArray, List.set_cons_zero, List.set_cons_succ]
    refine wpAnyH_take (i := 8) (oi := { dst := some 71, op := Op.load 3 (Operand.tmp 70), type := 3, pos := "play.go:51", after := #[{ on := 7, ground := Ground.data }], guard := none }) (v := ?_) rfl (by kernel_rfl) (by kernel_rfl) (by kernel_rfl) (fun _ _ _ h => h) (Or.inl ⟨by rfl, ?_⟩) (by assumption) ?_
    rotate_left
    · (intro wz hSw; (try dsimp only at hSw); go_simp; try with_reducible rfl)
    simp only [Act.put, List.setIfInBounds_toArray, List.set_cons_zero, List.set_cons_succ]
    refine wpAnyH_take (i := 9) (oi := { dst := some 72, op := Op.move (Operand.tmp 0), type := 77, pos := "play.go:51", after := #[], guard := none }) (v := ?_) rfl (by kernel_rfl) (by kernel_rfl) (by kernel_rfl) (fun _ _ _ h => h) (Or.inl ⟨by rfl, ?_⟩) (by assumption) ?_
    rotate_left
    · (intro wz hSw; (try dsimp only at hSw); go_simp; try with_reducible rfl)
    simp only [Act.put, List.setIfInBounds_toArray, List.set_cons_zero, List.set_cons_succ]
    refine wpAnyH_ready (rs := [4, 10]) (by kernel_rfl) (by simp) ?_
    refine AllReadyH.cons (o := { dst := some 67, op := Op.load 57 (Operand.tmp 66), type := 57, pos := "play.go:51", after := #[{ on := 3, ground := Ground.data }], guard := none }) rfl (fun K hK => ?_) ?_
    · go_simp
      refine hK.out _ _ ?_ (fun hHeld2 => ?_)
      · (try dsimp only); first | exact t7 | exact t6 | exact hqq.1 | exact (HS.out _ hQ).1
      clear hK K
      try simp only [Act.put, List.setIfInBounds_toArray, List.set_cons_zero, List.set_cons_succ]
      refine wpAnyH_ready (rs := [10]) (by kernel_rfl) (by simp) ?_
      refine AllReadyH.cons (o := _) rfl (fun K hK => ?_) ?_
      · go_simp
        refine (HH.out _ hQ).mono ?_
        rintro _ w2 ⟨rfl, hk2⟩
        replace hQ := hQ.trans hk2 (fun _ f _ => f)
        clear hk2 q7
        have q7 := (HS.out _ hQ).2
        have hQ2 := hQ
        have q7A : (w2.alloc (.cells #[.int .i64 a] 3)).cell? ⟨pb, 7, none⟩ = some (.slice X.ta s.tk.length X.tc) := (HS.out _ (hQ.andAlloc _)).2
        have q7B : ((w2.alloc (.cells #[.int .i64 a] 3)).alloc (.cells #[.int .i64 s.spn, .slice (some ⟨w2.heap.size, 0, none⟩) 1 1] 89)).cell? ⟨pb, 7, none⟩ = some (.slice X.ta s.tk.length X.tc) := (HS.out _ ((hQ.andAlloc _).andAlloc _)).2
        refine hK.out _ _ ?_ (fun hHeld2 => ?_)
        · (try dsimp only); first | exact t7 | exact t6 | exact hqq.1 | exact (HS.out _ hQ).1
        clear hK K
        try simp only [Act.put, List.setIfInBounds_toArray, List.set_cons_zero, List.set_cons_succ]
        refine wpAnyH_ready (rs := [11]) (by kernel_rfl) (by simp) ?_
        refine AllReadyH.cons (o := { dst := some 74, op := Op.buildSlice 24 1 #[(0, Operand.tmp 73)], type := 24, pos := "play.go:51", after := #[{ on := 10, ground := Ground.data }], guard := none }) rfl (fun K hK => ?_) ?_
        · go_simp
          replace hQ := hQ.andAlloc (.cells #[.int .i64 a] 3)
          refine hK.out _ _ ?_ (fun hHeld2 => ?_)
          · (try dsimp only); first | exact t7 | exact t6 | exact hqq.1 | exact (HS.out _ hQ).1
          clear hK K
          try simp only [Act.put, List.setIfInBounds_toArray, List.set_cons_zero, List.set_cons_succ]
          refine wpAnyH_take (i := 12) (oi := _) (v := ?_) rfl (by kernel_rfl) (by kernel_rfl) (by kernel_rfl) (fun _ _ _ h => h) (Or.inl ⟨by rfl, ?_⟩) (by assumption) ?_
          rotate_left
          · (intro wz hSw; (try dsimp only at hSw); go_simp; try with_reducible rfl)
          simp only [Act.put, List.setIfInBounds_toArray, List.set_cons_zero, List.set_cons_succ]
          refine wpAnyH_ready (rs := [13]) (by kernel_rfl) (by simp) ?_
          refine AllReadyH.cons (o := { dst := some 76, op := Op.buildSlice 57 1 #[(0, Operand.tmp 75)], type := 57, pos := "play.go:51", after := #[{ on := 12, ground := Ground.data }], guard := none }) rfl (fun K hK => ?_) ?_
          · go_simp
            replace hQ := hQ.andAlloc (.cells #[.int .i64 s.spn, .slice (some ⟨w2.heap.size, 0, none⟩) 1 1] 89)
            refine hK.out _ _ ?_ (fun hHeld2 => ?_)
            · (try dsimp only); first | exact t7 | exact t6 | exact hqq.1 | exact (HS.out _ hQ).1
            clear hK K
            try simp only [Act.put, List.setIfInBounds_toArray, List.set_cons_zero, List.set_cons_succ]
            refine wpAnyH_ready (rs := [14]) (by kernel_rfl) (by simp) ?_
            refine AllReadyH.cons (o := _) rfl (fun K hK => ?_) ?_
            · (obtain ⟨g, cap, w4, hr4, ho4, hk4⟩ := task_more base (.slice X.ta s.tk.length X.tc) s.spn (.slice (some ⟨w2.heap.size, 0, none⟩) 1 1) s.tk.length _ 57 (w2.heap.size + 1) _ (HA.out.1.more hQ).tk.tks ((HA.out.1.more hQ).sizeLe2) (by have := HP.out.2.2.2.2; omega) rfl (blk_new (w2.alloc (.cells #[.int .i64 a] 3)) _ _ (by simp)); refine step_append_run rfl (.tmp 67) (.tmp 76) 57 57 rfl (by first | rfl | simp [Act.eval]) (by first | rfl | simp [Act.eval]) hr4 ?_)
              have ho1 := (own_one (w := w2) a ((HA.out.1.more hQ2).sizeLe2)).alloc (.cells #[.int .i64 s.spn, .slice (some ⟨w2.heap.size, 0, none⟩) 1 1] 89)
              have hP5 := (HA.out.1.more hQ2).spawn (x := (s.spn, [a])) (w1 := (w2.alloc (.cells #[.int .i64 a] 3)).alloc (.cells #[.int .i64 s.spn, .slice (some ⟨w2.heap.size, 0, none⟩) 1 1] 89)) ((Keeps.alloc None w2 _).andAlloc _) ho1 (fun b e => by simp [Value.ownBlock] at e; omega) ho4 hk4
              obtain ⟨t6, t7, f7, z7, -⟩ := spawn_told (HA.out.1.more hQ2) (x := (s.spn, [a])) (w1 := (w2.alloc (.cells #[.int .i64 a] 3)).alloc (.cells #[.int .i64 s.spn, .slice (some ⟨w2.heap.size, 0, none⟩) 1 1] 89)) ((Keeps.alloc None w2 _).andAlloc _) ho1 (fun b e => by simp [Value.ownBlock] at e; omega) ho4 hk4
              have HF : Hid (PM (w4.setCell ⟨pb, 7, none⟩ (.slice (some ⟨g, 0, none⟩) (s.tk.length + 1) cap)) base pb st { X with ta := some ⟨g, 0, none⟩, tc := cap } K0 (upd R s.tk.length (.slice (some ⟨w2.heap.size, 0, none⟩) 1 1)) (upd R s.tk.length (.slice (some ⟨w2.heap.size, 0, none⟩) 1 1)) { s with tk := s.tk ++ [(s.spn, [a])] } ∧ Keeps (fun i => base ≤ i) w (w4.setCell ⟨pb, 7, none⟩ (.slice (some ⟨g, 0, none⟩) (s.tk.length + 1) cap))) := ⟨hP5, ((keeps_tr HA.out.2 hQ).trans hk4 (fun i e _ => row_low (HA.out.1.more hQ).tk.tks e)).andSet (x := ⟨pb, 7, none⟩) (.inl HA.out.1.low) _⟩
              refine hK.out _ _ ?_ (fun hHeld2 => ?_)
              · (try dsimp only); first | exact t7 | exact t6 | exact hqq.1 | exact (HS.out _ hQ).1
              clear hK K
              try simp only [Act.put, List.setIfInBounds_toArray, List.set_cons_zero, List.set_cons_succ]
              refine wpAnyH_take (i := 15) (oi := _) (v := ?_) rfl (by kernel_rfl) (by kernel_rfl) (by kernel_rfl) (fun _ _ _ h => h) (Or.inl ⟨by rfl, ?_⟩) (by assumption) ?_
              rotate_left
              · (intro wz hSw; (try dsimp only at hSw); go_simp; try with_reducible rfl)
              simp only [Act.put, List.setIfInBounds_toArray, List.set_cons_zero, List.set_cons_succ]
              refine wpAnyH_take (i := 16) (oi := _) (v := ?_) rfl (by kernel_rfl) (by kernel_rfl) (by kernel_rfl) (fun _ _ _ h => h) (Or.inl ⟨by rfl, ?_⟩) (by assumption) ?_
              rotate_left
              · (intro wz hSw; (try dsimp only at hSw); go_simp; try with_reducible rfl)
              simp only [Act.put, List.setIfInBounds_toArray, List.set_cons_zero, List.set_cons_succ]
              refine wpAnyH_ready (rs := [17]) (by kernel_rfl) (by simp) ?_
              refine AllReadyH.cons (o := _) rfl (fun K hK => ?_) ?_
              · go_simp
                refine hK.out _ _ ?_ (fun hHeld2 => ?_)
                · (try dsimp only); first | exact t7 | exact t6 | exact hqq.1 | exact (HS.out _ hQ).1
                clear hK K
                try simp only [Act.put, List.setIfInBounds_toArray, List.set_cons_zero, List.set_cons_succ]
                refine wpAnyH_done (by kernel_rfl) ?_ _
                go_wp2_with fail
                go_meet
                exact ⟨⟨_, _, HF.out.1⟩, HF.out.2⟩
              exact AllReadyH.nil
            exact AllReadyH.nil
          exact AllReadyH.nil
        exact AllReadyH.nil
      exact AllReadyH.nil
    refine AllReadyH.cons (o := _) rfl (fun K hK => ?_) ?_
    · go_simp
      refine (HH.out _ hQ).mono ?_
      rintro _ w2 ⟨rfl, hk2⟩
      replace hQ := hQ.trans hk2 (fun _ f _ => f)
      clear hk2 q7
      have q7 := (HS.out _ hQ).2
      have hQ2 := hQ
      have q7A : (w2.alloc (.cells #[.int .i64 a] 3)).cell? ⟨pb, 7, none⟩ = some (.slice X.ta s.tk.length X.tc) := (HS.out _ (hQ.andAlloc _)).2
      have q7B : ((w2.alloc (.cells #[.int .i64 a] 3)).alloc (.cells #[.int .i64 s.spn, .slice (some ⟨w2.heap.size, 0, none⟩) 1 1] 89)).cell? ⟨pb, 7, none⟩ = some (.slice X.ta s.tk.length X.tc) := (HS.out _ ((hQ.andAlloc _).andAlloc _)).2
      refine hK.out _ _ ?_ (fun hHeld2 => ?_)
      · (try dsimp only); first | exact t7 | exact t6 | exact hqq.1 | exact (HS.out _ hQ).1
      clear hK K
      try simp only [Act.put, List.setIfInBounds_toArray, List.set_cons_zero, List.set_cons_succ]
      refine wpAnyH_ready (rs := [4, 11]) (by kernel_rfl) (by simp) ?_
      refine AllReadyH.cons (o := { dst := some 67, op := Op.load 57 (Operand.tmp 66), type := 57, pos := "play.go:51", after := #[{ on := 3, ground := Ground.data }], guard := none }) rfl (fun K hK => ?_) ?_
      · go_simp
        refine hK.out _ _ ?_ (fun hHeld2 => ?_)
        · (try dsimp only); first | exact t7 | exact t6 | exact hqq.1 | exact (HS.out _ hQ).1
        clear hK K
        try simp only [Act.put, List.setIfInBounds_toArray, List.set_cons_zero, List.set_cons_succ]
        refine wpAnyH_ready (rs := [11]) (by kernel_rfl) (by simp) ?_
        refine AllReadyH.cons (o := { dst := some 74, op := Op.buildSlice 24 1 #[(0, Operand.tmp 73)], type := 24, pos := "play.go:51", after := #[{ on := 10, ground := Ground.data }], guard := none }) rfl (fun K hK => ?_) ?_
        · go_simp
          replace hQ := hQ.andAlloc (.cells #[.int .i64 a] 3)
          refine hK.out _ _ ?_ (fun hHeld2 => ?_)
          · (try dsimp only); first | exact t7 | exact t6 | exact hqq.1 | exact (HS.out _ hQ).1
          clear hK K
          try simp only [Act.put, List.setIfInBounds_toArray, List.set_cons_zero, List.set_cons_succ]
          refine wpAnyH_take (i := 12) (oi := _) (v := ?_) rfl (by kernel_rfl) (by kernel_rfl) (by kernel_rfl) (fun _ _ _ h => h) (Or.inl ⟨by rfl, ?_⟩) (by assumption) ?_
          rotate_left
          · (intro wz hSw; (try dsimp only at hSw); go_simp; try with_reducible rfl)
          simp only [Act.put, List.setIfInBounds_toArray, List.set_cons_zero, List.set_cons_succ]
          refine wpAnyH_ready (rs := [13]) (by kernel_rfl) (by simp) ?_
          refine AllReadyH.cons (o := { dst := some 76, op := Op.buildSlice 57 1 #[(0, Operand.tmp 75)], type := 57, pos := "play.go:51", after := #[{ on := 12, ground := Ground.data }], guard := none }) rfl (fun K hK => ?_) ?_
          · go_simp
            replace hQ := hQ.andAlloc (.cells #[.int .i64 s.spn, .slice (some ⟨w2.heap.size, 0, none⟩) 1 1] 89)
            refine hK.out _ _ ?_ (fun hHeld2 => ?_)
            · (try dsimp only); first | exact t7 | exact t6 | exact hqq.1 | exact (HS.out _ hQ).1
            clear hK K
            try simp only [Act.put, List.setIfInBounds_toArray, List.set_cons_zero, List.set_cons_succ]
            refine wpAnyH_ready (rs := [14]) (by kernel_rfl) (by simp) ?_
            refine AllReadyH.cons (o := _) rfl (fun K hK => ?_) ?_
            · (obtain ⟨g, cap, w4, hr4, ho4, hk4⟩ := task_more base (.slice X.ta s.tk.length X.tc) s.spn (.slice (some ⟨w2.heap.size, 0, none⟩) 1 1) s.tk.length _ 57 (w2.heap.size + 1) _ (HA.out.1.more hQ).tk.tks ((HA.out.1.more hQ).sizeLe2) (by have := HP.out.2.2.2.2; omega) rfl (blk_new (w2.alloc (.cells #[.int .i64 a] 3)) _ _ (by simp)); refine step_append_run rfl (.tmp 67) (.tmp 76) 57 57 rfl (by first | rfl | simp [Act.eval]) (by first | rfl | simp [Act.eval]) hr4 ?_)
              have ho1 := (own_one (w := w2) a ((HA.out.1.more hQ2).sizeLe2)).alloc (.cells #[.int .i64 s.spn, .slice (some ⟨w2.heap.size, 0, none⟩) 1 1] 89)
              have hP5 := (HA.out.1.more hQ2).spawn (x := (s.spn, [a])) (w1 := (w2.alloc (.cells #[.int .i64 a] 3)).alloc (.cells #[.int .i64 s.spn, .slice (some ⟨w2.heap.size, 0, none⟩) 1 1] 89)) ((Keeps.alloc None w2 _).andAlloc _) ho1 (fun b e => by simp [Value.ownBlock] at e; omega) ho4 hk4
              obtain ⟨t6, t7, f7, z7, -⟩ := spawn_told (HA.out.1.more hQ2) (x := (s.spn, [a])) (w1 := (w2.alloc (.cells #[.int .i64 a] 3)).alloc (.cells #[.int .i64 s.spn, .slice (some ⟨w2.heap.size, 0, none⟩) 1 1] 89)) ((Keeps.alloc None w2 _).andAlloc _) ho1 (fun b e => by simp [Value.ownBlock] at e; omega) ho4 hk4
              have HF : Hid (PM (w4.setCell ⟨pb, 7, none⟩ (.slice (some ⟨g, 0, none⟩) (s.tk.length + 1) cap)) base pb st { X with ta := some ⟨g, 0, none⟩, tc := cap } K0 (upd R s.tk.length (.slice (some ⟨w2.heap.size, 0, none⟩) 1 1)) (upd R s.tk.length (.slice (some ⟨w2.heap.size, 0, none⟩) 1 1)) { s with tk := s.tk ++ [(s.spn, [a])] } ∧ Keeps (fun i => base ≤ i) w (w4.setCell ⟨pb, 7, none⟩ (.slice (some ⟨g, 0, none⟩) (s.tk.length + 1) cap))) := ⟨hP5, ((keeps_tr HA.out.2 hQ).trans hk4 (fun i e _ => row_low (HA.out.1.more hQ).tk.tks e)).andSet (x := ⟨pb, 7, none⟩) (.inl HA.out.1.low) _⟩
              refine hK.out _ _ ?_ (fun hHeld2 => ?_)
              · (try dsimp only); first | exact t7 | exact t6 | exact hqq.1 | exact (HS.out _ hQ).1
              clear hK K
              try simp only [Act.put, List.setIfInBounds_toArray, List.set_cons_zero, List.set_cons_succ]
              refine wpAnyH_take (i := 15) (oi := _) (v := ?_) rfl (by kernel_rfl) (by kernel_rfl) (by kernel_rfl) (fun _ _ _ h => h) (Or.inl ⟨by rfl, ?_⟩) (by assumption) ?_
              rotate_left
              · (intro wz hSw; (try dsimp only at hSw); go_simp; try with_reducible rfl)
              simp only [Act.put, List.setIfInBounds_toArray, List.set_cons_zero, List.set_cons_succ]
              refine wpAnyH_take (i := 16) (oi := _) (v := ?_) rfl (by kernel_rfl) (by kernel_rfl) (by kernel_rfl) (fun _ _ _ h => h) (Or.inl ⟨by rfl, ?_⟩) (by assumption) ?_
              rotate_left
              · (intro wz hSw; (try dsimp only at hSw); go_simp; try with_reducible rfl)
              simp only [Act.put, List.setIfInBounds_toArray, List.set_cons_zero, List.set_cons_succ]
              refine wpAnyH_ready (rs := [17]) (by kernel_rfl) (by simp) ?_
              refine AllReadyH.cons (o := _) rfl (fun K hK => ?_) ?_
              · go_simp
                refine hK.out _ _ ?_ (fun hHeld2 => ?_)
                · (try dsimp only); first | exact t7 | exact t6 | exact hqq.1 | exact (HS.out _ hQ).1
                clear hK K
                try simp only [Act.put, List.setIfInBounds_toArray, List.set_cons_zero, List.set_cons_succ]
                refine wpAnyH_done (by kernel_rfl) ?_ _
                go_wp2_with fail
                go_meet
                exact ⟨⟨_, _, HF.out.1⟩, HF.out.2⟩
              exact AllReadyH.nil
            exact AllReadyH.nil
          exact AllReadyH.nil
        exact AllReadyH.nil
      refine AllReadyH.cons (o := { dst := some 74, op := Op.buildSlice 24 1 #[(0, Operand.tmp 73)], type := 24, pos := "play.go:51", after := #[{ on := 10, ground := Ground.data }], guard := none }) rfl (fun K hK => ?_) ?_
      · go_simp
        replace hQ := hQ.andAlloc (.cells #[.int .i64 a] 3)
        refine hK.out _ _ ?_ (fun hHeld2 => ?_)
        · (try dsimp only); first | exact t7 | exact t6 | exact hqq.1 | exact (HS.out _ hQ).1
        clear hK K
        try simp only [Act.put, List.setIfInBounds_toArray, List.set_cons_zero, List.set_cons_succ]
        refine wpAnyH_take (i := 12) (oi := _) (v := ?_) rfl (by kernel_rfl) (by kernel_rfl) (by kernel_rfl) (fun _ _ _ h => h) (Or.inl ⟨by rfl, ?_⟩) (by assumption) ?_
        rotate_left
        · (intro wz hSw; (try dsimp only at hSw); go_simp; try with_reducible rfl)
        simp only [Act.put, List.setIfInBounds_toArray, List.set_cons_zero, List.set_cons_succ]
        refine wpAnyH_ready (rs := [4, 13]) (by kernel_rfl) (by simp) ?_
        refine AllReadyH.cons (o := { dst := some 67, op := Op.load 57 (Operand.tmp 66), type := 57, pos := "play.go:51", after := #[{ on := 3, ground := Ground.data }], guard := none }) rfl (fun K hK => ?_) ?_
        · go_simp
          refine hK.out _ _ ?_ (fun hHeld2 => ?_)
          · (try dsimp only); first | exact t7 | exact t6 | exact hqq.1 | exact (HS.out _ hQ).1
          clear hK K
          try simp only [Act.put, List.setIfInBounds_toArray, List.set_cons_zero, List.set_cons_succ]
          refine wpAnyH_ready (rs := [13]) (by kernel_rfl) (by simp) ?_
          refine AllReadyH.cons (o := { dst := some 76, op := Op.buildSlice 57 1 #[(0, Operand.tmp 75)], type := 57, pos := "play.go:51", after := #[{ on := 12, ground := Ground.data }], guard := none }) rfl (fun K hK => ?_) ?_
          · go_simp
            replace hQ := hQ.andAlloc (.cells #[.int .i64 s.spn, .slice (some ⟨w2.heap.size, 0, none⟩) 1 1] 89)
            refine hK.out _ _ ?_ (fun hHeld2 => ?_)
            · (try dsimp only); first | exact t7 | exact t6 | exact hqq.1 | exact (HS.out _ hQ).1
            clear hK K
            try simp only [Act.put, List.setIfInBounds_toArray, List.set_cons_zero, List.set_cons_succ]
            refine wpAnyH_ready (rs := [14]) (by kernel_rfl) (by simp) ?_
            refine AllReadyH.cons (o := _) rfl (fun K hK => ?_) ?_
            · (obtain ⟨g, cap, w4, hr4, ho4, hk4⟩ := task_more base (.slice X.ta s.tk.length X.tc) s.spn (.slice (some ⟨w2.heap.size, 0, none⟩) 1 1) s.tk.length _ 57 (w2.heap.size + 1) _ (HA.out.1.more hQ).tk.tks ((HA.out.1.more hQ).sizeLe2) (by have := HP.out.2.2.2.2; omega) rfl (blk_new (w2.alloc (.cells #[.int .i64 a] 3)) _ _ (by simp)); refine step_append_run rfl (.tmp 67) (.tmp 76) 57 57 rfl (by first | rfl | simp [Act.eval]) (by first | rfl | simp [Act.eval]) hr4 ?_)
              have ho1 := (own_one (w := w2) a ((HA.out.1.more hQ2).sizeLe2)).alloc (.cells #[.int .i64 s.spn, .slice (some ⟨w2.heap.size, 0, none⟩) 1 1] 89)
              have hP5 := (HA.out.1.more hQ2).spawn (x := (s.spn, [a])) (w1 := (w2.alloc (.cells #[.int .i64 a] 3)).alloc (.cells #[.int .i64 s.spn, .slice (some ⟨w2.heap.size, 0, none⟩) 1 1] 89)) ((Keeps.alloc None w2 _).andAlloc _) ho1 (fun b e => by simp [Value.ownBlock] at e; omega) ho4 hk4
              obtain ⟨t6, t7, f7, z7, -⟩ := spawn_told (HA.out.1.more hQ2) (x := (s.spn, [a])) (w1 := (w2.alloc (.cells #[.int .i64 a] 3)).alloc (.cells #[.int .i64 s.spn, .slice (some ⟨w2.heap.size, 0, none⟩) 1 1] 89)) ((Keeps.alloc None w2 _).andAlloc _) ho1 (fun b e => by simp [Value.ownBlock] at e; omega) ho4 hk4
              have HF : Hid (PM (w4.setCell ⟨pb, 7, none⟩ (.slice (some ⟨g, 0, none⟩) (s.tk.length + 1) cap)) base pb st { X with ta := some ⟨g, 0, none⟩, tc := cap } K0 (upd R s.tk.length (.slice (some ⟨w2.heap.size, 0, none⟩) 1 1)) (upd R s.tk.length (.slice (some ⟨w2.heap.size, 0, none⟩) 1 1)) { s with tk := s.tk ++ [(s.spn, [a])] } ∧ Keeps (fun i => base ≤ i) w (w4.setCell ⟨pb, 7, none⟩ (.slice (some ⟨g, 0, none⟩) (s.tk.length + 1) cap))) := ⟨hP5, ((keeps_tr HA.out.2 hQ).trans hk4 (fun i e _ => row_low (HA.out.1.more hQ).tk.tks e)).andSet (x := ⟨pb, 7, none⟩) (.inl HA.out.1.low) _⟩
              refine hK.out _ _ ?_ (fun hHeld2 => ?_)
              · (try dsimp only); first | exact t7 | exact t6 | exact hqq.1 | exact (HS.out _ hQ).1
              clear hK K
              try simp only [Act.put, List.setIfInBounds_toArray, List.set_cons_zero, List.set_cons_succ]
              refine wpAnyH_take (i := 15) (oi := _) (v := ?_) rfl (by kernel_rfl) (by kernel_rfl) (by kernel_rfl) (fun _ _ _ h => h) (Or.inl ⟨by rfl, ?_⟩) (by assumption) ?_
              rotate_left
              · (intro wz hSw; (try dsimp only at hSw); go_simp; try with_reducible rfl)
              simp only [Act.put, List.setIfInBounds_toArray, List.set_cons_zero, List.set_cons_succ]
              refine wpAnyH_take (i := 16) (oi := _) (v := ?_) rfl (by kernel_rfl) (by kernel_rfl) (by kernel_rfl) (fun _ _ _ h => h) (Or.inl ⟨by rfl, ?_⟩) (by assumption) ?_
              rotate_left
              · (intro wz hSw; (try dsimp only at hSw); go_simp; try with_reducible rfl)
              simp only [Act.put, List.setIfInBounds_toArray, List.set_cons_zero, List.set_cons_succ]
              refine wpAnyH_ready (rs := [17]) (by kernel_rfl) (by simp) ?_
              refine AllReadyH.cons (o := _) rfl (fun K hK => ?_) ?_
              · go_simp
                refine hK.out _ _ ?_ (fun hHeld2 => ?_)
                · (try dsimp only); first | exact t7 | exact t6 | exact hqq.1 | exact (HS.out _ hQ).1
                clear hK K
                try simp only [Act.put, List.setIfInBounds_toArray, List.set_cons_zero, List.set_cons_succ]
                refine wpAnyH_done (by kernel_rfl) ?_ _
                go_wp2_with fail
                go_meet
                exact ⟨⟨_, _, HF.out.1⟩, HF.out.2⟩
              exact AllReadyH.nil
            exact AllReadyH.nil
          exact AllReadyH.nil
        refine AllReadyH.cons (o := { dst := some 76, op := Op.buildSlice 57 1 #[(0, Operand.tmp 75)], type := 57, pos := "play.go:51", after := #[{ on := 12, ground := Ground.data }], guard := none }) rfl (fun K hK => ?_) ?_
        · go_simp
          replace hQ := hQ.andAlloc (.cells #[.int .i64 s.spn, .slice (some ⟨w2.heap.size, 0, none⟩) 1 1] 89)
          refine hK.out _ _ ?_ (fun hHeld2 => ?_)
          · (try dsimp only); first | exact t7 | exact t6 | exact hqq.1 | exact (HS.out _ hQ).1
          clear hK K
          try simp only [Act.put, List.setIfInBounds_toArray, List.set_cons_zero, List.set_cons_succ]
          refine wpAnyH_ready (rs := [4]) (by kernel_rfl) (by simp) ?_
          refine AllReadyH.cons (o := { dst := some 67, op := Op.load 57 (Operand.tmp 66), type := 57, pos := "play.go:51", after := #[{ on := 3, ground := Ground.data }], guard := none }) rfl (fun K hK => ?_) ?_
          · go_simp
            refine hK.out _ _ ?_ (fun hHeld2 => ?_)
            · (try dsimp only); first | exact t7 | exact t6 | exact hqq.1 | exact (HS.out _ hQ).1
            clear hK K
            try simp only [Act.put, List.setIfInBounds_toArray, List.set_cons_zero, List.set_cons_succ]
            refine wpAnyH_ready (rs := [14]) (by kernel_rfl) (by simp) ?_
            refine AllReadyH.cons (o := _) rfl (fun K hK => ?_) ?_
            · (obtain ⟨g, cap, w4, hr4, ho4, hk4⟩ := task_more base (.slice X.ta s.tk.length X.tc) s.spn (.slice (some ⟨w2.heap.size, 0, none⟩) 1 1) s.tk.length _ 57 (w2.heap.size + 1) _ (HA.out.1.more hQ).tk.tks ((HA.out.1.more hQ).sizeLe2) (by have := HP.out.2.2.2.2; omega) rfl (blk_new (w2.alloc (.cells #[.int .i64 a] 3)) _ _ (by simp)); refine step_append_run rfl (.tmp 67) (.tmp 76) 57 57 rfl (by first | rfl | simp [Act.eval]) (by first | rfl | simp [Act.eval]) hr4 ?_)
              have ho1 := (own_one (w := w2) a ((HA.out.1.more hQ2).sizeLe2)).alloc (.cells #[.int .i64 s.spn, .slice (some ⟨w2.heap.size, 0, none⟩) 1 1] 89)
              have hP5 := (HA.out.1.more hQ2).spawn (x := (s.spn, [a])) (w1 := (w2.alloc (.cells #[.int .i64 a] 3)).alloc (.cells #[.int .i64 s.spn, .slice (some ⟨w2.heap.size, 0, none⟩) 1 1] 89)) ((Keeps.alloc None w2 _).andAlloc _) ho1 (fun b e => by simp [Value.ownBlock] at e; omega) ho4 hk4
              obtain ⟨t6, t7, f7, z7, -⟩ := spawn_told (HA.out.1.more hQ2) (x := (s.spn, [a])) (w1 := (w2.alloc (.cells #[.int .i64 a] 3)).alloc (.cells #[.int .i64 s.spn, .slice (some ⟨w2.heap.size, 0, none⟩) 1 1] 89)) ((Keeps.alloc None w2 _).andAlloc _) ho1 (fun b e => by simp [Value.ownBlock] at e; omega) ho4 hk4
              have HF : Hid (PM (w4.setCell ⟨pb, 7, none⟩ (.slice (some ⟨g, 0, none⟩) (s.tk.length + 1) cap)) base pb st { X with ta := some ⟨g, 0, none⟩, tc := cap } K0 (upd R s.tk.length (.slice (some ⟨w2.heap.size, 0, none⟩) 1 1)) (upd R s.tk.length (.slice (some ⟨w2.heap.size, 0, none⟩) 1 1)) { s with tk := s.tk ++ [(s.spn, [a])] } ∧ Keeps (fun i => base ≤ i) w (w4.setCell ⟨pb, 7, none⟩ (.slice (some ⟨g, 0, none⟩) (s.tk.length + 1) cap))) := ⟨hP5, ((keeps_tr HA.out.2 hQ).trans hk4 (fun i e _ => row_low (HA.out.1.more hQ).tk.tks e)).andSet (x := ⟨pb, 7, none⟩) (.inl HA.out.1.low) _⟩
              refine hK.out _ _ ?_ (fun hHeld2 => ?_)
              · (try dsimp only); first | exact t7 | exact t6 | exact hqq.1 | exact (HS.out _ hQ).1
              clear hK K
              try simp only [Act.put, List.setIfInBounds_toArray, List.set_cons_zero, List.set_cons_succ]
              refine wpAnyH_take (i := 15) (oi := _) (v := ?_) rfl (by kernel_rfl) (by kernel_rfl) (by kernel_rfl) (fun _ _ _ h => h) (Or.inl ⟨by rfl, ?_⟩) (by assumption) ?_
              rotate_left
              · (intro wz hSw; (try dsimp only at hSw); go_simp; try with_reducible rfl)
              simp only [Act.put, List.setIfInBounds_toArray, List.set_cons_zero, List.set_cons_succ]
              refine wpAnyH_take (i := 16) (oi := _) (v := ?_) rfl (by kernel_rfl) (by kernel_rfl) (by kernel_rfl) (fun _ _ _ h => h) (Or.inl ⟨by rfl, ?_⟩) (by assumption) ?_
              rotate_left
              · (intro wz hSw; (try dsimp only at hSw); go_simp; try with_reducible rfl)
              simp only [Act.put, List.setIfInBounds_toArray, List.set_cons_zero, List.set_cons_succ]
              refine wpAnyH_ready (rs := [17]) (by kernel_rfl) (by simp) ?_
              refine AllReadyH.cons (o := _) rfl (fun K hK => ?_) ?_
              · go_simp
                refine hK.out _ _ ?_ (fun hHeld2 => ?_)
                · (try dsimp only); first | exact t7 | exact t6 | exact hqq.1 | exact (HS.out _ hQ).1
                clear hK K
                try simp only [Act.put, List.setIfInBounds_toArray, List.set_cons_zero, List.set_cons_succ]
                refine wpAnyH_done (by kernel_rfl) ?_ _
                go_wp2_with fail
                go_meet
                exact ⟨⟨_, _, HF.out.1⟩, HF.out.2⟩
              exact AllReadyH.nil
            exact AllReadyH.nil
          exact AllReadyH.nil
        exact AllReadyH.nil
      exact AllReadyH.nil
    exact AllReadyH.nil
  case rest =>
    obtain ⟨⟨X5, R5, hM⟩, hkc⟩ := hcut
    have q8 : wc.cell? ⟨pb, 8, none⟩ = some (.int .i64 s.spn) := hM.c0.2.2.2.2.2.2.2.2.1
    have f8 := hM.free 8
    have hw : wrap64 ((s.spn : Int) + 1) = ((s.spn + 1 : Nat) : Int) := by unfold wrap64; omega
    have HF : Hid (PM (wc.setCell ⟨pb, 8, none⟩ (.int .i64 ((s.spn + 1 : Nat) : Int))) base pb st X5 K0 R5 R5 { s with tk := s.tk ++ [(s.spn, [a])], spn := s.spn + 1 } ∧ Keeps (fun i => base ≤ i) w (wc.setCell ⟨pb, 8, none⟩ (.int .i64 ((s.spn + 1 : Nat) : Int)))) := ⟨hM.spawned, hkc.andSet (x := ⟨pb, 8, none⟩) (.inl hM.low) _⟩
    rw [show ((s.spn + 1 : Nat) : Int) = (s.spn : Int) + 1 by omega] at HF hw
    clear hM hkc hqq hQ HH HS q7
    go_wp2
    go_end0
    exact ⟨rfl, ⟨_, _, HF.out.1⟩, HF.out.2⟩
end Go.Proofs.Ytdiabpoafennlab.Nm
/-! A deed: a sync. -/
namespace Go.Proofs.Ytdiabpoafennlab.Nm
set_option linter.unusedVariables false
set_option maxRecDepth 20000
set_option linter.unusedSimpArgs false
open Go.RowKit Go.HeapKit Go.PlainOps

set_option maxHeartbeats 1600000 in
theorem do_sync (base pb at0 : Nat) (st : List Bool) (X : PX) (K0 : NP) (R : Nat → Value) (s : PS) (w : World) (tk : List (Nat × List Nat)) (sp : Nat) (m0 : MS (List Int)) (pre : List Nat) (P : List Int) (loc : Int) (h : PM w base pb st X K0 R R (psOf s tk sp m0)) (hb : base ≤ w.heap.size) (hline : LineOk pre P m0) (hP : P.length ≤ 4096) (h0 : 0 < m0.row.length) (hr : m0.row.length ≤ 5000) (hn : tk.length ≤ 5000) (hmg : m0.mg.length + m0.row.length ≤ 100000) (hu : hasU K0.op = true) (hf : Fits P) :
    Calls Try.prog 46 #[.pointer (some ⟨pb, 0, none⟩), .int .i64 at0, .agg #[.int .i64 2, .int .i64 loc]] w fun e w' => e = .returned (.tuple #[]) ∧ (∃ X' R', PM w' base pb st X' K0 R' R' (psOf s tk sp (m0.all listK at0))) ∧ Keeps (fun i => base ≤ i) w w' := by
  have HP : Hid (PM w base pb st X K0 R R (psOf s tk sp m0) ∧ LineOk pre P m0 ∧ base ≤ w.heap.size) := ⟨h, hline, hb⟩
  clear h hline hb
  have hb0 := blk_new w (.cells #[.int .i64 2, .int .i64 loc] 44) w.heap.size rfl
  have hkb := (Keeps.alloc None w (.cells #[.int .i64 2, .int .i64 loc] 44))
  go_enter Try.func46, Try.ntmps46
  go_upto_region 1 with fail
  have HA : Hid (PM (w.alloc (.cells #[.int .i64 2, .int .i64 loc] 44)) base pb st X K0 R R (psOf s tk sp m0) ∧ Keeps None w (w.alloc (.cells #[.int .i64 2, .int .i64 loc] 44))) := ⟨HP.out.1.more hkb, hkb⟩
  have d0 : (w.alloc (.cells #[.int .i64 2, .int .i64 loc] 44)).cell? ⟨w.heap.size, 0, none⟩ = some (.int .i64 2) := blk_cell hb0 0
  clear hb0 hkb
  go_wp2_with fail
  refine (merge_ok base pb at0 st X K0 R s _ tk sp m0 pre P HA.out.1 (Nat.le_trans HP.out.2.2 HA.out.2.size) HP.out.2.1 hP h0 hr hn hmg hu hf).mono ?_
  rintro e w1 ⟨rfl, hM, hk⟩
  have HF : Hid ((∃ X' R', PM w1 base pb st X' K0 R' R' (psOf s tk sp (m0.all listK at0))) ∧ Keeps (fun i => base ≤ i) w w1) := ⟨hM, (HA.out.2.mono (T := fun i => base ≤ i) (fun _ f _ => f.elim)).trans hk (fun i e _ => e)⟩
  clear hM hk
  go_wp2
  go_end0
  exact ⟨rfl, HF.out⟩
end Go.Proofs.Ytdiabpoafennlab.Nm
/-! Every deed of a play of numbers. -/
namespace Go.Proofs.Ytdiabpoafennlab.Nm
set_option linter.unusedVariables false
set_option maxRecDepth 20000
set_option linter.unusedSimpArgs false
open Go.RowKit Go.HeapKit Go.PlainOps

theorem do_any (base pb n d : Nat) (st : List Bool) (X : PX) (K0 : NP) (R : Nat → Value) (s : HS (List Int)) (P : List Int) (w : World) (k loc : Int) (h : PM w base pb st X K0 R R (psS s)) (ho : Okd n d P s) (hn : n ≤ 4096) (hst : st.length ≤ 4096) (hk : k = 0 ∨ k = 1 ∨ k = 2 ∨ k = 3 ∨ k = 4) (hd : ¬ (k = 1 ∧ d = 0)) (hu : hasU K0.op = true) (hf : Fits P) :
    Calls Try.prog 46 #[.pointer (some ⟨pb, 0, none⟩), .int .i64 n, .agg #[.int .i64 k, .int .i64 loc]] w fun e w' => e = .returned (.tuple #[]) ∧ (∃ X' R', PM w' base pb st X' K0 R' R' (psS (s.deed listK st n k loc))) ∧ Keeps (fun i => base ≤ i) w w' := by
  obtain ⟨r1, r2, r3, r4⟩ := ho.rows
  have hne := ho.inv.lk.ne
  have hil : s.ini.reverse.length ≤ 4096 := by rw [List.length_reverse]; have := ho.ni; have := ho.nd; omega
  have hnv := ho.nv
  have hnt := ho.nt
  have hns := ho.ns
  rcases hk with rfl | rfl | rfl | rfl | rfl
  · have e : s.deed listK st n 0 loc = ⟨{ s.m with row := [s.hand] }, s.spn, (s.sp, s.m.row) :: s.ini, s.spn + 1, s.lk⟩ := by simp [HS.deed]
    refine (do_spawn base pb n st X K0 R (psS s) w s.ini.reverse s.sp s.m.row loc h rfl hne (by omega) (by omega) s.hand rfl (by show s.spn ≤ _; omega)).mono ?_
    rintro e' w' ⟨h1, ⟨X', R', h2⟩, h3⟩
    refine ⟨h1, ⟨X', R', ?_⟩, h3⟩
    rw [e]
    have e3 : psS ⟨{ s.m with row := [s.hand] }, s.spn, (s.sp, s.m.row) :: s.ini, s.spn + 1, s.lk⟩ = { psS s with tk := (psS s).tk ++ [((psS s).spn, [s.hand])], spn := (psS s).spn + 1 } := by
      unfold psS
      simp
    rw [e3]
    exact h2
  · obtain ⟨t, ini, hi⟩ : ∃ t ini, s.ini = t :: ini := by
      cases hi : s.ini with
      | nil => have := ho.ni; rw [hi] at this; simp at this; exact absurd ⟨rfl, this.symm⟩ hd
      | cons t ini => exact ⟨t, ini, rfl⟩
    have e : s.deed listK st n 1 loc = s.back listK st (s.m.all listK n) := by simp [HS.deed]
    have hp := ho.parent hi
    have hps : psS s = psOf (psS s) (ini.reverse ++ [(t.1, t.2)]) s.sp s.m := by
      unfold psS psOf
      simp [hi]
    rw [hps] at h
    have hil2 : ini.reverse.length ≤ 4000 ∨ True := .inr trivial
    rw [hi] at hil
    simp at hil
    refine (do_return base pb n st X K0 R (psS s) w ini.reverse t.1 t.2 s.sp s.m (preL s.ini) P loc h ho.inv.line (by have := ho.np; omega) r2 (by omega) (by simp; omega) (by omega) (by omega) (by omega) (by omega) (by omega) (s.m.all listK n) rfl hu hf).mono ?_
    rintro e' w' ⟨h1, ⟨X', R', h2⟩, h3⟩
    refine ⟨h1, ⟨X', R', ?_⟩, h3⟩
    rw [e]
    have e3 : psS (s.back listK st (s.m.all listK n)) = retPS (psS s) ini.reverse t.1 t.2 s.sp st (s.m.all listK n) := by
      unfold HS.back retPS
      rw [hi]
      simp only
      by_cases hs : st.getD s.sp false = true
      · rw [if_pos hs, if_pos hs]; rfl
      · rw [if_neg hs, if_neg hs]; rfl
    rw [e3]
    exact h2
  · have e : s.deed listK st n 2 loc = { s with m := s.m.all listK n } := by simp [HS.deed]
    refine (do_sync base pb n st X K0 R (psS s) w s.ini.reverse s.sp s.m (preL s.ini) P loc h h.sizeLe ho.inv.line (by have := ho.np; omega) r2 (by omega) (by omega) (by omega) hu hf).mono ?_
    rintro e' w' ⟨h1, ⟨X', R', h2⟩, h3⟩
    refine ⟨h1, ⟨X', R', ?_⟩, h3⟩
    rw [e]
    exact h2
  · have e : s.deed listK st n 3 loc = { s with lk := s.lk ++ [s.m.vs.getD s.hand []] } := by simp [HS.deed, listK]
    have hnl := ho.nl
    refine (do_look base pb n st X K0 R (psS s) w s.ini.reverse s.sp s.m.row loc h rfl hne (by omega) (by omega) s.hand rfl (s.m.vs.getD s.hand []) rfl r3 (by omega) (by show s.lk.length ≤ _; omega)).mono ?_
    rintro e' w' ⟨h1, ⟨X', R', h2⟩, h3⟩
    refine ⟨h1, ⟨X', R', ?_⟩, h3⟩
    rw [e]
    exact h2
  · have e : s.deed listK st n 4 loc = { s with m := { s.m with vs := s.m.vs.set s.hand (s.m.vs.getD s.hand [] ++ [loc]) } } := by simp [HS.deed, listK]
    refine (do_write base pb n st X K0 R (psS s) w s.ini.reverse s.sp s.m.row loc h rfl hne (by omega) (by omega) h.sizeLe s.hand rfl (s.m.vs.getD s.hand []) rfl r3 (by omega) hu).mono ?_
    rintro e' w' ⟨h1, ⟨X', R', h2⟩, h3⟩
    refine ⟨h1, ⟨X', R', ?_⟩, h3⟩
    rw [e]
    exact h2
end Go.Proofs.Ytdiabpoafennlab.Nm
