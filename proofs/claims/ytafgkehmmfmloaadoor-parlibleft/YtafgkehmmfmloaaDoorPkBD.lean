import Derived.Test.YtafgkehmmfmloaaDoorPkBC
/-! ParlibLeft: the statement's walk. -/
namespace Go.Proofs.YtafgkehmmfmloaaDoor
set_option linter.unusedVariables false
set_option maxRecDepth 20000
set_option linter.unusedSimpArgs false
open Go.RowKit Go.HeapKit Go.PlainOps

theorem Tryd.infoI64 : (Tryd.prog.info? 2).map (fun i => (i.zero, i.size, i.bytes)) = some (some (.int .i64 0), 1, 8) := by kernel_rfl
/-- 'append(l, x)' of a number. -/
theorem num_more (base : Nat) (s : Value) (l : List Int) (x : Int) (n ty g0 : Nat) (w : World) (hn : n = l.length) (h : w.ownsRow base 2 1 s n (l.map (Value.int .i64))) (hb : base ≤ w.heap.size) (hlen : (n + 1) * 8 ≤ 140737488355328)
    (hg0 : w.heap[g0]? = some (.cells #[.int .i64 x] 2 (0, 0))) :
    ∃ g cap w', (Builtin.append_ #[32, 32] ty #[s, .slice (some ⟨g0, 0, none⟩) 1 1]).run Tryd.prog w = .ok (.slice (some ⟨g, 0, none⟩) (n + 1) cap) w' ∧
      w'.ownsRow base 2 1 (.slice (some ⟨g, 0, none⟩) (n + 1) cap) (n + 1) (List.map (Value.int .i64) (l ++ [x])) ∧ Keeps (fun k => s.ownBlock = some k) w w' ∧ (s.ownBlock = some g ∨ w.heap.size ≤ g) := by
  obtain ⟨i0, hi, hz0, hz1, hz2⟩ := info_parts Tryd.infoI64
  obtain ⟨v', w1, hr, ho, hgr, hm, -⟩ := run_append_moved (P := Tryd.prog) w base 32 ty 2 i0 _ 1 8 Tryd.underlying32 hi hz0 hz1 hz2 rfl (by decide) s n _ h
    ⟨g0, 0, none⟩ 1 1 [.int .i64 x] rfl (by
      intro j u hu
      rw [show (⟨g0, 0, none⟩ : Addr).add j = ⟨g0, j, none⟩ by unfold Addr.add; split <;> simp_all, blk_cell hg0]
      simpa using hu) (by
      intro u hu
      simp at hu
      subst hu; rfl) (by unfold maxLen; omega) hlen hb
  obtain ⟨g, cap, rfl⟩ : ∃ g cap, v' = .slice (some ⟨g, 0, none⟩) (n + 1) cap := by
    rcases ho.2 with ⟨_, h0⟩ | ⟨b, cap, cur, rfl, _⟩
    · omega
    · exact ⟨b, cap, rfl⟩
  refine ⟨g, cap, w1, hr, by simpa using ho, (Keeps.refl _ w).andGrown hgr (fun k e => .inl e), ?_⟩
  rcases hm with hm | ⟨g', e, hg⟩
  · exact .inl (hm.symm.trans rfl)
  · simp [Value.ownBlock] at e; exact .inr (by omega)
theorem nrow_low {w : World} {base : Nat} {e : TypeId} {size : Nat} {v : Value} {n : Nat} {xs : List Value} (h : w.ownsRow base e size v n xs) {g : Nat} (hg : v.ownBlock = some g) : base ≤ g := by
  rcases h.2 with ⟨rfl, _⟩ | ⟨g', cap, cur, rfl, hb, _⟩
  · simp [Value.ownBlock] at hg
  · simp [Value.ownBlock] at hg
    omega
theorem redmade_of {w w' : World} {l : List Fn} {b c u : Int} {e : Ending} (hz : redE l b c = 0) (h : RedPost l b c u w e w') : ∃ a n c', e = .returned (.tuple #[.agg #[.slice a n c'], .int .i64 0]) ∧ SeenF w' a n (redP l b c u) ∧ Keeps None w w' := by
  obtain ⟨hk, h⟩ := h
  rcases h with ⟨h0, _⟩ | ⟨_, v, L', rfl, ho, hm⟩
  · exact absurd hz h0
  · obtain ⟨a, c, rfl, hs⟩ := ho.seen
    rw [hm] at hs
    exact ⟨a, _, c, rfl, hs, hk⟩
theorem seg_of {w : World} {b : Nat} {a : Option Addr} {c n : Nat} {l : List Int} (h : w.ownsRow b 2 1 (.slice a n c) n (l.map (Value.int .i64))) (hl : l.length = n) (hn : n ≤ 1000) : Seg w a c l := by
  rcases h.2 with ⟨e, h0⟩ | ⟨g, cap, cur, e, _, hb, hcap, hmx, hcs, htk⟩
  · injection e with e1 e2 e3
    subst e1 e3
    have : l = [] := List.eq_nil_of_length_eq_zero (by omega)
    exact ⟨by omega, by unfold maxLen; omega, .inl this⟩
  · injection e with e1 e2 e3
    subst e1 e3
    refine ⟨by omega, by omega, .inr ⟨g, 0, rfl, fun i hi => ?_⟩⟩
    rw [blk_cell hb, ← Array.getElem?_toList]
    have h1 : (l.map (Value.int .i64))[i]? = some (.int .i64 (l.getD i 0)) := by simp [List.getElem?_eq_getElem hi]
    rw [← htk, List.getElem?_take] at h1
    split at h1
    · simpa using h1
    · cases h1
theorem left_ok (op k o2 : Int) (h0 : 0 ≤ op) (h1 : op < 16) (h : hasU o2 = true) (hk : okI k) : ∀ f ∈ leftB op k o2, f.Ok := by
  intro f hf
  rcases List.mem_cons.1 hf with rfl | hf
  · exact at_ok op k (by unfold okI; omega) hk _ (by simp)
  · exact two_ok o2 (by rcases cases7 h with rfl | rfl | rfl | rfl | rfl | rfl | rfl <;> simp [okI]) _ hf
theorem left_foldErr {o : Int} (h : hasU o = true) (i : Nat) (hi : i ≤ 100) : foldErr o (i : Int) = 0 := by
  have h1 : isOpV o = true := by rcases cases7 h with rfl | rfl | rfl | rfl | rfl | rfl | rfl <;> rfl
  unfold foldErr
  rw [if_neg (by simp [h1]), if_neg (by simp [h]), if_neg (by omega)]
theorem left_nospawn (op k : Int) : ∀ i ∈ (atF op k).code, i.kind ≠ 5 := by
  intro i hi
  simp [atF] at hi
  rcases hi with rfl | rfl | rfl <;> simp
theorem two_nospawn (op : Int) : ∀ i ∈ (twoF op).code, i.kind ≠ 5 := by
  intro i hi
  simp [twoF] at hi
  rcases hi with rfl | rfl <;> simp
theorem left_w (op k o2 gr : Int) (h : hasU o2 = true) (hk : okI k) (n : Nat) (hn : n ≤ 100) : ∃ W, (1 ≤ n → RV (fun x => workV op x k) (workV o2) (unitV o2) (if gr < 1 then 1 else gr) 3 2 0 n W (foldV o2 (listF (fun x => workV op x k) 0 n))) ∧ W ≤ 100000 := by
  by_cases h1 : 1 ≤ n
  · obtain ⟨W, hr, hW⟩ := left_rv op k o2 gr h hk n hn h1
    exact ⟨W, fun _ => hr, by omega⟩
  · exact ⟨0, fun q => absurd q h1, by omega⟩
theorem left_spawns (op k o2 : Int) : ∀ f ∈ leftB op k o2, ∀ i ∈ f.code, i.kind = 5 → 0 ≤ i.b ∧ i.b ≤ 1000 := by
  intro f hf i hi h5
  rcases List.mem_cons.1 hf with rfl | hf
  · exact absurd h5 (left_nospawn op k i hi)
  · simp at hf
    subst hf
    exact absurd h5 (two_nospawn o2 i hi)
theorem own_at {w : World} {b : Nat} {a : Option Addr} {c : Nat} {x : Fn × Value} (h : OwnF w b (.slice a 1 c) [x]) : ∃ g, a = some ⟨g, 0, none⟩ ∧ b ≤ g := by
  rcases h.row.2 with ⟨e, h0⟩ | ⟨g, cap, cur, e, hg, _⟩
  · exact absurd h0 (by simp)
  · injection e with e1 e2 e3
    exact ⟨g, e1, hg⟩
set_option maxHeartbeats 4000000 in
theorem left_walk (which how k grain n : Int) (w : World) (hT : Tabs w) (hw : okI which) (hh : okI how) (hk0 : okI k) (hg : okI grain) (hn : okI n) :
    Calls Tryd.prog 3 #[.int .i64 which, .int .i64 how, .int .i64 k, .int .i64 grain, .int .i64 n] w fun e w' => e = .returned (.bool true) ∧ Keeps None w w' := by
  obtain ⟨Q, hQ⟩ : ∃ Q, Q = modP which 7 := ⟨_, rfl⟩
  obtain ⟨R, hR⟩ : ∃ R, R = modP how 16 := ⟨_, rfl⟩
  obtain ⟨NN, hN⟩ : ∃ NN, NN = modP n 101 := ⟨_, rfl⟩
  have hQ7 : Q < 7 := by rw [hQ]; exact modP_lt _ (by omega)
  have hR3 : R < 16 := by rw [hR]; exact modP_lt _ (by omega)
  have hN8 : NN < 101 := by rw [hN]; exact modP_lt _ (by omega)
  have m0 := mod13_any which 7 w hw (by omega) (by omega)
  rw [← hQ] at m0
  have m1 : ∀ w', Calls Tryd.prog 5 #[.int .i64 how, .int .i64 16] w' fun e w'' => e = .returned (.int .i64 R) ∧ Keeps None w' w'' := fun w' => by
    have := mod13_any how 16 w' hh (by omega) (by omega)
    rw [← hR] at this
    exact this
  have m2 : ∀ w', Calls Tryd.prog 5 #[.int .i64 n, .int .i64 101] w' fun e w'' => e = .returned (.int .i64 NN) ∧ Keeps None w' w'' := fun w' => by
    have := mod13_any n 101 w' hn (by omega) (by omega)
    rw [← hN] at this
    exact this
  have M1 : Hid _ := m1
  have M2 : Hid _ := m2
  have HT : Hid (Tabs w) := hT
  have HG : Hid (okI k ∧ okI grain) := ⟨hk0, hg⟩
  have i1 : (NN : Int) < 101 := by omega
  have i2 : (R : Int) < 16 := by omega
  clear hN hR hQ m1 m2 hh hn hT hk0 hg hw
  go_enter Tryd.func3, Tryd.ntmps3
  go_wp2_with fail
  refine m0.mono ?_
  rintro _ w1 ⟨rfl, k1⟩
  clear m0
  go_wp2_with fail
  refine (seven_any Q w1 hQ7).mono ?_
  rintro _ _ ⟨rfl, rfl⟩
  go_wp2_with fail
  refine (M1.out _).mono ?_
  rintro _ w2 ⟨rfl, k2⟩
  go_wp2_with fail
  refine (M2.out _).mono ?_
  rintro _ w3 ⟨rfl, k3⟩
  have kw3 : Keeps None w w3 := (k1.trans k2 (fun _ f _ => f)).trans k3 (fun _ f _ => f)
  clear k1 k2 k3
  have hU := seven_unit Q
  generalize sevenV Q = O at *
  have bP := heap_alloc_new w3 (.cells #[.slice none 0 0] 26)
  have kP := Keeps.alloc None w3 (.cells #[.slice none 0 0] 26)
  obtain ⟨W, hW⟩ : ∃ W, W = w3.alloc (.cells #[.slice none 0 0] 26) := ⟨_, rfl⟩
  obtain ⟨P, hP⟩ : ∃ P, P = w3.heap.size := ⟨_, rfl⟩
  rw [← hW] at bP kP
  rw [← hP] at bP
  have HW : Hid (Keeps None w W ∧ W.heap[P]? = some (.cells #[.slice none 0 0] 26 (0, 0)) ∧ w.heap.size ≤ P) := ⟨kw3.trans kP (fun _ f _ => f), bP, by have := kw3.size; omega⟩
  clear bP kP kw3
  go_upto_region 5 with fail
  rw [← hW, ← hP]
  clear hW hP
  have r00 : W.cell? ⟨P, 0, none⟩ = some (.slice none 0 0) := (blk_cell HW.out.2.1 0).trans rfl
  have r0 : W.drew.cell? ⟨P, 0, none⟩ = some (.slice none 0 0) := (Keeps.drew None W).cell r00 (fun f => f)
  go_cut [] (fun wc => ∃ g c cv, wc.heap[P]? = some (.cells #[.slice (some ⟨g, 0, none⟩) 1 c] 26 (0, 0)) ∧ OwnF wc w.heap.size (.slice (some ⟨g, 0, none⟩) 1 c) [(atF (R : Int) k, cv)] ∧ w.heap.size ≤ g ∧ Keeps None w wc)
  case first =>
    refine wp_region_held_drew (S := (fun w' => True)) (by kernel_rfl) ?_ (fun hHeld => ?_)
    · (try dsimp only); all_goals trivial
    refine wpAnyH_take (i := 0) (oi := { dst := some 35, op := Op.fieldAddr 26 (Operand.tmp 13) 0, type := 0, pos := "outright.go:74", after := #[], guard := none }) (v := ?_) rfl (by kernel_rfl) (by kernel_rfl) (by kernel_rfl) (fun _ _ _ h => h) (Or.inl ⟨by rfl, ?_⟩) (by assumption) ?_
    rotate_left
    · (intro wz hSw; (try dsimp only at hSw); go_simp; try with_reducible rfl)
    simp only [Act.put, List.setIfInBounds_toArray, List.set_cons_zero, List.set_cons_succ]
    refine wpAnyH_take (i := 2) (oi := { dst := some 37, op := Op.move (Operand.tmp 12), type := 3, pos := "outright.go:74", after := #[], guard := none }) (v := ?_) rfl (by kernel_rfl) (by kernel_rfl) (by kernel_rfl) (fun _ _ _ h => h) (Or.inl ⟨by rfl, ?_⟩) (by assumption) ?_
    rotate_left
    · (intro wz hSw; (try dsimp only at hSw); go_simp; try with_reducible rfl)
    simp only [Act.put, List.setIfInBounds_toArray, List.set_cons_zero, List.set_cons_succ]
    refine wpAnyH_take (i := 3) (oi := { dst := some 38, op := Op.move (Operand.tmp 2), type := 2, pos := "outright.go:74", after := #[], guard := none }) (v := ?_) rfl (by kernel_rfl) (by kernel_rfl) (by kernel_rfl) (fun _ _ _ h => h) (Or.inl ⟨by rfl, ?_⟩) (by assumption) ?_
    rotate_left
    · (intro wz hSw; (try dsimp only at hSw); go_simp; try with_reducible rfl)
    simp only [Act.put, List.setIfInBounds_toArray, List.set_cons_zero, List.set_cons_succ]
    refine wpAnyH_ready (rs := [1, 4]) (by kernel_rfl) (by simp) ?_
    refine AllReadyH.cons (o := { dst := some 36, op := Op.load 24 (Operand.tmp 35), type := 24, pos := "outright.go:74", after := #[{ on := 0, ground := Ground.data }], guard := none }) rfl (fun K hK => ?_) ?_
    · go_simp
      refine hK.out _ _ ?_ (fun hHeld2 => ?_)
      · (try dsimp only); all_goals trivial
      clear hK K
      try simp only [Act.put, List.setIfInBounds_toArray, List.set_cons_zero, List.set_cons_succ]
      refine wpAnyH_ready (rs := [4]) (by kernel_rfl) (by simp) ?_
      refine AllReadyH.cons (o := { dst := some 39, op := Op.call { callee := Callee.value (Operand.func 6), args := #[Operand.tmp 37, Operand.tmp 38], argTypes := #[3, 2] }, type := 29, pos := "outright.go:74", after := #[{ on := 2, ground := Ground.data }, { on := 3, ground := Ground.data }], guard := none }) rfl (fun K hK => ?_) ?_
      · go_simp
        refine (at_any _ _ _).mono ?_
        rintro _ w5 ⟨v5, rfl, o5, k5⟩
        obtain ⟨ca5, cc5, rfl, -⟩ := o5.shape
        have j5 : Keeps None W w5 := (Keeps.drew None W).trans k5 (fun _ f _ => f)
        have r5 := j5.cell r00 (fun f => f)
        have j6 := j5.andAlloc (.cells #[.int .i64 1, .int .i64 2, .int .i64 0, .slice ca5 (atF (R : Int) k).code.length cc5] 29)
        have r6 := j6.cell r00 (fun f => f)
        have b6 := heap_alloc_new w5 (.cells #[.int .i64 1, .int .i64 2, .int .i64 0, .slice ca5 (atF (R : Int) k).code.length cc5] 29)
        obtain ⟨a7, c7, w7, hr7, o7, k7⟩ := fn_first (atF (R : Int) k) _ w5.heap.size w.heap.size _ ((o5.low (by show w.heap.size ≤ W.heap.size; exact HW.out.1.size)).more (Keeps.alloc None _ _)) b6 (by have := j6.size; have := HW.out.1.size; omega)
        have b7 := blk_kept (blk_kept HW.out.2.1 j6 (fun f => f)) k7 (fun f => f)
        have z7 : w7.cell? ⟨P, 0, none⟩ = some (.slice none 0 0) := (blk_cell b7 0).trans rfl
        have f7 := blk_free b7 0
        have k9 := Keeps.setCell (S := (· = P)) w7 (a := ⟨P, 0, none⟩) rfl (.slice a7 1 c7)
        have b9 := blk_set (i := 0) b7 (.slice a7 1 c7)
        have hs9 : OwnF (w7.setCell ⟨P, 0, none⟩ (.slice a7 1 c7)) w.heap.size (.slice a7 1 c7) [(atF (R : Int) k, .slice ca5 (atF (R : Int) k).code.length cc5)] := ⟨k9.own o7.row (fun q e hq => by subst hq; exact absurd (own_type o7.row e b7) (by decide)), fun x hx => (o7.codes x hx).kept k9 (fun q e hq => by subst hq; exact absurd (own_type (o7.codes x hx) e b7) (by decide))⟩
        have HZ : Hid (∃ g c cv, (w7.setCell ⟨P, 0, none⟩ (.slice a7 1 c7)).heap[P]? = some (.cells #[.slice (some ⟨g, 0, none⟩) 1 c] 26 (0, 0)) ∧ OwnF (w7.setCell ⟨P, 0, none⟩ (.slice a7 1 c7)) w.heap.size (.slice (some ⟨g, 0, none⟩) 1 c) [(atF (R : Int) k, cv)] ∧ w.heap.size ≤ g ∧ Keeps None w (w7.setCell ⟨P, 0, none⟩ (.slice a7 1 c7))) := by
          obtain ⟨g, rfl, hg⟩ := own_at hs9
          exact ⟨_, _, _, b9, hs9, hg, ((HW.out.1.trans j6 (fun _ f _ => f)).trans k7 (fun _ f _ => f)).trans k9 (fun i e hi => by have e' : i = P := e; have := HW.out.2.2; omega)⟩
        have HR7 : Hid _ := hr7
        clear hs9 b9 k9 b7 o7 k7 b6 o5 hr7
        refine hK.out _ _ ?_ (fun hHeld2 => ?_)
        · (try dsimp only); all_goals trivial
        clear hK K
        try simp only [Act.put, List.setIfInBounds_toArray, List.set_cons_zero, List.set_cons_succ]
        refine wpAnyH_ready (rs := [5]) (by kernel_rfl) (by simp) ?_
        refine AllReadyH.cons (o := { dst := some 40, op := Op.buildSlice 24 1 #[(0, Operand.tmp 39)], type := 24, pos := "outright.go:74", after := #[{ on := 4, ground := Ground.data }], guard := none }) rfl (fun K hK => ?_) ?_
        · go_simp
          refine hK.out _ _ ?_ (fun hHeld2 => ?_)
          · (try dsimp only); all_goals trivial
          clear hK K
          try simp only [Act.put, List.setIfInBounds_toArray, List.set_cons_zero, List.set_cons_succ]
          refine wpAnyH_ready (rs := [6]) (by kernel_rfl) (by simp) ?_
          refine AllReadyH.cons (o := { dst := some 41, op := Op.call { callee := Callee.builtin Builtin.append, args := #[Operand.tmp 36, Operand.tmp 40], argTypes := #[24, 24] }, type := 24, pos := "outright.go:74", after := #[{ on := 1, ground := Ground.data }, { on := 5, ground := Ground.data }, { on := 4, ground := Ground.chain }], guard := none }) rfl (fun K hK => ?_) ?_
          · refine step_append_run rfl (.tmp 36) (.tmp 40) 24 24 rfl rfl rfl HR7.out ?_
            refine hK.out _ _ ?_ (fun hHeld2 => ?_)
            · (try dsimp only); all_goals trivial
            clear hK K
            try simp only [Act.put, List.setIfInBounds_toArray, List.set_cons_zero, List.set_cons_succ]
            refine wpAnyH_take (i := 7) (oi := { dst := some 42, op := Op.fieldAddr 26 (Operand.tmp 13) 0, type := 0, pos := "outright.go:74", after := #[{ on := 0, ground := Ground.phase }, { on := 1, ground := Ground.phase }, { on := 2, ground := Ground.phase }, { on := 3, ground := Ground.phase }, { on := 4, ground := Ground.phase }, { on := 5, ground := Ground.phase }, { on := 6, ground := Ground.phase }], guard := none }) (v := ?_) rfl (by kernel_rfl) (by kernel_rfl) (by kernel_rfl) (fun _ _ _ h => h) (Or.inl ⟨by rfl, ?_⟩) (by assumption) ?_
            rotate_left
            · (intro wz hSw; (try dsimp only at hSw); go_simp; try with_reducible rfl)
            simp only [Act.put, List.setIfInBounds_toArray, List.set_cons_zero, List.set_cons_succ]
            refine wpAnyH_ready (rs := [8]) (by kernel_rfl) (by simp) ?_
            refine AllReadyH.cons (o := { dst := none, op := Op.store 24 (Operand.tmp 42) (Operand.tmp 41), type := 0, pos := "outright.go:74", after := #[{ on := 7, ground := Ground.data }, { on := 6, ground := Ground.data }, { on := 6, ground := Ground.chain }, { on := 0, ground := Ground.phase }, { on := 1, ground := Ground.phase }, { on := 2, ground := Ground.phase }, { on := 3, ground := Ground.phase }, { on := 4, ground := Ground.phase }, { on := 5, ground := Ground.phase }, { on := 6, ground := Ground.phase }], guard := none }) rfl (fun K hK => ?_) ?_
            · go_simp
              refine hK.out _ _ ?_ (fun hHeld2 => ?_)
              · (try dsimp only); all_goals trivial
              clear hK K
              try simp only [Act.put, List.setIfInBounds_toArray, List.set_cons_zero, List.set_cons_succ]
              refine wpAnyH_done (by kernel_rfl) ?_ _
              go_wp2_with fail
              go_meet
              exact HZ.out
            exact AllReadyH.nil
          exact AllReadyH.nil
        exact AllReadyH.nil
      exact AllReadyH.nil
    refine AllReadyH.cons (o := { dst := some 39, op := Op.call { callee := Callee.value (Operand.func 6), args := #[Operand.tmp 37, Operand.tmp 38], argTypes := #[3, 2] }, type := 29, pos := "outright.go:74", after := #[{ on := 2, ground := Ground.data }, { on := 3, ground := Ground.data }], guard := none }) rfl (fun K hK => ?_) ?_
    · go_simp
      refine (at_any _ _ _).mono ?_
      rintro _ w5 ⟨v5, rfl, o5, k5⟩
      obtain ⟨ca5, cc5, rfl, -⟩ := o5.shape
      have j5 : Keeps None W w5 := (Keeps.drew None W).trans k5 (fun _ f _ => f)
      have r5 := j5.cell r00 (fun f => f)
      have j6 := j5.andAlloc (.cells #[.int .i64 1, .int .i64 2, .int .i64 0, .slice ca5 (atF (R : Int) k).code.length cc5] 29)
      have r6 := j6.cell r00 (fun f => f)
      have b6 := heap_alloc_new w5 (.cells #[.int .i64 1, .int .i64 2, .int .i64 0, .slice ca5 (atF (R : Int) k).code.length cc5] 29)
      obtain ⟨a7, c7, w7, hr7, o7, k7⟩ := fn_first (atF (R : Int) k) _ w5.heap.size w.heap.size _ ((o5.low (by show w.heap.size ≤ W.heap.size; exact HW.out.1.size)).more (Keeps.alloc None _ _)) b6 (by have := j6.size; have := HW.out.1.size; omega)
      have b7 := blk_kept (blk_kept HW.out.2.1 j6 (fun f => f)) k7 (fun f => f)
      have z7 : w7.cell? ⟨P, 0, none⟩ = some (.slice none 0 0) := (blk_cell b7 0).trans rfl
      have f7 := blk_free b7 0
      have k9 := Keeps.setCell (S := (· = P)) w7 (a := ⟨P, 0, none⟩) rfl (.slice a7 1 c7)
      have b9 := blk_set (i := 0) b7 (.slice a7 1 c7)
      have hs9 : OwnF (w7.setCell ⟨P, 0, none⟩ (.slice a7 1 c7)) w.heap.size (.slice a7 1 c7) [(atF (R : Int) k, .slice ca5 (atF (R : Int) k).code.length cc5)] := ⟨k9.own o7.row (fun q e hq => by subst hq; exact absurd (own_type o7.row e b7) (by decide)), fun x hx => (o7.codes x hx).kept k9 (fun q e hq => by subst hq; exact absurd (own_type (o7.codes x hx) e b7) (by decide))⟩
      have HZ : Hid (∃ g c cv, (w7.setCell ⟨P, 0, none⟩ (.slice a7 1 c7)).heap[P]? = some (.cells #[.slice (some ⟨g, 0, none⟩) 1 c] 26 (0, 0)) ∧ OwnF (w7.setCell ⟨P, 0, none⟩ (.slice a7 1 c7)) w.heap.size (.slice (some ⟨g, 0, none⟩) 1 c) [(atF (R : Int) k, cv)] ∧ w.heap.size ≤ g ∧ Keeps None w (w7.setCell ⟨P, 0, none⟩ (.slice a7 1 c7))) := by
        obtain ⟨g, rfl, hg⟩ := own_at hs9
        exact ⟨_, _, _, b9, hs9, hg, ((HW.out.1.trans j6 (fun _ f _ => f)).trans k7 (fun _ f _ => f)).trans k9 (fun i e hi => by have e' : i = P := e; have := HW.out.2.2; omega)⟩
      have HR7 : Hid _ := hr7
      clear hs9 b9 k9 b7 o7 k7 b6 o5 hr7
      refine hK.out _ _ ?_ (fun hHeld2 => ?_)
      · (try dsimp only); all_goals trivial
      clear hK K
      try simp only [Act.put, List.setIfInBounds_toArray, List.set_cons_zero, List.set_cons_succ]
      refine wpAnyH_ready (rs := [1, 5]) (by kernel_rfl) (by simp) ?_
      refine AllReadyH.cons (o := { dst := some 36, op := Op.load 24 (Operand.tmp 35), type := 24, pos := "outright.go:74", after := #[{ on := 0, ground := Ground.data }], guard := none }) rfl (fun K hK => ?_) ?_
      · go_simp
        refine hK.out _ _ ?_ (fun hHeld2 => ?_)
        · (try dsimp only); all_goals trivial
        clear hK K
        try simp only [Act.put, List.setIfInBounds_toArray, List.set_cons_zero, List.set_cons_succ]
        refine wpAnyH_ready (rs := [5]) (by kernel_rfl) (by simp) ?_
        refine AllReadyH.cons (o := { dst := some 40, op := Op.buildSlice 24 1 #[(0, Operand.tmp 39)], type := 24, pos := "outright.go:74", after := #[{ on := 4, ground := Ground.data }], guard := none }) rfl (fun K hK => ?_) ?_
        · go_simp
          refine hK.out _ _ ?_ (fun hHeld2 => ?_)
          · (try dsimp only); all_goals trivial
          clear hK K
          try simp only [Act.put, List.setIfInBounds_toArray, List.set_cons_zero, List.set_cons_succ]
          refine wpAnyH_ready (rs := [6]) (by kernel_rfl) (by simp) ?_
          refine AllReadyH.cons (o := { dst := some 41, op := Op.call { callee := Callee.builtin Builtin.append, args := #[Operand.tmp 36, Operand.tmp 40], argTypes := #[24, 24] }, type := 24, pos := "outright.go:74", after := #[{ on := 1, ground := Ground.data }, { on := 5, ground := Ground.data }, { on := 4, ground := Ground.chain }], guard := none }) rfl (fun K hK => ?_) ?_
          · refine step_append_run rfl (.tmp 36) (.tmp 40) 24 24 rfl rfl rfl HR7.out ?_
            refine hK.out _ _ ?_ (fun hHeld2 => ?_)
            · (try dsimp only); all_goals trivial
            clear hK K
            try simp only [Act.put, List.setIfInBounds_toArray, List.set_cons_zero, List.set_cons_succ]
            refine wpAnyH_take (i := 7) (oi := { dst := some 42, op := Op.fieldAddr 26 (Operand.tmp 13) 0, type := 0, pos := "outright.go:74", after := #[{ on := 0, ground := Ground.phase }, { on := 1, ground := Ground.phase }, { on := 2, ground := Ground.phase }, { on := 3, ground := Ground.phase }, { on := 4, ground := Ground.phase }, { on := 5, ground := Ground.phase }, { on := 6, ground := Ground.phase }], guard := none }) (v := ?_) rfl (by kernel_rfl) (by kernel_rfl) (by kernel_rfl) (fun _ _ _ h => h) (Or.inl ⟨by rfl, ?_⟩) (by assumption) ?_
            rotate_left
            · (intro wz hSw; (try dsimp only at hSw); go_simp; try with_reducible rfl)
            simp only [Act.put, List.setIfInBounds_toArray, List.set_cons_zero, List.set_cons_succ]
            refine wpAnyH_ready (rs := [8]) (by kernel_rfl) (by simp) ?_
            refine AllReadyH.cons (o := { dst := none, op := Op.store 24 (Operand.tmp 42) (Operand.tmp 41), type := 0, pos := "outright.go:74", after := #[{ on := 7, ground := Ground.data }, { on := 6, ground := Ground.data }, { on := 6, ground := Ground.chain }, { on := 0, ground := Ground.phase }, { on := 1, ground := Ground.phase }, { on := 2, ground := Ground.phase }, { on := 3, ground := Ground.phase }, { on := 4, ground := Ground.phase }, { on := 5, ground := Ground.phase }, { on := 6, ground := Ground.phase }], guard := none }) rfl (fun K hK => ?_) ?_
            · go_simp
              refine hK.out _ _ ?_ (fun hHeld2 => ?_)
              · (try dsimp only); all_goals trivial
              clear hK K
              try simp only [Act.put, List.setIfInBounds_toArray, List.set_cons_zero, List.set_cons_succ]
              refine wpAnyH_done (by kernel_rfl) ?_ _
              go_wp2_with fail
              go_meet
              exact HZ.out
            exact AllReadyH.nil
          exact AllReadyH.nil
        exact AllReadyH.nil
      refine AllReadyH.cons (o := { dst := some 40, op := Op.buildSlice 24 1 #[(0, Operand.tmp 39)], type := 24, pos := "outright.go:74", after := #[{ on := 4, ground := Ground.data }], guard := none }) rfl (fun K hK => ?_) ?_
      · go_simp
        refine hK.out _ _ ?_ (fun hHeld2 => ?_)
        · (try dsimp only); all_goals trivial
        clear hK K
        try simp only [Act.put, List.setIfInBounds_toArray, List.set_cons_zero, List.set_cons_succ]
        refine wpAnyH_ready (rs := [1]) (by kernel_rfl) (by simp) ?_
        refine AllReadyH.cons (o := { dst := some 36, op := Op.load 24 (Operand.tmp 35), type := 24, pos := "outright.go:74", after := #[{ on := 0, ground := Ground.data }], guard := none }) rfl (fun K hK => ?_) ?_
        · go_simp
          refine hK.out _ _ ?_ (fun hHeld2 => ?_)
          · (try dsimp only); all_goals trivial
          clear hK K
          try simp only [Act.put, List.setIfInBounds_toArray, List.set_cons_zero, List.set_cons_succ]
          refine wpAnyH_ready (rs := [6]) (by kernel_rfl) (by simp) ?_
          refine AllReadyH.cons (o := { dst := some 41, op := Op.call { callee := Callee.builtin Builtin.append, args := #[Operand.tmp 36, Operand.tmp 40], argTypes := #[24, 24] }, type := 24, pos := "outright.go:74", after := #[{ on := 1, ground := Ground.data }, { on := 5, ground := Ground.data }, { on := 4, ground := Ground.chain }], guard := none }) rfl (fun K hK => ?_) ?_
          · refine step_append_run rfl (.tmp 36) (.tmp 40) 24 24 rfl rfl rfl HR7.out ?_
            refine hK.out _ _ ?_ (fun hHeld2 => ?_)
            · (try dsimp only); all_goals trivial
            clear hK K
            try simp only [Act.put, List.setIfInBounds_toArray, List.set_cons_zero, List.set_cons_succ]
            refine wpAnyH_take (i := 7) (oi := { dst := some 42, op := Op.fieldAddr 26 (Operand.tmp 13) 0, type := 0, pos := "outright.go:74", after := #[{ on := 0, ground := Ground.phase }, { on := 1, ground := Ground.phase }, { on := 2, ground := Ground.phase }, { on := 3, ground := Ground.phase }, { on := 4, ground := Ground.phase }, { on := 5, ground := Ground.phase }, { on := 6, ground := Ground.phase }], guard := none }) (v := ?_) rfl (by kernel_rfl) (by kernel_rfl) (by kernel_rfl) (fun _ _ _ h => h) (Or.inl ⟨by rfl, ?_⟩) (by assumption) ?_
            rotate_left
            · (intro wz hSw; (try dsimp only at hSw); go_simp; try with_reducible rfl)
            simp only [Act.put, List.setIfInBounds_toArray, List.set_cons_zero, List.set_cons_succ]
            refine wpAnyH_ready (rs := [8]) (by kernel_rfl) (by simp) ?_
            refine AllReadyH.cons (o := { dst := none, op := Op.store 24 (Operand.tmp 42) (Operand.tmp 41), type := 0, pos := "outright.go:74", after := #[{ on := 7, ground := Ground.data }, { on := 6, ground := Ground.data }, { on := 6, ground := Ground.chain }, { on := 0, ground := Ground.phase }, { on := 1, ground := Ground.phase }, { on := 2, ground := Ground.phase }, { on := 3, ground := Ground.phase }, { on := 4, ground := Ground.phase }, { on := 5, ground := Ground.phase }, { on := 6, ground := Ground.phase }], guard := none }) rfl (fun K hK => ?_) ?_
            · go_simp
              refine hK.out _ _ ?_ (fun hHeld2 => ?_)
              · (try dsimp only); all_goals trivial
              clear hK K
              try simp only [Act.put, List.setIfInBounds_toArray, List.set_cons_zero, List.set_cons_succ]
              refine wpAnyH_done (by kernel_rfl) ?_ _
              go_wp2_with fail
              go_meet
              exact HZ.out
            exact AllReadyH.nil
          exact AllReadyH.nil
        exact AllReadyH.nil
      exact AllReadyH.nil
    exact AllReadyH.nil
  case rest =>
    obtain ⟨g, c, cv, bP, oF, hgb, hk⟩ := hcut
    clear r00 r0
    have r00 : wc.cell? ⟨P, 0, none⟩ = some (.slice (some ⟨g, 0, none⟩) 1 c) := (blk_cell bP 0).trans rfl
    have r0 := (Keeps.drew None wc).cell r00 (fun f => f)
    have HV : Hid (wc.heap[P]? = some (.cells #[.slice (some ⟨g, 0, none⟩) 1 c] 26 (0, 0)) ∧ OwnF wc w.heap.size (.slice (some ⟨g, 0, none⟩) 1 c) [(atF (R : Int) k, cv)] ∧ w.heap.size ≤ g ∧ Keeps None w wc ∧ g ≠ P) := ⟨bP, oF, hgb, hk, fun e => by subst e; exact absurd (own_type oF.row rfl bP) (by decide)⟩
    clear bP oF hgb hk
    go_upto_region 6 with fail
    go_cut [] (fun wx => ∃ a c, wx.heap[P]? = some (.cells #[.slice a 2 c] 26 (0, 0)) ∧ SeenF wx a 2 (leftB (R : Int) k O) ∧ Keeps None w wx)
    case first =>
      refine wp_region_held_drew (S := (fun w' => True)) (by kernel_rfl) ?_ (fun hHeld => ?_)
      · (try dsimp only); all_goals trivial
      refine wpAnyH_take (i := 0) (oi := { dst := some 43, op := Op.fieldAddr 26 (Operand.tmp 13) 0, type := 0, pos := "outright.go:75", after := #[], guard := none }) (v := ?_) rfl (by kernel_rfl) (by kernel_rfl) (by kernel_rfl) (fun _ _ _ h => h) (Or.inl ⟨by rfl, ?_⟩) (by assumption) ?_
      rotate_left
      · (intro wz hSw; (try dsimp only at hSw); go_simp; try with_reducible rfl)
      simp only [Act.put, List.setIfInBounds_toArray, List.set_cons_zero, List.set_cons_succ]
      refine wpAnyH_take (i := 2) (oi := { dst := some 45, op := Op.move (Operand.tmp 11), type := 3, pos := "outright.go:75", after := #[], guard := none }) (v := ?_) rfl (by kernel_rfl) (by kernel_rfl) (by kernel_rfl) (fun _ _ _ h => h) (Or.inl ⟨by rfl, ?_⟩) (by assumption) ?_
      rotate_left
      · (intro wz hSw; (try dsimp only at hSw); go_simp; try with_reducible rfl)
      simp only [Act.put, List.setIfInBounds_toArray, List.set_cons_zero, List.set_cons_succ]
      refine wpAnyH_ready (rs := [1, 3]) (by kernel_rfl) (by simp) ?_
      refine AllReadyH.cons (o := { dst := some 44, op := Op.load 24 (Operand.tmp 43), type := 24, pos := "outright.go:75", after := #[{ on := 0, ground := Ground.data }], guard := none }) rfl (fun K hK => ?_) ?_
      · go_simp
        refine hK.out _ _ ?_ (fun hHeld2 => ?_)
        · (try dsimp only); all_goals trivial
        clear hK K
        try simp only [Act.put, List.setIfInBounds_toArray, List.set_cons_zero, List.set_cons_succ]
        refine wpAnyH_ready (rs := [3]) (by kernel_rfl) (by simp) ?_
        refine AllReadyH.cons (o := { dst := some 46, op := Op.call { callee := Callee.value (Operand.func 7), args := #[Operand.tmp 45], argTypes := #[3] }, type := 29, pos := "outright.go:75", after := #[{ on := 2, ground := Ground.data }], guard := none }) rfl (fun K hK => ?_) ?_
        · go_simp
          refine (two_any _ _).mono ?_
          rintro _ w5 ⟨v5, rfl, o5, k5⟩
          obtain ⟨ca5, cc5, rfl, -⟩ := o5.shape
          have j5 : Keeps None wc w5 := (Keeps.drew None wc).trans k5 (fun _ f _ => f)
          have r5 := j5.cell r00 (fun f => f)
          have j6 := j5.andAlloc (.cells #[.int .i64 2, .int .i64 2, .int .i64 0, .slice ca5 (twoF O).code.length cc5] 29)
          have r6 := j6.cell r00 (fun f => f)
          have b6 := heap_alloc_new w5 (.cells #[.int .i64 2, .int .i64 2, .int .i64 0, .slice ca5 (twoF O).code.length cc5] 29)
          obtain ⟨g7, c7, w7, hr7, o7, k7, -⟩ := fn_more w.heap.size g 1 c [(atF (R : Int) k, cv)] (twoF O) _ w5.heap.size 24 _ rfl (HV.out.2.1.more j6) ((o5.low (by show w.heap.size ≤ wc.heap.size; exact HV.out.2.2.2.1.size)).more (Keeps.alloc None _ _)) b6 (by have := j6.size; have := HV.out.2.2.2.1.size; omega) (by simp)
          have b7 := blk_kept (blk_kept HV.out.1 j6 (fun f => f)) k7 (fun e => HV.out.2.2.2.2 e.symm)
          have z7 : w7.cell? ⟨P, 0, none⟩ = some (.slice (some ⟨g, 0, none⟩) 1 c) := (blk_cell b7 0).trans rfl
          have f7 := blk_free b7 0
          have k9 := Keeps.setCell (S := (· = P)) w7 (a := ⟨P, 0, none⟩) rfl (.slice (some ⟨g7, 0, none⟩) 2 c7)
          have b9 := blk_set (i := 0) b7 (.slice (some ⟨g7, 0, none⟩) 2 c7)
          have hs9 : OwnF (w7.setCell ⟨P, 0, none⟩ (.slice (some ⟨g7, 0, none⟩) 2 c7)) w.heap.size (.slice (some ⟨g7, 0, none⟩) 2 c7) [(atF (R : Int) k, cv), (twoF O, .slice ca5 (twoF O).code.length cc5)] := ⟨k9.own o7.row (fun q e hq => by subst hq; exact absurd (own_type o7.row e b7) (by decide)), fun x hx => (o7.codes x hx).kept k9 (fun q e hq => by subst hq; exact absurd (own_type (o7.codes x hx) e b7) (by decide))⟩
          have HZ : Hid (∃ a c, (w7.setCell ⟨P, 0, none⟩ (.slice (some ⟨g7, 0, none⟩) 2 c7)).heap[P]? = some (.cells #[.slice a 2 c] 26 (0, 0)) ∧ SeenF (w7.setCell ⟨P, 0, none⟩ (.slice (some ⟨g7, 0, none⟩) 2 c7)) a 2 (leftB (R : Int) k O) ∧ Keeps None w (w7.setCell ⟨P, 0, none⟩ (.slice (some ⟨g7, 0, none⟩) 2 c7))) := by
            obtain ⟨a', c', e', hs'⟩ := hs9.seen
            injection e' with e1 e2 e3
            subst e1
            exact ⟨_, _, b9, hs', ((HV.out.2.2.2.1.trans j6 (fun _ f _ => f)).trans k7 (fun i e hi => by have e' : i = g := e; have := HV.out.2.2.1; omega)).trans k9 (fun i e hi => by have e' : i = P := e; have := HW.out.2.2; omega)⟩
          have HR7 : Hid ((Builtin.append_ #[24, 24] 24 #[.slice (some ⟨g, 0, none⟩) 1 c, .slice (some ⟨w5.heap.size, 0, none⟩) 1 1]).run Tryd.prog (w5.alloc (.cells #[.int .i64 2, .int .i64 2, .int .i64 0, .slice ca5 (twoF O).code.length cc5] 29)) = .ok (.slice (some ⟨g7, 0, none⟩) 2 c7) w7) := hr7
          clear hs9 b9 k9 b7 o7 k7 b6 o5 hr7
          refine hK.out _ _ ?_ (fun hHeld2 => ?_)
          · (try dsimp only); all_goals trivial
          clear hK K
          try simp only [Act.put, List.setIfInBounds_toArray, List.set_cons_zero, List.set_cons_succ]
          refine wpAnyH_ready (rs := [4]) (by kernel_rfl) (by simp) ?_
          refine AllReadyH.cons (o := { dst := some 47, op := Op.buildSlice 24 1 #[(0, Operand.tmp 46)], type := 24, pos := "outright.go:75", after := #[{ on := 3, ground := Ground.data }], guard := none }) rfl (fun K hK => ?_) ?_
          · go_simp
            refine hK.out _ _ ?_ (fun hHeld2 => ?_)
            · (try dsimp only); all_goals trivial
            clear hK K
            try simp only [Act.put, List.setIfInBounds_toArray, List.set_cons_zero, List.set_cons_succ]
            refine wpAnyH_ready (rs := [5]) (by kernel_rfl) (by simp) ?_
            refine AllReadyH.cons (o := { dst := some 48, op := Op.call { callee := Callee.builtin Builtin.append, args := #[Operand.tmp 44, Operand.tmp 47], argTypes := #[24, 24] }, type := 24, pos := "outright.go:75", after := #[{ on := 1, ground := Ground.data }, { on := 4, ground := Ground.data }, { on := 3, ground := Ground.chain }], guard := none }) rfl (fun K hK => ?_) ?_
            · refine step_append_run rfl (.tmp 44) (.tmp 47) 24 24 rfl rfl rfl HR7.out ?_
              refine hK.out _ _ ?_ (fun hHeld2 => ?_)
              · (try dsimp only); all_goals trivial
              clear hK K
              try simp only [Act.put, List.setIfInBounds_toArray, List.set_cons_zero, List.set_cons_succ]
              refine wpAnyH_take (i := 6) (oi := { dst := some 49, op := Op.fieldAddr 26 (Operand.tmp 13) 0, type := 0, pos := "outright.go:75", after := #[{ on := 0, ground := Ground.phase }, { on := 1, ground := Ground.phase }, { on := 2, ground := Ground.phase }, { on := 3, ground := Ground.phase }, { on := 4, ground := Ground.phase }, { on := 5, ground := Ground.phase }], guard := none }) (v := ?_) rfl (by kernel_rfl) (by kernel_rfl) (by kernel_rfl) (fun _ _ _ h => h) (Or.inl ⟨by rfl, ?_⟩) (by assumption) ?_
              rotate_left
              · (intro wz hSw; (try dsimp only at hSw); go_simp; try with_reducible rfl)
              simp only [Act.put, List.setIfInBounds_toArray, List.set_cons_zero, List.set_cons_succ]
              refine wpAnyH_ready (rs := [7]) (by kernel_rfl) (by simp) ?_
              refine AllReadyH.cons (o := { dst := none, op := Op.store 24 (Operand.tmp 49) (Operand.tmp 48), type := 0, pos := "outright.go:75", after := #[{ on := 6, ground := Ground.data }, { on := 5, ground := Ground.data }, { on := 5, ground := Ground.chain }, { on := 0, ground := Ground.phase }, { on := 1, ground := Ground.phase }, { on := 2, ground := Ground.phase }, { on := 3, ground := Ground.phase }, { on := 4, ground := Ground.phase }, { on := 5, ground := Ground.phase }], guard := none }) rfl (fun K hK => ?_) ?_
              · go_simp
                refine hK.out _ _ ?_ (fun hHeld2 => ?_)
                · (try dsimp only); all_goals trivial
                clear hK K
                try simp only [Act.put, List.setIfInBounds_toArray, List.set_cons_zero, List.set_cons_succ]
                refine wpAnyH_done (by kernel_rfl) ?_ _
                go_wp2_with fail
                go_meet
                exact HZ.out
              exact AllReadyH.nil
            exact AllReadyH.nil
          exact AllReadyH.nil
        exact AllReadyH.nil
      refine AllReadyH.cons (o := { dst := some 46, op := Op.call { callee := Callee.value (Operand.func 7), args := #[Operand.tmp 45], argTypes := #[3] }, type := 29, pos := "outright.go:75", after := #[{ on := 2, ground := Ground.data }], guard := none }) rfl (fun K hK => ?_) ?_
      · go_simp
        refine (two_any _ _).mono ?_
        rintro _ w5 ⟨v5, rfl, o5, k5⟩
        obtain ⟨ca5, cc5, rfl, -⟩ := o5.shape
        have j5 : Keeps None wc w5 := (Keeps.drew None wc).trans k5 (fun _ f _ => f)
        have r5 := j5.cell r00 (fun f => f)
        have j6 := j5.andAlloc (.cells #[.int .i64 2, .int .i64 2, .int .i64 0, .slice ca5 (twoF O).code.length cc5] 29)
        have r6 := j6.cell r00 (fun f => f)
        have b6 := heap_alloc_new w5 (.cells #[.int .i64 2, .int .i64 2, .int .i64 0, .slice ca5 (twoF O).code.length cc5] 29)
        obtain ⟨g7, c7, w7, hr7, o7, k7, -⟩ := fn_more w.heap.size g 1 c [(atF (R : Int) k, cv)] (twoF O) _ w5.heap.size 24 _ rfl (HV.out.2.1.more j6) ((o5.low (by show w.heap.size ≤ wc.heap.size; exact HV.out.2.2.2.1.size)).more (Keeps.alloc None _ _)) b6 (by have := j6.size; have := HV.out.2.2.2.1.size; omega) (by simp)
        have b7 := blk_kept (blk_kept HV.out.1 j6 (fun f => f)) k7 (fun e => HV.out.2.2.2.2 e.symm)
        have z7 : w7.cell? ⟨P, 0, none⟩ = some (.slice (some ⟨g, 0, none⟩) 1 c) := (blk_cell b7 0).trans rfl
        have f7 := blk_free b7 0
        have k9 := Keeps.setCell (S := (· = P)) w7 (a := ⟨P, 0, none⟩) rfl (.slice (some ⟨g7, 0, none⟩) 2 c7)
        have b9 := blk_set (i := 0) b7 (.slice (some ⟨g7, 0, none⟩) 2 c7)
        have hs9 : OwnF (w7.setCell ⟨P, 0, none⟩ (.slice (some ⟨g7, 0, none⟩) 2 c7)) w.heap.size (.slice (some ⟨g7, 0, none⟩) 2 c7) [(atF (R : Int) k, cv), (twoF O, .slice ca5 (twoF O).code.length cc5)] := ⟨k9.own o7.row (fun q e hq => by subst hq; exact absurd (own_type o7.row e b7) (by decide)), fun x hx => (o7.codes x hx).kept k9 (fun q e hq => by subst hq; exact absurd (own_type (o7.codes x hx) e b7) (by decide))⟩
        have HZ : Hid (∃ a c, (w7.setCell ⟨P, 0, none⟩ (.slice (some ⟨g7, 0, none⟩) 2 c7)).heap[P]? = some (.cells #[.slice a 2 c] 26 (0, 0)) ∧ SeenF (w7.setCell ⟨P, 0, none⟩ (.slice (some ⟨g7, 0, none⟩) 2 c7)) a 2 (leftB (R : Int) k O) ∧ Keeps None w (w7.setCell ⟨P, 0, none⟩ (.slice (some ⟨g7, 0, none⟩) 2 c7))) := by
          obtain ⟨a', c', e', hs'⟩ := hs9.seen
          injection e' with e1 e2 e3
          subst e1
          exact ⟨_, _, b9, hs', ((HV.out.2.2.2.1.trans j6 (fun _ f _ => f)).trans k7 (fun i e hi => by have e' : i = g := e; have := HV.out.2.2.1; omega)).trans k9 (fun i e hi => by have e' : i = P := e; have := HW.out.2.2; omega)⟩
        have HR7 : Hid ((Builtin.append_ #[24, 24] 24 #[.slice (some ⟨g, 0, none⟩) 1 c, .slice (some ⟨w5.heap.size, 0, none⟩) 1 1]).run Tryd.prog (w5.alloc (.cells #[.int .i64 2, .int .i64 2, .int .i64 0, .slice ca5 (twoF O).code.length cc5] 29)) = .ok (.slice (some ⟨g7, 0, none⟩) 2 c7) w7) := hr7
        clear hs9 b9 k9 b7 o7 k7 b6 o5 hr7
        refine hK.out _ _ ?_ (fun hHeld2 => ?_)
        · (try dsimp only); all_goals trivial
        clear hK K
        try simp only [Act.put, List.setIfInBounds_toArray, List.set_cons_zero, List.set_cons_succ]
        refine wpAnyH_ready (rs := [1, 4]) (by kernel_rfl) (by simp) ?_
        refine AllReadyH.cons (o := { dst := some 44, op := Op.load 24 (Operand.tmp 43), type := 24, pos := "outright.go:75", after := #[{ on := 0, ground := Ground.data }], guard := none }) rfl (fun K hK => ?_) ?_
        · go_simp
          refine hK.out _ _ ?_ (fun hHeld2 => ?_)
          · (try dsimp only); all_goals trivial
          clear hK K
          try simp only [Act.put, List.setIfInBounds_toArray, List.set_cons_zero, List.set_cons_succ]
          refine wpAnyH_ready (rs := [4]) (by kernel_rfl) (by simp) ?_
          refine AllReadyH.cons (o := { dst := some 47, op := Op.buildSlice 24 1 #[(0, Operand.tmp 46)], type := 24, pos := "outright.go:75", after := #[{ on := 3, ground := Ground.data }], guard := none }) rfl (fun K hK => ?_) ?_
          · go_simp
            refine hK.out _ _ ?_ (fun hHeld2 => ?_)
            · (try dsimp only); all_goals trivial
            clear hK K
            try simp only [Act.put, List.setIfInBounds_toArray, List.set_cons_zero, List.set_cons_succ]
            refine wpAnyH_ready (rs := [5]) (by kernel_rfl) (by simp) ?_
            refine AllReadyH.cons (o := { dst := some 48, op := Op.call { callee := Callee.builtin Builtin.append, args := #[Operand.tmp 44, Operand.tmp 47], argTypes := #[24, 24] }, type := 24, pos := "outright.go:75", after := #[{ on := 1, ground := Ground.data }, { on := 4, ground := Ground.data }, { on := 3, ground := Ground.chain }], guard := none }) rfl (fun K hK => ?_) ?_
            · refine step_append_run rfl (.tmp 44) (.tmp 47) 24 24 rfl rfl rfl HR7.out ?_
              refine hK.out _ _ ?_ (fun hHeld2 => ?_)
              · (try dsimp only); all_goals trivial
              clear hK K
              try simp only [Act.put, List.setIfInBounds_toArray, List.set_cons_zero, List.set_cons_succ]
              refine wpAnyH_take (i := 6) (oi := { dst := some 49, op := Op.fieldAddr 26 (Operand.tmp 13) 0, type := 0, pos := "outright.go:75", after := #[{ on := 0, ground := Ground.phase }, { on := 1, ground := Ground.phase }, { on := 2, ground := Ground.phase }, { on := 3, ground := Ground.phase }, { on := 4, ground := Ground.phase }, { on := 5, ground := Ground.phase }], guard := none }) (v := ?_) rfl (by kernel_rfl) (by kernel_rfl) (by kernel_rfl) (fun _ _ _ h => h) (Or.inl ⟨by rfl, ?_⟩) (by assumption) ?_
              rotate_left
              · (intro wz hSw; (try dsimp only at hSw); go_simp; try with_reducible rfl)
              simp only [Act.put, List.setIfInBounds_toArray, List.set_cons_zero, List.set_cons_succ]
              refine wpAnyH_ready (rs := [7]) (by kernel_rfl) (by simp) ?_
              refine AllReadyH.cons (o := { dst := none, op := Op.store 24 (Operand.tmp 49) (Operand.tmp 48), type := 0, pos := "outright.go:75", after := #[{ on := 6, ground := Ground.data }, { on := 5, ground := Ground.data }, { on := 5, ground := Ground.chain }, { on := 0, ground := Ground.phase }, { on := 1, ground := Ground.phase }, { on := 2, ground := Ground.phase }, { on := 3, ground := Ground.phase }, { on := 4, ground := Ground.phase }, { on := 5, ground := Ground.phase }], guard := none }) rfl (fun K hK => ?_) ?_
              · go_simp
                refine hK.out _ _ ?_ (fun hHeld2 => ?_)
                · (try dsimp only); all_goals trivial
                clear hK K
                try simp only [Act.put, List.setIfInBounds_toArray, List.set_cons_zero, List.set_cons_succ]
                refine wpAnyH_done (by kernel_rfl) ?_ _
                go_wp2_with fail
                go_meet
                exact HZ.out
              exact AllReadyH.nil
            exact AllReadyH.nil
          exact AllReadyH.nil
        refine AllReadyH.cons (o := { dst := some 47, op := Op.buildSlice 24 1 #[(0, Operand.tmp 46)], type := 24, pos := "outright.go:75", after := #[{ on := 3, ground := Ground.data }], guard := none }) rfl (fun K hK => ?_) ?_
        · go_simp
          refine hK.out _ _ ?_ (fun hHeld2 => ?_)
          · (try dsimp only); all_goals trivial
          clear hK K
          try simp only [Act.put, List.setIfInBounds_toArray, List.set_cons_zero, List.set_cons_succ]
          refine wpAnyH_ready (rs := [1]) (by kernel_rfl) (by simp) ?_
          refine AllReadyH.cons (o := { dst := some 44, op := Op.load 24 (Operand.tmp 43), type := 24, pos := "outright.go:75", after := #[{ on := 0, ground := Ground.data }], guard := none }) rfl (fun K hK => ?_) ?_
          · go_simp
            refine hK.out _ _ ?_ (fun hHeld2 => ?_)
            · (try dsimp only); all_goals trivial
            clear hK K
            try simp only [Act.put, List.setIfInBounds_toArray, List.set_cons_zero, List.set_cons_succ]
            refine wpAnyH_ready (rs := [5]) (by kernel_rfl) (by simp) ?_
            refine AllReadyH.cons (o := { dst := some 48, op := Op.call { callee := Callee.builtin Builtin.append, args := #[Operand.tmp 44, Operand.tmp 47], argTypes := #[24, 24] }, type := 24, pos := "outright.go:75", after := #[{ on := 1, ground := Ground.data }, { on := 4, ground := Ground.data }, { on := 3, ground := Ground.chain }], guard := none }) rfl (fun K hK => ?_) ?_
            · refine step_append_run rfl (.tmp 44) (.tmp 47) 24 24 rfl rfl rfl HR7.out ?_
              refine hK.out _ _ ?_ (fun hHeld2 => ?_)
              · (try dsimp only); all_goals trivial
              clear hK K
              try simp only [Act.put, List.setIfInBounds_toArray, List.set_cons_zero, List.set_cons_succ]
              refine wpAnyH_take (i := 6) (oi := { dst := some 49, op := Op.fieldAddr 26 (Operand.tmp 13) 0, type := 0, pos := "outright.go:75", after := #[{ on := 0, ground := Ground.phase }, { on := 1, ground := Ground.phase }, { on := 2, ground := Ground.phase }, { on := 3, ground := Ground.phase }, { on := 4, ground := Ground.phase }, { on := 5, ground := Ground.phase }], guard := none }) (v := ?_) rfl (by kernel_rfl) (by kernel_rfl) (by kernel_rfl) (fun _ _ _ h => h) (Or.inl ⟨by rfl, ?_⟩) (by assumption) ?_
              rotate_left
              · (intro wz hSw; (try dsimp only at hSw); go_simp; try with_reducible rfl)
              simp only [Act.put, List.setIfInBounds_toArray, List.set_cons_zero, List.set_cons_succ]
              refine wpAnyH_ready (rs := [7]) (by kernel_rfl) (by simp) ?_
              refine AllReadyH.cons (o := { dst := none, op := Op.store 24 (Operand.tmp 49) (Operand.tmp 48), type := 0, pos := "outright.go:75", after := #[{ on := 6, ground := Ground.data }, { on := 5, ground := Ground.data }, { on := 5, ground := Ground.chain }, { on := 0, ground := Ground.phase }, { on := 1, ground := Ground.phase }, { on := 2, ground := Ground.phase }, { on := 3, ground := Ground.phase }, { on := 4, ground := Ground.phase }, { on := 5, ground := Ground.phase }], guard := none }) rfl (fun K hK => ?_) ?_
              · go_simp
                refine hK.out _ _ ?_ (fun hHeld2 => ?_)
                · (try dsimp only); all_goals trivial
                clear hK K
                try simp only [Act.put, List.setIfInBounds_toArray, List.set_cons_zero, List.set_cons_succ]
                refine wpAnyH_done (by kernel_rfl) ?_ _
                go_wp2_with fail
                go_meet
                exact HZ.out
              exact AllReadyH.nil
            exact AllReadyH.nil
          exact AllReadyH.nil
        exact AllReadyH.nil
      exact AllReadyH.nil
    case rest =>
      obtain ⟨a, c2, bP, hs, hk⟩ := hcut
      clear r00 r0
      have HB : Hid (wc.heap[P]? = some (.cells #[.slice a 2 c2] 26 (0, 0)) ∧ SeenF wc a 2 (leftB (R : Int) k O) ∧ Keeps None w wc ∧ hasU O = true) := ⟨bP, hs, hk, hU⟩
      clear bP hs hk HV HW hU
      go_wp2_with fail
      go_loopw [14, 15] (fun s14 s15 wr => ∃ (i : Nat) (a' : Option Addr) (c' : Nat), i ≤ NN ∧ s15 = .int .i64 i ∧ s14 = .slice a' i c' ∧ wr.ownsRow wc.heap.size 2 1 (.slice a' i c') i ((listF (fun x => workV (R : Int) x k) 0 i).map (Value.int .i64)) ∧ Keeps None wc wr) (fun _ i _ => NN - (intOf i).toNat)
      case atStart => exact ⟨0, none, 0, Nat.zero_le _, rfl, rfl, ⟨by simp [listF], .inl ⟨rfl, rfl⟩⟩, Keeps.refl _ _⟩
      case round =>
        obtain ⟨i, a', c', hi, rfl, rfl, hrow, hkr⟩ := hrel
        by_cases hin : i < NN
        · have j1 : (i : Int) < (NN : Int) := by omega
          have j2 : (0 : Int) ≤ (i : Int) := by omega
          obtain ⟨X, hX⟩ : ∃ X, X = workV (R : Int) (i : Int) k := ⟨_, rfl⟩
          have hap := apply_any (R : Int) (i : Int) k wr (by unfold isOpV; simp; omega)
          rw [← hX] at hap
          obtain ⟨g7, c7, w7, hr7, o7, k7, -⟩ := num_more wc.heap.size (.slice a' i c') (listF (fun x => workV (R : Int) x k) 0 i) X i 32 wr.heap.size (wr.alloc (.cells #[.int .i64 X] 2)) (by simp [listF]) ((Keeps.alloc None wr _).own hrow (fun _ _ f => f)) (by have := hkr.size; simp; omega) (by omega) (heap_alloc_new _ _)
          have HN : Hid (w7.ownsRow wc.heap.size 2 1 (.slice (some ⟨g7, 0, none⟩) (i + 1) c7) (i + 1) ((listF (fun x => workV (R : Int) x k) 0 (i + 1)).map (Value.int .i64)) ∧ Keeps None wc w7) := ⟨by rw [listF_add, show listF (fun x => workV (R : Int) x k) (0 + (i : Int)) 1 = [X] by simp [listF, hX]]; exact o7, (hkr.andAlloc _).trans k7 (fun q e hq => by have := nrow_low hrow e; omega)⟩
          have HR7 : Hid _ := hr7
          clear hrow hkr o7 k7 hr7 hX
          go_wp2_with (first | (go_at_call 8; refine hap.mono ?_; rintro _ w6 ⟨rfl, hw6⟩; have hw7 := hw6.symm; clear hw6; subst hw7) | (at_builtin; refine wpList_append_run rfl (.tmp 64) (.tmp 66) 32 32 rfl rfl rfl HR7.out ?_))
          exact ⟨⟨i + 1, _, c7, by omega, by go_num, rfl, HN.out⟩, by simp [intOf]; omega⟩
        · obtain rfl : i = NN := by omega
          have j1 : ¬ (i : Int) < (i : Int) := by omega
          obtain ⟨ZS, hZS⟩ : ∃ ZS, ZS = listF (fun x => workV (R : Int) x k) 0 i := ⟨_, rfl⟩
          have hlen : ZS.length = i := by rw [hZS]; simp [listF]
          rw [← hZS] at hrow
          have hseg := seg_of hrow hlen (by omega)
          have hU := HB.out.2.2.2
          have hun := unit_any O wr hU
          have hfo := fold_ok O a' i c' ZS wr (left_foldErr hU i (by omega)) hlen hseg
          have kwr : Keeps None w wr := HB.out.2.2.1.trans hkr (fun _ f _ => f)
          have hok : ∀ f ∈ leftB (R : Int) k O, f.Ok := left_ok (R : Int) k O (by omega) (by omega) hU HG.out.1
          have hred := reduce_any a 2 c2 (leftB (R : Int) k O) 0 1 (unitV O) wr (HT.out.more kwr) (HB.out.2.1.more hkr) hok
          obtain ⟨z1, z2, z3, z4⟩ := left_errs (R : Int) k O (by omega) (by omega) hU
          have bP := blk_kept HB.out.1 hkr (fun f => f)
          have c0 : wr.cell? ⟨P, 0, none⟩ = some (.slice a 2 c2) := (blk_cell bP 0).trans rfl
          have HC : Hid (Keeps None w wr ∧ wr.heap[P]? = some (.cells #[.slice a 2 c2] 26 (0, 0)) ∧ SeenF wr a 2 (leftB (R : Int) k O) ∧ hasU O = true ∧ (∀ f ∈ leftB (R : Int) k O, f.Ok) ∧ ZS = listF (fun x => workV (R : Int) x k) 0 i) := ⟨kwr, bP, HB.out.2.1.more hkr, hU, hok, hZS⟩
          clear hrow hkr hseg kwr hok z1 z2 z3 bP hU HB hZS hlen
          go_wp2_with (first | (go_at_call 9; refine hun.mono ?_; rintro _ w6 ⟨rfl, hw6⟩; have hw7 := hw6.symm; clear hw6; subst hw7) | (go_at_call 10; refine hfo.mono ?_; rintro _ w6 ⟨rfl, hw6⟩; have hw7 := hw6.symm; clear hw6; subst hw7) | (go_at_call 11; refine hred.mono ?_; intro e w3 hpost; obtain ⟨a3, n3, c3, he3, hs3, k3⟩ := redmade_of z4 hpost; rw [he3]; clear hpost he3))
          clear hun hfo hred c0
          obtain ⟨C1, C2, C3, C4, C5, C6⟩ := HC.out
          have b1 := heap_alloc_new (w3.alloc (.cells #[.slice a3 n3 c3] 26)) (.cells (ints [(i : Int), grain]).toArray 2)
          have hza := seen_args (l := [(i : Int), grain]) b1 (fun x hx => by simp at hx; rcases hx with rfl | rfl; unfold okI; omega; exact HG.out.2) (by simp)
          rw [show (w3.alloc (.cells #[.slice a3 n3 c3] 26)).heap.size = w3.heap.size + 1 by simp] at hza
          have kA : Keeps None w3 ((w3.alloc (.cells #[.slice a3 n3 c3] 26)).alloc (.cells (ints [(i : Int), grain]).toArray 2)) := (Keeps.alloc None w3 _).andAlloc _
          have kB := (C1.trans k3 (fun _ f _ => f)).trans kA (fun _ f _ => f)
          have hfok := redP_ok _ C5 (left_spawns (R : Int) k O) 0 1 (unitV O) (by omega) (by omega) (unitV_fits O)
          obtain ⟨Wk, T, dd, sp, he⟩ := left_eval (R : Int) k O grain (by omega) (by omega) C4 HG.out.1 i (by omega)
          have hev := eval_any a3 n3 c3 (redP (leftB (R : Int) k O) 0 1 (unitV O)) (some ⟨w3.heap.size + 1, 0, none⟩) 2 2 [(i : Int), grain] 100000 _ (HT.out.more kB) (hs3.more kA) hfok hza (by omega) (by simp [okI])
          rw [he, ← C6] at hev
          unfold valC at hev
          simp only at hev
          have HD : Hid (Keeps None w3 ((w3.alloc (.cells #[.slice a3 n3 c3] 26)).alloc (.cells (ints [(i : Int), grain]).toArray 2)) ∧ Keeps None wr w3 ∧ okI grain) := ⟨kA, k3, HG.out.2⟩
          clear C1 C2 C3 C4 C5 C6 b1 hza kA kB hfok he k3 hs3 z4
          refine hev.mono ?_
          rintro _ w5 ⟨rfl, k5⟩
          clear hev
          have k6 : Keeps None wr w5 := (HD.out.2.1.trans HD.out.1 (fun _ f _ => f)).trans k5 (fun _ f _ => f)
          have b5 := blk_kept HC.out.2.1 k6 (fun f => f)
          obtain ⟨U, hU⟩ : ∃ U, U = w5.alloc (.cells #[.int .i64 (foldV O ZS), .int .i64 Wk, .int .i64 T, .int .i64 dd, .int .i64 sp] 42) := ⟨_, rfl⟩
          have bV := heap_alloc_new w5 (.cells #[.int .i64 (foldV O ZS), .int .i64 Wk, .int .i64 T, .int .i64 dd, .int .i64 sp] 42)
          have kV := Keeps.alloc None w5 (.cells #[.int .i64 (foldV O ZS), .int .i64 Wk, .int .i64 T, .int .i64 dd, .int .i64 sp] 42)
          rw [← hU] at bV kV
          obtain ⟨E, hE⟩ : ∃ E, E = w5.heap.size := ⟨_, rfl⟩
          rw [← hE] at bV
          have bP := blk_kept b5 kV (fun f => f)
          have c0 : U.cell? ⟨P, 0, none⟩ = some (.slice a 2 c2) := (blk_cell bP 0).trans rfl
          have kU : Keeps None wr U := k6.trans kV (fun _ f _ => f)
          have HU : Hid (Keeps None wr U ∧ U.heap[E]? = some (.cells #[.int .i64 (foldV O ZS), .int .i64 Wk, .int .i64 T, .int .i64 dd, .int .i64 sp] 42 (0, 0)) ∧ Keeps None w U) := ⟨kU, bV, HC.out.1.trans kU (fun _ f _ => f)⟩
          clear k5 k6 b5 bV kV bP kU
          obtain ⟨WW, hrv, hWW⟩ := left_w (R : Int) k O grain HC.out.2.2.2.1 HG.out.1 i (by omega)
          obtain ⟨z1, z2, z3, z4⟩ := left_errs (R : Int) k O (by omega) (by omega) HC.out.2.2.2.1
          obtain ⟨o0, o1⟩ : 0 ≤ O ∧ O < 16 := by rcases cases7 HC.out.2.2.2.1 with rfl | rfl | rfl | rfl | rfl | rfl | rfl <;> omega
          have hff := foldAs_any a 2 c2 (leftB (R : Int) k O) 0 1 (atF (R : Int) k) (twoF O) (unitV O) grain i 100000 U (HT.out.more HU.out.2.2) (HC.out.2.2.1.more HU.out.1) HC.out.2.2.2.2.1 z1 z2 z3 (by omega) (unitV_fits O) HG.out.2 rfl rfl (by omega) (left_nospawn _ _) (two_nospawn _) (by simp [atF]) (by simp [twoF]) (by omega) (left_two (R : Int) k O (by omega) (by omega) o0 o1 HG.out.1) hrv (by omega)
          rw [← HC.out.2.2.2.2.2, show (if i = 0 then unitV O else foldV O ZS) = foldV O ZS by
            split
            · rename_i h0
              rw [HC.out.2.2.2.2.2, h0]
              rfl
            · rfl] at hff
          have HF : Hid (Calls Tryd.prog 13 #[.agg #[.slice a 2 c2], .int .i64 0, .int .i64 1, .int .i64 (unitV O), .int .i64 (i : Int), .int .i64 grain, .int .i64 100000] U fun e w' => e = .returned (.tuple #[.int .i64 (foldV O ZS), .int .i64 0]) ∧ Keeps None U w') := hff
          clear hff hrv z1 z2 z3 z4 o0 o1 hWW
          rw [hU] at c0
          have HUE : Hid (U = w5.alloc (.cells #[.int .i64 (foldV O ZS), .int .i64 Wk, .int .i64 T, .int .i64 dd, .int .i64 sp] 42) ∧ E = w5.heap.size) := ⟨hU, hE⟩
          clear hU hE
          go_wp2_with fail
          rw [← HUE.out.1]
          refine Calls.mono HF.out ?_
          rintro _ w7 ⟨rfl, k7⟩
          have y0 : w7.cell? ⟨E, 0, none⟩ = some (.int .i64 (foldV O ZS)) := (blk_cell (blk_kept HU.out.2.1 k7 (fun f => f)) 0).trans rfl
          rw [HUE.out.2] at y0
          have HK : Hid (Keeps None w w7) := HU.out.2.2.trans k7 (fun _ f _ => f)
          clear k7 c0
          go_wp2
          go_ret
          exact ⟨rfl, HK.out⟩
end Go.Proofs.YtafgkehmmfmloaaDoor
