import Derived.Test.YtdiabpoafennlabPkAU
import Derived.Test.YtdiabpoafennlabPkAG
import Derived.Test.YtdiabpoafennlabPkAE
/-! A deed: a return, of a player of numbers. -/
namespace Go.Proofs.Ytdiabpoafennlab.Nm
set_option linter.unusedVariables false
set_option maxRecDepth 20000
set_option linter.unusedSimpArgs false
open Go.RowKit Go.HeapKit Go.PlainOps

theorem PM.sizeLe {w : World} {base pb : Nat} {st : List Bool} {X : PX} {K : NP} {H R : Nat → Value} {s : PS} (h : PM w base pb st X K H R s) : base ≤ w.heap.size := Nat.le_trans h.low (Nat.le_of_lt (blk_lt h.blk))
theorem PM.sizeLe3 {w : World} {base pb : Nat} {st : List Bool} {X : PX} {K : NP} {H R : Nat → Value} {s : PS} (h : PM w base pb st X K H R s) : base ≤ w.heap.size := h.sizeLe
theorem PM.sizeLe2 {w : World} {base pb : Nat} {st : List Bool} {X : PX} {K : NP} {H R : Nat → Value} {s : PS} (h : PM w base pb st X K H R s) : base ≤ w.heap.size := h.sizeLe
/-- The parent's row gets one more view. -/
theorem row_told {w w4 : World} {base pb : Nat} {st : List Bool} {X : PX} {K : NP} {R : Nat → Value} {s : PS} {tk : List (Nat × List Nat)} {sp : Nat} {r : List Nat} {g cap v tb : Nat} (h : PM w base pb st X K R R s) (hx : s.tk = tk ++ [(sp, r)]) (hta : X.ta = some ⟨tb, 0, none⟩) (ho : w4.ownsRow base 3 1 (.slice (some ⟨g, 0, none⟩) (r.length + 1) cap) (r ++ [v]).length (nv (r ++ [v]))) (hk : Keeps (fun k => (R tk.length).ownBlock = some k) w w4) (hm : (R tk.length).ownBlock = some g ∨ w.heap.size ≤ g) :
    w4.frozen? ⟨tb, tk.length * 2 + 1, none⟩ = false ∧ w4.cell? ⟨tb, tk.length * 2 + 1, none⟩ = some (R tk.length) ∧ (∃ R', PM (w4.setCell ⟨tb, tk.length * 2 + 1, none⟩ (.slice (some ⟨g, 0, none⟩) (r.length + 1) cap)) base pb st X K R' R' { s with tk := tk ++ [(sp, r ++ [v])] }) ∧ Keeps (fun i => base ≤ i) w (w4.setCell ⟨tb, tk.length * 2 + 1, none⟩ (.slice (some ⟨g, 0, none⟩) (r.length + 1) cap)) := by
  have h1 := h.putRow (r' := r ++ [v]) (V := .slice (some ⟨g, 0, none⟩) (r.length + 1) cap) hx ho hk (fun b e => by
    simp [Value.ownBlock] at e
    subst e
    exact hm)
  obtain ⟨tb2, e2, hlo, -, -, -, c1, hf⟩ := h1.cur (tk := tk) (x := (sp, r ++ [v])) rfl
  have e3 : some (⟨tb, 0, none⟩ : Addr) = some ⟨tb2, 0, none⟩ := hta.symm.trans e2
  injection e3 with e3
  injection e3 with e3
  subst e3
  exact ⟨hf _, c1, ⟨_, h1.setHead hta⟩, ((hk.mono (T := fun i => base ≤ i) (fun i e _ => row_low (h.curRow hx) e)).andSet (x := ⟨tb, _, none⟩) (.inl hlo) _)⟩
set_option maxHeartbeats 3200000 in
theorem do_return (base pb at0 : Nat) (st : List Bool) (X : PX) (K0 : NP) (R : Nat → Value) (s : PS) (w : World) (tk : List (Nat × List Nat)) (psp : Nat) (pr : List Nat) (sp : Nat) (m0 : MS (List Int)) (pre : List Nat) (P : List Int) (loc : Int) (h : PM w base pb st X K0 R R (psOf s (tk ++ [(psp, pr)]) sp m0)) (hline : LineOk pre P m0) (hP : P.length ≤ 4096) (h0 : 0 < m0.row.length) (hr : m0.row.length ≤ 5000) (hn : tk.length ≤ 4500) (hmg : m0.mg.length + m0.row.length ≤ 100000) (hpr : pr.length ≤ 5000) (hvs : m0.vs.length ≤ 5000) (hsp : sp ≤ 100000) (hst : st.length ≤ 5000) (M : MS (List Int)) (hM : m0.all listK at0 = M) (hu : hasU K0.op = true) (hf : Fits P) :
    Calls Try.prog 46 #[.pointer (some ⟨pb, 0, none⟩), .int .i64 at0, .agg #[.int .i64 1, .int .i64 loc]] w fun e w' => e = .returned (.tuple #[]) ∧ (∃ X' R', PM w' base pb st X' K0 R' R' (retPS s tk psp pr sp st M)) ∧ Keeps (fun i => base ≤ i) w w' := by
  have hvl : M.vs.length = m0.vs.length := by
    rw [← hM]
    have : ∀ (f : Nat) (s : MS (List Int)), (MS.go listK at0 f s).vs.length = s.vs.length := by
      intro f
      induction f with
      | zero => intro s; rfl
      | succ f ih => intro s; rw [MS.go, ih]; simp [MS.one]
    exact this _ m0
  have HP : Hid (PM w base pb st X K0 R R (psOf s (tk ++ [(psp, pr)]) sp m0) ∧ LineOk pre P m0 ∧ m0.all listK at0 = M ∧ M.vs.length ≤ 5000) := ⟨h, hline, hM, by omega⟩
  clear h hline hM hvl
  have hb0 := blk_new w (.cells #[.int .i64 1, .int .i64 loc] 44) w.heap.size rfl
  have hkb := (Keeps.alloc None w (.cells #[.int .i64 1, .int .i64 loc] 44))
  go_enter Try.func46, Try.ntmps46
  go_upto_region 1 with fail
  have HA : Hid (PM (w.alloc (.cells #[.int .i64 1, .int .i64 loc] 44)) base pb st X K0 R R (psOf s (tk ++ [(psp, pr)]) sp m0) ∧ Keeps None w (w.alloc (.cells #[.int .i64 1, .int .i64 loc] 44))) := ⟨HP.out.1.more hkb, hkb⟩
  have d0 : (w.alloc (.cells #[.int .i64 1, .int .i64 loc] 44)).cell? ⟨w.heap.size, 0, none⟩ = some (.int .i64 1) := blk_cell hb0 0
  clear hb0 hkb
  go_wp2_with fail
  refine (merge_ok base pb at0 st X K0 R s _ (tk ++ [(psp, pr)]) sp m0 pre P HA.out.1 HA.out.1.sizeLe3 HP.out.2.1 hP h0 hr (by simp; omega) hmg hu hf).mono ?_
  rintro e w1 ⟨rfl, ⟨X1, R1, hM1⟩, hk⟩
  rw [HP.out.2.2.1] at hM1
  have HF : Hid (PM w1 base pb st X1 K0 R1 R1 (psOf s (tk ++ [(psp, pr)]) sp M) ∧ Keeps (fun i => base ≤ i) w w1) := ⟨hM1, (HA.out.2.mono (T := fun i => base ≤ i) (fun _ f _ => f.elim)).trans hk (fun i e _ => e)⟩
  clear hM1 hk HA
  go_wp2_with fail
  refine (end_ok base pb st X1 K0 R1 R1 (psOf s (tk ++ [(psp, pr)]) sp M) w1 (tk ++ [(psp, pr)]) (sp, M.row) HF.out.1 rfl (by simp; omega)).mono ?_
  rintro e w2 ⟨rfl, hM2, hk2⟩
  have HG : Hid (PM w2 base pb st X1 K0 R1 R1 (psOf s tk psp { M with row := pr }) ∧ Keeps (fun i => base ≤ i) w w2) := ⟨hM2, HF.out.2.trans hk2 (fun i e _ => by have := HF.out.1.low; omega)⟩
  have q4 : w2.cell? ⟨pb, 4, none⟩ = some (.slice X1.sa st.length X1.sc) := HG.out.1.c0.2.2.2.2.1
  clear hM2 hk2 HF
  have hre : retPS s tk psp pr sp st M = if st.getD sp false = true then psOf s tk psp { M with vs := M.vs ++ [[]], row := pr ++ [M.vs.length] } else psOf s tk psp { M with row := pr } := rfl
  by_cases hlt : sp < st.length
  · obtain ⟨b, off, v, hsa, -, hv, hc⟩ := HG.out.1.ar.seenS.at hlt
    obtain ⟨x, hx, rfl⟩ : ∃ x, st[sp]? = some x ∧ v = .bool x := by
      rw [bv', List.getElem?_map] at hv
      cases hk : st[sp]? with
      | none => rw [hk] at hv; cases hv
      | some x => rw [hk] at hv; exact ⟨x, rfl, (Option.some.inj hv).symm⟩
    have hg : st.getD sp false = x := by rw [List.getD_eq_getElem?_getD, hx]; rfl
    rw [hg] at hre
    rw [hsa] at q4
    have hi1 : (sp : Int) < (st.length : Int) := by omega
    clear hsa hv hx hg
    cases x with
    | false =>
      have he' : retPS s tk psp pr sp st M = psOf s tk psp { M with row := pr } := by rw [hre]; simp
      have HE : Hid (retPS s tk psp pr sp st M = psOf s tk psp { M with row := pr }) := he'
      clear he'
      clear hre
      go_wp2
      go_end0
      exact ⟨rfl, ⟨_, _, by rw [HE.out]; exact HG.out.1⟩, HG.out.2⟩
    | true =>
      have he' : retPS s tk psp pr sp st M = psOf s tk psp { M with vs := M.vs ++ [[]], row := pr ++ [M.vs.length] } := by rw [hre]; simp
      have HE : Hid (retPS s tk psp pr sp st M = psOf s tk psp { M with vs := M.vs ++ [[]], row := pr ++ [M.vs.length] }) := he'
      clear he'
      clear hre
      obtain ⟨tb, hta, -, -, -, -, -, -⟩ := HG.out.1.cur (tk := tk) (x := (psp, pr)) rfl
      have HTA : Hid (X1.ta = some ⟨tb, 0, none⟩) := hta
      clear hta
      go_wp2_with fail
      refine (current_ok base pb st X1 K0 R1 R1 _ w2 tb tk (psp, pr) HG.out.1 rfl HTA.out (by omega)).mono ?_
      rintro e w3 ⟨rfl, hk3⟩
      have HM3 : Hid (PM w3 base pb st X1 K0 R1 R1 (psOf s tk psp { M with row := pr }) ∧ Keeps (fun i => base ≤ i) w w3) := ⟨HG.out.1.more hk3, keeps_tr HG.out.2 hk3⟩
      clear hk3 HG q4 hc
      go_upto_region 17 with fail
      obtain ⟨tb2, e2, -, -, -, -, t1, -⟩ := HM3.out.1.cur (tk := tk) (x := (psp, pr)) rfl
      have e3 := HTA.out.symm.trans e2
      injection e3 with e3
      injection e3 with e3
      subst e3
      have hrow := HM3.out.1.curRow (tk := tk) (sp := psp) (r := pr) rfl
      obtain ⟨ra, rc, hRv⟩ := row_shape hrow
      rw [hRv] at t1
      have HRV : Hid (R1 tk.length = .slice ra pr.length rc) := hRv
      clear e2 hrow hRv
      refine wp_region_held_drew (S := (fun _ => True)) (by kernel_rfl) ?_ (fun hHeld => ?_)
      · (try dsimp only); try trivial
      refine wpAnyH_take (i := 0) (oi := { dst := some 117, op := Op.move (Operand.tmp 8), type := 101, pos := "play.go:59", after := #[], guard := none }) (v := ?_) rfl (by kernel_rfl) (by kernel_rfl) (by kernel_rfl) (fun _ _ _ h => h) (Or.inl ⟨by rfl, ?_⟩) (by assumption) ?_
      rotate_left
      · (intro wz hSw; (try dsimp only at hSw); go_simp; try with_reducible rfl)
      simp only [Act.put, List.setIfInBounds_toArray, List.set_cons_zero, List.set_cons_succ]
      refine wpAnyH_take (i := 1) (oi := { dst := some 118, op := Op.move (Operand.tmp 8), type := 101, pos := "play.go:59", after := #[], guard := none }) (v := ?_) rfl (by kernel_rfl) (by kernel_rfl) (by kernel_rfl) (fun _ _ _ h => h) (Or.inl ⟨by rfl, ?_⟩) (by assumption) ?_
      rotate_left
      · (intro wz hSw; (try dsimp only at hSw); go_simp; try with_reducible rfl)
      simp only [Act.put, List.setIfInBounds_toArray, List.set_cons_zero, List.set_cons_succ]
      refine wpAnyH_take (i := 2) (oi := { dst := some 119, op := Op.nilCheck (Operand.tmp 118), type := 0, pos := "play.go:59", after := #[{ on := 1, ground := Ground.data }], guard := none }) (v := ?_) rfl (by kernel_rfl) (by kernel_rfl) (by kernel_rfl) (fun _ _ _ h => h) (Or.inl ⟨by rfl, ?_⟩) (by assumption) ?_
      rotate_left
      · (intro wz hSw; (try dsimp only at hSw); go_simp; try with_reducible rfl)
      simp only [Act.put, List.setIfInBounds_toArray, List.set_cons_zero, List.set_cons_succ]
      refine wpAnyH_take (i := 3) (oi := { dst := some 120, op := Op.fieldAddr 89 (Operand.tmp 119) 1, type := 0, pos := "play.go:59", after := #[{ on := 2, ground := Ground.data }], guard := none }) (v := ?_) rfl (by kernel_rfl) (by kernel_rfl) (by kernel_rfl) (fun _ _ _ h => h) (Or.inl ⟨by rfl, ?_⟩) (by assumption) ?_
      rotate_left
      · (intro wz hSw; (try dsimp only at hSw); go_simp; try with_reducible rfl)
      simp only [Act.put, List.setIfInBounds_toArray, List.set_cons_zero, List.set_cons_succ]
      refine wpAnyH_take (i := 5) (oi := { dst := some 122, op := Op.move (Operand.tmp 0), type := 77, pos := "play.go:59", after := #[], guard := none }) (v := ?_) rfl (by kernel_rfl) (by kernel_rfl) (by kernel_rfl) (fun _ _ _ h => h) (Or.inl ⟨by rfl, ?_⟩) (by assumption) ?_
      rotate_left
      · (intro wz hSw; (try dsimp only at hSw); go_simp; try with_reducible rfl)
      simp only [Act.put, List.setIfInBounds_toArray, List.set_cons_zero, List.set_cons_succ]
      refine wpAnyH_ready (rs := [4, 6]) (by kernel_rfl) (by simp) ?_
      refine AllReadyH.cons (o := { dst := some 121, op := Op.load 24 (Operand.tmp 120), type := 24, pos := "play.go:59", after := #[{ on := 3, ground := Ground.data }], guard := none }) rfl (fun K hK => ?_) ?_
      · go_simp
        refine hK.out _ _ ?_ (fun hHeld2 => ?_)
        · (try dsimp only); try trivial
        clear hK K
        try simp only [Act.put, List.setIfInBounds_toArray, List.set_cons_zero, List.set_cons_succ]
        refine wpAnyH_ready (rs := [6]) (by kernel_rfl) (by simp) ?_
        refine AllReadyH.cons (o := { dst := some 123, op := Op.call { callee := Callee.value (Operand.func 45), args := #[Operand.tmp 122], argTypes := #[77] }, type := 3, pos := "play.go:59", after := #[{ on := 5, ground := Ground.data }], guard := none }) rfl (fun K hK => ?_) ?_
        · go_simp
          refine (newView_ok base pb st X1 K0 R1 R1 _ w3.drew (HM3.out.1.more (Keeps.drew None _)) ((HM3.out.1.more (Keeps.drew None _)).sizeLe3) (by have := HP.out.2.2.2; show M.vs.length ≤ 100000; omega)).mono ?_
          rintro _ w4 ⟨rfl, ⟨X4, hM4, hta4⟩, hk4⟩
          have HM4 : Hid (PM w4 base pb st X4 K0 R1 R1 (psOf s tk psp { M with vs := M.vs ++ [[]], row := pr }) ∧ X4.ta = some ⟨tb, 0, none⟩ ∧ Keeps (fun i => base ≤ i) w w4) := ⟨hM4, hta4.trans HTA.out, (HM3.out.2.andDrew).trans hk4 (fun i e _ => e)⟩
          clear hM4 hta4 hk4
          obtain ⟨tb3, e4, -, -, -, -, t4, -⟩ := HM4.out.1.cur (tk := tk) (x := (psp, pr)) rfl
          have e5 := HM4.out.2.1.symm.trans e4; injection e5 with e5; injection e5 with e5; subst e5
          have t4A := (Keeps.alloc None w4 (.cells #[.int .i64 M.vs.length] 3)).cell t4 (fun f => f)
          rw [HRV.out] at t4 t4A
          have hvl : (psOf s tk psp { M with row := pr }).vs.length = M.vs.length := rfl
          rw [hvl]
          refine hK.out _ _ ?_ (fun hHeld2 => ?_)
          · (try dsimp only); try trivial
          clear hK K
          try simp only [Act.put, List.setIfInBounds_toArray, List.set_cons_zero, List.set_cons_succ]
          refine wpAnyH_ready (rs := [7]) (by kernel_rfl) (by simp) ?_
          refine AllReadyH.cons (o := { dst := some 124, op := Op.buildSlice 24 1 #[(0, Operand.tmp 123)], type := 24, pos := "play.go:59", after := #[{ on := 6, ground := Ground.data }], guard := none }) rfl (fun K hK => ?_) ?_
          · go_simp
            refine hK.out _ _ ?_ (fun hHeld2 => ?_)
            · (try dsimp only); try trivial
            clear hK K
            try simp only [Act.put, List.setIfInBounds_toArray, List.set_cons_zero, List.set_cons_succ]
            refine wpAnyH_ready (rs := [8]) (by kernel_rfl) (by simp) ?_
            refine AllReadyH.cons (o := { dst := some 125, op := Op.call { callee := Callee.builtin Builtin.append, args := #[Operand.tmp 121, Operand.tmp 124], argTypes := #[24, 24] }, type := 24, pos := "play.go:59", after := #[{ on := 4, ground := Ground.data }, { on := 7, ground := Ground.data }, { on := 6, ground := Ground.chain }], guard := none }) rfl (fun K hK => ?_) ?_
            · (have hdA := HM4.out.1.more (Keeps.alloc None w4 (.cells #[.int .i64 M.vs.length] 3)); have hr1 := hdA.curRow (tk := tk) (sp := psp) (r := pr) rfl; rw [HRV.out] at hr1; obtain ⟨g, cap, w5, hr5, ho5, hk5, hm5⟩ := row1_more base (.slice ra pr.length rc) pr M.vs.length 24 w4.heap.size _ hr1 hdA.sizeLe3 (by omega) (blk_new w4 _ _ rfl); refine step_append_run rfl (.tmp 121) (.tmp 124) 24 24 rfl (by first | rfl | simp [Act.eval]) (by first | rfl | simp [Act.eval]) hr5 ?_)
              obtain ⟨f5, c5, ⟨R5, hP5⟩, hk6⟩ := row_told hdA rfl HM4.out.2.1 ho5 (by rw [HRV.out]; exact hk5) (by rw [HRV.out]; exact hm5)
              have HF : Hid (PM (w5.setCell ⟨tb, tk.length * 2 + 1, none⟩ (.slice (some ⟨g, 0, none⟩) (pr.length + 1) cap)) base pb st X4 K0 R5 R5 (retPS s tk psp pr sp st M) ∧ Keeps (fun i => base ≤ i) w (w5.setCell ⟨tb, tk.length * 2 + 1, none⟩ (.slice (some ⟨g, 0, none⟩) (pr.length + 1) cap))) := ⟨by rw [HE.out]; exact hP5, (HM4.out.2.2.andAlloc _).trans hk6 (fun i e _ => e)⟩
              rw [HRV.out] at c5
              refine hK.out _ _ ?_ (fun hHeld2 => ?_)
              · (try dsimp only); try trivial
              clear hK K
              try simp only [Act.put, List.setIfInBounds_toArray, List.set_cons_zero, List.set_cons_succ]
              refine wpAnyH_take (i := 9) (oi := { dst := some 126, op := Op.nilCheck (Operand.tmp 117), type := 0, pos := "play.go:59", after := #[{ on := 0, ground := Ground.data }, { on := 0, ground := Ground.phase }, { on := 1, ground := Ground.phase }, { on := 2, ground := Ground.phase }, { on := 3, ground := Ground.phase }, { on := 4, ground := Ground.phase }, { on := 5, ground := Ground.phase }, { on := 6, ground := Ground.phase }, { on := 7, ground := Ground.phase }, { on := 8, ground := Ground.phase }], guard := none }) (v := ?_) rfl (by kernel_rfl) (by kernel_rfl) (by kernel_rfl) (fun _ _ _ h => h) (Or.inl ⟨by rfl, ?_⟩) (by assumption) ?_
              rotate_left
              · (intro wz hSw; (try dsimp only at hSw); go_simp; try with_reducible rfl)
              simp only [Act.put, List.setIfInBounds_toArray, List.set_cons_zero, List.set_cons_succ]
              refine wpAnyH_take (i := 10) (oi := { dst := some 127, op := Op.fieldAddr 89 (Operand.tmp 126) 1, type := 0, pos := "play.go:59", after := #[{ on := 9, ground := Ground.data }, { on := 0, ground := Ground.phase }, { on := 1, ground := Ground.phase }, { on := 2, ground := Ground.phase }, { on := 3, ground := Ground.phase }, { on := 4, ground := Ground.phase }, { on := 5, ground := Ground.phase }, { on := 6, ground := Ground.phase }, { on := 7, ground := Ground.phase }, { on := 8, ground := Ground.phase }], guard := none }) (v := ?_) rfl (by kernel_rfl) (by kernel_rfl) (by kernel_rfl) (fun _ _ _ h => h) (Or.inl ⟨by rfl, ?_⟩) (by assumption) ?_
              rotate_left
              · (intro wz hSw; (try dsimp only at hSw); go_simp; try with_reducible rfl)
              simp only [Act.put, List.setIfInBounds_toArray, List.set_cons_zero, List.set_cons_succ]
              refine wpAnyH_ready (rs := [11]) (by kernel_rfl) (by simp) ?_
              refine AllReadyH.cons (o := { dst := none, op := Op.store 24 (Operand.tmp 127) (Operand.tmp 125), type := 0, pos := "play.go:59", after := #[{ on := 10, ground := Ground.data }, { on := 8, ground := Ground.data }, { on := 8, ground := Ground.chain }, { on := 0, ground := Ground.phase }, { on := 1, ground := Ground.phase }, { on := 2, ground := Ground.phase }, { on := 3, ground := Ground.phase }, { on := 4, ground := Ground.phase }, { on := 5, ground := Ground.phase }, { on := 6, ground := Ground.phase }, { on := 7, ground := Ground.phase }, { on := 8, ground := Ground.phase }], guard := none }) rfl (fun K hK => ?_) ?_
              · go_simp
                refine hK.out _ _ ?_ (fun hHeld2 => ?_)
                · (try dsimp only); try trivial
                clear hK K
                try simp only [Act.put, List.setIfInBounds_toArray, List.set_cons_zero, List.set_cons_succ]
                refine wpAnyH_done (by kernel_rfl) ?_ _
                go_wp2_with fail
                go_end0
                exact ⟨rfl, ⟨_, _, HF.out.1⟩, HF.out.2⟩
              exact AllReadyH.nil
            exact AllReadyH.nil
          exact AllReadyH.nil
        exact AllReadyH.nil
      refine AllReadyH.cons (o := { dst := some 123, op := Op.call { callee := Callee.value (Operand.func 45), args := #[Operand.tmp 122], argTypes := #[77] }, type := 3, pos := "play.go:59", after := #[{ on := 5, ground := Ground.data }], guard := none }) rfl (fun K hK => ?_) ?_
      · go_simp
        refine (newView_ok base pb st X1 K0 R1 R1 _ w3.drew (HM3.out.1.more (Keeps.drew None _)) ((HM3.out.1.more (Keeps.drew None _)).sizeLe3) (by have := HP.out.2.2.2; show M.vs.length ≤ 100000; omega)).mono ?_
        rintro _ w4 ⟨rfl, ⟨X4, hM4, hta4⟩, hk4⟩
        have HM4 : Hid (PM w4 base pb st X4 K0 R1 R1 (psOf s tk psp { M with vs := M.vs ++ [[]], row := pr }) ∧ X4.ta = some ⟨tb, 0, none⟩ ∧ Keeps (fun i => base ≤ i) w w4) := ⟨hM4, hta4.trans HTA.out, (HM3.out.2.andDrew).trans hk4 (fun i e _ => e)⟩
        clear hM4 hta4 hk4
        obtain ⟨tb3, e4, -, -, -, -, t4, -⟩ := HM4.out.1.cur (tk := tk) (x := (psp, pr)) rfl
        have e5 := HM4.out.2.1.symm.trans e4; injection e5 with e5; injection e5 with e5; subst e5
        have t4A := (Keeps.alloc None w4 (.cells #[.int .i64 M.vs.length] 3)).cell t4 (fun f => f)
        rw [HRV.out] at t4 t4A
        have hvl : (psOf s tk psp { M with row := pr }).vs.length = M.vs.length := rfl
        rw [hvl]
        refine hK.out _ _ ?_ (fun hHeld2 => ?_)
        · (try dsimp only); try trivial
        clear hK K
        try simp only [Act.put, List.setIfInBounds_toArray, List.set_cons_zero, List.set_cons_succ]
        refine wpAnyH_ready (rs := [4, 7]) (by kernel_rfl) (by simp) ?_
        refine AllReadyH.cons (o := { dst := some 121, op := Op.load 24 (Operand.tmp 120), type := 24, pos := "play.go:59", after := #[{ on := 3, ground := Ground.data }], guard := none }) rfl (fun K hK => ?_) ?_
        · go_simp
          refine hK.out _ _ ?_ (fun hHeld2 => ?_)
          · (try dsimp only); try trivial
          clear hK K
          try simp only [Act.put, List.setIfInBounds_toArray, List.set_cons_zero, List.set_cons_succ]
          refine wpAnyH_ready (rs := [7]) (by kernel_rfl) (by simp) ?_
          refine AllReadyH.cons (o := { dst := some 124, op := Op.buildSlice 24 1 #[(0, Operand.tmp 123)], type := 24, pos := "play.go:59", after := #[{ on := 6, ground := Ground.data }], guard := none }) rfl (fun K hK => ?_) ?_
          · go_simp
            refine hK.out _ _ ?_ (fun hHeld2 => ?_)
            · (try dsimp only); try trivial
            clear hK K
            try simp only [Act.put, List.setIfInBounds_toArray, List.set_cons_zero, List.set_cons_succ]
            refine wpAnyH_ready (rs := [8]) (by kernel_rfl) (by simp) ?_
            refine AllReadyH.cons (o := { dst := some 125, op := Op.call { callee := Callee.builtin Builtin.append, args := #[Operand.tmp 121, Operand.tmp 124], argTypes := #[24, 24] }, type := 24, pos := "play.go:59", after := #[{ on := 4, ground := Ground.data }, { on := 7, ground := Ground.data }, { on := 6, ground := Ground.chain }], guard := none }) rfl (fun K hK => ?_) ?_
            · (have hdA := HM4.out.1.more (Keeps.alloc None w4 (.cells #[.int .i64 M.vs.length] 3)); have hr1 := hdA.curRow (tk := tk) (sp := psp) (r := pr) rfl; rw [HRV.out] at hr1; obtain ⟨g, cap, w5, hr5, ho5, hk5, hm5⟩ := row1_more base (.slice ra pr.length rc) pr M.vs.length 24 w4.heap.size _ hr1 hdA.sizeLe3 (by omega) (blk_new w4 _ _ rfl); refine step_append_run rfl (.tmp 121) (.tmp 124) 24 24 rfl (by first | rfl | simp [Act.eval]) (by first | rfl | simp [Act.eval]) hr5 ?_)
              obtain ⟨f5, c5, ⟨R5, hP5⟩, hk6⟩ := row_told hdA rfl HM4.out.2.1 ho5 (by rw [HRV.out]; exact hk5) (by rw [HRV.out]; exact hm5)
              have HF : Hid (PM (w5.setCell ⟨tb, tk.length * 2 + 1, none⟩ (.slice (some ⟨g, 0, none⟩) (pr.length + 1) cap)) base pb st X4 K0 R5 R5 (retPS s tk psp pr sp st M) ∧ Keeps (fun i => base ≤ i) w (w5.setCell ⟨tb, tk.length * 2 + 1, none⟩ (.slice (some ⟨g, 0, none⟩) (pr.length + 1) cap))) := ⟨by rw [HE.out]; exact hP5, (HM4.out.2.2.andAlloc _).trans hk6 (fun i e _ => e)⟩
              rw [HRV.out] at c5
              refine hK.out _ _ ?_ (fun hHeld2 => ?_)
              · (try dsimp only); try trivial
              clear hK K
              try simp only [Act.put, List.setIfInBounds_toArray, List.set_cons_zero, List.set_cons_succ]
              refine wpAnyH_take (i := 9) (oi := { dst := some 126, op := Op.nilCheck (Operand.tmp 117), type := 0, pos := "play.go:59", after := #[{ on := 0, ground := Ground.data }, { on := 0, ground := Ground.phase }, { on := 1, ground := Ground.phase }, { on := 2, ground := Ground.phase }, { on := 3, ground := Ground.phase }, { on := 4, ground := Ground.phase }, { on := 5, ground := Ground.phase }, { on := 6, ground := Ground.phase }, { on := 7, ground := Ground.phase }, { on := 8, ground := Ground.phase }], guard := none }) (v := ?_) rfl (by kernel_rfl) (by kernel_rfl) (by kernel_rfl) (fun _ _ _ h => h) (Or.inl ⟨by rfl, ?_⟩) (by assumption) ?_
              rotate_left
              · (intro wz hSw; (try dsimp only at hSw); go_simp; try with_reducible rfl)
              simp only [Act.put, List.setIfInBounds_toArray, List.set_cons_zero, List.set_cons_succ]
              refine wpAnyH_take (i := 10) (oi := { dst := some 127, op := Op.fieldAddr 89 (Operand.tmp 126) 1, type := 0, pos := "play.go:59", after := #[{ on := 9, ground := Ground.data }, { on := 0, ground := Ground.phase }, { on := 1, ground := Ground.phase }, { on := 2, ground := Ground.phase }, { on := 3, ground := Ground.phase }, { on := 4, ground := Ground.phase }, { on := 5, ground := Ground.phase }, { on := 6, ground := Ground.phase }, { on := 7, ground := Ground.phase }, { on := 8, ground := Ground.phase }], guard := none }) (v := ?_) rfl (by kernel_rfl) (by kernel_rfl) (by kernel_rfl) (fun _ _ _ h => h) (Or.inl ⟨by rfl, ?_⟩) (by assumption) ?_
              rotate_left
              · (intro wz hSw; (try dsimp only at hSw); go_simp; try with_reducible rfl)
              simp only [Act.put, List.setIfInBounds_toArray, List.set_cons_zero, List.set_cons_succ]
              refine wpAnyH_ready (rs := [11]) (by kernel_rfl) (by simp) ?_
              refine AllReadyH.cons (o := { dst := none, op := Op.store 24 (Operand.tmp 127) (Operand.tmp 125), type := 0, pos := "play.go:59", after := #[{ on := 10, ground := Ground.data }, { on := 8, ground := Ground.data }, { on := 8, ground := Ground.chain }, { on := 0, ground := Ground.phase }, { on := 1, ground := Ground.phase }, { on := 2, ground := Ground.phase }, { on := 3, ground := Ground.phase }, { on := 4, ground := Ground.phase }, { on := 5, ground := Ground.phase }, { on := 6, ground := Ground.phase }, { on := 7, ground := Ground.phase }, { on := 8, ground := Ground.phase }], guard := none }) rfl (fun K hK => ?_) ?_
              · go_simp
                refine hK.out _ _ ?_ (fun hHeld2 => ?_)
                · (try dsimp only); try trivial
                clear hK K
                try simp only [Act.put, List.setIfInBounds_toArray, List.set_cons_zero, List.set_cons_succ]
                refine wpAnyH_done (by kernel_rfl) ?_ _
                go_wp2_with fail
                go_end0
                exact ⟨rfl, ⟨_, _, HF.out.1⟩, HF.out.2⟩
              exact AllReadyH.nil
            exact AllReadyH.nil
          exact AllReadyH.nil
        refine AllReadyH.cons (o := { dst := some 124, op := Op.buildSlice 24 1 #[(0, Operand.tmp 123)], type := 24, pos := "play.go:59", after := #[{ on := 6, ground := Ground.data }], guard := none }) rfl (fun K hK => ?_) ?_
        · go_simp
          refine hK.out _ _ ?_ (fun hHeld2 => ?_)
          · (try dsimp only); try trivial
          clear hK K
          try simp only [Act.put, List.setIfInBounds_toArray, List.set_cons_zero, List.set_cons_succ]
          refine wpAnyH_ready (rs := [4]) (by kernel_rfl) (by simp) ?_
          refine AllReadyH.cons (o := { dst := some 121, op := Op.load 24 (Operand.tmp 120), type := 24, pos := "play.go:59", after := #[{ on := 3, ground := Ground.data }], guard := none }) rfl (fun K hK => ?_) ?_
          · go_simp
            refine hK.out _ _ ?_ (fun hHeld2 => ?_)
            · (try dsimp only); try trivial
            clear hK K
            try simp only [Act.put, List.setIfInBounds_toArray, List.set_cons_zero, List.set_cons_succ]
            refine wpAnyH_ready (rs := [8]) (by kernel_rfl) (by simp) ?_
            refine AllReadyH.cons (o := { dst := some 125, op := Op.call { callee := Callee.builtin Builtin.append, args := #[Operand.tmp 121, Operand.tmp 124], argTypes := #[24, 24] }, type := 24, pos := "play.go:59", after := #[{ on := 4, ground := Ground.data }, { on := 7, ground := Ground.data }, { on := 6, ground := Ground.chain }], guard := none }) rfl (fun K hK => ?_) ?_
            · (have hdA := HM4.out.1.more (Keeps.alloc None w4 (.cells #[.int .i64 M.vs.length] 3)); have hr1 := hdA.curRow (tk := tk) (sp := psp) (r := pr) rfl; rw [HRV.out] at hr1; obtain ⟨g, cap, w5, hr5, ho5, hk5, hm5⟩ := row1_more base (.slice ra pr.length rc) pr M.vs.length 24 w4.heap.size _ hr1 hdA.sizeLe3 (by omega) (blk_new w4 _ _ rfl); refine step_append_run rfl (.tmp 121) (.tmp 124) 24 24 rfl (by first | rfl | simp [Act.eval]) (by first | rfl | simp [Act.eval]) hr5 ?_)
              obtain ⟨f5, c5, ⟨R5, hP5⟩, hk6⟩ := row_told hdA rfl HM4.out.2.1 ho5 (by rw [HRV.out]; exact hk5) (by rw [HRV.out]; exact hm5)
              have HF : Hid (PM (w5.setCell ⟨tb, tk.length * 2 + 1, none⟩ (.slice (some ⟨g, 0, none⟩) (pr.length + 1) cap)) base pb st X4 K0 R5 R5 (retPS s tk psp pr sp st M) ∧ Keeps (fun i => base ≤ i) w (w5.setCell ⟨tb, tk.length * 2 + 1, none⟩ (.slice (some ⟨g, 0, none⟩) (pr.length + 1) cap))) := ⟨by rw [HE.out]; exact hP5, (HM4.out.2.2.andAlloc _).trans hk6 (fun i e _ => e)⟩
              rw [HRV.out] at c5
              refine hK.out _ _ ?_ (fun hHeld2 => ?_)
              · (try dsimp only); try trivial
              clear hK K
              try simp only [Act.put, List.setIfInBounds_toArray, List.set_cons_zero, List.set_cons_succ]
              refine wpAnyH_take (i := 9) (oi := { dst := some 126, op := Op.nilCheck (Operand.tmp 117), type := 0, pos := "play.go:59", after := #[{ on := 0, ground := Ground.data }, { on := 0, ground := Ground.phase }, { on := 1, ground := Ground.phase }, { on := 2, ground := Ground.phase }, { on := 3, ground := Ground.phase }, { on := 4, ground := Ground.phase }, { on := 5, ground := Ground.phase }, { on := 6, ground := Ground.phase }, { on := 7, ground := Ground.phase }, { on := 8, ground := Ground.phase }], guard := none }) (v := ?_) rfl (by kernel_rfl) (by kernel_rfl) (by kernel_rfl) (fun _ _ _ h => h) (Or.inl ⟨by rfl, ?_⟩) (by assumption) ?_
              rotate_left
              · (intro wz hSw; (try dsimp only at hSw); go_simp; try with_reducible rfl)
              simp only [Act.put, List.setIfInBounds_toArray, List.set_cons_zero, List.set_cons_succ]
              refine wpAnyH_take (i := 10) (oi := { dst := some 127, op := Op.fieldAddr 89 (Operand.tmp 126) 1, type := 0, pos := "play.go:59", after := #[{ on := 9, ground := Ground.data }, { on := 0, ground := Ground.phase }, { on := 1, ground := Ground.phase }, { on := 2, ground := Ground.phase }, { on := 3, ground := Ground.phase }, { on := 4, ground := Ground.phase }, { on := 5, ground := Ground.phase }, { on := 6, ground := Ground.phase }, { on := 7, ground := Ground.phase }, { on := 8, ground := Ground.phase }], guard := none }) (v := ?_) rfl (by kernel_rfl) (by kernel_rfl) (by kernel_rfl) (fun _ _ _ h => h) (Or.inl ⟨by rfl, ?_⟩) (by assumption) ?_
              rotate_left
              · (intro wz hSw; (try dsimp only at hSw); go_simp; try with_reducible rfl)
              simp only [Act.put, List.setIfInBounds_toArray, List.set_cons_zero, List.set_cons_succ]
              refine wpAnyH_ready (rs := [11]) (by kernel_rfl) (by simp) ?_
              refine AllReadyH.cons (o := { dst := none, op := Op.store 24 (Operand.tmp 127) (Operand.tmp 125), type := 0, pos := "play.go:59", after := #[{ on := 10, ground := Ground.data }, { on := 8, ground := Ground.data }, { on := 8, ground := Ground.chain }, { on := 0, ground := Ground.phase }, { on := 1, ground := Ground.phase }, { on := 2, ground := Ground.phase }, { on := 3, ground := Ground.phase }, { on := 4, ground := Ground.phase }, { on := 5, ground := Ground.phase }, { on := 6, ground := Ground.phase }, { on := 7, ground := Ground.phase }, { on := 8, ground := Ground.phase }], guard := none }) rfl (fun K hK => ?_) ?_
              · go_simp
                refine hK.out _ _ ?_ (fun hHeld2 => ?_)
                · (try dsimp only); try trivial
                clear hK K
                try simp only [Act.put, List.setIfInBounds_toArray, List.set_cons_zero, List.set_cons_succ]
                refine wpAnyH_done (by kernel_rfl) ?_ _
                go_wp2_with fail
                go_end0
                exact ⟨rfl, ⟨_, _, HF.out.1⟩, HF.out.2⟩
              exact AllReadyH.nil
            exact AllReadyH.nil
          exact AllReadyH.nil
        exact AllReadyH.nil
      exact AllReadyH.nil
  · have hg : st.getD sp false = false := by rw [List.getD_eq_getElem?_getD, List.getElem?_eq_none (by omega)]; rfl
    rw [hg] at hre
    have he' : retPS s tk psp pr sp st M = psOf s tk psp { M with row := pr } := by rw [hre]; simp
    have HE : Hid (retPS s tk psp pr sp st M = psOf s tk psp { M with row := pr }) := he'
    clear he'
    have hi1 : ¬ (sp : Int) < (st.length : Int) := by omega
    clear hre hg
    go_wp2
    go_end0
    exact ⟨rfl, ⟨_, _, by rw [HE.out]; exact HG.out.1⟩, HG.out.2⟩
end Go.Proofs.Ytdiabpoafennlab.Nm
/-! A deed: something is put, of a player of numbers. -/
namespace Go.Proofs.Ytdiabpoafennlab.Nm
set_option linter.unusedVariables false
set_option maxRecDepth 20000
set_option linter.unusedSimpArgs false
open Go.RowKit Go.HeapKit Go.PlainOps

set_option maxHeartbeats 3200000 in
theorem do_write (base pb at0 : Nat) (st : List Bool) (X : PX) (K0 : NP) (R : Nat → Value) (s : PS) (w : World) (tk : List (Nat × List Nat)) (sp : Nat) (r : List Nat) (loc : Int) (h : PM w base pb st X K0 R R s) (hx : s.tk = tk ++ [(sp, r)]) (hr : r ≠ []) (hn : tk.length ≤ 100000) (hn2 : r.length ≤ 100000) (hb : base ≤ w.heap.size) (a : Nat) (ha : a = r.getLastD 0) (l : List Int) (hll : s.vs.getD a [] = l) (hv : a < s.vs.length) (hl : l.length ≤ 100000) (hu : hasU K0.op = true) :
    Calls Try.prog 46 #[.pointer (some ⟨pb, 0, none⟩), .int .i64 at0, .agg #[.int .i64 4, .int .i64 loc]] w fun e w' => e = .returned (.tuple #[]) ∧ (∃ X' R', PM w' base pb st X' K0 R' R' { s with vs := s.vs.set a (l ++ [loc]) }) ∧ Keeps (fun i => base ≤ i) w w' := by
  have HP : Hid (PM w base pb st X K0 R R s ∧ s.tk = tk ++ [(sp, r)] ∧ r ≠ [] ∧ base ≤ w.heap.size ∧ a < s.vs.length ∧ s.vs.getD a [] = l ∧ a = r.getLastD 0) := ⟨h, hx, hr, hb, hv, hll, ha⟩
  clear h hx hr hb hv hll ha
  have hb0 := blk_new w (.cells #[.int .i64 4, .int .i64 loc] 44) w.heap.size rfl
  have hkb := (Keeps.alloc None w (.cells #[.int .i64 4, .int .i64 loc] 44))
  obtain ⟨db, hdb⟩ : ∃ db, db = w.heap.size := ⟨_, rfl⟩
  rw [← hdb] at hb0
  go_enter Try.func46, Try.ntmps46
  go_upto_region 1 with fail
  rw [← hdb]
  have HDB : Hid (db = w.heap.size) := hdb
  clear hdb
  generalize w.alloc (.cells #[.int .i64 4, .int .i64 loc] 44) = wa at *
  have HA : Hid (PM wa base pb st X K0 R R s ∧ Keeps None w wa ∧ wa.heap[db]? = some (.cells #[.int .i64 4, .int .i64 loc] 44 (0, 0)) ∧ base ≤ wa.heap.size) := ⟨HP.out.1.more hkb, hkb, hb0, Nat.le_trans HP.out.2.2.2.1 hkb.size⟩
  have d0 : wa.cell? ⟨db, 0, none⟩ = some (.int .i64 4) := blk_cell hb0 0
  clear hb0 hkb
  go_wp2_with fail
  refine (hand_ok base pb st X K0 R s wa tk sp r HA.out.1 HP.out.2.1 HP.out.2.2.1 hn hn2).mono ?_
  rintro e w1 ⟨rfl, hk1⟩
  have HM : Hid (PM w1 base pb st X K0 R R s ∧ Keeps (fun i => base ≤ i) w w1 ∧ base ≤ w1.heap.size) := ⟨HA.out.1.more hk1, (keeps_tr HA.out.2.1 hk1).mono (fun _ f _ => f.elim), Nat.le_trans HA.out.2.2.2 hk1.size⟩
  have d1 : w1.cell? ⟨db, 1, none⟩ = some (.int .i64 loc) := blk_cell (blk_kept HA.out.2.2.1 hk1 (fun f => f)) 1
  rw [← HP.out.2.2.2.2.2.2]
  have HD : Hid (w1.heap[db]? = some (.cells #[.int .i64 4, .int .i64 loc] 44 (0, 0))) := blk_kept HA.out.2.2.1 hk1 (fun f => f)
  clear hk1 d0 HA
  go_upto_region 4 with fail
  obtain ⟨vb, hva, hvc, v1, hf, hvl⟩ := HM.out.1.viewAt HP.out.2.2.2.2.1
  obtain ⟨-, q1, -, -, -, -, q6, -, -, -, -⟩ := HM.out.1.c0
  rw [hva] at q6
  rw [HP.out.2.2.2.2.2.1] at v1
  obtain ⟨Va, hVa⟩ : ∃ V, V = fV K0 l := ⟨_, rfl⟩
  rw [← hVa] at v1
  obtain ⟨V, hV⟩ : ∃ V, V = fV K0 (l ++ [loc]) := ⟨_, rfl⟩
  have HV : Hid (workV K0.op Va loc = V) := by rw [hVa, hV]; exact fV_put K0 l loc
  have f1 := hf a
  have z1 : (a : Int) < (s.vs.length : Int) := by have := HP.out.2.2.2.2.1; omega
  have HB4 : Hid (w1.drew.cell? ⟨K0.pa, 0, none⟩ = some (.int .i64 K0.op) ∧ hasU K0.op = true) := ⟨(Keeps.drew None w1).cell HM.out.1.ar.b1 (fun f => f), hu⟩
  have hP5 := (HM.out.1.more (Keeps.drew None w1)).putView (v := a) (l ++ [loc]) hva
  rw [← hV] at hP5
  have HF : Hid (PM (w1.drew.setCell ⟨vb, a, none⟩ (.int .i64 V)) base pb st X K0 R R { s with vs := s.vs.set a (l ++ [loc]) } ∧ Keeps (fun i => base ≤ i) w (w1.drew.setCell ⟨vb, a, none⟩ (.int .i64 V))) := ⟨hP5, (HM.out.2.1.andDrew).andSet (x := ⟨vb, a, none⟩) (.inl hvl) _⟩
  have t6 : (w1.drew.setCell ⟨vb, a, none⟩ (.int .i64 V)).cell? ⟨pb, 6, none⟩ = some (.slice (some ⟨vb, 0, none⟩) s.vs.length X.vc) := by
    have := hP5.c0.2.2.2.2.2.2.1
    rw [hva] at this
    rw [this]
    show some (Value.slice _ (s.vs.set a _).length _) = _
    rw [List.length_set]
  have t1 := hP5.c0.2.1
  have HDV : Hid (db ≠ vb) := by
    intro e
    have hd := HD.out
    rw [e] at hd
    obtain ⟨cur, hc⟩ := own_block HM.out.1.vw.views (g := vb) (by rw [hva]; rfl)
    rw [hd] at hc
    injection hc with hc
    injection hc with _ hc
    exact absurd hc (by decide)
  have y6 : (w1.drew.setCell ⟨vb, a, none⟩ (.int .i64 V)).cell? ⟨db, 1, none⟩ = some (.int .i64 loc) := (Keeps.setCell (S := (· = vb)) w1.drew (a := ⟨vb, a, none⟩) rfl (.int .i64 V)).cell d1 (fun e => HDV.out e)
  clear hP5 hva hvc hf hvl hVa hV HP HD hu
  refine wp_region_held_drew (S := (fun w' => w'.cell? ⟨pb, 6, none⟩ = some (.slice (some ⟨vb, 0, none⟩) s.vs.length X.vc) ∧ w'.cell? ⟨pb, 1, none⟩ = some (.func (.func 49) #[] #[.pointer (some ⟨K0.pa, 0, none⟩)]) ∧ w'.cell? ⟨db, 1, none⟩ = some (.int .i64 loc))) (by kernel_rfl) ?_ (fun hHeld => ?_)
  · (try dsimp only); first | exact ⟨q6, q1, d1⟩ | exact ⟨t6, t1, y6⟩
  refine wpAnyH_take (i := 0) (oi := { dst := some 15, op := Op.move (Operand.tmp 0), type := 77, pos := "play.go:47", after := #[], guard := none }) (v := ?_) rfl (by kernel_rfl) (by kernel_rfl) (by kernel_rfl) (fun _ _ _ h => h) (Or.inl ⟨by rfl, ?_⟩) (by assumption) ?_
  rotate_left
  · (intro wz hSw; (try dsimp only at hSw); go_simp; try with_reducible rfl)
  simp only [Act.put, List.setIfInBounds_toArray, List.set_cons_zero, List.set_cons_succ]
  refine wpAnyH_take (i := 1) (oi := { dst := some 16, op := Op.nilCheck (Operand.tmp 15), type := 0, pos := "play.go:47", after := #[{ on := 0, ground := Ground.data }], guard := none }) (v := ?_) rfl (by kernel_rfl) (by kernel_rfl) (by kernel_rfl) (fun _ _ _ h => h) (Or.inl ⟨by rfl, ?_⟩) (by assumption) ?_
  rotate_left
  · (intro wz hSw; (try dsimp only at hSw); go_simp; try with_reducible rfl)
  simp only [Act.put, List.setIfInBounds_toArray, List.set_cons_zero, List.set_cons_succ]
  refine wpAnyH_take (i := 2) (oi := { dst := some 17, op := Op.fieldAddr 76 (Operand.tmp 16) 3, type := 0, pos := "play.go:47", after := #[{ on := 1, ground := Ground.data }], guard := none }) (v := ?_) rfl (by kernel_rfl) (by kernel_rfl) (by kernel_rfl) (fun _ _ _ h => h) (Or.inl ⟨by rfl, ?_⟩) (by assumption) ?_
  rotate_left
  · (intro wz hSw; (try dsimp only at hSw); go_simp; try with_reducible rfl)
  simp only [Act.put, List.setIfInBounds_toArray, List.set_cons_zero, List.set_cons_succ]
  refine wpAnyH_take (i := 3) (oi := { dst := some 18, op := Op.load 28 (Operand.tmp 17), type := 28, pos := "play.go:47", after := #[{ on := 2, ground := Ground.data }], guard := none }) (v := ?_) rfl (by kernel_rfl) (by kernel_rfl) (by kernel_rfl) (fun _ _ _ h => h) (Or.inl ⟨by rfl, ?_⟩) (by assumption) ?_
  rotate_left
  · (intro wz hSw; (try dsimp only at hSw); go_simp; try with_reducible rfl)
  simp only [Act.put, List.setIfInBounds_toArray, List.set_cons_zero, List.set_cons_succ]
  refine wpAnyH_take (i := 4) (oi := { dst := some 19, op := Op.move (Operand.tmp 6), type := 3, pos := "play.go:47", after := #[], guard := none }) (v := ?_) rfl (by kernel_rfl) (by kernel_rfl) (by kernel_rfl) (fun _ _ _ h => h) (Or.inl ⟨by rfl, ?_⟩) (by assumption) ?_
  rotate_left
  · (intro wz hSw; (try dsimp only at hSw); go_simp; try with_reducible rfl)
  simp only [Act.put, List.setIfInBounds_toArray, List.set_cons_zero, List.set_cons_succ]
  refine wpAnyH_take (i := 5) (oi := { dst := some 20, op := Op.move (Operand.tmp 0), type := 77, pos := "play.go:47", after := #[], guard := none }) (v := ?_) rfl (by kernel_rfl) (by kernel_rfl) (by kernel_rfl) (fun _ _ _ h => h) (Or.inl ⟨by rfl, ?_⟩) (by assumption) ?_
  rotate_left
  · (intro wz hSw; (try dsimp only at hSw); go_simp; try with_reducible rfl)
  simp only [Act.put, List.setIfInBounds_toArray, List.set_cons_zero, List.set_cons_succ]
  refine wpAnyH_take (i := 6) (oi := { dst := some 21, op := Op.nilCheck (Operand.tmp 20), type := 0, pos := "play.go:47", after := #[{ on := 5, ground := Ground.data }], guard := none }) (v := ?_) rfl (by kernel_rfl) (by kernel_rfl) (by kernel_rfl) (fun _ _ _ h => h) (Or.inl ⟨by rfl, ?_⟩) (by assumption) ?_
  rotate_left
  · (intro wz hSw; (try dsimp only at hSw); go_simp; try with_reducible rfl)
  simp only [Act.put, List.setIfInBounds_toArray, List.set_cons_zero, List.set_cons_succ]
  refine wpAnyH_take (i := 7) (oi := { dst := some 22, op := Op.fieldAddr 76 (Operand.tmp 21) 0, type := 0, pos := "play.go:47", after := #[{ on := 6, ground := Ground.data }], guard := none }) (v := ?_) rfl (by kernel_rfl) (by kernel_rfl) (by kernel_rfl) (fun _ _ _ h => h) (Or.inl ⟨by rfl, ?_⟩) (by assumption) ?_
  rotate_left
  · (intro wz hSw; (try dsimp only at hSw); go_simp; try with_reducible rfl)
  simp only [Act.put, List.setIfInBounds_toArray, List.set_cons_zero, List.set_cons_succ]
  refine wpAnyH_take (i := 8) (oi := { dst := some 23, op := Op.fieldAddr 74 (Operand.tmp 22) 1, type := 0, pos := "play.go:47", after := #[{ on := 7, ground := Ground.data }], guard := none }) (v := ?_) rfl (by kernel_rfl) (by kernel_rfl) (by kernel_rfl) (fun _ _ _ h => h) (Or.inl ⟨by rfl, ?_⟩) (by assumption) ?_
  rotate_left
  · (intro wz hSw; (try dsimp only at hSw); go_simp; try with_reducible rfl)
  simp only [Act.put, List.setIfInBounds_toArray, List.set_cons_zero, List.set_cons_succ]
  refine wpAnyH_take (i := 9) (oi := { dst := some 24, op := Op.load 71 (Operand.tmp 23), type := 71, pos := "play.go:47", after := #[{ on := 8, ground := Ground.data }], guard := none }) (v := ?_) rfl (by kernel_rfl) (by kernel_rfl) (by kernel_rfl) (fun _ _ _ h => h) (Or.inl ⟨by rfl, ?_⟩) (by assumption) ?_
  rotate_left
  · (intro wz hSw; (try dsimp only at hSw); go_simp; try with_reducible rfl)
  simp only [Act.put, List.setIfInBounds_toArray, List.set_cons_zero, List.set_cons_succ]
  refine wpAnyH_take (i := 10) (oi := { dst := some 25, op := Op.move (Operand.tmp 0), type := 77, pos := "play.go:47", after := #[], guard := none }) (v := ?_) rfl (by kernel_rfl) (by kernel_rfl) (by kernel_rfl) (fun _ _ _ h => h) (Or.inl ⟨by rfl, ?_⟩) (by assumption) ?_
  rotate_left
  · (intro wz hSw; (try dsimp only at hSw); go_simp; try with_reducible rfl)
  simp only [Act.put, List.setIfInBounds_toArray, List.set_cons_zero, List.set_cons_succ]
  refine wpAnyH_take (i := 11) (oi := { dst := some 26, op := Op.nilCheck (Operand.tmp 25), type := 0, pos := "play.go:47", after := #[{ on := 10, ground := Ground.data }], guard := none }) (v := ?_) rfl (by kernel_rfl) (by kernel_rfl) (by kernel_rfl) (fun _ _ _ h => h) (Or.inl ⟨by rfl, ?_⟩) (by assumption) ?_
  rotate_left
  · (intro wz hSw; (try dsimp only at hSw); go_simp; try with_reducible rfl)
  simp only [Act.put, List.setIfInBounds_toArray, List.set_cons_zero, List.set_cons_succ]
  refine wpAnyH_take (i := 12) (oi := { dst := some 27, op := Op.fieldAddr 76 (Operand.tmp 26) 3, type := 0, pos := "play.go:47", after := #[{ on := 11, ground := Ground.data }], guard := none }) (v := ?_) rfl (by kernel_rfl) (by kernel_rfl) (by kernel_rfl) (fun _ _ _ h => h) (Or.inl ⟨by rfl, ?_⟩) (by assumption) ?_
  rotate_left
  · (intro wz hSw; (try dsimp only at hSw); go_simp; try with_reducible rfl)
  simp only [Act.put, List.setIfInBounds_toArray, List.set_cons_zero, List.set_cons_succ]
  refine wpAnyH_take (i := 13) (oi := { dst := some 28, op := Op.load 28 (Operand.tmp 27), type := 28, pos := "play.go:47", after := #[{ on := 12, ground := Ground.data }], guard := none }) (v := ?_) rfl (by kernel_rfl) (by kernel_rfl) (by kernel_rfl) (fun _ _ _ h => h) (Or.inl ⟨by rfl, ?_⟩) (by assumption) ?_
  rotate_left
  · (intro wz hSw; (try dsimp only at hSw); go_simp; try with_reducible rfl)
  simp only [Act.put, List.setIfInBounds_toArray, List.set_cons_zero, List.set_cons_succ]
  refine wpAnyH_take (i := 14) (oi := { dst := some 29, op := Op.move (Operand.tmp 6), type := 3, pos := "play.go:47", after := #[], guard := none }) (v := ?_) rfl (by kernel_rfl) (by kernel_rfl) (by kernel_rfl) (fun _ _ _ h => h) (Or.inl ⟨by rfl, ?_⟩) (by assumption) ?_
  rotate_left
  · (intro wz hSw; (try dsimp only at hSw); go_simp; try with_reducible rfl)
  simp only [Act.put, List.setIfInBounds_toArray, List.set_cons_zero, List.set_cons_succ]
  refine wpAnyH_take (i := 15) (oi := { dst := some 30, op := Op.indexAddr 28 (Operand.tmp 28) (Operand.tmp 29), type := 0, pos := "play.go:47", after := #[{ on := 13, ground := Ground.data }, { on := 14, ground := Ground.data }], guard := none }) (v := ?_) rfl (by kernel_rfl) (by kernel_rfl) (by kernel_rfl) (fun _ _ _ h => h) (Or.inl ⟨by rfl, ?_⟩) (by assumption) ?_
  rotate_left
  · (intro wz hSw; (try dsimp only at hSw); go_simp; try with_reducible rfl)
  simp only [Act.put, List.setIfInBounds_toArray, List.set_cons_zero, List.set_cons_succ]
  refine wpAnyH_take (i := 17) (oi := { dst := some 32, op := Op.fieldAddr 44 (Operand.tmp 5) 1, type := 0, pos := "play.go:47", after := #[], guard := none }) (v := ?_) rfl (by kernel_rfl) (by kernel_rfl) (by kernel_rfl) (fun _ _ _ h => h) (Or.inl ⟨by rfl, ?_⟩) (by assumption) ?_
  rotate_left
  · (intro wz hSw; (try dsimp only at hSw); go_simp; try with_reducible rfl)
  simp only [Act.put, List.setIfInBounds_toArray, List.set_cons_zero, List.set_cons_succ]
  refine wpAnyH_take (i := 18) (oi := { dst := some 33, op := Op.load 2 (Operand.tmp 32), type := 2, pos := "play.go:47", after := #[{ on := 17, ground := Ground.data }], guard := none }) (v := ?_) rfl (by kernel_rfl) (by kernel_rfl) (by kernel_rfl) (fun _ _ _ h => h) (Or.inl ⟨by rfl, ?_⟩) (by assumption) ?_
  rotate_left
  · (intro wz hSw; (try dsimp only at hSw); go_simp; try with_reducible rfl)
  simp only [Act.put, List.setIfInBounds_toArray, List.set_cons_zero, List.set_cons_succ]
  refine wpAnyH_ready (rs := [16]) (by kernel_rfl) (by simp) ?_
  refine AllReadyH.cons (o := { dst := some 31, op := Op.load 2 (Operand.tmp 30), type := 2, pos := "play.go:47", after := #[{ on := 15, ground := Ground.data }], guard := none }) rfl (fun K hK => ?_) ?_
  · go_simp
    refine hK.out _ _ ?_ (fun hHeld2 => ?_)
    · (try dsimp only); first | exact ⟨q6, q1, d1⟩ | exact ⟨t6, t1, y6⟩
    clear hK K
    try simp only [Act.put, List.setIfInBounds_toArray, List.set_cons_zero, List.set_cons_succ]
    refine wpAnyH_ready (rs := [19]) (by kernel_rfl) (by simp) ?_
    refine AllReadyH.cons (o := { dst := some 34, op := Op.call { callee := Callee.value (Operand.tmp 24), args := #[Operand.tmp 31, Operand.tmp 33], argTypes := #[2, 2] }, type := 2, pos := "play.go:47", after := #[{ on := 9, ground := Ground.data }, { on := 16, ground := Ground.data }, { on := 18, ground := Ground.data }], guard := none }) rfl (fun K hK => ?_) ?_
    · go_simp
      refine (app_ok _ _ _ _ _ HB4.out.1 HB4.out.2).mono ?_
      rintro _ _ ⟨rfl, rfl⟩
      rw [HV.out]
      refine hK.out _ _ ?_ (fun hHeld2 => ?_)
      · (try dsimp only); first | exact ⟨q6, q1, d1⟩ | exact ⟨t6, t1, y6⟩
      clear hK K
      try simp only [Act.put, List.setIfInBounds_toArray, List.set_cons_zero, List.set_cons_succ]
      refine wpAnyH_take (i := 20) (oi := _) (v := ?_) rfl (by kernel_rfl) (by kernel_rfl) (by kernel_rfl) (fun _ _ _ h => h) (Or.inl ⟨by rfl, ?_⟩) (by assumption) ?_
      rotate_left
      · (intro wz hSw; (try dsimp only at hSw); go_simp; try with_reducible rfl)
      simp only [Act.put, List.setIfInBounds_toArray, List.set_cons_zero, List.set_cons_succ]
      refine wpAnyH_ready (rs := [21]) (by kernel_rfl) (by simp) ?_
      refine AllReadyH.cons (o := _) rfl (fun K hK => ?_) ?_
      · go_simp
        refine hK.out _ _ ?_ (fun hHeld2 => ?_)
        · (try dsimp only); first | exact ⟨q6, q1, d1⟩ | exact ⟨t6, t1, y6⟩
        clear hK K
        try simp only [Act.put, List.setIfInBounds_toArray, List.set_cons_zero, List.set_cons_succ]
        refine wpAnyH_done (by kernel_rfl) ?_ _
        go_wp2_with fail
        go_end0
        exact ⟨rfl, ⟨X, R, HF.out.1⟩, HF.out.2⟩
      exact AllReadyH.nil
    exact AllReadyH.nil
  exact AllReadyH.nil
end Go.Proofs.Ytdiabpoafennlab.Nm
