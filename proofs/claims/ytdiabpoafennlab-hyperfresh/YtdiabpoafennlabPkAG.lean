import Derived.Test.YtdiabpoafennlabPkAD
import Derived.Test.YtdiabpoafennlabPkAB
import Derived.Test.YtdiabpoafennlabPkAE
import Derived.Test.YtdiabpoafennlabPkAF
/-! A deed: a return. -/
namespace Go.Proofs.Ytdiabpoafennlab
set_option linter.unusedVariables false
set_option maxRecDepth 20000
set_option linter.unusedSimpArgs false
open Go.RowKit Go.HeapKit

theorem PM.sizeLe3 {w : World} {base pb : Nat} {st : List Bool} {X : PX} {K : Ky → Value} {H R : Nat → Value} {s : PS} (h : PM w base pb st X K H R s) : base ≤ w.heap.size := Nat.le_trans h.low (Nat.le_of_lt (blk_lt h.blk))
def retPS (s : PS) (tk : List (Nat × List Nat)) (psp : Nat) (pr : List Nat) (sp : Nat) (st : List Bool) (m : MS (List Int)) : PS :=
  if st.getD sp false = true then psOf s tk psp { m with vs := m.vs ++ [[]], row := pr ++ [m.vs.length] } else psOf s tk psp { m with row := pr }
/-- The parent's row gets one more view. -/
theorem row_told {w w4 : World} {base pb : Nat} {st : List Bool} {X : PX} {K : Ky → Value} {R : Nat → Value} {s : PS} {tk : List (Nat × List Nat)} {sp : Nat} {r : List Nat} {g cap v tb : Nat} (h : PM w base pb st X K R R s) (hx : s.tk = tk ++ [(sp, r)]) (hta : X.ta = some ⟨tb, 0, none⟩) (ho : w4.ownsRow base 3 1 (.slice (some ⟨g, 0, none⟩) (r.length + 1) cap) (r ++ [v]).length (nv (r ++ [v]))) (hk : Keeps (fun k => (R tk.length).ownBlock = some k) w w4) (hm : (R tk.length).ownBlock = some g ∨ w.heap.size ≤ g) :
    w4.frozen? ⟨tb, tk.length * 2 + 1, none⟩ = false ∧ w4.cell? ⟨tb, tk.length * 2 + 1, none⟩ = some (R tk.length) ∧ (∃ R', PM (w4.setCell ⟨tb, tk.length * 2 + 1, none⟩ (.slice (some ⟨g, 0, none⟩) (r.length + 1) cap)) base pb st X K R' R' { s with tk := tk ++ [(sp, r ++ [v])] }) ∧ Keeps (fun i => base ≤ i) w (w4.setCell ⟨tb, tk.length * 2 + 1, none⟩ (.slice (some ⟨g, 0, none⟩) (r.length + 1) cap)) := by
  have h1 := h.putRow (r' := r ++ [v]) (V := .slice (some ⟨g, 0, none⟩) (r.length + 1) cap) hx ho hk (fun b e => by
    simp [Value.ownBlock] at e
    subst e
    exact hm)
  obtain ⟨tb2, e2, hlo, -, -, -, c1, hf⟩ := h1.cur (tk := tk) (x := (sp, r ++ [v])) rfl
  have e3 : some (⟨tb, 0, none⟩ : Addr) = some ⟨tb2, 0, none⟩ := hta.symm.trans e2
  injection e3 with e3
  injection e3 with e3
  subst e3
  exact ⟨hf _, c1, ⟨_, h1.setHead hta⟩, ((hk.mono (T := fun i => base ≤ i) (fun i e _ => row_low (h.curRow hx) e)).andSet (x := ⟨tb, _, none⟩) (.inl hlo) _)⟩
set_option maxHeartbeats 3200000 in
theorem do_return (base pb at0 : Nat) (st : List Bool) (X : PX) (K0 : Ky → Value) (R : Nat → Value) (s : PS) (w : World) (tk : List (Nat × List Nat)) (psp : Nat) (pr : List Nat) (sp : Nat) (m0 : MS (List Int)) (pre : List Nat) (P : List Int) (loc : Int) (h : PM w base pb st X K0 R R (psOf s (tk ++ [(psp, pr)]) sp m0)) (hline : LineOk pre P m0) (hP : P.length ≤ 4096) (h0 : 0 < m0.row.length) (hr : m0.row.length ≤ 5000) (hn : tk.length ≤ 4500) (hmg : m0.mg.length + m0.row.length ≤ 100000) (hpr : pr.length ≤ 5000) (hvs : m0.vs.length ≤ 5000) (hsp : sp ≤ 100000) (hst : st.length ≤ 5000) (M : MS (List Int)) (hM : m0.all listK at0 = M) :
    Calls Try.prog 30 #[.pointer (some ⟨pb, 0, none⟩), .int .i64 at0, .agg #[.int .i64 1, .int .i64 loc]] w fun e w' => e = .returned (.tuple #[]) ∧ (∃ X' K' R', PM w' base pb st X' K' R' R' (retPS s tk psp pr sp st M)) ∧ Keeps (fun i => base ≤ i) w w' := by
  have hvl : M.vs.length = m0.vs.length := by
    rw [← hM]
    have : ∀ (f : Nat) (s : MS (List Int)), (MS.go listK at0 f s).vs.length = s.vs.length := by
      intro f
      induction f with
      | zero => intro s; rfl
      | succ f ih => intro s; rw [MS.go, ih]; simp [MS.one]
    exact this _ m0
  have HP : Hid (PM w base pb st X K0 R R (psOf s (tk ++ [(psp, pr)]) sp m0) ∧ LineOk pre P m0 ∧ m0.all listK at0 = M ∧ M.vs.length ≤ 5000) := ⟨h, hline, hM, by omega⟩
  clear h hline hM hvl
  have hb0 := blk_new w (.cells #[.int .i64 1, .int .i64 loc] 44) w.heap.size rfl
  have hkb := (Keeps.alloc None w (.cells #[.int .i64 1, .int .i64 loc] 44))
  go_enter Try.func30, Try.ntmps30
  go_upto_region 1 with fail
  have HA : Hid (PM (w.alloc (.cells #[.int .i64 1, .int .i64 loc] 44)) base pb st X K0 R R (psOf s (tk ++ [(psp, pr)]) sp m0) ∧ Keeps None w (w.alloc (.cells #[.int .i64 1, .int .i64 loc] 44))) := ⟨HP.out.1.more hkb, hkb⟩
  have d0 : (w.alloc (.cells #[.int .i64 1, .int .i64 loc] 44)).cell? ⟨w.heap.size, 0, none⟩ = some (.int .i64 1) := blk_cell hb0 0
  clear hb0 hkb
  go_wp2_with fail
  refine (merge_ok base pb at0 st X K0 R s _ (tk ++ [(psp, pr)]) sp m0 pre P HA.out.1 HA.out.1.sizeLe3 HP.out.2.1 hP h0 hr (by simp; omega) hmg).mono ?_
  rintro e w1 ⟨rfl, ⟨X1, K1, R1, hM1⟩, hk⟩
  rw [HP.out.2.2.1] at hM1
  have HF : Hid (PM w1 base pb st X1 K1 R1 R1 (psOf s (tk ++ [(psp, pr)]) sp M) ∧ Keeps (fun i => base ≤ i) w w1) := ⟨hM1, (HA.out.2.mono (T := fun i => base ≤ i) (fun _ f _ => f.elim)).trans hk (fun i e _ => e)⟩
  clear hM1 hk HA
  go_wp2_with fail
  refine (end_ok base pb st X1 K1 R1 R1 (psOf s (tk ++ [(psp, pr)]) sp M) w1 (tk ++ [(psp, pr)]) (sp, M.row) HF.out.1 rfl (by simp; omega)).mono ?_
  rintro e w2 ⟨rfl, hM2, hk2⟩
  have HG : Hid (PM w2 base pb st X1 K1 R1 R1 (psOf s tk psp { M with row := pr }) ∧ Keeps (fun i => base ≤ i) w w2) := ⟨hM2, HF.out.2.trans hk2 (fun i e _ => by have := HF.out.1.low; omega)⟩
  have q4 : w2.cell? ⟨pb, 4, none⟩ = some (.slice X1.sa st.length X1.sc) := HG.out.1.c0.2.2.2.2.1
  clear hM2 hk2 HF
  have hre : retPS s tk psp pr sp st M = if st.getD sp false = true then psOf s tk psp { M with vs := M.vs ++ [[]], row := pr ++ [M.vs.length] } else psOf s tk psp { M with row := pr } := rfl
  by_cases hlt : sp < st.length
  · obtain ⟨b, off, v, hsa, -, hv, hc⟩ := HG.out.1.ar.seenS.at hlt
    obtain ⟨x, hx, rfl⟩ : ∃ x, st[sp]? = some x ∧ v = .bool x := by
      rw [bv', List.getElem?_map] at hv
      cases hk : st[sp]? with
      | none => rw [hk] at hv; cases hv
      | some x => rw [hk] at hv; exact ⟨x, rfl, (Option.some.inj hv).symm⟩
    have hg : st.getD sp false = x := by rw [List.getD_eq_getElem?_getD, hx]; rfl
    rw [hg] at hre
    rw [hsa] at q4
    have hi1 : (sp : Int) < (st.length : Int) := by omega
    clear hsa hv hx hg
    cases x with
    | false =>
      have he' : retPS s tk psp pr sp st M = psOf s tk psp { M with row := pr } := by rw [hre]; simp
      have HE : Hid (retPS s tk psp pr sp st M = psOf s tk psp { M with row := pr }) := he'
      clear he'
      clear hre
      go_wp2
      go_end0
      exact ⟨rfl, ⟨_, _, _, by rw [HE.out]; exact HG.out.1⟩, HG.out.2⟩
    | true =>
      have he' : retPS s tk psp pr sp st M = psOf s tk psp { M with vs := M.vs ++ [[]], row := pr ++ [M.vs.length] } := by rw [hre]; simp
      have HE : Hid (retPS s tk psp pr sp st M = psOf s tk psp { M with vs := M.vs ++ [[]], row := pr ++ [M.vs.length] }) := he'
      clear he'
      clear hre
      obtain ⟨tb, hta, -, -, -, -, -, -⟩ := HG.out.1.cur (tk := tk) (x := (psp, pr)) rfl
      have HTA : Hid (X1.ta = some ⟨tb, 0, none⟩) := hta
      clear hta
      go_wp2_with fail
      refine (current_ok base pb st X1 K1 R1 R1 _ w2 tb tk (psp, pr) HG.out.1 rfl HTA.out (by omega)).mono ?_
      rintro e w3 ⟨rfl, hk3⟩
      have HM3 : Hid (PM w3 base pb st X1 K1 R1 R1 (psOf s tk psp { M with row := pr }) ∧ Keeps (fun i => base ≤ i) w w3) := ⟨HG.out.1.more hk3, keeps_tr HG.out.2 hk3⟩
      clear hk3 HG q4 hc
      go_upto_region 17 with fail
      obtain ⟨tb2, e2, -, -, -, -, t1, -⟩ := HM3.out.1.cur (tk := tk) (x := (psp, pr)) rfl
      have e3 := HTA.out.symm.trans e2
      injection e3 with e3
      injection e3 with e3
      subst e3
      have hrow := HM3.out.1.curRow (tk := tk) (sp := psp) (r := pr) rfl
      obtain ⟨ra, rc, hRv⟩ := row_shape hrow
      rw [hRv] at t1
      have HRV : Hid (R1 tk.length = .slice ra pr.length rc) := hRv
      clear e2 hrow hRv
      refine wp_region_held_drew (S := (fun _ => True)) (by kernel_rfl) ?_ (fun hHeld => ?_)
      · (try dsimp only); try trivial
      refine wpAnyH_take (i := 0) (oi := { dst := some 117, op := Op.move (Operand.tmp 8), type := 101, pos := "play.go:59", after := #[], guard := none }) (v := ?_) rfl (by kernel_rfl) (by kernel_rfl) (by kernel_rfl) (fun _ _ _ h => h) (Or.inl ⟨by rfl, ?_⟩) (by assumption) ?_
      rotate_left
      · (intro wz hSw; (try dsimp only at hSw); go_simp; try with_reducible rfl)
      simp only [Act.put, List.setIfInBounds_toArray, List.set_cons_zero, List.set_cons_succ]
      refine wpAnyH_take (i := 1) (oi := { dst := some 118, op := Op.move (Operand.tmp 8), type := 101, pos := "play.go:59", after := #[], guard := none }) (v := ?_) rfl (by kernel_rfl) (by kernel_rfl) (by kernel_rfl) (fun _ _ _ h => h) (Or.inl ⟨by rfl, ?_⟩) (by assumption) ?_
      rotate_left
      · (intro wz hSw; (try dsimp only at hSw); go_simp; try with_reducible rfl)
      simp only [Act.put, List.setIfInBounds_toArray, List.set_cons_zero, List.set_cons_succ]
      refine wpAnyH_take (i := 2) (oi := { dst := some 119, op := Op.nilCheck (Operand.tmp 118), type := 0, pos := "play.go:59", after := #[{ on := 1, ground := Ground.data }], guard := none }) (v := ?_) rfl (by kernel_rfl) (by kernel_rfl) (by kernel_rfl) (fun _ _ _ h => h) (Or.inl ⟨by rfl, ?_⟩) (by assumption) ?_
      rotate_left
      · (intro wz hSw; (try dsimp only at hSw); go_simp; try with_reducible rfl)
      simp only [Act.put, List.setIfInBounds_toArray, List.set_cons_zero, List.set_cons_succ]
      refine wpAnyH_take (i := 3) (oi := { dst := some 120, op := Op.fieldAddr 89 (Operand.tmp 119) 1, type := 0, pos := "play.go:59", after := #[{ on := 2, ground := Ground.data }], guard := none }) (v := ?_) rfl (by kernel_rfl) (by kernel_rfl) (by kernel_rfl) (fun _ _ _ h => h) (Or.inl ⟨by rfl, ?_⟩) (by assumption) ?_
      rotate_left
      · (intro wz hSw; (try dsimp only at hSw); go_simp; try with_reducible rfl)
      simp only [Act.put, List.setIfInBounds_toArray, List.set_cons_zero, List.set_cons_succ]
      refine wpAnyH_take (i := 5) (oi := { dst := some 122, op := Op.move (Operand.tmp 0), type := 48, pos := "play.go:59", after := #[], guard := none }) (v := ?_) rfl (by kernel_rfl) (by kernel_rfl) (by kernel_rfl) (fun _ _ _ h => h) (Or.inl ⟨by rfl, ?_⟩) (by assumption) ?_
      rotate_left
      · (intro wz hSw; (try dsimp only at hSw); go_simp; try with_reducible rfl)
      simp only [Act.put, List.setIfInBounds_toArray, List.set_cons_zero, List.set_cons_succ]
      refine wpAnyH_ready (rs := [4, 6]) (by kernel_rfl) (by simp) ?_
      refine AllReadyH.cons (o := { dst := some 121, op := Op.load 24 (Operand.tmp 120), type := 24, pos := "play.go:59", after := #[{ on := 3, ground := Ground.data }], guard := none }) rfl (fun K hK => ?_) ?_
      · go_simp
        refine hK.out _ _ ?_ (fun hHeld2 => ?_)
        · (try dsimp only); try trivial
        clear hK K
        try simp only [Act.put, List.setIfInBounds_toArray, List.set_cons_zero, List.set_cons_succ]
        refine wpAnyH_ready (rs := [6]) (by kernel_rfl) (by simp) ?_
        refine AllReadyH.cons (o := _) rfl (fun K hK => ?_) ?_
        · go_simp
          refine (newView_ok base pb st X1 K1 R1 R1 _ w3.drew (HM3.out.1.more (Keeps.drew None _)) ((HM3.out.1.more (Keeps.drew None _)).sizeLe3) (by have := HP.out.2.2.2; show M.vs.length ≤ 100000; omega)).mono ?_
          rintro _ w4 ⟨rfl, ⟨X4, K4, hM4, hta4⟩, hk4⟩
          have HM4 : Hid (PM w4 base pb st X4 K4 R1 R1 (psOf s tk psp { M with vs := M.vs ++ [[]], row := pr }) ∧ X4.ta = some ⟨tb, 0, none⟩ ∧ Keeps (fun i => base ≤ i) w w4) := ⟨hM4, hta4.trans HTA.out, (HM3.out.2.andDrew).trans hk4 (fun i e _ => e)⟩
          clear hM4 hta4 hk4
          obtain ⟨tb3, e4, -, -, -, -, t4, -⟩ := HM4.out.1.cur (tk := tk) (x := (psp, pr)) rfl
          have e5 := HM4.out.2.1.symm.trans e4; injection e5 with e5; injection e5 with e5; subst e5
          have t4A := (Keeps.alloc None w4 (.cells #[.int .i64 M.vs.length] 3)).cell t4 (fun f => f)
          rw [HRV.out] at t4 t4A
          have hvl : (psOf s tk psp { M with row := pr }).vs.length = M.vs.length := rfl
          rw [hvl]
          refine hK.out _ _ ?_ (fun hHeld2 => ?_)
          · (try dsimp only); try trivial
          clear hK K
          try simp only [Act.put, List.setIfInBounds_toArray, List.set_cons_zero, List.set_cons_succ]
          refine wpAnyH_ready (rs := [7]) (by kernel_rfl) (by simp) ?_
          refine AllReadyH.cons (o := { dst := some 124, op := Op.buildSlice 24 1 #[(0, Operand.tmp 123)], type := 24, pos := "play.go:59", after := #[{ on := 6, ground := Ground.data }], guard := none }) rfl (fun K hK => ?_) ?_
          · go_simp
            refine hK.out _ _ ?_ (fun hHeld2 => ?_)
            · (try dsimp only); try trivial
            clear hK K
            try simp only [Act.put, List.setIfInBounds_toArray, List.set_cons_zero, List.set_cons_succ]
            refine wpAnyH_ready (rs := [8]) (by kernel_rfl) (by simp) ?_
            refine AllReadyH.cons (o := _) rfl (fun K hK => ?_) ?_
            · (have hdA := HM4.out.1.more (Keeps.alloc None w4 (.cells #[.int .i64 M.vs.length] 3)); have hr1 := hdA.curRow (tk := tk) (sp := psp) (r := pr) rfl; rw [HRV.out] at hr1; obtain ⟨g, cap, w5, hr5, ho5, hk5, hm5⟩ := row1_more base (.slice ra pr.length rc) pr M.vs.length 24 w4.heap.size _ hr1 hdA.sizeLe3 (by omega) (blk_new w4 _ _ rfl); refine step_append_run rfl (.tmp 121) (.tmp 124) 24 24 rfl (by first | rfl | simp [Act.eval]) (by first | rfl | simp [Act.eval]) hr5 ?_)
              obtain ⟨f5, c5, ⟨R5, hP5⟩, hk6⟩ := row_told hdA rfl HM4.out.2.1 ho5 (by rw [HRV.out]; exact hk5) (by rw [HRV.out]; exact hm5)
              have HF : Hid (PM (w5.setCell ⟨tb, tk.length * 2 + 1, none⟩ (.slice (some ⟨g, 0, none⟩) (pr.length + 1) cap)) base pb st X4 K4 R5 R5 (retPS s tk psp pr sp st M) ∧ Keeps (fun i => base ≤ i) w (w5.setCell ⟨tb, tk.length * 2 + 1, none⟩ (.slice (some ⟨g, 0, none⟩) (pr.length + 1) cap))) := ⟨by rw [HE.out]; exact hP5, (HM4.out.2.2.andAlloc _).trans hk6 (fun i e _ => e)⟩
              rw [HRV.out] at c5
              refine hK.out _ _ ?_ (fun hHeld2 => ?_)
              · (try dsimp only); try trivial
              clear hK K
              try simp only [Act.put, List.setIfInBounds_toArray, List.set_cons_zero, List.set_cons_succ]
              refine wpAnyH_take (i := 9) (oi := _) (v := ?_) rfl (by kernel_rfl) (by kernel_rfl) (by kernel_rfl) (fun _ _ _ h => h) (Or.inl ⟨by rfl, ?_⟩) (by assumption) ?_
              rotate_left
              · (intro wz hSw; (try dsimp only at hSw); go_simp; try with_reducible rfl)
              simp only [Act.put, List.setIfInBounds_toArray, List.set_cons_zero, List.set_cons_succ]
              refine wpAnyH_take (i := 10) (oi := _) (v := ?_) rfl (by kernel_rfl) (by kernel_rfl) (by kernel_rfl) (fun _ _ _ h => h) (Or.inl ⟨by rfl, ?_⟩) (by assumption) ?_
              rotate_left
              · (intro wz hSw; (try dsimp only at hSw); go_simp; try with_reducible rfl)
              simp only [Act.put, List.setIfInBounds_toArray, List.set_cons_zero, List.set_cons_succ]
              refine wpAnyH_ready (rs := [11]) (by kernel_rfl) (by simp) ?_
              refine AllReadyH.cons (o := _) rfl (fun K hK => ?_) ?_
              · go_simp
                refine hK.out _ _ ?_ (fun hHeld2 => ?_)
                · (try dsimp only); try trivial
                clear hK K
                try simp only [Act.put, List.setIfInBounds_toArray, List.set_cons_zero, List.set_cons_succ]
                refine wpAnyH_done (by kernel_rfl) ?_ _
                go_wp2_with fail
                go_end0
                exact ⟨rfl, ⟨_, _, _, HF.out.1⟩, HF.out.2⟩
              exact AllReadyH.nil
            exact AllReadyH.nil
          exact AllReadyH.nil
        exact AllReadyH.nil
      refine AllReadyH.cons (o := _) rfl (fun K hK => ?_) ?_
      · go_simp
        refine (newView_ok base pb st X1 K1 R1 R1 _ w3.drew (HM3.out.1.more (Keeps.drew None _)) ((HM3.out.1.more (Keeps.drew None _)).sizeLe3) (by have := HP.out.2.2.2; show M.vs.length ≤ 100000; omega)).mono ?_
        rintro _ w4 ⟨rfl, ⟨X4, K4, hM4, hta4⟩, hk4⟩
        have HM4 : Hid (PM w4 base pb st X4 K4 R1 R1 (psOf s tk psp { M with vs := M.vs ++ [[]], row := pr }) ∧ X4.ta = some ⟨tb, 0, none⟩ ∧ Keeps (fun i => base ≤ i) w w4) := ⟨hM4, hta4.trans HTA.out, (HM3.out.2.andDrew).trans hk4 (fun i e _ => e)⟩
        clear hM4 hta4 hk4
        obtain ⟨tb3, e4, -, -, -, -, t4, -⟩ := HM4.out.1.cur (tk := tk) (x := (psp, pr)) rfl
        have e5 := HM4.out.2.1.symm.trans e4; injection e5 with e5; injection e5 with e5; subst e5
        have t4A := (Keeps.alloc None w4 (.cells #[.int .i64 M.vs.length] 3)).cell t4 (fun f => f)
        rw [HRV.out] at t4 t4A
        have hvl : (psOf s tk psp { M with row := pr }).vs.length = M.vs.length := rfl
        rw [hvl]
        refine hK.out _ _ ?_ (fun hHeld2 => ?_)
        · (try dsimp only); try trivial
        clear hK K
        try simp only [Act.put, List.setIfInBounds_toArray, List.set_cons_zero, List.set_cons_succ]
        refine wpAnyH_ready (rs := [4, 7]) (by kernel_rfl) (by simp) ?_
        refine AllReadyH.cons (o := { dst := some 121, op := Op.load 24 (Operand.tmp 120), type := 24, pos := "play.go:59", after := #[{ on := 3, ground := Ground.data }], guard := none }) rfl (fun K hK => ?_) ?_
        · go_simp
          refine hK.out _ _ ?_ (fun hHeld2 => ?_)
          · (try dsimp only); try trivial
          clear hK K
          try simp only [Act.put, List.setIfInBounds_toArray, List.set_cons_zero, List.set_cons_succ]
          refine wpAnyH_ready (rs := [7]) (by kernel_rfl) (by simp) ?_
          refine AllReadyH.cons (o := { dst := some 124, op := Op.buildSlice 24 1 #[(0, Operand.tmp 123)], type := 24, pos := "play.go:59", after := #[{ on := 6, ground := Ground.data }], guard := none }) rfl (fun K hK => ?_) ?_
          · go_simp
            refine hK.out _ _ ?_ (fun hHeld2 => ?_)
            · (try dsimp only); try trivial
            clear hK K
            try simp only [Act.put, List.setIfInBounds_toArray, List.set_cons_zero, List.set_cons_succ]
            refine wpAnyH_ready (rs := [8]) (by kernel_rfl) (by simp) ?_
            refine AllReadyH.cons (o := _) rfl (fun K hK => ?_) ?_
            · (have hdA := HM4.out.1.more (Keeps.alloc None w4 (.cells #[.int .i64 M.vs.length] 3)); have hr1 := hdA.curRow (tk := tk) (sp := psp) (r := pr) rfl; rw [HRV.out] at hr1; obtain ⟨g, cap, w5, hr5, ho5, hk5, hm5⟩ := row1_more base (.slice ra pr.length rc) pr M.vs.length 24 w4.heap.size _ hr1 hdA.sizeLe3 (by omega) (blk_new w4 _ _ rfl); refine step_append_run rfl (.tmp 121) (.tmp 124) 24 24 rfl (by first | rfl | simp [Act.eval]) (by first | rfl | simp [Act.eval]) hr5 ?_)
              obtain ⟨f5, c5, ⟨R5, hP5⟩, hk6⟩ := row_told hdA rfl HM4.out.2.1 ho5 (by rw [HRV.out]; exact hk5) (by rw [HRV.out]; exact hm5)
              have HF : Hid (PM (w5.setCell ⟨tb, tk.length * 2 + 1, none⟩ (.slice (some ⟨g, 0, none⟩) (pr.length + 1) cap)) base pb st X4 K4 R5 R5 (retPS s tk psp pr sp st M) ∧ Keeps (fun i => base ≤ i) w (w5.setCell ⟨tb, tk.length * 2 + 1, none⟩ (.slice (some ⟨g, 0, none⟩) (pr.length + 1) cap))) := ⟨by rw [HE.out]; exact hP5, (HM4.out.2.2.andAlloc _).trans hk6 (fun i e _ => e)⟩
              rw [HRV.out] at c5
              refine hK.out _ _ ?_ (fun hHeld2 => ?_)
              · (try dsimp only); try trivial
              clear hK K
              try simp only [Act.put, List.setIfInBounds_toArray, List.set_cons_zero, List.set_cons_succ]
              refine wpAnyH_take (i := 9) (oi := _) (v := ?_) rfl (by kernel_rfl) (by kernel_rfl) (by kernel_rfl) (fun _ _ _ h => h) (Or.inl ⟨by rfl, ?_⟩) (by assumption) ?_
              rotate_left
              · (intro wz hSw; (try dsimp only at hSw); go_simp; try with_reducible rfl)
              simp only [Act.put, List.setIfInBounds_toArray, List.set_cons_zero, List.set_cons_succ]
              refine wpAnyH_take (i := 10) (oi := _) (v := ?_) rfl (by kernel_rfl) (by kernel_rfl) (by kernel_rfl) (fun _ _ _ h => h) (Or.inl ⟨by rfl, ?_⟩) (by assumption) ?_
              rotate_left
              · (intro wz hSw; (try dsimp only at hSw); go_simp; try with_reducible rfl)
              simp only [Act.put, List.setIfInBounds_toArray, List.set_cons_zero, List.set_cons_succ]
              refine wpAnyH_ready (rs := [11]) (by kernel_rfl) (by simp) ?_
              refine AllReadyH.cons (o := _) rfl (fun K hK => ?_) ?_
              · go_simp
                refine hK.out _ _ ?_ (fun hHeld2 => ?_)
                · (try dsimp only); try trivial
                clear hK K
                try simp only [Act.put, List.setIfInBounds_toArray, List.set_cons_zero, List.set_cons_succ]
                refine wpAnyH_done (by kernel_rfl) ?_ _
                go_wp2_with fail
                go_end0
                exact ⟨rfl, ⟨_, _, _, HF.out.1⟩, HF.out.2⟩
              exact AllReadyH.nil
            exact AllReadyH.nil
          exact AllReadyH.nil
        refine AllReadyH.cons (o := { dst := some 124, op := Op.buildSlice 24 1 #[(0, Operand.tmp 123)], type := 24, pos := "play.go:59", after := #[{ on := 6, ground := Ground.data }], guard := none }) rfl (fun K hK => ?_) ?_
        · go_simp
          refine hK.out _ _ ?_ (fun hHeld2 => ?_)
          · (try dsimp only); try trivial
          clear hK K
          try simp only [Act.put, List.setIfInBounds_toArray, List.set_cons_zero, List.set_cons_succ]
          refine wpAnyH_ready (rs := [4]) (by kernel_rfl) (by simp) ?_
          refine AllReadyH.cons (o := { dst := some 121, op := Op.load 24 (Operand.tmp 120), type := 24, pos := "play.go:59", after := #[{ on := 3, ground := Ground.data }], guard := none }) rfl (fun K hK => ?_) ?_
          · go_simp
            refine hK.out _ _ ?_ (fun hHeld2 => ?_)
            · (try dsimp only); try trivial
            clear hK K
            try simp only [Act.put, List.setIfInBounds_toArray, List.set_cons_zero, List.set_cons_succ]
            refine wpAnyH_ready (rs := [8]) (by kernel_rfl) (by simp) ?_
            refine AllReadyH.cons (o := _) rfl (fun K hK => ?_) ?_
            · (have hdA := HM4.out.1.more (Keeps.alloc None w4 (.cells #[.int .i64 M.vs.length] 3)); have hr1 := hdA.curRow (tk := tk) (sp := psp) (r := pr) rfl; rw [HRV.out] at hr1; obtain ⟨g, cap, w5, hr5, ho5, hk5, hm5⟩ := row1_more base (.slice ra pr.length rc) pr M.vs.length 24 w4.heap.size _ hr1 hdA.sizeLe3 (by omega) (blk_new w4 _ _ rfl); refine step_append_run rfl (.tmp 121) (.tmp 124) 24 24 rfl (by first | rfl | simp [Act.eval]) (by first | rfl | simp [Act.eval]) hr5 ?_)
              obtain ⟨f5, c5, ⟨R5, hP5⟩, hk6⟩ := row_told hdA rfl HM4.out.2.1 ho5 (by rw [HRV.out]; exact hk5) (by rw [HRV.out]; exact hm5)
              have HF : Hid (PM (w5.setCell ⟨tb, tk.length * 2 + 1, none⟩ (.slice (some ⟨g, 0, none⟩) (pr.length + 1) cap)) base pb st X4 K4 R5 R5 (retPS s tk psp pr sp st M) ∧ Keeps (fun i => base ≤ i) w (w5.setCell ⟨tb, tk.length * 2 + 1, none⟩ (.slice (some ⟨g, 0, none⟩) (pr.length + 1) cap))) := ⟨by rw [HE.out]; exact hP5, (HM4.out.2.2.andAlloc _).trans hk6 (fun i e _ => e)⟩
              rw [HRV.out] at c5
              refine hK.out _ _ ?_ (fun hHeld2 => ?_)
              · (try dsimp only); try trivial
              clear hK K
              try simp only [Act.put, List.setIfInBounds_toArray, List.set_cons_zero, List.set_cons_succ]
              refine wpAnyH_take (i := 9) (oi := _) (v := ?_) rfl (by kernel_rfl) (by kernel_rfl) (by kernel_rfl) (fun _ _ _ h => h) (Or.inl ⟨by rfl, ?_⟩) (by assumption) ?_
              rotate_left
              · (intro wz hSw; (try dsimp only at hSw); go_simp; try with_reducible rfl)
              simp only [Act.put, List.setIfInBounds_toArray, List.set_cons_zero, List.set_cons_succ]
              refine wpAnyH_take (i := 10) (oi := _) (v := ?_) rfl (by kernel_rfl) (by kernel_rfl) (by kernel_rfl) (fun _ _ _ h => h) (Or.inl ⟨by rfl, ?_⟩) (by assumption) ?_
              rotate_left
              · (intro wz hSw; (try dsimp only at hSw); go_simp; try with_reducible rfl)
              simp only [Act.put, List.setIfInBounds_toArray, List.set_cons_zero, List.set_cons_succ]
              refine wpAnyH_ready (rs := [11]) (by kernel_rfl) (by simp) ?_
              refine AllReadyH.cons (o := _) rfl (fun K hK => ?_) ?_
              · go_simp
                refine hK.out _ _ ?_ (fun hHeld2 => ?_)
                · (try dsimp only); try trivial
                clear hK K
                try simp only [Act.put, List.setIfInBounds_toArray, List.set_cons_zero, List.set_cons_succ]
                refine wpAnyH_done (by kernel_rfl) ?_ _
                go_wp2_with fail
                go_end0
                exact ⟨rfl, ⟨_, _, _, HF.out.1⟩, HF.out.2⟩
              exact AllReadyH.nil
            exact AllReadyH.nil
          exact AllReadyH.nil
        exact AllReadyH.nil
      exact AllReadyH.nil
  · have hg : st.getD sp false = false := by rw [List.getD_eq_getElem?_getD, List.getElem?_eq_none (by omega)]; rfl
    rw [hg] at hre
    have he' : retPS s tk psp pr sp st M = psOf s tk psp { M with row := pr } := by rw [hre]; simp
    have HE : Hid (retPS s tk psp pr sp st M = psOf s tk psp { M with row := pr }) := he'
    clear he'
    have hi1 : ¬ (sp : Int) < (st.length : Int) := by omega
    clear hre hg
    go_wp2
    go_end0
    exact ⟨rfl, ⟨_, _, _, by rw [HE.out]; exact HG.out.1⟩, HG.out.2⟩
end Go.Proofs.Ytdiabpoafennlab
/-! A reducer's play, plainly: how many views, which merges. -/
namespace Go.Proofs.Ytdiabpoafennlab
set_option linter.unusedVariables false
set_option maxRecDepth 20000
set_option linter.unusedSimpArgs false
variable {V : Type}

/-- The merges up to now, where 'line' is there and there have been nv views. -/
structure MgOk (okat : Nat → Prop) (line : List Nat) (nv top : Nat) (mg : List (Nat × Nat × Nat)) : Prop where
  cnt : mg.length + line.length = nv
  each : ∀ x ∈ mg, x.2.1 < x.2.2 ∧ x.2.2 < nv ∧ x.1 ≤ top ∧ okat x.1
  pair : mg.Pairwise (fun x y => x.2.2 ≠ y.2.1 ∧ x.2.2 ≠ y.2.2 ∧ x.1 ≤ y.1)
  live : ∀ x ∈ mg, x.2.2 ∉ line
theorem MgOk.up {okat : Nat → Prop} {line : List Nat} {nv top top' : Nat} {mg : List (Nat × Nat × Nat)} (h : MgOk okat line nv top mg) (ht : top ≤ top') : MgOk okat line nv top' mg :=
  ⟨h.cnt, fun x hx => ⟨(h.each x hx).1, (h.each x hx).2.1, Nat.le_trans (h.each x hx).2.2.1 ht, (h.each x hx).2.2.2⟩, h.pair, h.live⟩
/-- The line and the merges. -/
structure CtOk (okat : Nat → Prop) (pre : List Nat) (top : Nat) (m : MS (List Int)) : Prop where
  asc : Asc (pre ++ m.row)
  low : ∀ v ∈ pre ++ m.row, v < m.vs.length
  mg : MgOk okat (pre ++ m.row) m.vs.length top m.mg
theorem CtOk.one {okat : Nat → Prop} {pre : List Nat} {top : Nat} {m : MS (List Int)} (hk : okat top) (h1 : 1 < m.row.length) (h : CtOk okat pre top m) : CtOk okat pre top (m.one listK top) := by
  obtain ⟨A, a, b, B, e1, e2, e3, e4, -⟩ := m.one_row listK top h1
  obtain ⟨h2, h3, ⟨h4, h5, h6, h7⟩⟩ := h
  rw [e1] at h2 h3 h4 h7
  have hs : List.Sublist (pre ++ (A ++ a :: B)) (pre ++ (A ++ a :: b :: B)) := ((List.Sublist.refl pre).append ((List.Sublist.refl A).append ((List.sublist_cons_self b B).cons_cons a)))
  have hnd := asc_nodup h2
  have hab : a < b := by
    have h8 : pre ++ (A ++ a :: b :: B) = (pre ++ A) ++ a :: b :: B := by simp
    unfold Asc at h2
    rw [h8, List.pairwise_append] at h2
    exact (List.pairwise_cons.1 h2.2.1).1 b (by simp)
  have hbn : b ∉ pre ++ (A ++ a :: B) := by
    have h8 : pre ++ (A ++ a :: b :: B) = (pre ++ A ++ [a]) ++ b :: B := by simp
    rw [h8] at hnd
    have h9 := List.nodup_append.1 hnd
    intro hm
    rw [show pre ++ (A ++ a :: B) = (pre ++ A ++ [a]) ++ B by simp, List.mem_append] at hm
    rcases hm with hm | hm
    · exact h9.2.2 b hm b (by simp) rfl
    · exact (List.nodup_cons.1 h9.2.1).1 hm
  have hbl := h3 b (by simp)
  refine ⟨by rw [e2]; exact h2.sublist hs, by rw [e2, e3]; intro v hv; rw [List.length_set]; exact h3 v (hs.subset hv), ?_⟩
  rw [e2, e3, e4, List.length_set]
  refine ⟨by simp at h4 ⊢; omega, ?_, ?_, ?_⟩
  · intro x hx
    rw [List.mem_append] at hx
    rcases hx with hx | hx
    · exact h5 x hx
    · simp at hx; subst hx; exact ⟨hab, hbl, Nat.le_refl _, hk⟩
  · rw [List.pairwise_append]
    refine ⟨h6, List.pairwise_singleton _ _, ?_⟩
    intro x hx y hy
    simp at hy; subst hy
    have h8 := h7 x hx
    exact ⟨fun e => h8 (by rw [e]; simp), fun e => h8 (by rw [e]; simp), (h5 x hx).2.2.1⟩
  · intro x hx
    rw [List.mem_append] at hx
    rcases hx with hx | hx
    · exact fun hm => h7 x hx (hs.subset hm)
    · simp at hx; subst hx; exact hbn
theorem CtOk.all {okat : Nat → Prop} {pre : List Nat} {top : Nat} {m : MS (List Int)} (hk : okat top) (h0 : 0 < m.row.length) (h : CtOk okat pre top m) : CtOk okat pre top (m.all listK top) :=
  (MS.all_ind listK top (CtOk okat pre top) (fun s hs hp => hp.one hk hs) m h0 h).1
theorem CtOk.up {okat : Nat → Prop} {pre : List Nat} {top top' : Nat} {m : MS (List Int)} (h : CtOk okat pre top m) (ht : top ≤ top') : CtOk okat pre top' m := ⟨h.asc, h.low, h.mg.up ht⟩
theorem ct_back {okat : Nat → Prop} {top : Nat} {m : MS (List Int)} {t : Nat × List Nat} {ini : List (Nat × List Nat)} {v : Nat} (h : CtOk okat (preL (t :: ini)) top m) (hr : m.row = [v]) (ht : t.2.getLast? = some v) : CtOk okat (preL ini) top { m with row := t.2 } := by
  have e : preL (t :: ini) ++ m.row = preL ini ++ t.2 := by
    rw [hr, preL, List.append_assoc]
    rw [← last_some ht]
  obtain ⟨h1, h2, h3⟩ := h
  rw [e] at h1 h2 h3
  exact ⟨h1, h2, h3⟩
theorem ct_new {okat : Nat → Prop} {pre : List Nat} {top : Nat} {m : MS (List Int)} (h : CtOk okat pre top m) : CtOk okat pre top { m with vs := m.vs ++ [[]], row := m.row ++ [m.vs.length] } := by
  obtain ⟨h1, h2, ⟨h4, h5, h6, h7⟩⟩ := h
  refine ⟨?_, ?_, ?_⟩
  · show Asc (pre ++ (m.row ++ [m.vs.length]))
    rw [← List.append_assoc]
    exact asc_more h1 h2
  · show ∀ v ∈ pre ++ (m.row ++ [m.vs.length]), v < (m.vs ++ [[]]).length
    intro v hv
    rw [← List.append_assoc, List.mem_append] at hv
    rw [List.length_append]
    rcases hv with hv | hv
    · have := h2 v hv; simp; omega
    · simp at hv; subst hv; simp
  · show MgOk okat (pre ++ (m.row ++ [m.vs.length])) (m.vs ++ [[]]).length top m.mg
    refine ⟨by simp at h4 ⊢; omega, ?_, h6, ?_⟩
    · intro x hx
      have := h5 x hx
      exact ⟨this.1, by simp; omega, this.2.2.1, this.2.2.2⟩
    · intro x hx hm
      rw [← List.append_assoc, List.mem_append] at hm
      rcases hm with hm | hm
      · exact h7 x hx hm
      · simp at hm
        have := (h5 x hx).2.1
        omega
/-- How many views are made: one, and one for each stolen spawn whose child returns; 'open' are the spawns of the tasks that have not returned, the nearest first. -/
def madeL (st : List Bool) : List (Int × Int) → Nat → List Nat → Nat
  | [], _, _ => 0
  | d :: ds, n, op =>
    if d.1 = 0 then madeL st ds (n + 1) (n :: op)
    else if d.1 = 1 then match op with
      | [] => madeL st ds n []
      | k :: op => (if st.getD k false = true then 1 else 0) + madeL st ds n op
    else madeL st ds n op
theorem madeL_cons (st : List Bool) (d : Int × Int) (ds : List (Int × Int)) (n : Nat) (op : List Nat) : madeL st (d :: ds) n op = if d.1 = 0 then madeL st ds (n + 1) (n :: op)
    else if d.1 = 1 then match op with
      | [] => madeL st ds n []
      | k :: op => (if st.getD k false = true then 1 else 0) + madeL st ds n op
    else madeL st ds n op := rfl
/-- The spawns of the tasks that are open. -/
def opsL : Nat → List (Nat × List Nat) → List Nat
  | _, [] => []
  | sp, t :: ini => sp :: opsL t.1 ini
theorem vs_one (K : Kd V) (n : Nat) (s : MS V) : (s.one K n).vs.length = s.vs.length := by simp [MS.one]
theorem vs_all (K : Kd V) (n : Nat) (s : MS V) : (s.all K n).vs.length = s.vs.length := by
  have : ∀ (f : Nat) (s : MS V), (MS.go K n f s).vs.length = s.vs.length := by
    intro f
    induction f with
    | zero => intro s; rfl
    | succ f ih => intro s; rw [MS.go, ih, vs_one]
  exact this _ s
theorem vs_ends (K : Kd V) (n : Nat) : ∀ (ini : List (Nat × List Nat)) (m : MS V), (MS.ends K n ini m).vs.length = m.vs.length := by
  intro ini
  induction ini with
  | nil => intro m; exact vs_all K n m
  | cons t ini ih => intro m; rw [MS.ends, ih]; exact vs_all K n m
/-- Are deeds such as may be played? -/
def KindsOk (ds : List (Int × Int)) : Prop := ∀ d ∈ ds, d.1 = 0 ∨ d.1 = 1 ∨ d.1 = 2 ∨ d.1 = 3 ∨ d.1 = 4
theorem made_run (K : Kd V) (st : List Bool) : ∀ (ds : List (Int × Int)) (n : Nat) (s : HS V), KindsOk ds → (s.run K st ds n).m.vs.length = s.m.vs.length + madeL st ds s.spn (opsL s.sp s.ini) := by
  intro ds
  induction ds with
  | nil => intro n s _; rfl
  | cons d ds ih =>
    intro n s hk
    rw [HS.run, ih _ _ (fun x hx => hk x (by simp [hx]))]
    obtain ⟨k, loc⟩ := d
    have h0 := hk (k, loc) (by simp)
    simp only at h0 ⊢
    rcases h0 with rfl | rfl | rfl | rfl | rfl
    · rw [madeL_cons, if_pos rfl]
      simp [HS.deed, opsL]
    · rw [madeL_cons, if_neg (by simp), if_pos rfl]
      have e : s.deed K st n 1 loc = s.back K st (s.m.all K n) := by simp [HS.deed]
      rw [e]
      unfold HS.back
      cases hi : s.ini with
      | nil => simp [opsL, vs_all, hi]
      | cons t ini =>
        simp only [opsL]
        by_cases hs : st.getD s.sp false = true
        · rw [if_pos hs, if_pos hs]; simp [vs_all]; omega
        · rw [if_neg hs, if_neg hs]; simp [vs_all]
    · rw [madeL_cons, if_neg (by simp), if_neg (by simp)]
      simp [HS.deed, vs_all]
    · rw [madeL_cons, if_neg (by simp), if_neg (by simp)]
      simp [HS.deed]
    · rw [madeL_cons, if_neg (by simp), if_neg (by simp)]
      simp [HS.deed]
theorem made_all (K : Kd V) (st : List Bool) (ds : List (Int × Int)) (picks : List Int) (hk : KindsOk ds) : (endMS K st ds picks).vs.length = 1 + madeL st ds 0 [] := by
  unfold endMS
  rw [vs_ends]
  exact made_run K st ds 0 _ hk
/-- At which deeds rows are merged. -/
def okAt (ds : List (Int × Int)) (i : Nat) : Prop := i < ds.length → ∃ d, ds[i]? = some d ∧ (d.1 = 2 ∨ d.1 = 1)
structure CInv (okat : Nat → Prop) (top : Nat) (s : HS (List Int)) : Prop where
  lk : Lk s.m.row s.ini
  ct : CtOk okat (preL s.ini) top s.m
theorem cinv_start (okat : Nat → Prop) (picks : List Int) : CInv okat 0 (HS.start listK picks) :=
  ⟨rfl, ⟨List.pairwise_singleton _ _, by intro v hv; simp [HS.start, preL] at hv; subst hv; simp [HS.start], ⟨rfl, by intro x hx; simp [HS.start] at hx, List.Pairwise.nil, by intro x hx; simp [HS.start] at hx⟩⟩⟩
theorem cinv_back {okat : Nat → Prop} {s : HS (List Int)} (st : List Bool) (n : Nat) (hk : okat n) (h : CInv okat n s) : CInv okat n (s.back listK st (s.m.all listK n)) := by
  have hne := h.lk.ne
  have h0 : 0 < s.m.row.length := List.length_pos_iff.2 hne
  have hl := h.ct.all hk h0
  obtain ⟨v, hv, hh⟩ := s.m.all_head listK n h0
  generalize s.m.all listK n = m at hl hv
  unfold HS.back
  split
  · rename_i hi
    have hlk := h.lk
    rw [hi] at hl hlk
    exact ⟨by rw [hi]; show Lk m.row []; rw [hv]; exact hh.symm.trans hlk, by rw [hi]; exact hl⟩
  · rename_i t ini hi
    have hlk := h.lk
    rw [hi] at hl hlk
    have hb := ct_back hl hv (hlk.2.1.trans hh)
    split
    · refine ⟨?_, ct_new hb⟩
      have hne2 := hlk.2.2.ne
      refine hlk.2.2.same ?_
      show (t.2 ++ [m.vs.length]).head? = _
      cases h3 : t.2 with
      | nil => exact (hne2 h3).elim
      | cons a l => rfl
    · exact ⟨hlk.2.2, hb⟩
theorem cinv_deed {okat : Nat → Prop} {s : HS (List Int)} (st : List Bool) (n : Nat) (k loc : Int) (hk : k = 0 ∨ k = 1 ∨ k = 2 ∨ k = 3 ∨ k = 4) (ho : k = 1 ∨ k = 2 → okat n) (h : CInv okat n s) : CInv okat n (s.deed listK st n k loc) := by
  have hne := h.lk.ne
  have h0 : 0 < s.m.row.length := List.length_pos_iff.2 hne
  rcases hk with rfl | rfl | rfl | rfl | rfl
  · have e : s.deed listK st n 0 loc = ⟨{ s.m with row := [s.hand] }, s.spn, (s.sp, s.m.row) :: s.ini, s.spn + 1, s.lk⟩ := by simp [HS.deed]
    rw [e]
    have hs := hand_split hne
    refine ⟨⟨by simp, ?_, h.lk⟩, ?_⟩
    · show s.m.row.getLast? = [s.hand].head?
      conv => lhs; rw [hs]
      simp [HS.hand]
    · have e : preL ((s.sp, s.m.row) :: s.ini) ++ [s.hand] = preL s.ini ++ s.m.row := by
        rw [preL, List.append_assoc]
        conv => rhs; rw [hs]
        rfl
      obtain ⟨h1, h2, h3⟩ := h.ct
      rw [← e] at h1 h2 h3
      exact ⟨h1, h2, h3⟩
  · have e : s.deed listK st n 1 loc = s.back listK st (s.m.all listK n) := by simp [HS.deed]
    rw [e]
    exact cinv_back st n (ho (.inl rfl)) h
  · have e : s.deed listK st n 2 loc = { s with m := s.m.all listK n } := by simp [HS.deed]
    rw [e]
    refine ⟨?_, h.ct.all (ho (.inr rfl)) h0⟩
    obtain ⟨v, hv, hh⟩ := s.m.all_head listK n h0
    exact h.lk.same (by show (s.m.all listK n).row.head? = _; rw [hv, hh]; rfl)
  · have e : s.deed listK st n 3 loc = { s with lk := s.lk ++ [s.m.vs.getD s.hand []] } := by simp [HS.deed, listK]
    rw [e]
    exact ⟨h.lk, h.ct⟩
  · have e : s.deed listK st n 4 loc = { s with m := { s.m with vs := s.m.vs.set s.hand (s.m.vs.getD s.hand [] ++ [loc]) } } := by simp [HS.deed, listK]
    rw [e]
    obtain ⟨h1, h2, h3⟩ := h.ct
    refine ⟨h.lk, h1, fun v hv => by simpa using h2 v hv, ?_⟩
    show MgOk okat (preL s.ini ++ s.m.row) (s.m.vs.set _ _).length n s.m.mg
    rw [List.length_set]
    exact h3
theorem CInv.up {okat : Nat → Prop} {top top' : Nat} {s : HS (List Int)} (h : CInv okat top s) (ht : top ≤ top') : CInv okat top' s := ⟨h.lk, h.ct.up ht⟩
theorem cinv_run {okat : Nat → Prop} (st : List Bool) : ∀ (ds : List (Int × Int)) (n : Nat) (s : HS (List Int)), KindsOk ds → (∀ i d, ds[i]? = some d → d.1 = 1 ∨ d.1 = 2 → okat (n + i)) → CInv okat n s → CInv okat (n + ds.length) (s.run listK st ds n) := by
  intro ds
  induction ds with
  | nil => intro n s _ _ h; exact h
  | cons d ds ih =>
    intro n s hk ho h
    have h1 := cinv_deed st n d.1 d.2 (hk d (by simp)) (fun e => by have := ho 0 d rfl e; simpa using this) h
    have h2 := ih (n + 1) _ (fun x hx => hk x (by simp [hx])) (fun i x hx e => by have := ho (i + 1) x (by simpa using hx) e; rwa [show n + (i + 1) = n + 1 + i by omega] at this) (h1.up (Nat.le_succ n))
    rw [HS.run, List.length_cons, show n + (ds.length + 1) = n + 1 + ds.length by omega]
    exact h2
theorem ends_ct {okat : Nat → Prop} (n : Nat) (hk : okat n) : ∀ (ini : List (Nat × List Nat)) (m : MS (List Int)), Lk m.row ini → CtOk okat (preL ini) n m → CtOk okat [] n (MS.ends listK n ini m) ∧ (MS.ends listK n ini m).row.length = 1 := by
  intro ini
  induction ini with
  | nil =>
    intro m h1 h2
    have h0 : 0 < m.row.length := List.length_pos_iff.2 h1.ne
    obtain ⟨v, hv, hh⟩ := m.all_head listK n h0
    exact ⟨h2.all hk h0, by show (m.all listK n).row.length = 1; rw [hv]; rfl⟩
  | cons t ini ih =>
    intro m h1 h2
    have h0 : 0 < m.row.length := List.length_pos_iff.2 h1.ne
    obtain ⟨v, hv, hh⟩ := m.all_head listK n h0
    exact ih _ h1.2.2 (ct_back (h2.all hk h0) hv (h1.2.1.trans hh))
/-- What 23.7 says: one merge less than views; each view but the first goes once; at syncs, returns and the end, in order. -/
theorem counts_all (st : List Bool) (ds : List (Int × Int)) (picks : List Int) (hk : KindsOk ds) : MgOk (okAt ds) [0] (endMS listK st ds picks).vs.length ds.length (endMS listK st ds picks).mg := by
  have h := cinv_run (okat := okAt ds) st ds 0 _ hk (fun i d hd e => by rw [Nat.zero_add]; exact fun _ => ⟨d, hd, e.symm⟩) (cinv_start (okAt ds) picks)
  rw [Nat.zero_add] at h
  obtain ⟨⟨h1, h2, h3⟩, h4⟩ := ends_ct (okat := okAt ds) ds.length (fun hl => absurd hl (Nat.lt_irrefl _)) (endHS listK st ds picks).ini _ h.lk h.ct
  have h5 := hinv_run st ds 0 [] _ (hinv_start picks)
  obtain ⟨-, h6⟩ := ends_inv ds.length (endHS listK st ds picks).ini _ _ h5.lk h5.line
  rw [h6] at h3
  exact h3
end Go.Proofs.Ytdiabpoafennlab
/-! A reducer's play, plainly: its sizes. -/
namespace Go.Proofs.Ytdiabpoafennlab
set_option linter.unusedVariables false
set_option maxRecDepth 20000
set_option linter.unusedSimpArgs false

def yes : Nat → Prop := fun _ => True
/-- What holds behind n deeds, with d tasks above the current one. -/
structure Okd (n d : Nat) (P : List Int) (s : HS (List Int)) : Prop where
  inv : HInv P s
  ct : CInv yes n s
  nv : s.m.vs.length ≤ n + 1
  ni : s.ini.length = d
  nd : d ≤ n
  nl : s.lk.length ≤ n
  np : P.length ≤ n
  ns : s.spn ≤ n
  nt : s.sp ≤ n ∧ ∀ t ∈ s.ini, t.1 ≤ n
theorem okd_start (picks : List Int) : Okd 0 0 [] (HS.start listK picks) :=
  ⟨hinv_start picks, cinv_start _ picks, Nat.le_refl _, rfl, Nat.le_refl _, Nat.le_refl _, Nat.le_refl _, Nat.le_refl _, Nat.le_refl _, by intro t ht; simp [HS.start] at ht⟩
theorem Okd.rows {n d : Nat} {P : List Int} {s : HS (List Int)} (h : Okd n d P s) : s.m.mg.length + s.m.row.length ≤ n + 1 ∧ 0 < s.m.row.length ∧ s.hand < s.m.vs.length ∧ (s.m.vs.getD s.hand []).length ≤ n := by
  have h1 := h.ct.ct.mg.cnt
  rw [List.length_append] at h1
  have h2 := h.nv
  have hne := h.inv.lk.ne
  have hs := hand_split hne
  have hin : s.hand ∈ preL s.ini ++ s.m.row := by
    rw [List.mem_append]
    right
    rw [hs]
    exact List.mem_append_right _ (List.mem_singleton.2 rfl)
  refine ⟨by omega, List.length_pos_iff.2 hne, h.inv.line.low _ hin, ?_⟩
  obtain ⟨A, B, hAB⟩ := List.append_of_mem hin
  have hc := h.inv.line.cat
  rw [hAB, catL_app, catL_cons] at hc
  have hl := congrArg List.length hc
  simp only [List.length_append] at hl
  have := h.np
  omega
theorem Okd.parent {n d : Nat} {P : List Int} {s : HS (List Int)} (h : Okd n d P s) {t : Nat × List Nat} {ini : List (Nat × List Nat)} (hi : s.ini = t :: ini) : t.2.length ≤ n + 2 := by
  have h1 := h.ct.ct.mg.cnt
  rw [List.length_append, hi, preL, List.length_append, List.length_dropLast] at h1
  have h2 := h.nv
  omega
def nextD (k : Int) (d : Nat) : Nat := if k = 0 then d + 1 else if k = 1 then d - 1 else d
theorem Okd.deed {n d : Nat} {P : List Int} {s : HS (List Int)} (h : Okd n d P s) (st : List Bool) (k loc : Int) (hk : k = 0 ∨ k = 1 ∨ k = 2 ∨ k = 3 ∨ k = 4) (hd : ¬ (k = 1 ∧ d = 0)) : Okd (n + 1) (nextD k d) (P ++ if k = 4 then [loc] else []) (s.deed listK st n k loc) := by
  have h1 := hinv_deed st n k loc h.inv
  have h2 := (cinv_deed st n k loc hk (fun _ => trivial) h.ct).up (Nat.le_succ n)
  have hP : (P ++ if k = 4 then [loc] else []).length ≤ n + 1 := by
    rw [List.length_append]
    have := h.np
    split <;> simp <;> omega
  have hnv := h.nv
  have hni := h.ni
  have hnd := h.nd
  have hnl := h.nl
  have hns := h.ns
  have hnt := h.nt
  rcases hk with rfl | rfl | rfl | rfl | rfl
  · have e : s.deed listK st n 0 loc = ⟨{ s.m with row := [s.hand] }, s.spn, (s.sp, s.m.row) :: s.ini, s.spn + 1, s.lk⟩ := by simp [HS.deed]
    refine ⟨h1, h2, ?_, ?_, ?_, ?_, hP, ?_, ?_, ?_⟩
    · rw [e]; show s.m.vs.length ≤ _; omega
    · rw [e]; simp [nextD, hni]
    · simp [nextD]; omega
    · rw [e]; show s.lk.length ≤ _; omega
    · rw [e]; show s.spn + 1 ≤ _; omega
    · rw [e]; show s.spn ≤ _; omega
    · rw [e]
      intro t ht
      rcases List.mem_cons.1 ht with rfl | ht
      · exact Nat.le_trans hnt.1 (Nat.le_succ n)
      · exact Nat.le_trans (hnt.2 t ht) (Nat.le_succ n)
  · have e : s.deed listK st n 1 loc = s.back listK st (s.m.all listK n) := by simp [HS.deed]
    obtain ⟨t, ini, hi⟩ : ∃ t ini, s.ini = t :: ini := by
      cases hi : s.ini with
      | nil => rw [hi] at hni; simp at hni; omega
      | cons t ini => exact ⟨t, ini, rfl⟩
    have hv := vs_all listK n s.m
    rw [hi] at hni hnt
    simp at hni
    by_cases hs : st.getD s.sp false = true
    · have e2 : s.back listK st (s.m.all listK n) = ⟨{ s.m.all listK n with vs := (s.m.all listK n).vs ++ [listK.fresh], row := t.2 ++ [(s.m.all listK n).vs.length] }, t.1, ini, s.spn, s.lk⟩ := by
        unfold HS.back
        rw [hi]
        simp only
        rw [if_pos hs]
      refine ⟨h1, h2, ?_, ?_, ?_, ?_, hP, ?_, ?_, ?_⟩
      · rw [e, e2]; simp [hv]; omega
      · rw [e, e2]; simp [nextD]; omega
      · simp [nextD]; omega
      · rw [e, e2]; show s.lk.length ≤ _; omega
      · rw [e, e2]; show s.spn ≤ _; omega
      · rw [e, e2]; exact Nat.le_trans (hnt.2 t (by simp)) (Nat.le_succ n)
      · rw [e, e2]; intro t' ht; exact Nat.le_trans (hnt.2 t' (List.mem_cons_of_mem _ ht)) (Nat.le_succ n)
    · have e2 : s.back listK st (s.m.all listK n) = ⟨{ s.m.all listK n with row := t.2 }, t.1, ini, s.spn, s.lk⟩ := by
        unfold HS.back
        rw [hi]
        simp only
        rw [if_neg hs]
      refine ⟨h1, h2, ?_, ?_, ?_, ?_, hP, ?_, ?_, ?_⟩
      · rw [e, e2]; show (s.m.all listK n).vs.length ≤ _; omega
      · rw [e, e2]; simp [nextD]; omega
      · simp [nextD]; omega
      · rw [e, e2]; show s.lk.length ≤ _; omega
      · rw [e, e2]; show s.spn ≤ _; omega
      · rw [e, e2]; exact Nat.le_trans (hnt.2 t (by simp)) (Nat.le_succ n)
      · rw [e, e2]; intro t' ht; exact Nat.le_trans (hnt.2 t' (List.mem_cons_of_mem _ ht)) (Nat.le_succ n)
  · have e : s.deed listK st n 2 loc = { s with m := s.m.all listK n } := by simp [HS.deed]
    have hv := vs_all listK n s.m
    refine ⟨h1, h2, ?_, ?_, ?_, ?_, hP, ?_, ?_, ?_⟩
    · rw [e]; show (s.m.all listK n).vs.length ≤ _; omega
    · rw [e]; simp [nextD, hni]
    · simp [nextD]; omega
    · rw [e]; show s.lk.length ≤ _; omega
    · rw [e]; show s.spn ≤ _; omega
    · rw [e]; exact Nat.le_trans hnt.1 (Nat.le_succ n)
    · rw [e]; intro t' ht; exact Nat.le_trans (hnt.2 t' ht) (Nat.le_succ n)
  · have e : s.deed listK st n 3 loc = { s with lk := s.lk ++ [s.m.vs.getD s.hand []] } := by simp [HS.deed, listK]
    refine ⟨h1, h2, ?_, ?_, ?_, ?_, hP, ?_, ?_, ?_⟩
    · rw [e]; show s.m.vs.length ≤ _; omega
    · rw [e]; simp [nextD, hni]
    · simp [nextD]; omega
    · rw [e]; simp; omega
    · rw [e]; show s.spn ≤ _; omega
    · rw [e]; exact Nat.le_trans hnt.1 (Nat.le_succ n)
    · rw [e]; intro t' ht; exact Nat.le_trans (hnt.2 t' ht) (Nat.le_succ n)
  · have e : s.deed listK st n 4 loc = { s with m := { s.m with vs := s.m.vs.set s.hand (s.m.vs.getD s.hand [] ++ [loc]) } } := by simp [HS.deed, listK]
    refine ⟨h1, h2, ?_, ?_, ?_, ?_, hP, ?_, ?_, ?_⟩
    · rw [e]; simp; omega
    · rw [e]; simp [nextD, hni]
    · simp [nextD]; omega
    · rw [e]; show s.lk.length ≤ _; omega
    · rw [e]; show s.spn ≤ _; omega
    · rw [e]; exact Nat.le_trans hnt.1 (Nat.le_succ n)
    · rw [e]; intro t' ht; exact Nat.le_trans (hnt.2 t' ht) (Nat.le_succ n)
end Go.Proofs.Ytdiabpoafennlab
/-! Every deed of a reducer's play. -/
namespace Go.Proofs.Ytdiabpoafennlab
set_option linter.unusedVariables false
set_option maxRecDepth 20000
set_option linter.unusedSimpArgs false
open Go.RowKit Go.HeapKit

def psS (s : HS (List Int)) : PS := ⟨s.m.vs, s.ini.reverse ++ [(s.sp, s.m.row)], s.m.pk, s.spn, s.m.mg, s.lk⟩
theorem do_any (base pb n d : Nat) (st : List Bool) (X : PX) (K0 : Ky → Value) (R : Nat → Value) (s : HS (List Int)) (P : List Int) (w : World) (k loc : Int) (h : PM w base pb st X K0 R R (psS s)) (ho : Okd n d P s) (hn : n ≤ 4096) (hst : st.length ≤ 4096) (hk : k = 0 ∨ k = 1 ∨ k = 2 ∨ k = 3 ∨ k = 4) (hd : ¬ (k = 1 ∧ d = 0)) :
    Calls Try.prog 30 #[.pointer (some ⟨pb, 0, none⟩), .int .i64 n, .agg #[.int .i64 k, .int .i64 loc]] w fun e w' => e = .returned (.tuple #[]) ∧ (∃ X' K' R', PM w' base pb st X' K' R' R' (psS (s.deed listK st n k loc))) ∧ Keeps (fun i => base ≤ i) w w' := by
  obtain ⟨r1, r2, r3, r4⟩ := ho.rows
  have hne := ho.inv.lk.ne
  have hil : s.ini.reverse.length ≤ 4096 := by rw [List.length_reverse]; have := ho.ni; have := ho.nd; omega
  have hnv := ho.nv
  have hnt := ho.nt
  have hns := ho.ns
  rcases hk with rfl | rfl | rfl | rfl | rfl
  · have e : s.deed listK st n 0 loc = ⟨{ s.m with row := [s.hand] }, s.spn, (s.sp, s.m.row) :: s.ini, s.spn + 1, s.lk⟩ := by simp [HS.deed]
    refine (do_spawn base pb n st X K0 R (psS s) w s.ini.reverse s.sp s.m.row loc h rfl hne (by omega) (by omega) s.hand rfl (by show s.spn ≤ _; omega)).mono ?_
    rintro e' w' ⟨h1, ⟨X', K', R', h2⟩, h3⟩
    refine ⟨h1, ⟨X', K', R', ?_⟩, h3⟩
    rw [e]
    have e3 : psS ⟨{ s.m with row := [s.hand] }, s.spn, (s.sp, s.m.row) :: s.ini, s.spn + 1, s.lk⟩ = { psS s with tk := (psS s).tk ++ [((psS s).spn, [s.hand])], spn := (psS s).spn + 1 } := by
      unfold psS
      simp
    rw [e3]
    exact h2
  · obtain ⟨t, ini, hi⟩ : ∃ t ini, s.ini = t :: ini := by
      cases hi : s.ini with
      | nil => have := ho.ni; rw [hi] at this; simp at this; exact absurd ⟨rfl, this.symm⟩ hd
      | cons t ini => exact ⟨t, ini, rfl⟩
    have e : s.deed listK st n 1 loc = s.back listK st (s.m.all listK n) := by simp [HS.deed]
    have hp := ho.parent hi
    have hps : psS s = psOf (psS s) (ini.reverse ++ [(t.1, t.2)]) s.sp s.m := by
      unfold psS psOf
      simp [hi]
    rw [hps] at h
    have hil2 : ini.reverse.length ≤ 4000 ∨ True := .inr trivial
    rw [hi] at hil
    simp at hil
    refine (do_return base pb n st X K0 R (psS s) w ini.reverse t.1 t.2 s.sp s.m (preL s.ini) P loc h ho.inv.line (by have := ho.np; omega) r2 (by omega) (by simp; omega) (by omega) (by omega) (by omega) (by omega) (by omega) (s.m.all listK n) rfl).mono ?_
    rintro e' w' ⟨h1, ⟨X', K', R', h2⟩, h3⟩
    refine ⟨h1, ⟨X', K', R', ?_⟩, h3⟩
    rw [e]
    have e3 : psS (s.back listK st (s.m.all listK n)) = retPS (psS s) ini.reverse t.1 t.2 s.sp st (s.m.all listK n) := by
      unfold HS.back retPS
      rw [hi]
      simp only
      by_cases hs : st.getD s.sp false = true
      · rw [if_pos hs, if_pos hs]; rfl
      · rw [if_neg hs, if_neg hs]; rfl
    rw [e3]
    exact h2
  · have e : s.deed listK st n 2 loc = { s with m := s.m.all listK n } := by simp [HS.deed]
    refine (do_sync base pb n st X K0 R (psS s) w s.ini.reverse s.sp s.m (preL s.ini) P loc h h.sizeLe ho.inv.line (by have := ho.np; omega) r2 (by omega) (by omega) (by omega)).mono ?_
    rintro e' w' ⟨h1, ⟨X', K', R', h2⟩, h3⟩
    refine ⟨h1, ⟨X', K', R', ?_⟩, h3⟩
    rw [e]
    exact h2
  · have e : s.deed listK st n 3 loc = { s with lk := s.lk ++ [s.m.vs.getD s.hand []] } := by simp [HS.deed, listK]
    have hnl := ho.nl
    refine (do_look base pb n st X K0 R (psS s) w s.ini.reverse s.sp s.m.row loc h rfl hne (by omega) (by omega) s.hand rfl (s.m.vs.getD s.hand []) rfl r3 (by omega) (by show s.lk.length ≤ _; omega)).mono ?_
    rintro e' w' ⟨h1, ⟨X', K', R', h2⟩, h3⟩
    refine ⟨h1, ⟨X', K', R', ?_⟩, h3⟩
    rw [e]
    exact h2
  · have e : s.deed listK st n 4 loc = { s with m := { s.m with vs := s.m.vs.set s.hand (s.m.vs.getD s.hand [] ++ [loc]) } } := by simp [HS.deed, listK]
    refine (do_write base pb n st X K0 R (psS s) w s.ini.reverse s.sp s.m.row loc h rfl hne (by omega) (by omega) h.sizeLe s.hand rfl (s.m.vs.getD s.hand []) rfl r3 (by omega)).mono ?_
    rintro e' w' ⟨h1, ⟨X', K', R', h2⟩, h3⟩
    refine ⟨h1, ⟨X', K', R', ?_⟩, h3⟩
    rw [e]
    exact h2
end Go.Proofs.Ytdiabpoafennlab
