import Derived.Test.YtlligclkoecknaaFrPk0
/-! A pick: the walk. -/
namespace Go.Proofs.Ytlligclkoecknaa
open Go.RowKit Go.HeapKit Go.IntWalk

set_option maxHeartbeats 20000000 in
set_option maxRecDepth 100000 in
theorem pick_c11 (w0 w : World) (P p : Nat) (ao : Option Addr) (cap : Nat) (S : Pl) (i : Nat) (h : PlayAt w0 w P p ao cap S) (hi : i < S.alive.length) (hsafe : Safe S i) (hsm : S.rounds.length ≤ 64) (hsl : Small S) (hcode : (S.went i).1.ans.1 = 11) :
    Calls Try.prog 37 #[.pointer (some ⟨P, 0, none⟩), .int .i64 i] w fun e w' => e = .returned (.tuple #[]) ∧ PlayAt w0 w' P p ao cap (S.pick i) := by
  obtain ⟨F, va, vh, vd, rs, h⟩ := h
  obtain ⟨g, c, hva, hcl, -, hcells⟩ := h.alive_at i hi
  have hwho := fun w' (hA : ArF w' p F S.A) => arf_who p F S.A (S.alive.getD i default).num w' hA
  have hstep := fun F' w' (hA : ArF w' p F' { S.A with actor := (S.alive.getD i default).num }) => fstep_any p F' _ (S.alive.getD i default).op w' hA (by have := hsafe.bd.2.2.2; show S.A.log.length < _; omega) hsafe.ft
  have hans := answer_any (S.went i).1 (by unfold Pl.went; exact OpF.fit_step _ hsafe.ft)
  have hw : (S.alive.getD i default).op.step { S.A with actor := (S.alive.getD i default).num } = S.went i := rfl
  rw [hw] at hstep
  have hpick : S.pick i = ({ S with A := (S.went i).2, alive := S.alive.set i { S.alive.getD i default with op := (S.went i).1 } } : Pl).after i { S.alive.getD i default with op := (S.went i).1 } (S.went i).1.ans.1 (S.went i).1.ans.2 := rfl
  rw [hpick]
  have i1 : (i : Int) < (S.alive.length : Int) := by omega
  have hlen : S.alive.length ≤ c := hcl
  have hm17 : i * 17 + 17 ≤ S.alive.length * 17 := by omega
  -- the cells of the actor, in any world in which the play stands
  have FC : Hid (∀ (wx : World) (F' : Nat → Prop) (A' : Ar), IsPlay w0 wx P p F' ao cap va vh vd rs { S with A := A' } → ∀ j, j < 17 → wx.cell? ⟨g, i * 17 + j, none⟩ = some ((S.alive.getD i default).vals.getD j undef) ∧ wx.frozen? ⟨g, i * 17 + j, none⟩ = false) := by
    intro wx F' A' hx
    obtain ⟨g', c', e', -, -, hc'⟩ := hx.alive_at i hi
    rw [hva] at e'
    injection e' with e1 e2 e3
    injection e1 with e1
    injection e1 with e1
    subst e1
    exact hc'
  have HO : Hid (∀ (wx : World) (F' : Nat → Prop) (A' : Ar) (o : OpF), IsPlay w0 wx P p F' ao cap va vh vd rs { S with A := A' } → IsPlay w0 (setsFrom wx g (i * 17 + 1) o.vals.toList) P p F' ao cap va vh vd rs { S with A := A', alive := S.alive.set i { S.alive.getD i default with op := o } }) :=
    fun wx F' A' o hx => hx.opset i hi hva o
  have hc4 := h.c4
  rw [hva] at hc4
  have hc0 := h.c0
  have n0 := (FC.out w F S.A h 0 (by omega)).1
  have hgP : g ≠ P := fun e => h.nP.1 (by rw [hva, e]; rfl)
  have HS : Hid _ := And.intro h (And.intro hva hsafe)
  generalize hW : S.went i = W at hstep hans ⊢
  have HW : Hid _ := hW
  clear hpick hw hsafe h hcells hva hW
  obtain ⟨o, B⟩ := W
  generalize hE : S.alive.getD i default = a at hwho hstep n0 FC HO ⊢
  have HE : Hid _ := hE
  clear hE
  obtain ⟨num, ⟨x0, x1, x2, x3, x4, x5, x6, x7⟩, ⟨y0, y1, y2, y3, y4, y5, y6, y7⟩⟩ := a
  have n0' : w.cell? ⟨g, i * 17, none⟩ = some (.int .i64 num) := n0
  have FX : Hid (∀ (wx : World) (F' : Nat → Prop) (A' : Ar), IsPlay w0 wx P p F' ao cap va vh vd rs { S with A := A' } → (wx.cell? ⟨g, i * 17 + 1, none⟩ = some (.int .i64 x0) ∧ wx.cell? ⟨g, i * 17 + 2, none⟩ = some (.int .i64 x1) ∧ wx.cell? ⟨g, i * 17 + 3, none⟩ = some (.int .i64 x2) ∧ wx.cell? ⟨g, i * 17 + 4, none⟩ = some (.int .i64 x3) ∧ wx.cell? ⟨g, i * 17 + 5, none⟩ = some (.int .i64 x4) ∧ wx.cell? ⟨g, i * 17 + 6, none⟩ = some (.int .i64 x5) ∧ wx.cell? ⟨g, i * 17 + 7, none⟩ = some (.int .i64 x6) ∧ wx.cell? ⟨g, i * 17 + 8, none⟩ = some (.int .i64 x7)) ∧ (wx.frozen? ⟨g, i * 17 + 1, none⟩ = false ∧ wx.frozen? ⟨g, i * 17 + 2, none⟩ = false ∧ wx.frozen? ⟨g, i * 17 + 3, none⟩ = false ∧ wx.frozen? ⟨g, i * 17 + 4, none⟩ = false ∧ wx.frozen? ⟨g, i * 17 + 5, none⟩ = false ∧ wx.frozen? ⟨g, i * 17 + 6, none⟩ = false ∧ wx.frozen? ⟨g, i * 17 + 7, none⟩ = false ∧ wx.frozen? ⟨g, i * 17 + 8, none⟩ = false)) :=
    fun wx F' A' hx => ⟨⟨(FC.out wx F' A' hx 1 (by omega)).1, (FC.out wx F' A' hx 2 (by omega)).1, (FC.out wx F' A' hx 3 (by omega)).1, (FC.out wx F' A' hx 4 (by omega)).1, (FC.out wx F' A' hx 5 (by omega)).1, (FC.out wx F' A' hx 6 (by omega)).1, (FC.out wx F' A' hx 7 (by omega)).1, (FC.out wx F' A' hx 8 (by omega)).1⟩, ⟨(FC.out wx F' A' hx 1 (by omega)).2, (FC.out wx F' A' hx 2 (by omega)).2, (FC.out wx F' A' hx 3 (by omega)).2, (FC.out wx F' A' hx 4 (by omega)).2, (FC.out wx F' A' hx 5 (by omega)).2, (FC.out wx F' A' hx 6 (by omega)).2, (FC.out wx F' A' hx 7 (by omega)).2, (FC.out wx F' A' hx 8 (by omega)).2⟩⟩
  clear n0
  obtain ⟨m0, m1, m2, m3, m4, m5, m6, m7⟩ := o
  obtain ⟨S1, hS1⟩ : ∃ S1 : Pl, S1 = { S with A := B, alive := S.alive.set i ⟨num, ⟨m0, m1, m2, m3, m4, m5, m6, m7⟩, ⟨y0, y1, y2, y3, y4, y5, y6, y7⟩⟩ } := ⟨_, rfl⟩
  simp only at hwho hstep hans ⊢
  rw [← hS1]
  have HS1 : Hid _ := hS1
  clear hS1
  generalize hAN : (OpF.mk m0 m1 m2 m3 m4 m5 m6 m7).ans = an at hans ⊢
  have HAN : Hid _ := hAN
  clear hAN
  obtain ⟨code, v⟩ := an
  simp only at hans ⊢
  simp only [OpF.value, OpF.vals] at hstep hans
  go_enter Try.func37, Try.ntmps37
  go_upto_region 1 with fail
  go_cut [14] (fun s14 wx => ∃ F', IsPlay w0 wx P p F' ao cap va vh vd rs { S with A := { S.A with actor := num } })
  case first =>
    go_region_held3 (fun w' => w'.cell? ⟨P, 0, none⟩ = some (.pointer (some ⟨p, 0, none⟩)) ∧ w'.cell? ⟨g, i * 17, none⟩ = some (.int .i64 num)) (first | with_reducible exact hs2 | go_keep) (first
      | (go_at_call 49; refine (hwho _ (HS.out.1.kept (Keeps.drew None _)).ar).mono ?_; rintro e w2 ⟨rfl, hA2⟩; obtain ⟨F2, h2⟩ := (HS.out.1.kept (Keeps.drew None _)).acc hA2; have hs2 : w2.cell? ⟨P, 0, none⟩ = some (.pointer (some ⟨p, 0, none⟩)) ∧ w2.cell? ⟨g, i * 17, none⟩ = some (.int .i64 num) := ⟨h2.c0, (FC.out w2 F2 _ h2 0 (by omega)).1⟩))
    all_goals (go_wp2_with fail; go_meet)
    all_goals exact ⟨F2, h2⟩
  case rest =>
    obtain ⟨F2, h2⟩ := hcut
    obtain ⟨wb, hwb⟩ : ∃ wb, wb = wc := ⟨_, rfl⟩
    subst hwb
    clear hc0 hc4 n0' hwho
    have d0 := h2.c0
    obtain ⟨⟨k1, k2, k3, k4, k5, k6, k7, k8⟩, -⟩ := FX.out _ _ _ h2
    have H2 : Hid _ := h2
    clear h2
    go_upto_region 2 with fail
    go_cut [23] (fun s23 wx => ∃ F', IsPlay w0 wx P p F' ao cap va vh vd rs S1)
    case first =>
      refine wp_region_held_drew (S := (fun w' => w'.cell? ⟨P, 0, none⟩ = some (.pointer (some ⟨p, 0, none⟩)))) (by kernel_rfl) ?_ (fun hHeld => ?_)
      · (try dsimp only); (first | with_reducible exact hs2 | with_reducible exact hs3 | go_keep)
      refine wpAnyH_take (i := 0) (oi := { dst := some 23, op := Op.move (Operand.tmp 4), type := 101, pos := "play.go:85", after := #[], guard := none }) (v := ?_) rfl (by kernel_rfl) (by kernel_rfl) (by kernel_rfl) (fun _ _ _ h => h) (Or.inl ⟨by rfl, ?_⟩) (by assumption) ?_
      rotate_left
      · (intro wz hSw; (try dsimp only at hSw); go_simp; try with_reducible rfl)
      simp only [Act.put, List.setIfInBounds_toArray, List.set_cons_zero, List.set_cons_succ]
      refine wpAnyH_take (i := 1) (oi := { dst := some 24, op := Op.move (Operand.tmp 0), type := 98, pos := "play.go:85", after := #[], guard := none }) (v := ?_) rfl (by kernel_rfl) (by kernel_rfl) (by kernel_rfl) (fun _ _ _ h => h) (Or.inl ⟨by rfl, ?_⟩) (by assumption) ?_
      rotate_left
      · (intro wz hSw; (try dsimp only at hSw); go_simp; try with_reducible rfl)
      simp only [Act.put, List.setIfInBounds_toArray, List.set_cons_zero, List.set_cons_succ]
      refine wpAnyH_take (i := 2) (oi := { dst := some 25, op := Op.nilCheck (Operand.tmp 24), type := 0, pos := "play.go:85", after := #[{ on := 1, ground := Ground.data }], guard := none }) (v := ?_) rfl (by kernel_rfl) (by kernel_rfl) (by kernel_rfl) (fun _ _ _ h => h) (Or.inl ⟨by rfl, ?_⟩) (by assumption) ?_
      rotate_left
      · (intro wz hSw; (try dsimp only at hSw); go_simp; try with_reducible rfl)
      simp only [Act.put, List.setIfInBounds_toArray, List.set_cons_zero, List.set_cons_succ]
      refine wpAnyH_take (i := 3) (oi := { dst := some 26, op := Op.fieldAddr 86 (Operand.tmp 25) 0, type := 0, pos := "play.go:85", after := #[{ on := 2, ground := Ground.data }], guard := none }) (v := ?_) rfl (by kernel_rfl) (by kernel_rfl) (by kernel_rfl) (fun _ _ _ h => h) (Or.inl ⟨by rfl, ?_⟩) (by assumption) ?_
      rotate_left
      · (intro wz hSw; (try dsimp only at hSw); go_simp; try with_reducible rfl)
      simp only [Act.put, List.setIfInBounds_toArray, List.set_cons_zero, List.set_cons_succ]
      refine wpAnyH_take (i := 4) (oi := { dst := some 27, op := Op.load 24 (Operand.tmp 26), type := 24, pos := "play.go:85", after := #[{ on := 3, ground := Ground.data }], guard := none }) (v := ?_) rfl (by kernel_rfl) (by kernel_rfl) (by kernel_rfl) (fun _ _ _ h => h) (Or.inl ⟨by rfl, ?_⟩) (by assumption) ?_
      rotate_left
      · (intro wz hSw; (try dsimp only at hSw); go_simp; try with_reducible rfl)
      simp only [Act.put, List.setIfInBounds_toArray, List.set_cons_zero, List.set_cons_succ]
      refine wpAnyH_take (i := 5) (oi := { dst := some 28, op := Op.makeInterface 24 (Operand.tmp 27), type := 72, pos := "play.go:85", after := #[{ on := 4, ground := Ground.data }], guard := none }) (v := ?_) rfl (by kernel_rfl) (by kernel_rfl) (by kernel_rfl) (fun _ _ _ h => h) (Or.inl ⟨by rfl, ?_⟩) (by assumption) ?_
      rotate_left
      · (intro wz hSw; (try dsimp only at hSw); go_simp; try with_reducible rfl)
      simp only [Act.put, List.setIfInBounds_toArray, List.set_cons_zero, List.set_cons_succ]
      refine wpAnyH_take (i := 6) (oi := { dst := some 29, op := Op.move (Operand.tmp 4), type := 101, pos := "play.go:85", after := #[], guard := none }) (v := ?_) rfl (by kernel_rfl) (by kernel_rfl) (by kernel_rfl) (fun _ _ _ h => h) (Or.inl ⟨by rfl, ?_⟩) (by assumption) ?_
      rotate_left
      · (intro wz hSw; (try dsimp only at hSw); go_simp; try with_reducible rfl)
      simp only [Act.put, List.setIfInBounds_toArray, List.set_cons_zero, List.set_cons_succ]
      refine wpAnyH_take (i := 7) (oi := { dst := some 30, op := Op.nilCheck (Operand.tmp 29), type := 0, pos := "play.go:85", after := #[{ on := 6, ground := Ground.data }], guard := none }) (v := ?_) rfl (by kernel_rfl) (by kernel_rfl) (by kernel_rfl) (fun _ _ _ h => h) (Or.inl ⟨by rfl, ?_⟩) (by assumption) ?_
      rotate_left
      · (intro wz hSw; (try dsimp only at hSw); go_simp; try with_reducible rfl)
      simp only [Act.put, List.setIfInBounds_toArray, List.set_cons_zero, List.set_cons_succ]
      refine wpAnyH_take (i := 8) (oi := { dst := some 31, op := Op.fieldAddr 100 (Operand.tmp 30) 1, type := 0, pos := "play.go:85", after := #[{ on := 7, ground := Ground.data }], guard := none }) (v := ?_) rfl (by kernel_rfl) (by kernel_rfl) (by kernel_rfl) (fun _ _ _ h => h) (Or.inl ⟨by rfl, ?_⟩) (by assumption) ?_
      rotate_left
      · (intro wz hSw; (try dsimp only at hSw); go_simp; try with_reducible rfl)
      simp only [Act.put, List.setIfInBounds_toArray, List.set_cons_zero, List.set_cons_succ]
      refine wpAnyH_ready (rs := [9]) (by kernel_rfl) (by simp) ?_
      refine AllReadyH.cons (o := { dst := some 32, op := Op.load 39 (Operand.tmp 31), type := 39, pos := "play.go:85", after := #[{ on := 8, ground := Ground.data }], guard := none }) rfl (fun K hK => ?_) ?_
      · go_simp
        refine hK.out _ _ ?_ (fun hHeld2 => ?_)
        · (try dsimp only); (first | with_reducible exact hs2 | with_reducible exact hs3 | go_keep)
        clear hK K
        try simp only [Act.put, List.setIfInBounds_toArray, List.set_cons_zero, List.set_cons_succ]
        refine wpAnyH_ready (rs := [10]) (by kernel_rfl) (by simp) ?_
        refine AllReadyH.cons (o := { dst := some 33, op := Op.call { callee := Callee.value (Operand.func 11), args := #[Operand.tmp 28, Operand.tmp 32], argTypes := #[72, 39] }, type := 39, pos := "play.go:85", after := #[{ on := 5, ground := Ground.data }, { on := 9, ground := Ground.data }], guard := none }) rfl (fun K hK => ?_) ?_
        · go_simp
          refine (hstep F2 _ (H2.out.kept (Keeps.drew None _)).ar).mono ?_
          rintro _ w5 ⟨rfl, hA5⟩
          obtain ⟨F5, h5⟩ := (H2.out.kept (Keeps.drew None _)).acc hA5
          have hs2 := h5.c0
          obtain ⟨⟨j1, j2, j3, j4, j5, j6, j7, j8⟩, ⟨q1, q2, q3, q4, q5, q6, q7, q8⟩⟩ := FX.out _ _ _ h5
          have h6 := HO.out _ _ _ (OpF.mk m0 m1 m2 m3 m4 m5 m6 m7) h5
          have hs3 := h6.c0
          simp only [setsFrom, OpF.vals] at hs3
          refine hK.out _ _ ?_ (fun hHeld2 => ?_)
          · (try dsimp only); (first | with_reducible exact hs2 | with_reducible exact hs3 | go_keep)
          clear hK K
          try simp only [Act.put, List.setIfInBounds_toArray, List.set_cons_zero, List.set_cons_succ]
          refine wpAnyH_take (i := 11) (oi := { dst := some 34, op := Op.nilCheck (Operand.tmp 23), type := 0, pos := "play.go:85", after := #[{ on := 0, ground := Ground.data }, { on := 0, ground := Ground.phase }, { on := 1, ground := Ground.phase }, { on := 2, ground := Ground.phase }, { on := 3, ground := Ground.phase }, { on := 4, ground := Ground.phase }, { on := 5, ground := Ground.phase }, { on := 6, ground := Ground.phase }, { on := 7, ground := Ground.phase }, { on := 8, ground := Ground.phase }, { on := 9, ground := Ground.phase }, { on := 10, ground := Ground.phase }], guard := none }) (v := ?_) rfl (by kernel_rfl) (by kernel_rfl) (by kernel_rfl) (fun _ _ _ h => h) (Or.inl ⟨by rfl, ?_⟩) (by assumption) ?_
          rotate_left
          · (intro wz hSw; (try dsimp only at hSw); go_simp; try with_reducible rfl)
          simp only [Act.put, List.setIfInBounds_toArray, List.set_cons_zero, List.set_cons_succ]
          refine wpAnyH_take (i := 12) (oi := { dst := some 35, op := Op.fieldAddr 100 (Operand.tmp 34) 1, type := 0, pos := "play.go:85", after := #[{ on := 11, ground := Ground.data }, { on := 0, ground := Ground.phase }, { on := 1, ground := Ground.phase }, { on := 2, ground := Ground.phase }, { on := 3, ground := Ground.phase }, { on := 4, ground := Ground.phase }, { on := 5, ground := Ground.phase }, { on := 6, ground := Ground.phase }, { on := 7, ground := Ground.phase }, { on := 8, ground := Ground.phase }, { on := 9, ground := Ground.phase }, { on := 10, ground := Ground.phase }], guard := none }) (v := ?_) rfl (by kernel_rfl) (by kernel_rfl) (by kernel_rfl) (fun _ _ _ h => h) (Or.inl ⟨by rfl, ?_⟩) (by assumption) ?_
          rotate_left
          · (intro wz hSw; (try dsimp only at hSw); go_simp; try with_reducible rfl)
          simp only [Act.put, List.setIfInBounds_toArray, List.set_cons_zero, List.set_cons_succ]
          refine wpAnyH_ready (rs := [13]) (by kernel_rfl) (by simp) ?_
          refine AllReadyH.cons (o := { dst := none, op := Op.store 39 (Operand.tmp 35) (Operand.tmp 33), type := 0, pos := "play.go:85", after := #[{ on := 12, ground := Ground.data }, { on := 10, ground := Ground.data }, { on := 10, ground := Ground.chain }, { on := 0, ground := Ground.phase }, { on := 1, ground := Ground.phase }, { on := 2, ground := Ground.phase }, { on := 3, ground := Ground.phase }, { on := 4, ground := Ground.phase }, { on := 5, ground := Ground.phase }, { on := 6, ground := Ground.phase }, { on := 7, ground := Ground.phase }, { on := 8, ground := Ground.phase }, { on := 9, ground := Ground.phase }, { on := 10, ground := Ground.phase }], guard := none }) rfl (fun K hK => ?_) ?_
          · go_simp
            refine hK.out _ _ ?_ (fun hHeld2 => ?_)
            · (try dsimp only); (first | with_reducible exact hs2 | with_reducible exact hs3 | go_keep)
            clear hK K
            try simp only [Act.put, List.setIfInBounds_toArray, List.set_cons_zero, List.set_cons_succ]
            refine wpAnyH_done (by kernel_rfl) ?_ _
            go_wp2_with fail
            go_meet
            exact ⟨F5, by rw [HS1.out]; exact h6⟩
          exact AllReadyH.nil
        exact AllReadyH.nil
      exact AllReadyH.nil
    case rest =>
      obtain ⟨F3, h3⟩ := hcut
      have hS1 := HS1.out
      obtain ⟨hva, hsafe⟩ := HS.out.2
      have a1 : S1.alive.getD i default = ⟨num, ⟨m0, m1, m2, m3, m4, m5, m6, m7⟩, ⟨y0, y1, y2, y3, y4, y5, y6, y7⟩⟩ := by rw [hS1]; simp [List.getD_eq_getElem?_getD, hi]
      have hi1 : i < S1.alive.length := by rw [hS1]; simpa using hi
      have hn1 : S.alive.length = S1.alive.length := by rw [hS1]; simp
      have HB : Hid (S1.alive.length ≤ 600 ∧ S1.holders.length ≤ 100 ∧ S1.reads.length ≤ 100 ∧ (∀ r, (S1.reads.getD r []).length ≤ 100) ∧ S1.rounds.length ≤ 64 ∧ S1.round ≤ S1.rounds.length ∧ S1.born ≤ 600 ∧ S1.forked ≤ 8 ∧ (code = 13 ∨ code = 11 → S1.round < S1.rounds.length ∧ S1.reads.length = S1.round) ∧ (code = 15 → S1.round < S1.rounds.length ∧ S1.round < S1.reads.length)) := by
        have e := HW.out
        have b1 := hsafe.bk
        have b2 := hsafe.fe
        rw [e] at b1 b2
        simp only [HAN.out] at b1 b2
        rw [← hn1, hS1]
        exact ⟨hsl.al, hsl.ho, hsl.re, hsl.row, hsm, hsafe.rd, hsafe.bd.1, hsafe.bd.2.2.1, b1, b2⟩
      have HCODE : Hid (code = 11) := by
        have e9 := hcode
        rw [HW.out] at e9
        simp only [HAN.out] at e9
        exact e9
      clear hcode hS1 HS1 HAN HS HW HE FC HO FX H2 hstep d0 k1 k2 k3 k4 k5 k6 k7 k8 hsafe hsl hsm
      obtain ⟨q, hq⟩ : ∃ q, i * 17 = q := ⟨_, rfl⟩
      rw [hq]
      rw [hn1] at hva i1
      have hqm : q + 17 ≤ S1.alive.length * 17 := by omega
      have ACT : Hid (∀ (wx : World) (F' : Nat → Prop) (va' vh' vd' : Value) (rs' : List Value) (X : Pl), IsPlay w0 wx P p F' ao cap va' vh' vd' rs' X → X.alive = S1.alive → va' = .slice (some ⟨g, 0, none⟩) S1.alive.length c → wx.cell? ⟨g, q, none⟩ = some (.int .i64 num) ∧ (wx.cell? ⟨g, q + 1, none⟩ = some (.int .i64 m0) ∧ wx.cell? ⟨g, q + 2, none⟩ = some (.int .i64 m1) ∧ wx.cell? ⟨g, q + 3, none⟩ = some (.int .i64 m2) ∧ wx.cell? ⟨g, q + 4, none⟩ = some (.int .i64 m3) ∧ wx.cell? ⟨g, q + 5, none⟩ = some (.int .i64 m4) ∧ wx.cell? ⟨g, q + 6, none⟩ = some (.int .i64 m5) ∧ wx.cell? ⟨g, q + 7, none⟩ = some (.int .i64 m6) ∧ wx.cell? ⟨g, q + 8, none⟩ = some (.int .i64 m7)) ∧ (wx.cell? ⟨g, q + 9, none⟩ = some (.int .i64 y0) ∧ wx.cell? ⟨g, q + 10, none⟩ = some (.int .i64 y1) ∧ wx.cell? ⟨g, q + 11, none⟩ = some (.int .i64 y2) ∧ wx.cell? ⟨g, q + 12, none⟩ = some (.int .i64 y3) ∧ wx.cell? ⟨g, q + 13, none⟩ = some (.int .i64 y4) ∧ wx.cell? ⟨g, q + 14, none⟩ = some (.int .i64 y5) ∧ wx.cell? ⟨g, q + 15, none⟩ = some (.int .i64 y6) ∧ wx.cell? ⟨g, q + 16, none⟩ = some (.int .i64 y7)) ∧ (wx.frozen? ⟨g, q + 1, none⟩ = false ∧ wx.frozen? ⟨g, q + 2, none⟩ = false ∧ wx.frozen? ⟨g, q + 3, none⟩ = false ∧ wx.frozen? ⟨g, q + 4, none⟩ = false ∧ wx.frozen? ⟨g, q + 5, none⟩ = false ∧ wx.frozen? ⟨g, q + 6, none⟩ = false ∧ wx.frozen? ⟨g, q + 7, none⟩ = false ∧ wx.frozen? ⟨g, q + 8, none⟩ = false)) := fun wx F' va' vh' vd' rs' X hX eX ev => hX.acts (i := i) (eX ▸ hi1) ev ((congrArg (fun l => l.getD i default) eX).trans a1) q hq
      have PUT : Hid (∀ (wx : World) (F' : Nat → Prop) (va' vh' vd' : Value) (rs' : List Value) (x : Pl × OpF) (a' : Actr), IsPlay w0 wx P p F' ao cap va' vh' vd' rs' x.1 → x.1.alive = S1.alive → va' = .slice (some ⟨g, 0, none⟩) S1.alive.length c → a'.num = num → a'.fin = ⟨y0, y1, y2, y3, y4, y5, y6, y7⟩ → IsPlay w0 (setsFrom wx g (q + 1) x.2.vals.toList) P p F' ao cap va' vh' vd' rs' (Pl.put i a' x)) :=
        fun wx F' va' vh' vd' rs' x a' hX eX ev e1 e2 => hX.putOk eX hi1 rfl ev (by rw [a1]; exact ⟨e1.symm, e2.symm⟩) q hq
      obtain ⟨n0, ⟨k1, k2, k3, k4, k5, k6, k7, k8⟩, -, -⟩ := ACT.out _ _ _ _ _ _ _ h3 rfl hva
      have H3 : Hid _ := And.intro h3 hva
      have HQ : Hid (i * 17 = q) := hq
      clear h3 hva hq hqm
      go_upto_region 3 with fail
      go_cut [5, 6] (fun s5 s6 wx => s5 = .int .i64 code ∧ s6 = .int .i64 v ∧ IsPlay w0 wx P p F3 ao cap va vh vd rs S1)
      case first =>
        go_wp2_with fail
        refine (hans _).mono ?_
        rintro e w5 ⟨rfl, hk5⟩
        go_wp2_with fail
        go_meet
        exact ⟨rfl, rfl, H3.out.1.kept hk5⟩
      case rest =>
        obtain ⟨rfl, rfl, h4⟩ := hcut
        have hva := H3.out.2
        clear n0 k1 k2 k3 k4 k5 k6 k7 k8 H3 hans
        obtain ⟨n0, ⟨k1, k2, k3, k4, k5, k6, k7, k8⟩, ⟨l1, l2, l3, l4, l5, l6, l7, l8⟩, ⟨z1, z2, z3, z4, z5, z6, z7, z8⟩⟩ := ACT.out _ _ _ _ _ _ _ h4 rfl hva
        by_cases c11 : code = 11
        · subst c11
          obtain ⟨hr1, hr2⟩ := HB.out.2.2.2.2.2.2.2.2.1 (.inr rfl)
          have HR2 : Hid (S1.reads.length = S1.round) := hr2
          clear hr2
          have hfin : Hid (S1.after i ⟨num, ⟨m0, m1, m2, m3, m4, m5, m6, m7⟩, ⟨y0, y1, y2, y3, y4, y5, y6, y7⟩⟩ 11 v = Pl.put i ⟨num, ⟨m0, m1, m2, m3, m4, m5, m6, m7⟩, ⟨y0, y1, y2, y3, y4, y5, y6, y7⟩⟩ ({ S1 with holders := S1.holders ++ [num], reads := S1.reads ++ [[]] } : Pl).nextFetch) := after_11 _ _ _ _
          have h6 := (h4.kept (Keeps.drew None wc)).kept (Keeps.alloc None wc.drew (.cells #[.int .i64 num] 3))
          have c10 := h4.c10
          have c10' := (h4.kept (Keeps.alloc None wc (.cells #[.int .i64 num] 3))).c10
          obtain ⟨gh, ch, w1, hr, ho, hgr, hm⟩ := one_append Try.underlying45 Try.infoInt8 rfl (by decide) vh (.int .i64 num) S1.holders.length _ wc.heap.size 45 _ h6.ho (by have := HB.out.2.1; omega) rfl (new_at wc.drew _ _ rfl)
          have hk1 := Keeps.grown (S := fun k => vh.ownBlock = some k) hgr (fun _ e => e)
          have hJ := h6.held hk1 hm ho
          have hP1 := (hk1.block P h6.lt h6.nP.2.1).trans h6.blk
          have d10 : w1.cell? ⟨P, 10, none⟩ = some vh := (cell_of_block hP1 10).trans rfl
          have f10 := free_of_block hP1 10
          have HN0 : Hid (wc.cell? ⟨g, q, none⟩ = some (.int .i64 num)) := n0
          have HN1 : Hid (w1.cell? ⟨g, q, none⟩ = some (.int .i64 num)) := hk1.cell ((Keeps.alloc None wc.drew _).cell (show wc.drew.cell? ⟨g, q, none⟩ = some (.int .i64 num) from n0) (fun f => f)) (own_apart h4.al h4.ho (by decide) (by rw [hva]; rfl))
          have HN2 : Hid ((w1.setCell ⟨P, 10, none⟩ (.slice (some ⟨gh, 0, none⟩) (S1.holders.length + 1) ch)).cell? ⟨g, q, none⟩ = some (.int .i64 num)) := (Keeps.setCell (S := (· = P)) w1 (a := ⟨P, 10, none⟩) rfl _).cell HN1.out hgP
          have HJ : Hid _ := hJ
          have HV : Hid _ := hva
          clear h4 hva h6 ho hgr hm hk1 hJ hP1 k1 k2 k3 k4 k5 k6 k7 k8 l1 l2 l3 l4 l5 l6 l7 l8 z1 z2 z3 z4 z5 z6 z7 z8
          go_upto_region 18 with fail
          go_cut [117] (fun s117 wx => IsPlay w0 wx P p F3 ao cap va (.slice (some ⟨gh, 0, none⟩) (S1.holders.length + 1) ch) vd rs { S1 with holders := S1.holders ++ [num] })
          case first =>
            refine wp_region_held_drew (S := (fun w' => w'.cell? ⟨g, q, none⟩ = some (.int .i64 num))) (by kernel_rfl) ?_ (fun hHeld => ?_)
            · (try dsimp only); (first | with_reducible exact HN1.out | with_reducible exact HN2.out | with_reducible exact HN0.out | go_keep)
            refine wpAnyH_take (i := 0) (oi := { dst := some 117, op := Op.move (Operand.tmp 0), type := 98, pos := "play.go:100", after := #[], guard := none }) (v := ?_) rfl (by kernel_rfl) (by kernel_rfl) (by kernel_rfl) (fun _ _ _ h => h) (Or.inl ⟨by rfl, ?_⟩) (by assumption) ?_
            rotate_left
            · (intro wz hSw; (try dsimp only at hSw); go_simp; try with_reducible rfl)
            simp only [Act.put, List.setIfInBounds_toArray, List.set_cons_zero, List.set_cons_succ]
            refine wpAnyH_take (i := 1) (oi := { dst := some 118, op := Op.move (Operand.tmp 0), type := 98, pos := "play.go:100", after := #[], guard := none }) (v := ?_) rfl (by kernel_rfl) (by kernel_rfl) (by kernel_rfl) (fun _ _ _ h => h) (Or.inl ⟨by rfl, ?_⟩) (by assumption) ?_
            rotate_left
            · (intro wz hSw; (try dsimp only at hSw); go_simp; try with_reducible rfl)
            simp only [Act.put, List.setIfInBounds_toArray, List.set_cons_zero, List.set_cons_succ]
            refine wpAnyH_take (i := 2) (oi := { dst := some 119, op := Op.nilCheck (Operand.tmp 118), type := 0, pos := "play.go:100", after := #[{ on := 1, ground := Ground.data }], guard := none }) (v := ?_) rfl (by kernel_rfl) (by kernel_rfl) (by kernel_rfl) (fun _ _ _ h => h) (Or.inl ⟨by rfl, ?_⟩) (by assumption) ?_
            rotate_left
            · (intro wz hSw; (try dsimp only at hSw); go_simp; try with_reducible rfl)
            simp only [Act.put, List.setIfInBounds_toArray, List.set_cons_zero, List.set_cons_succ]
            refine wpAnyH_take (i := 3) (oi := { dst := some 120, op := Op.fieldAddr 86 (Operand.tmp 119) 9, type := 0, pos := "play.go:100", after := #[{ on := 2, ground := Ground.data }], guard := none }) (v := ?_) rfl (by kernel_rfl) (by kernel_rfl) (by kernel_rfl) (fun _ _ _ h => h) (Or.inl ⟨by rfl, ?_⟩) (by assumption) ?_
            rotate_left
            · (intro wz hSw; (try dsimp only at hSw); go_simp; try with_reducible rfl)
            simp only [Act.put, List.setIfInBounds_toArray, List.set_cons_zero, List.set_cons_succ]
            refine wpAnyH_take (i := 5) (oi := { dst := some 122, op := Op.move (Operand.tmp 4), type := 101, pos := "play.go:100", after := #[], guard := none }) (v := ?_) rfl (by kernel_rfl) (by kernel_rfl) (by kernel_rfl) (fun _ _ _ h => h) (Or.inl ⟨by rfl, ?_⟩) (by assumption) ?_
            rotate_left
            · (intro wz hSw; (try dsimp only at hSw); go_simp; try with_reducible rfl)
            simp only [Act.put, List.setIfInBounds_toArray, List.set_cons_zero, List.set_cons_succ]
            refine wpAnyH_take (i := 6) (oi := { dst := some 123, op := Op.nilCheck (Operand.tmp 122), type := 0, pos := "play.go:100", after := #[{ on := 5, ground := Ground.data }], guard := none }) (v := ?_) rfl (by kernel_rfl) (by kernel_rfl) (by kernel_rfl) (fun _ _ _ h => h) (Or.inl ⟨by rfl, ?_⟩) (by assumption) ?_
            rotate_left
            · (intro wz hSw; (try dsimp only at hSw); go_simp; try with_reducible rfl)
            simp only [Act.put, List.setIfInBounds_toArray, List.set_cons_zero, List.set_cons_succ]
            refine wpAnyH_take (i := 7) (oi := { dst := some 124, op := Op.fieldAddr 100 (Operand.tmp 123) 0, type := 0, pos := "play.go:100", after := #[{ on := 6, ground := Ground.data }], guard := none }) (v := ?_) rfl (by kernel_rfl) (by kernel_rfl) (by kernel_rfl) (fun _ _ _ h => h) (Or.inl ⟨by rfl, ?_⟩) (by assumption) ?_
            rotate_left
            · (intro wz hSw; (try dsimp only at hSw); go_simp; try with_reducible rfl)
            simp only [Act.put, List.setIfInBounds_toArray, List.set_cons_zero, List.set_cons_succ]
            refine wpAnyH_take (i := 8) (oi := { dst := some 125, op := Op.load 3 (Operand.tmp 124), type := 3, pos := "play.go:100", after := #[{ on := 7, ground := Ground.data }], guard := none }) (v := ?_) rfl (by kernel_rfl) (by kernel_rfl) (by kernel_rfl) (fun _ _ _ h => h) (Or.inl ⟨by rfl, ?_⟩) (by assumption) ?_
            rotate_left
            · (intro wz hSw; (try dsimp only at hSw); go_simp; try with_reducible rfl)
            simp only [Act.put, List.setIfInBounds_toArray, List.set_cons_zero, List.set_cons_succ]
            refine wpAnyH_ready (rs := [4, 9]) (by kernel_rfl) (by simp) ?_
            refine AllReadyH.cons (o := { dst := some 121, op := Op.load 45 (Operand.tmp 120), type := 45, pos := "play.go:100", after := #[{ on := 3, ground := Ground.data }], guard := none }) rfl (fun K hK => ?_) ?_
            · go_simp
              refine hK.out _ _ ?_ (fun hHeld2 => ?_)
              · (try dsimp only); (first | with_reducible exact HN1.out | with_reducible exact HN2.out | with_reducible exact HN0.out | go_keep)
              clear hK K
              try simp only [Act.put, List.setIfInBounds_toArray, List.set_cons_zero, List.set_cons_succ]
              refine wpAnyH_ready (rs := [9]) (by kernel_rfl) (by simp) ?_
              refine AllReadyH.cons (o := { dst := some 126, op := Op.buildSlice 45 1 #[(0, Operand.tmp 125)], type := 45, pos := "play.go:100", after := #[{ on := 8, ground := Ground.data }], guard := none }) rfl (fun K hK => ?_) ?_
              · go_simp
                refine hK.out _ _ ?_ (fun hHeld2 => ?_)
                · (try dsimp only); (first | with_reducible exact HN1.out | with_reducible exact HN2.out | with_reducible exact HN0.out | go_keep)
                clear hK K
                try simp only [Act.put, List.setIfInBounds_toArray, List.set_cons_zero, List.set_cons_succ]
                refine wpAnyH_ready (rs := [10]) (by kernel_rfl) (by simp) ?_
                refine AllReadyH.cons (o := { dst := some 127, op := Op.call { callee := Callee.builtin Builtin.append, args := #[Operand.tmp 121, Operand.tmp 126], argTypes := #[45, 45] }, type := 45, pos := "play.go:100", after := #[{ on := 4, ground := Ground.data }, { on := 9, ground := Ground.data }], guard := none }) rfl (fun K hK => ?_) ?_
                · refine step_append_run rfl (.tmp 121) (.tmp 126) 45 45 rfl (by simp [Act.eval]) (by simp [Act.eval]) hr ?_
                  refine hK.out _ _ ?_ (fun hHeld2 => ?_)
                  · (try dsimp only); (first | with_reducible exact HN1.out | with_reducible exact HN2.out | with_reducible exact HN0.out | go_keep)
                  clear hK K
                  try simp only [Act.put, List.setIfInBounds_toArray, List.set_cons_zero, List.set_cons_succ]
                  refine wpAnyH_take (i := 11) (oi := { dst := some 128, op := Op.nilCheck (Operand.tmp 117), type := 0, pos := "play.go:100", after := #[{ on := 0, ground := Ground.data }, { on := 0, ground := Ground.phase }, { on := 1, ground := Ground.phase }, { on := 2, ground := Ground.phase }, { on := 3, ground := Ground.phase }, { on := 4, ground := Ground.phase }, { on := 5, ground := Ground.phase }, { on := 6, ground := Ground.phase }, { on := 7, ground := Ground.phase }, { on := 8, ground := Ground.phase }, { on := 9, ground := Ground.phase }, { on := 10, ground := Ground.phase }], guard := none }) (v := ?_) rfl (by kernel_rfl) (by kernel_rfl) (by kernel_rfl) (fun _ _ _ h => h) (Or.inl ⟨by rfl, ?_⟩) (by assumption) ?_
                  rotate_left
                  · (intro wz hSw; (try dsimp only at hSw); go_simp; try with_reducible rfl)
                  simp only [Act.put, List.setIfInBounds_toArray, List.set_cons_zero, List.set_cons_succ]
                  refine wpAnyH_take (i := 12) (oi := { dst := some 129, op := Op.fieldAddr 86 (Operand.tmp 128) 9, type := 0, pos := "play.go:100", after := #[{ on := 11, ground := Ground.data }, { on := 0, ground := Ground.phase }, { on := 1, ground := Ground.phase }, { on := 2, ground := Ground.phase }, { on := 3, ground := Ground.phase }, { on := 4, ground := Ground.phase }, { on := 5, ground := Ground.phase }, { on := 6, ground := Ground.phase }, { on := 7, ground := Ground.phase }, { on := 8, ground := Ground.phase }, { on := 9, ground := Ground.phase }, { on := 10, ground := Ground.phase }], guard := none }) (v := ?_) rfl (by kernel_rfl) (by kernel_rfl) (by kernel_rfl) (fun _ _ _ h => h) (Or.inl ⟨by rfl, ?_⟩) (by assumption) ?_
                  rotate_left
                  · (intro wz hSw; (try dsimp only at hSw); go_simp; try with_reducible rfl)
                  simp only [Act.put, List.setIfInBounds_toArray, List.set_cons_zero, List.set_cons_succ]
                  refine wpAnyH_ready (rs := [13]) (by kernel_rfl) (by simp) ?_
                  refine AllReadyH.cons (o := { dst := none, op := Op.store 45 (Operand.tmp 129) (Operand.tmp 127), type := 0, pos := "play.go:100", after := #[{ on := 12, ground := Ground.data }, { on := 10, ground := Ground.data }, { on := 10, ground := Ground.chain }, { on := 0, ground := Ground.phase }, { on := 1, ground := Ground.phase }, { on := 2, ground := Ground.phase }, { on := 3, ground := Ground.phase }, { on := 4, ground := Ground.phase }, { on := 5, ground := Ground.phase }, { on := 6, ground := Ground.phase }, { on := 7, ground := Ground.phase }, { on := 8, ground := Ground.phase }, { on := 9, ground := Ground.phase }, { on := 10, ground := Ground.phase }], guard := none }) rfl (fun K hK => ?_) ?_
                  · go_simp
                    refine hK.out _ _ ?_ (fun hHeld2 => ?_)
                    · (try dsimp only); (first | with_reducible exact HN1.out | with_reducible exact HN2.out | with_reducible exact HN0.out | go_keep)
                    clear hK K
                    try simp only [Act.put, List.setIfInBounds_toArray, List.set_cons_zero, List.set_cons_succ]
                    refine wpAnyH_done (by kernel_rfl) ?_ _
                    go_wp2_with fail
                    go_meet
                    exact HJ.out
                  exact AllReadyH.nil
                exact AllReadyH.nil
              exact AllReadyH.nil
            refine AllReadyH.cons (o := { dst := some 126, op := Op.buildSlice 45 1 #[(0, Operand.tmp 125)], type := 45, pos := "play.go:100", after := #[{ on := 8, ground := Ground.data }], guard := none }) rfl (fun K hK => ?_) ?_
            · go_simp
              refine hK.out _ _ ?_ (fun hHeld2 => ?_)
              · (try dsimp only); (first | with_reducible exact HN1.out | with_reducible exact HN2.out | with_reducible exact HN0.out | go_keep)
              clear hK K
              try simp only [Act.put, List.setIfInBounds_toArray, List.set_cons_zero, List.set_cons_succ]
              refine wpAnyH_ready (rs := [4]) (by kernel_rfl) (by simp) ?_
              refine AllReadyH.cons (o := { dst := some 121, op := Op.load 45 (Operand.tmp 120), type := 45, pos := "play.go:100", after := #[{ on := 3, ground := Ground.data }], guard := none }) rfl (fun K hK => ?_) ?_
              · go_simp
                refine hK.out _ _ ?_ (fun hHeld2 => ?_)
                · (try dsimp only); (first | with_reducible exact HN1.out | with_reducible exact HN2.out | with_reducible exact HN0.out | go_keep)
                clear hK K
                try simp only [Act.put, List.setIfInBounds_toArray, List.set_cons_zero, List.set_cons_succ]
                refine wpAnyH_ready (rs := [10]) (by kernel_rfl) (by simp) ?_
                refine AllReadyH.cons (o := { dst := some 127, op := Op.call { callee := Callee.builtin Builtin.append, args := #[Operand.tmp 121, Operand.tmp 126], argTypes := #[45, 45] }, type := 45, pos := "play.go:100", after := #[{ on := 4, ground := Ground.data }, { on := 9, ground := Ground.data }], guard := none }) rfl (fun K hK => ?_) ?_
                · refine step_append_run rfl (.tmp 121) (.tmp 126) 45 45 rfl (by simp [Act.eval]) (by simp [Act.eval]) hr ?_
                  refine hK.out _ _ ?_ (fun hHeld2 => ?_)
                  · (try dsimp only); (first | with_reducible exact HN1.out | with_reducible exact HN2.out | with_reducible exact HN0.out | go_keep)
                  clear hK K
                  try simp only [Act.put, List.setIfInBounds_toArray, List.set_cons_zero, List.set_cons_succ]
                  refine wpAnyH_take (i := 11) (oi := { dst := some 128, op := Op.nilCheck (Operand.tmp 117), type := 0, pos := "play.go:100", after := #[{ on := 0, ground := Ground.data }, { on := 0, ground := Ground.phase }, { on := 1, ground := Ground.phase }, { on := 2, ground := Ground.phase }, { on := 3, ground := Ground.phase }, { on := 4, ground := Ground.phase }, { on := 5, ground := Ground.phase }, { on := 6, ground := Ground.phase }, { on := 7, ground := Ground.phase }, { on := 8, ground := Ground.phase }, { on := 9, ground := Ground.phase }, { on := 10, ground := Ground.phase }], guard := none }) (v := ?_) rfl (by kernel_rfl) (by kernel_rfl) (by kernel_rfl) (fun _ _ _ h => h) (Or.inl ⟨by rfl, ?_⟩) (by assumption) ?_
                  rotate_left
                  · (intro wz hSw; (try dsimp only at hSw); go_simp; try with_reducible rfl)
                  simp only [Act.put, List.setIfInBounds_toArray, List.set_cons_zero, List.set_cons_succ]
                  refine wpAnyH_take (i := 12) (oi := { dst := some 129, op := Op.fieldAddr 86 (Operand.tmp 128) 9, type := 0, pos := "play.go:100", after := #[{ on := 11, ground := Ground.data }, { on := 0, ground := Ground.phase }, { on := 1, ground := Ground.phase }, { on := 2, ground := Ground.phase }, { on := 3, ground := Ground.phase }, { on := 4, ground := Ground.phase }, { on := 5, ground := Ground.phase }, { on := 6, ground := Ground.phase }, { on := 7, ground := Ground.phase }, { on := 8, ground := Ground.phase }, { on := 9, ground := Ground.phase }, { on := 10, ground := Ground.phase }], guard := none }) (v := ?_) rfl (by kernel_rfl) (by kernel_rfl) (by kernel_rfl) (fun _ _ _ h => h) (Or.inl ⟨by rfl, ?_⟩) (by assumption) ?_
                  rotate_left
                  · (intro wz hSw; (try dsimp only at hSw); go_simp; try with_reducible rfl)
                  simp only [Act.put, List.setIfInBounds_toArray, List.set_cons_zero, List.set_cons_succ]
                  refine wpAnyH_ready (rs := [13]) (by kernel_rfl) (by simp) ?_
                  refine AllReadyH.cons (o := { dst := none, op := Op.store 45 (Operand.tmp 129) (Operand.tmp 127), type := 0, pos := "play.go:100", after := #[{ on := 12, ground := Ground.data }, { on := 10, ground := Ground.data }, { on := 10, ground := Ground.chain }, { on := 0, ground := Ground.phase }, { on := 1, ground := Ground.phase }, { on := 2, ground := Ground.phase }, { on := 3, ground := Ground.phase }, { on := 4, ground := Ground.phase }, { on := 5, ground := Ground.phase }, { on := 6, ground := Ground.phase }, { on := 7, ground := Ground.phase }, { on := 8, ground := Ground.phase }, { on := 9, ground := Ground.phase }, { on := 10, ground := Ground.phase }], guard := none }) rfl (fun K hK => ?_) ?_
                  · go_simp
                    refine hK.out _ _ ?_ (fun hHeld2 => ?_)
                    · (try dsimp only); (first | with_reducible exact HN1.out | with_reducible exact HN2.out | with_reducible exact HN0.out | go_keep)
                    clear hK K
                    try simp only [Act.put, List.setIfInBounds_toArray, List.set_cons_zero, List.set_cons_succ]
                    refine wpAnyH_done (by kernel_rfl) ?_ _
                    go_wp2_with fail
                    go_meet
                    exact HJ.out
                  exact AllReadyH.nil
                exact AllReadyH.nil
              exact AllReadyH.nil
            exact AllReadyH.nil
          case rest =>
            have h5 := hcut
            clear hcut HJ HN0 HN1 HN2 hr d10 f10 c10 c10' n0
            have c11 := h5.c11
            have h7 := h5.kept (Keeps.alloc None wc (.cells #[.slice none 0 0] 48))
            obtain ⟨gr, cr, w2, hra, ho2, hgr2, hm2⟩ := one_append Try.underlying47 Try.infoSl8 rfl (by decide) vd (.slice none 0 0) S1.reads.length _ wc.heap.size 47 _ h7.re (by have := HB.out.2.2.1; omega) rfl (new_at wc _ _ rfl)
            have hk2 := Keeps.grown (S := fun k => vd.ownBlock = some k) hgr2 (fun _ e => e)
            have hJ2 := h7.opened hk2 hm2 ho2
            have hP2 := (hk2.block P h7.lt h7.nP.2.2.1).trans h7.blk
            have d11 : w2.cell? ⟨P, 11, none⟩ = some vd := (cell_of_block hP2 11).trans rfl
            have f11 := free_of_block hP2 11
            have HJ2 : Hid _ := hJ2
            have hnf := nextFetch_any w0 _ P p F3 ao cap va _ _ _ _ hJ2 (by show S1.round < S1.rounds.length; exact hr1) (by show S1.round < (S1.reads ++ [[]]).length; have := HR2.out; simp; omega) (by show S1.rounds.length ≤ 64; exact HB.out.2.2.2.2.1)
            have hal := nextFetch_alive ({ S1 with holders := S1.holders ++ [num], reads := S1.reads ++ [[]] } : Pl)
            generalize hX : ({ S1 with holders := S1.holders ++ [num], reads := S1.reads ++ [[]] } : Pl).nextFetch = x at hnf hal
            have HX : Hid _ := hX
            obtain ⟨X, ⟨x0, x1, x2, x3, x4, x5, x6, x7⟩⟩ := x
            simp only [OpF.value, OpF.vals] at hnf hal
            have HA : Hid (X.alive = S1.alive) := hal
            clear h5 h7 ho2 hgr2 hm2 hk2 hJ2 hP2 hX hal
            go_wp2_with (at_builtin; refine wpList_append_run rfl (.tmp 134) (.tmp 135) 47 47 rfl rfl rfl hra ?_)
            refine hnf.mono ?_
            rintro e w5 ⟨rfl, h8, -⟩
            obtain ⟨n0, ⟨k1, k2, k3, k4, k5, k6, k7, k8⟩, -, ⟨z1, z2, z3, z4, z5, z6, z7, z8⟩⟩ := ACT.out _ _ _ _ _ _ _ h8 HA.out HV.out
            have HP : Hid _ := PUT.out w5 F3 va _ _ _ (X, ⟨x0, x1, x2, x3, x4, x5, x6, x7⟩) ⟨num, ⟨m0, m1, m2, m3, m4, m5, m6, m7⟩, ⟨y0, y1, y2, y3, y4, y5, y6, y7⟩⟩ h8 HA.out HV.out rfl rfl
            clear h8 hnf
            go_wp2_with fail
            go_end0
            refine ⟨rfl, ?_⟩
            rw [hfin.out, HX.out]
            exact ⟨_, _, _, _, _, HP.out⟩
        · exact absurd HCODE.out c11
end Go.Proofs.Ytlligclkoecknaa
