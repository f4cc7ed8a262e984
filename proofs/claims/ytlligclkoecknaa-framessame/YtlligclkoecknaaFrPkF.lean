import Derived.Test.YtlligclkoecknaaFrPk0
/-! A pick: the walk. -/
namespace Go.Proofs.Ytlligclkoecknaa
open Go.RowKit Go.HeapKit Go.IntWalk

set_option maxHeartbeats 20000000 in
set_option maxRecDepth 100000 in
theorem pick_c15 (w0 w : World) (P p : Nat) (ao : Option Addr) (cap : Nat) (S : Pl) (i : Nat) (h : PlayAt w0 w P p ao cap S) (hi : i < S.alive.length) (hsafe : Safe S i) (hsm : S.rounds.length ≤ 64) (hsl : Small S) (hcode : (S.went i).1.ans.1 = 15) :
    Calls Try.prog 37 #[.pointer (some ⟨P, 0, none⟩), .int .i64 i] w fun e w' => e = .returned (.tuple #[]) ∧ PlayAt w0 w' P p ao cap (S.pick i) := by
  obtain ⟨F, va, vh, vd, rs, h⟩ := h
  obtain ⟨g, c, hva, hcl, -, hcells⟩ := h.alive_at i hi
  have hwho := fun w' (hA : ArF w' p F S.A) => arf_who p F S.A (S.alive.getD i default).num w' hA
  have hstep := fun F' w' (hA : ArF w' p F' { S.A with actor := (S.alive.getD i default).num }) => fstep_any p F' _ (S.alive.getD i default).op w' hA (by have := hsafe.bd.2.2.2; show S.A.log.length < _; omega) hsafe.ft
  have hans := answer_any (S.went i).1 (by unfold Pl.went; exact OpF.fit_step _ hsafe.ft)
  have hw : (S.alive.getD i default).op.step { S.A with actor := (S.alive.getD i default).num } = S.went i := rfl
  rw [hw] at hstep
  have hpick : S.pick i = ({ S with A := (S.went i).2, alive := S.alive.set i { S.alive.getD i default with op := (S.went i).1 } } : Pl).after i { S.alive.getD i default with op := (S.went i).1 } (S.went i).1.ans.1 (S.went i).1.ans.2 := rfl
  rw [hpick]
  have i1 : (i : Int) < (S.alive.length : Int) := by omega
  have hlen : S.alive.length ≤ c := hcl
  have hm17 : i * 17 + 17 ≤ S.alive.length * 17 := by omega
  -- the cells of the actor, in any world in which the play stands
  have FC : Hid (∀ (wx : World) (F' : Nat → Prop) (A' : Ar), IsPlay w0 wx P p F' ao cap va vh vd rs { S with A := A' } → ∀ j, j < 17 → wx.cell? ⟨g, i * 17 + j, none⟩ = some ((S.alive.getD i default).vals.getD j undef) ∧ wx.frozen? ⟨g, i * 17 + j, none⟩ = false) := by
    intro wx F' A' hx
    obtain ⟨g', c', e', -, -, hc'⟩ := hx.alive_at i hi
    rw [hva] at e'
    injection e' with e1 e2 e3
    injection e1 with e1
    injection e1 with e1
    subst e1
    exact hc'
  have HO : Hid (∀ (wx : World) (F' : Nat → Prop) (A' : Ar) (o : OpF), IsPlay w0 wx P p F' ao cap va vh vd rs { S with A := A' } → IsPlay w0 (setsFrom wx g (i * 17 + 1) o.vals.toList) P p F' ao cap va vh vd rs { S with A := A', alive := S.alive.set i { S.alive.getD i default with op := o } }) :=
    fun wx F' A' o hx => hx.opset i hi hva o
  have hc4 := h.c4
  rw [hva] at hc4
  have hc0 := h.c0
  have n0 := (FC.out w F S.A h 0 (by omega)).1
  have hgP : g ≠ P := fun e => h.nP.1 (by rw [hva, e]; rfl)
  have HS : Hid _ := And.intro h (And.intro hva hsafe)
  generalize hW : S.went i = W at hstep hans ⊢
  have HW : Hid _ := hW
  clear hpick hw hsafe h hcells hva hW
  obtain ⟨o, B⟩ := W
  generalize hE : S.alive.getD i default = a at hwho hstep n0 FC HO ⊢
  have HE : Hid _ := hE
  clear hE
  obtain ⟨num, ⟨x0, x1, x2, x3, x4, x5, x6, x7⟩, ⟨y0, y1, y2, y3, y4, y5, y6, y7⟩⟩ := a
  have n0' : w.cell? ⟨g, i * 17, none⟩ = some (.int .i64 num) := n0
  have FX : Hid (∀ (wx : World) (F' : Nat → Prop) (A' : Ar), IsPlay w0 wx P p F' ao cap va vh vd rs { S with A := A' } → (wx.cell? ⟨g, i * 17 + 1, none⟩ = some (.int .i64 x0) ∧ wx.cell? ⟨g, i * 17 + 2, none⟩ = some (.int .i64 x1) ∧ wx.cell? ⟨g, i * 17 + 3, none⟩ = some (.int .i64 x2) ∧ wx.cell? ⟨g, i * 17 + 4, none⟩ = some (.int .i64 x3) ∧ wx.cell? ⟨g, i * 17 + 5, none⟩ = some (.int .i64 x4) ∧ wx.cell? ⟨g, i * 17 + 6, none⟩ = some (.int .i64 x5) ∧ wx.cell? ⟨g, i * 17 + 7, none⟩ = some (.int .i64 x6) ∧ wx.cell? ⟨g, i * 17 + 8, none⟩ = some (.int .i64 x7)) ∧ (wx.frozen? ⟨g, i * 17 + 1, none⟩ = false ∧ wx.frozen? ⟨g, i * 17 + 2, none⟩ = false ∧ wx.frozen? ⟨g, i * 17 + 3, none⟩ = false ∧ wx.frozen? ⟨g, i * 17 + 4, none⟩ = false ∧ wx.frozen? ⟨g, i * 17 + 5, none⟩ = false ∧ wx.frozen? ⟨g, i * 17 + 6, none⟩ = false ∧ wx.frozen? ⟨g, i * 17 + 7, none⟩ = false ∧ wx.frozen? ⟨g, i * 17 + 8, none⟩ = false)) :=
    fun wx F' A' hx => ⟨⟨(FC.out wx F' A' hx 1 (by omega)).1, (FC.out wx F' A' hx 2 (by omega)).1, (FC.out wx F' A' hx 3 (by omega)).1, (FC.out wx F' A' hx 4 (by omega)).1, (FC.out wx F' A' hx 5 (by omega)).1, (FC.out wx F' A' hx 6 (by omega)).1, (FC.out wx F' A' hx 7 (by omega)).1, (FC.out wx F' A' hx 8 (by omega)).1⟩, ⟨(FC.out wx F' A' hx 1 (by omega)).2, (FC.out wx F' A' hx 2 (by omega)).2, (FC.out wx F' A' hx 3 (by omega)).2, (FC.out wx F' A' hx 4 (by omega)).2, (FC.out wx F' A' hx 5 (by omega)).2, (FC.out wx F' A' hx 6 (by omega)).2, (FC.out wx F' A' hx 7 (by omega)).2, (FC.out wx F' A' hx 8 (by omega)).2⟩⟩
  clear n0
  obtain ⟨m0, m1, m2, m3, m4, m5, m6, m7⟩ := o
  obtain ⟨S1, hS1⟩ : ∃ S1 : Pl, S1 = { S with A := B, alive := S.alive.set i ⟨num, ⟨m0, m1, m2, m3, m4, m5, m6, m7⟩, ⟨y0, y1, y2, y3, y4, y5, y6, y7⟩⟩ } := ⟨_, rfl⟩
  simp only at hwho hstep hans ⊢
  rw [← hS1]
  have HS1 : Hid _ := hS1
  clear hS1
  generalize hAN : (OpF.mk m0 m1 m2 m3 m4 m5 m6 m7).ans = an at hans ⊢
  have HAN : Hid _ := hAN
  clear hAN
  obtain ⟨code, v⟩ := an
  simp only at hans ⊢
  simp only [OpF.value, OpF.vals] at hstep hans
  go_enter Try.func37, Try.ntmps37
  go_upto_region 1 with fail
  go_cut [14] (fun s14 wx => ∃ F', IsPlay w0 wx P p F' ao cap va vh vd rs { S with A := { S.A with actor := num } })
  case first =>
    go_region_held3 (fun w' => w'.cell? ⟨P, 0, none⟩ = some (.pointer (some ⟨p, 0, none⟩)) ∧ w'.cell? ⟨g, i * 17, none⟩ = some (.int .i64 num)) (first | with_reducible exact hs2 | go_keep) (first
      | (go_at_call 49; refine (hwho _ (HS.out.1.kept (Keeps.drew None _)).ar).mono ?_; rintro e w2 ⟨rfl, hA2⟩; obtain ⟨F2, h2⟩ := (HS.out.1.kept (Keeps.drew None _)).acc hA2; have hs2 : w2.cell? ⟨P, 0, none⟩ = some (.pointer (some ⟨p, 0, none⟩)) ∧ w2.cell? ⟨g, i * 17, none⟩ = some (.int .i64 num) := ⟨h2.c0, (FC.out w2 F2 _ h2 0 (by omega)).1⟩))
    all_goals (go_wp2_with fail; go_meet)
    all_goals exact ⟨F2, h2⟩
  case rest =>
    obtain ⟨F2, h2⟩ := hcut
    obtain ⟨wb, hwb⟩ : ∃ wb, wb = wc := ⟨_, rfl⟩
    subst hwb
    clear hc0 hc4 n0' hwho
    have d0 := h2.c0
    obtain ⟨⟨k1, k2, k3, k4, k5, k6, k7, k8⟩, -⟩ := FX.out _ _ _ h2
    have H2 : Hid _ := h2
    clear h2
    go_upto_region 2 with fail
    go_cut [23] (fun s23 wx => ∃ F', IsPlay w0 wx P p F' ao cap va vh vd rs S1)
    case first =>
      refine wp_region_held_drew (S := (fun w' => w'.cell? ⟨P, 0, none⟩ = some (.pointer (some ⟨p, 0, none⟩)))) (by kernel_rfl) ?_ (fun hHeld => ?_)
      · (try dsimp only); (first | with_reducible exact hs2 | with_reducible exact hs3 | go_keep)
      refine wpAnyH_take (i := 0) (oi := { dst := some 23, op := Op.move (Operand.tmp 4), type := 101, pos := "play.go:85", after := #[], guard := none }) (v := ?_) rfl (by kernel_rfl) (by kernel_rfl) (by kernel_rfl) (fun _ _ _ h => h) (Or.inl ⟨by rfl, ?_⟩) (by assumption) ?_
      rotate_left
      · (intro wz hSw; (try dsimp only at hSw); go_simp; try with_reducible rfl)
      simp only [Act.put, List.setIfInBounds_toArray, List.set_cons_zero, List.set_cons_succ]
      refine wpAnyH_take (i := 1) (oi := { dst := some 24, op := Op.move (Operand.tmp 0), type := 98, pos := "play.go:85", after := #[], guard := none }) (v := ?_) rfl (by kernel_rfl) (by kernel_rfl) (by kernel_rfl) (fun _ _ _ h => h) (Or.inl ⟨by rfl, ?_⟩) (by assumption) ?_
      rotate_left
      · (intro wz hSw; (try dsimp only at hSw); go_simp; try with_reducible rfl)
      simp only [Act.put, List.setIfInBounds_toArray, List.set_cons_zero, List.set_cons_succ]
      refine wpAnyH_take (i := 2) (oi := { dst := some 25, op := Op.nilCheck (Operand.tmp 24), type := 0, pos := "play.go:85", after := #[{ on := 1, ground := Ground.data }], guard := none }) (v := ?_) rfl (by kernel_rfl) (by kernel_rfl) (by kernel_rfl) (fun _ _ _ h => h) (Or.inl ⟨by rfl, ?_⟩) (by assumption) ?_
      rotate_left
      · (intro wz hSw; (try dsimp only at hSw); go_simp; try with_reducible rfl)
      simp only [Act.put, List.setIfInBounds_toArray, List.set_cons_zero, List.set_cons_succ]
      refine wpAnyH_take (i := 3) (oi := { dst := some 26, op := Op.fieldAddr 86 (Operand.tmp 25) 0, type := 0, pos := "play.go:85", after := #[{ on := 2, ground := Ground.data }], guard := none }) (v := ?_) rfl (by kernel_rfl) (by kernel_rfl) (by kernel_rfl) (fun _ _ _ h => h) (Or.inl ⟨by rfl, ?_⟩) (by assumption) ?_
      rotate_left
      · (intro wz hSw; (try dsimp only at hSw); go_simp; try with_reducible rfl)
      simp only [Act.put, List.setIfInBounds_toArray, List.set_cons_zero, List.set_cons_succ]
      refine wpAnyH_take (i := 4) (oi := { dst := some 27, op := Op.load 24 (Operand.tmp 26), type := 24, pos := "play.go:85", after := #[{ on := 3, ground := Ground.data }], guard := none }) (v := ?_) rfl (by kernel_rfl) (by kernel_rfl) (by kernel_rfl) (fun _ _ _ h => h) (Or.inl ⟨by rfl, ?_⟩) (by assumption) ?_
      rotate_left
      · (intro wz hSw; (try dsimp only at hSw); go_simp; try with_reducible rfl)
      simp only [Act.put, List.setIfInBounds_toArray, List.set_cons_zero, List.set_cons_succ]
      refine wpAnyH_take (i := 5) (oi := { dst := some 28, op := Op.makeInterface 24 (Operand.tmp 27), type := 72, pos := "play.go:85", after := #[{ on := 4, ground := Ground.data }], guard := none }) (v := ?_) rfl (by kernel_rfl) (by kernel_rfl) (by kernel_rfl) (fun _ _ _ h => h) (Or.inl ⟨by rfl, ?_⟩) (by assumption) ?_
      rotate_left
      · (intro wz hSw; (try dsimp only at hSw); go_simp; try with_reducible rfl)
      simp only [Act.put, List.setIfInBounds_toArray, List.set_cons_zero, List.set_cons_succ]
      refine wpAnyH_take (i := 6) (oi := { dst := some 29, op := Op.move (Operand.tmp 4), type := 101, pos := "play.go:85", after := #[], guard := none }) (v := ?_) rfl (by kernel_rfl) (by kernel_rfl) (by kernel_rfl) (fun _ _ _ h => h) (Or.inl ⟨by rfl, ?_⟩) (by assumption) ?_
      rotate_left
      · (intro wz hSw; (try dsimp only at hSw); go_simp; try with_reducible rfl)
      simp only [Act.put, List.setIfInBounds_toArray, List.set_cons_zero, List.set_cons_succ]
      refine wpAnyH_take (i := 7) (oi := { dst := some 30, op := Op.nilCheck (Operand.tmp 29), type := 0, pos := "play.go:85", after := #[{ on := 6, ground := Ground.data }], guard := none }) (v := ?_) rfl (by kernel_rfl) (by kernel_rfl) (by kernel_rfl) (fun _ _ _ h => h) (Or.inl ⟨by rfl, ?_⟩) (by assumption) ?_
      rotate_left
      · (intro wz hSw; (try dsimp only at hSw); go_simp; try with_reducible rfl)
      simp only [Act.put, List.setIfInBounds_toArray, List.set_cons_zero, List.set_cons_succ]
      refine wpAnyH_take (i := 8) (oi := { dst := some 31, op := Op.fieldAddr 100 (Operand.tmp 30) 1, type := 0, pos := "play.go:85", after := #[{ on := 7, ground := Ground.data }], guard := none }) (v := ?_) rfl (by kernel_rfl) (by kernel_rfl) (by kernel_rfl) (fun _ _ _ h => h) (Or.inl ⟨by rfl, ?_⟩) (by assumption) ?_
      rotate_left
      · (intro wz hSw; (try dsimp only at hSw); go_simp; try with_reducible rfl)
      simp only [Act.put, List.setIfInBounds_toArray, List.set_cons_zero, List.set_cons_succ]
      refine wpAnyH_ready (rs := [9]) (by kernel_rfl) (by simp) ?_
      refine AllReadyH.cons (o := { dst := some 32, op := Op.load 39 (Operand.tmp 31), type := 39, pos := "play.go:85", after := #[{ on := 8, ground := Ground.data }], guard := none }) rfl (fun K hK => ?_) ?_
      · go_simp
        refine hK.out _ _ ?_ (fun hHeld2 => ?_)
        · (try dsimp only); (first | with_reducible exact hs2 | with_reducible exact hs3 | go_keep)
        clear hK K
        try simp only [Act.put, List.setIfInBounds_toArray, List.set_cons_zero, List.set_cons_succ]
        refine wpAnyH_ready (rs := [10]) (by kernel_rfl) (by simp) ?_
        refine AllReadyH.cons (o := { dst := some 33, op := Op.call { callee := Callee.value (Operand.func 11), args := #[Operand.tmp 28, Operand.tmp 32], argTypes := #[72, 39] }, type := 39, pos := "play.go:85", after := #[{ on := 5, ground := Ground.data }, { on := 9, ground := Ground.data }], guard := none }) rfl (fun K hK => ?_) ?_
        · go_simp
          refine (hstep F2 _ (H2.out.kept (Keeps.drew None _)).ar).mono ?_
          rintro _ w5 ⟨rfl, hA5⟩
          obtain ⟨F5, h5⟩ := (H2.out.kept (Keeps.drew None _)).acc hA5
          have hs2 := h5.c0
          obtain ⟨⟨j1, j2, j3, j4, j5, j6, j7, j8⟩, ⟨q1, q2, q3, q4, q5, q6, q7, q8⟩⟩ := FX.out _ _ _ h5
          have h6 := HO.out _ _ _ (OpF.mk m0 m1 m2 m3 m4 m5 m6 m7) h5
          have hs3 := h6.c0
          simp only [setsFrom, OpF.vals] at hs3
          refine hK.out _ _ ?_ (fun hHeld2 => ?_)
          · (try dsimp only); (first | with_reducible exact hs2 | with_reducible exact hs3 | go_keep)
          clear hK K
          try simp only [Act.put, List.setIfInBounds_toArray, List.set_cons_zero, List.set_cons_succ]
          refine wpAnyH_take (i := 11) (oi := { dst := some 34, op := Op.nilCheck (Operand.tmp 23), type := 0, pos := "play.go:85", after := #[{ on := 0, ground := Ground.data }, { on := 0, ground := Ground.phase }, { on := 1, ground := Ground.phase }, { on := 2, ground := Ground.phase }, { on := 3, ground := Ground.phase }, { on := 4, ground := Ground.phase }, { on := 5, ground := Ground.phase }, { on := 6, ground := Ground.phase }, { on := 7, ground := Ground.phase }, { on := 8, ground := Ground.phase }, { on := 9, ground := Ground.phase }, { on := 10, ground := Ground.phase }], guard := none }) (v := ?_) rfl (by kernel_rfl) (by kernel_rfl) (by kernel_rfl) (fun _ _ _ h => h) (Or.inl ⟨by rfl, ?_⟩) (by assumption) ?_
          rotate_left
          · (intro wz hSw; (try dsimp only at hSw); go_simp; try with_reducible rfl)
          simp only [Act.put, List.setIfInBounds_toArray, List.set_cons_zero, List.set_cons_succ]
          refine wpAnyH_take (i := 12) (oi := { dst := some 35, op := Op.fieldAddr 100 (Operand.tmp 34) 1, type := 0, pos := "play.go:85", after := #[{ on := 11, ground := Ground.data }, { on := 0, ground := Ground.phase }, { on := 1, ground := Ground.phase }, { on := 2, ground := Ground.phase }, { on := 3, ground := Ground.phase }, { on := 4, ground := Ground.phase }, { on := 5, ground := Ground.phase }, { on := 6, ground := Ground.phase }, { on := 7, ground := Ground.phase }, { on := 8, ground := Ground.phase }, { on := 9, ground := Ground.phase }, { on := 10, ground := Ground.phase }], guard := none }) (v := ?_) rfl (by kernel_rfl) (by kernel_rfl) (by kernel_rfl) (fun _ _ _ h => h) (Or.inl ⟨by rfl, ?_⟩) (by assumption) ?_
          rotate_left
          · (intro wz hSw; (try dsimp only at hSw); go_simp; try with_reducible rfl)
          simp only [Act.put, List.setIfInBounds_toArray, List.set_cons_zero, List.set_cons_succ]
          refine wpAnyH_ready (rs := [13]) (by kernel_rfl) (by simp) ?_
          refine AllReadyH.cons (o := { dst := none, op := Op.store 39 (Operand.tmp 35) (Operand.tmp 33), type := 0, pos := "play.go:85", after := #[{ on := 12, ground := Ground.data }, { on := 10, ground := Ground.data }, { on := 10, ground := Ground.chain }, { on := 0, ground := Ground.phase }, { on := 1, ground := Ground.phase }, { on := 2, ground := Ground.phase }, { on := 3, ground := Ground.phase }, { on := 4, ground := Ground.phase }, { on := 5, ground := Ground.phase }, { on := 6, ground := Ground.phase }, { on := 7, ground := Ground.phase }, { on := 8, ground := Ground.phase }, { on := 9, ground := Ground.phase }, { on := 10, ground := Ground.phase }], guard := none }) rfl (fun K hK => ?_) ?_
          · go_simp
            refine hK.out _ _ ?_ (fun hHeld2 => ?_)
            · (try dsimp only); (first | with_reducible exact hs2 | with_reducible exact hs3 | go_keep)
            clear hK K
            try simp only [Act.put, List.setIfInBounds_toArray, List.set_cons_zero, List.set_cons_succ]
            refine wpAnyH_done (by kernel_rfl) ?_ _
            go_wp2_with fail
            go_meet
            exact ⟨F5, by rw [HS1.out]; exact h6⟩
          exact AllReadyH.nil
        exact AllReadyH.nil
      exact AllReadyH.nil
    case rest =>
      obtain ⟨F3, h3⟩ := hcut
      have hS1 := HS1.out
      obtain ⟨hva, hsafe⟩ := HS.out.2
      have a1 : S1.alive.getD i default = ⟨num, ⟨m0, m1, m2, m3, m4, m5, m6, m7⟩, ⟨y0, y1, y2, y3, y4, y5, y6, y7⟩⟩ := by rw [hS1]; simp [List.getD_eq_getElem?_getD, hi]
      have hi1 : i < S1.alive.length := by rw [hS1]; simpa using hi
      have hn1 : S.alive.length = S1.alive.length := by rw [hS1]; simp
      have HB : Hid (S1.alive.length ≤ 600 ∧ S1.holders.length ≤ 100 ∧ S1.reads.length ≤ 100 ∧ (∀ r, (S1.reads.getD r []).length ≤ 100) ∧ S1.rounds.length ≤ 64 ∧ S1.round ≤ S1.rounds.length ∧ S1.born ≤ 600 ∧ S1.forked ≤ 8 ∧ (code = 13 ∨ code = 11 → S1.round < S1.rounds.length ∧ S1.reads.length = S1.round) ∧ (code = 15 → S1.round < S1.rounds.length ∧ S1.round < S1.reads.length)) := by
        have e := HW.out
        have b1 := hsafe.bk
        have b2 := hsafe.fe
        rw [e] at b1 b2
        simp only [HAN.out] at b1 b2
        rw [← hn1, hS1]
        exact ⟨hsl.al, hsl.ho, hsl.re, hsl.row, hsm, hsafe.rd, hsafe.bd.1, hsafe.bd.2.2.1, b1, b2⟩
      have HCODE : Hid (code = 15) := by
        have e9 := hcode
        rw [HW.out] at e9
        simp only [HAN.out] at e9
        exact e9
      clear hcode hS1 HS1 HAN HS HW HE FC HO FX H2 hstep d0 k1 k2 k3 k4 k5 k6 k7 k8 hsafe hsl hsm
      obtain ⟨q, hq⟩ : ∃ q, i * 17 = q := ⟨_, rfl⟩
      rw [hq]
      rw [hn1] at hva i1
      have hqm : q + 17 ≤ S1.alive.length * 17 := by omega
      have ACT : Hid (∀ (wx : World) (F' : Nat → Prop) (va' vh' vd' : Value) (rs' : List Value) (X : Pl), IsPlay w0 wx P p F' ao cap va' vh' vd' rs' X → X.alive = S1.alive → va' = .slice (some ⟨g, 0, none⟩) S1.alive.length c → wx.cell? ⟨g, q, none⟩ = some (.int .i64 num) ∧ (wx.cell? ⟨g, q + 1, none⟩ = some (.int .i64 m0) ∧ wx.cell? ⟨g, q + 2, none⟩ = some (.int .i64 m1) ∧ wx.cell? ⟨g, q + 3, none⟩ = some (.int .i64 m2) ∧ wx.cell? ⟨g, q + 4, none⟩ = some (.int .i64 m3) ∧ wx.cell? ⟨g, q + 5, none⟩ = some (.int .i64 m4) ∧ wx.cell? ⟨g, q + 6, none⟩ = some (.int .i64 m5) ∧ wx.cell? ⟨g, q + 7, none⟩ = some (.int .i64 m6) ∧ wx.cell? ⟨g, q + 8, none⟩ = some (.int .i64 m7)) ∧ (wx.cell? ⟨g, q + 9, none⟩ = some (.int .i64 y0) ∧ wx.cell? ⟨g, q + 10, none⟩ = some (.int .i64 y1) ∧ wx.cell? ⟨g, q + 11, none⟩ = some (.int .i64 y2) ∧ wx.cell? ⟨g, q + 12, none⟩ = some (.int .i64 y3) ∧ wx.cell? ⟨g, q + 13, none⟩ = some (.int .i64 y4) ∧ wx.cell? ⟨g, q + 14, none⟩ = some (.int .i64 y5) ∧ wx.cell? ⟨g, q + 15, none⟩ = some (.int .i64 y6) ∧ wx.cell? ⟨g, q + 16, none⟩ = some (.int .i64 y7)) ∧ (wx.frozen? ⟨g, q + 1, none⟩ = false ∧ wx.frozen? ⟨g, q + 2, none⟩ = false ∧ wx.frozen? ⟨g, q + 3, none⟩ = false ∧ wx.frozen? ⟨g, q + 4, none⟩ = false ∧ wx.frozen? ⟨g, q + 5, none⟩ = false ∧ wx.frozen? ⟨g, q + 6, none⟩ = false ∧ wx.frozen? ⟨g, q + 7, none⟩ = false ∧ wx.frozen? ⟨g, q + 8, none⟩ = false)) := fun wx F' va' vh' vd' rs' X hX eX ev => hX.acts (i := i) (eX ▸ hi1) ev ((congrArg (fun l => l.getD i default) eX).trans a1) q hq
      have PUT : Hid (∀ (wx : World) (F' : Nat → Prop) (va' vh' vd' : Value) (rs' : List Value) (x : Pl × OpF) (a' : Actr), IsPlay w0 wx P p F' ao cap va' vh' vd' rs' x.1 → x.1.alive = S1.alive → va' = .slice (some ⟨g, 0, none⟩) S1.alive.length c → a'.num = num → a'.fin = ⟨y0, y1, y2, y3, y4, y5, y6, y7⟩ → IsPlay w0 (setsFrom wx g (q + 1) x.2.vals.toList) P p F' ao cap va' vh' vd' rs' (Pl.put i a' x)) :=
        fun wx F' va' vh' vd' rs' x a' hX eX ev e1 e2 => hX.putOk eX hi1 rfl ev (by rw [a1]; exact ⟨e1.symm, e2.symm⟩) q hq
      obtain ⟨n0, ⟨k1, k2, k3, k4, k5, k6, k7, k8⟩, -, -⟩ := ACT.out _ _ _ _ _ _ _ h3 rfl hva
      have H3 : Hid _ := And.intro h3 hva
      have HQ : Hid (i * 17 = q) := hq
      clear h3 hva hq hqm
      go_upto_region 3 with fail
      go_cut [5, 6] (fun s5 s6 wx => s5 = .int .i64 code ∧ s6 = .int .i64 v ∧ IsPlay w0 wx P p F3 ao cap va vh vd rs S1)
      case first =>
        go_wp2_with fail
        refine (hans _).mono ?_
        rintro e w5 ⟨rfl, hk5⟩
        go_wp2_with fail
        go_meet
        exact ⟨rfl, rfl, H3.out.1.kept hk5⟩
      case rest =>
        obtain ⟨rfl, rfl, h4⟩ := hcut
        have hva := H3.out.2
        clear n0 k1 k2 k3 k4 k5 k6 k7 k8 H3 hans
        obtain ⟨n0, ⟨k1, k2, k3, k4, k5, k6, k7, k8⟩, ⟨l1, l2, l3, l4, l5, l6, l7, l8⟩, ⟨z1, z2, z3, z4, z5, z6, z7, z8⟩⟩ := ACT.out _ _ _ _ _ _ _ h4 rfl hva
        by_cases c15 : code = 15
        · subst c15
          obtain ⟨hr1, hr2⟩ := HB.out.2.2.2.2.2.2.2.2.2 rfl
          obtain ⟨gd, cd, hvd, hcd, cg, -⟩ := h4.read_cell S1.round hr2
          obtain ⟨xr, cr, hxr⟩ := own_slice (h4.row S1.round hr2)
          have h6 := (h4.kept (Keeps.drew None wc)).kept (Keeps.alloc None wc.drew (.cells #[.int .i64 v] 2))
          obtain ⟨L, hL⟩ : ∃ L, (S1.reads.getD S1.round []).length = L := ⟨_, rfl⟩
          have hrow6 := h6.row S1.round hr2
          rw [hL] at hrow6 hxr
          obtain ⟨gw, cw, w1, hr, ho, hgr, hm⟩ := one_append Try.underlying48 Try.infoI648 rfl (by decide) (rs.getD S1.round undef) (.int .i64 v) L _ wc.heap.size 48 _ hrow6 (by have := HB.out.2.2.2.1 S1.round; omega) rfl (new_at wc.drew _ _ rfl)
          have hk1 := Keeps.grown (S := fun k => (rs.getD S1.round undef).ownBlock = some k) hgr (fun _ e => e)
          have hJ := h6.read (x := v) hr2 hvd hk1 hm (by rw [hL]; exact ho)
          have hrl : S1.round < rs.length := by rw [h4.rl]; exact hr2
          have hgd : vd.ownBlock = some gd := by rw [hvd]; rfl
          have hgdP : gd ≠ P := fun e => h4.nP.2.2.1 (e ▸ hgd)
          have hngd : ¬ (rs.getD S1.round undef).ownBlock = some gd := fun e => own_apart h4.re (h4.row S1.round hr2) (by decide) hgd e
          obtain ⟨gd2, cd2, hvd2, -, cg6, fg6⟩ := h6.read_cell S1.round hr2
          have egd : gd2 = gd := by
            rw [hvd] at hvd2
            injection hvd2 with e1
            injection e1 with e1
            injection e1 with e1
            exact e1.symm
          subst egd
          have dg : w1.cell? ⟨gd2, S1.round, none⟩ = some (rs.getD S1.round undef) := hk1.cell cg6 hngd
          have fg : w1.frozen? ⟨gd2, S1.round, none⟩ = false := (World.frozen?_of_block (hk1.block gd2 (own_lt h6.re hgd) hngd)).trans fg6
          have HS0 : Hid (wc.cell? ⟨P, 11, none⟩ = some (.slice (some ⟨gd2, 0, none⟩) S1.reads.length cd) ∧ wc.cell? ⟨P, 6, none⟩ = some (.int .i64 S1.round)) := ⟨by have := h4.c11; rw [hvd] at this; exact this, h4.c6⟩
          have HS1 : Hid (w1.cell? ⟨P, 11, none⟩ = some (.slice (some ⟨gd2, 0, none⟩) S1.reads.length cd) ∧ w1.cell? ⟨P, 6, none⟩ = some (.int .i64 S1.round)) := ⟨hk1.cell (by have := h6.c11; rw [hvd] at this; exact this) (h6.nP.2.2.2 S1.round hrl), hk1.cell h6.c6 (h6.nP.2.2.2 S1.round hrl)⟩
          have HS2 : Hid ((w1.setCell ⟨gd2, S1.round, none⟩ (.slice (some ⟨gw, 0, none⟩) (L + 1) cw)).cell? ⟨P, 11, none⟩ = some (.slice (some ⟨gd2, 0, none⟩) S1.reads.length cd) ∧ (w1.setCell ⟨gd2, S1.round, none⟩ (.slice (some ⟨gw, 0, none⟩) (L + 1) cw)).cell? ⟨P, 6, none⟩ = some (.int .i64 S1.round)) := ⟨(Keeps.setCell (S := (· = gd2)) w1 (a := ⟨gd2, S1.round, none⟩) rfl _).cell HS1.out.1 (fun e => hgdP e.symm), (Keeps.setCell (S := (· = gd2)) w1 (a := ⟨gd2, S1.round, none⟩) rfl _).cell HS1.out.2 (fun e => hgdP e.symm)⟩
          have cg' := (Keeps.alloc None wc (.cells #[.int .i64 v] 2)).cell cg (fun f => f)
          have HJ : Hid _ := hJ
          have HV : Hid _ := hva
          have s0 := HS0.out
          obtain ⟨s11, s6⟩ := s0
          have i6 : (S1.round : Int) < (S1.reads.length : Int) := by omega
          rw [hxr] at cg cg' dg hr
          have hnf := nextFetch_any w0 _ P p F3 ao cap va _ _ _ _ hJ (by show S1.round < S1.rounds.length; exact hr1) (by show S1.round < (S1.reads.set S1.round _).length; simp; exact hr2) (by show S1.rounds.length ≤ 64; exact HB.out.2.2.2.2.1)
          have hal := nextFetch_alive ({ S1 with reads := S1.reads.set S1.round (S1.reads.getD S1.round [] ++ [v]) } : Pl)
          generalize hX : ({ S1 with reads := S1.reads.set S1.round (S1.reads.getD S1.round [] ++ [v]) } : Pl).nextFetch = x at hnf hal
          have HX : Hid _ := hX
          obtain ⟨X, ⟨x0, x1, x2, x3, x4, x5, x6, x7⟩⟩ := x
          simp only [OpF.value, OpF.vals] at hnf hal
          have HA : Hid (X.alive = S1.alive) := hal
          have HD : Hid _ := And.intro hvd hcd
          clear hL h4 hva h6 ho hgr hm hk1 hJ hrow6 hgd hngd cg6 fg6 hvd hvd2 hX hal hcd hxr hrl n0 k1 k2 k3 k4 k5 k6 k7 k8 l1 l2 l3 l4 l5 l6 l7 l8 z1 z2 z3 z4 z5 z6 z7 z8
          go_upto_region 22 with fail
          go_cut [146] (fun s146 wx => wx = w1.setCell ⟨gd2, S1.round, none⟩ (.slice (some ⟨gw, 0, none⟩) (L + 1) cw))
          case first =>
            refine wp_region_held_drew (S := (fun w' => w'.cell? ⟨P, 11, none⟩ = some (.slice (some ⟨gd2, 0, none⟩) S1.reads.length cd) ∧ w'.cell? ⟨P, 6, none⟩ = some (.int .i64 S1.round))) (by kernel_rfl) ?_ (fun hHeld => ?_)
            · (try dsimp only); (first | with_reducible exact HS1.out | with_reducible exact HS2.out | with_reducible exact HS0.out | go_keep)
            refine wpAnyH_take (i := 0) (oi := { dst := some 146, op := Op.move (Operand.tmp 0), type := 98, pos := "play.go:104", after := #[], guard := none }) (v := ?_) rfl (by kernel_rfl) (by kernel_rfl) (by kernel_rfl) (fun _ _ _ h => h) (Or.inl ⟨by rfl, ?_⟩) (by assumption) ?_
            rotate_left
            · (intro wz hSw; (try dsimp only at hSw); go_simp; try with_reducible rfl)
            simp only [Act.put, List.setIfInBounds_toArray, List.set_cons_zero, List.set_cons_succ]
            refine wpAnyH_take (i := 1) (oi := { dst := some 147, op := Op.nilCheck (Operand.tmp 146), type := 0, pos := "play.go:104", after := #[{ on := 0, ground := Ground.data }], guard := none }) (v := ?_) rfl (by kernel_rfl) (by kernel_rfl) (by kernel_rfl) (fun _ _ _ h => h) (Or.inl ⟨by rfl, ?_⟩) (by assumption) ?_
            rotate_left
            · (intro wz hSw; (try dsimp only at hSw); go_simp; try with_reducible rfl)
            simp only [Act.put, List.setIfInBounds_toArray, List.set_cons_zero, List.set_cons_succ]
            refine wpAnyH_take (i := 2) (oi := { dst := some 148, op := Op.fieldAddr 86 (Operand.tmp 147) 10, type := 0, pos := "play.go:104", after := #[{ on := 1, ground := Ground.data }], guard := none }) (v := ?_) rfl (by kernel_rfl) (by kernel_rfl) (by kernel_rfl) (fun _ _ _ h => h) (Or.inl ⟨by rfl, ?_⟩) (by assumption) ?_
            rotate_left
            · (intro wz hSw; (try dsimp only at hSw); go_simp; try with_reducible rfl)
            simp only [Act.put, List.setIfInBounds_toArray, List.set_cons_zero, List.set_cons_succ]
            refine wpAnyH_take (i := 3) (oi := { dst := some 149, op := Op.load 47 (Operand.tmp 148), type := 47, pos := "play.go:104", after := #[{ on := 2, ground := Ground.data }], guard := none }) (v := ?_) rfl (by kernel_rfl) (by kernel_rfl) (by kernel_rfl) (fun _ _ _ h => h) (Or.inl ⟨by rfl, ?_⟩) (by assumption) ?_
            rotate_left
            · (intro wz hSw; (try dsimp only at hSw); go_simp; try with_reducible rfl)
            simp only [Act.put, List.setIfInBounds_toArray, List.set_cons_zero, List.set_cons_succ]
            refine wpAnyH_take (i := 4) (oi := { dst := some 150, op := Op.move (Operand.tmp 0), type := 98, pos := "play.go:104", after := #[], guard := none }) (v := ?_) rfl (by kernel_rfl) (by kernel_rfl) (by kernel_rfl) (fun _ _ _ h => h) (Or.inl ⟨by rfl, ?_⟩) (by assumption) ?_
            rotate_left
            · (intro wz hSw; (try dsimp only at hSw); go_simp; try with_reducible rfl)
            simp only [Act.put, List.setIfInBounds_toArray, List.set_cons_zero, List.set_cons_succ]
            refine wpAnyH_take (i := 5) (oi := { dst := some 151, op := Op.nilCheck (Operand.tmp 150), type := 0, pos := "play.go:104", after := #[{ on := 4, ground := Ground.data }], guard := none }) (v := ?_) rfl (by kernel_rfl) (by kernel_rfl) (by kernel_rfl) (fun _ _ _ h => h) (Or.inl ⟨by rfl, ?_⟩) (by assumption) ?_
            rotate_left
            · (intro wz hSw; (try dsimp only at hSw); go_simp; try with_reducible rfl)
            simp only [Act.put, List.setIfInBounds_toArray, List.set_cons_zero, List.set_cons_succ]
            refine wpAnyH_take (i := 6) (oi := { dst := some 152, op := Op.fieldAddr 86 (Operand.tmp 151) 5, type := 0, pos := "play.go:104", after := #[{ on := 5, ground := Ground.data }], guard := none }) (v := ?_) rfl (by kernel_rfl) (by kernel_rfl) (by kernel_rfl) (fun _ _ _ h => h) (Or.inl ⟨by rfl, ?_⟩) (by assumption) ?_
            rotate_left
            · (intro wz hSw; (try dsimp only at hSw); go_simp; try with_reducible rfl)
            simp only [Act.put, List.setIfInBounds_toArray, List.set_cons_zero, List.set_cons_succ]
            refine wpAnyH_take (i := 7) (oi := { dst := some 153, op := Op.load 3 (Operand.tmp 152), type := 3, pos := "play.go:104", after := #[{ on := 6, ground := Ground.data }], guard := none }) (v := ?_) rfl (by kernel_rfl) (by kernel_rfl) (by kernel_rfl) (fun _ _ _ h => h) (Or.inl ⟨by rfl, ?_⟩) (by assumption) ?_
            rotate_left
            · (intro wz hSw; (try dsimp only at hSw); go_simp; try with_reducible rfl)
            simp only [Act.put, List.setIfInBounds_toArray, List.set_cons_zero, List.set_cons_succ]
            refine wpAnyH_take (i := 8) (oi := { dst := some 154, op := Op.move (Operand.tmp 0), type := 98, pos := "play.go:104", after := #[], guard := none }) (v := ?_) rfl (by kernel_rfl) (by kernel_rfl) (by kernel_rfl) (fun _ _ _ h => h) (Or.inl ⟨by rfl, ?_⟩) (by assumption) ?_
            rotate_left
            · (intro wz hSw; (try dsimp only at hSw); go_simp; try with_reducible rfl)
            simp only [Act.put, List.setIfInBounds_toArray, List.set_cons_zero, List.set_cons_succ]
            refine wpAnyH_take (i := 9) (oi := { dst := some 155, op := Op.nilCheck (Operand.tmp 154), type := 0, pos := "play.go:104", after := #[{ on := 8, ground := Ground.data }], guard := none }) (v := ?_) rfl (by kernel_rfl) (by kernel_rfl) (by kernel_rfl) (fun _ _ _ h => h) (Or.inl ⟨by rfl, ?_⟩) (by assumption) ?_
            rotate_left
            · (intro wz hSw; (try dsimp only at hSw); go_simp; try with_reducible rfl)
            simp only [Act.put, List.setIfInBounds_toArray, List.set_cons_zero, List.set_cons_succ]
            refine wpAnyH_take (i := 10) (oi := { dst := some 156, op := Op.fieldAddr 86 (Operand.tmp 155) 10, type := 0, pos := "play.go:104", after := #[{ on := 9, ground := Ground.data }], guard := none }) (v := ?_) rfl (by kernel_rfl) (by kernel_rfl) (by kernel_rfl) (fun _ _ _ h => h) (Or.inl ⟨by rfl, ?_⟩) (by assumption) ?_
            rotate_left
            · (intro wz hSw; (try dsimp only at hSw); go_simp; try with_reducible rfl)
            simp only [Act.put, List.setIfInBounds_toArray, List.set_cons_zero, List.set_cons_succ]
            refine wpAnyH_take (i := 11) (oi := { dst := some 157, op := Op.load 47 (Operand.tmp 156), type := 47, pos := "play.go:104", after := #[{ on := 10, ground := Ground.data }], guard := none }) (v := ?_) rfl (by kernel_rfl) (by kernel_rfl) (by kernel_rfl) (fun _ _ _ h => h) (Or.inl ⟨by rfl, ?_⟩) (by assumption) ?_
            rotate_left
            · (intro wz hSw; (try dsimp only at hSw); go_simp; try with_reducible rfl)
            simp only [Act.put, List.setIfInBounds_toArray, List.set_cons_zero, List.set_cons_succ]
            refine wpAnyH_take (i := 12) (oi := { dst := some 158, op := Op.move (Operand.tmp 0), type := 98, pos := "play.go:104", after := #[], guard := none }) (v := ?_) rfl (by kernel_rfl) (by kernel_rfl) (by kernel_rfl) (fun _ _ _ h => h) (Or.inl ⟨by rfl, ?_⟩) (by assumption) ?_
            rotate_left
            · (intro wz hSw; (try dsimp only at hSw); go_simp; try with_reducible rfl)
            simp only [Act.put, List.setIfInBounds_toArray, List.set_cons_zero, List.set_cons_succ]
            refine wpAnyH_take (i := 13) (oi := { dst := some 159, op := Op.nilCheck (Operand.tmp 158), type := 0, pos := "play.go:104", after := #[{ on := 12, ground := Ground.data }], guard := none }) (v := ?_) rfl (by kernel_rfl) (by kernel_rfl) (by kernel_rfl) (fun _ _ _ h => h) (Or.inl ⟨by rfl, ?_⟩) (by assumption) ?_
            rotate_left
            · (intro wz hSw; (try dsimp only at hSw); go_simp; try with_reducible rfl)
            simp only [Act.put, List.setIfInBounds_toArray, List.set_cons_zero, List.set_cons_succ]
            refine wpAnyH_take (i := 14) (oi := { dst := some 160, op := Op.fieldAddr 86 (Operand.tmp 159) 5, type := 0, pos := "play.go:104", after := #[{ on := 13, ground := Ground.data }], guard := none }) (v := ?_) rfl (by kernel_rfl) (by kernel_rfl) (by kernel_rfl) (fun _ _ _ h => h) (Or.inl ⟨by rfl, ?_⟩) (by assumption) ?_
            rotate_left
            · (intro wz hSw; (try dsimp only at hSw); go_simp; try with_reducible rfl)
            simp only [Act.put, List.setIfInBounds_toArray, List.set_cons_zero, List.set_cons_succ]
            refine wpAnyH_take (i := 15) (oi := { dst := some 161, op := Op.load 3 (Operand.tmp 160), type := 3, pos := "play.go:104", after := #[{ on := 14, ground := Ground.data }], guard := none }) (v := ?_) rfl (by kernel_rfl) (by kernel_rfl) (by kernel_rfl) (fun _ _ _ h => h) (Or.inl ⟨by rfl, ?_⟩) (by assumption) ?_
            rotate_left
            · (intro wz hSw; (try dsimp only at hSw); go_simp; try with_reducible rfl)
            simp only [Act.put, List.setIfInBounds_toArray, List.set_cons_zero, List.set_cons_succ]
            refine wpAnyH_take (i := 16) (oi := { dst := some 162, op := Op.indexAddr 47 (Operand.tmp 157) (Operand.tmp 161), type := 0, pos := "play.go:104", after := #[{ on := 11, ground := Ground.data }, { on := 15, ground := Ground.data }], guard := none }) (v := ?_) rfl (by kernel_rfl) (by kernel_rfl) (by kernel_rfl) (fun _ _ _ h => h) (Or.inl ⟨by rfl, ?_⟩) (by assumption) ?_
            rotate_left
            · (intro wz hSw; (try dsimp only at hSw); go_simp; try with_reducible rfl)
            simp only [Act.put, List.setIfInBounds_toArray, List.set_cons_zero, List.set_cons_succ]
            refine wpAnyH_take (i := 18) (oi := { dst := some 164, op := Op.move (Operand.tmp 6), type := 2, pos := "play.go:104", after := #[], guard := none }) (v := ?_) rfl (by kernel_rfl) (by kernel_rfl) (by kernel_rfl) (fun _ _ _ h => h) (Or.inl ⟨by rfl, ?_⟩) (by assumption) ?_
            rotate_left
            · (intro wz hSw; (try dsimp only at hSw); go_simp; try with_reducible rfl)
            simp only [Act.put, List.setIfInBounds_toArray, List.set_cons_zero, List.set_cons_succ]
            refine wpAnyH_ready (rs := [17, 19]) (by kernel_rfl) (by simp) ?_
            refine AllReadyH.cons (o := { dst := some 163, op := Op.load 48 (Operand.tmp 162), type := 48, pos := "play.go:104", after := #[{ on := 16, ground := Ground.data }], guard := none }) rfl (fun K hK => ?_) ?_
            · go_simp
              refine hK.out _ _ ?_ (fun hHeld2 => ?_)
              · (try dsimp only); (first | with_reducible exact HS1.out | with_reducible exact HS2.out | with_reducible exact HS0.out | go_keep)
              clear hK K
              try simp only [Act.put, List.setIfInBounds_toArray, List.set_cons_zero, List.set_cons_succ]
              refine wpAnyH_ready (rs := [19]) (by kernel_rfl) (by simp) ?_
              refine AllReadyH.cons (o := { dst := some 165, op := Op.buildSlice 48 1 #[(0, Operand.tmp 164)], type := 48, pos := "play.go:104", after := #[{ on := 18, ground := Ground.data }], guard := none }) rfl (fun K hK => ?_) ?_
              · go_simp
                refine hK.out _ _ ?_ (fun hHeld2 => ?_)
                · (try dsimp only); (first | with_reducible exact HS1.out | with_reducible exact HS2.out | with_reducible exact HS0.out | go_keep)
                clear hK K
                try simp only [Act.put, List.setIfInBounds_toArray, List.set_cons_zero, List.set_cons_succ]
                refine wpAnyH_ready (rs := [20]) (by kernel_rfl) (by simp) ?_
                refine AllReadyH.cons (o := { dst := some 166, op := Op.call { callee := Callee.builtin Builtin.append, args := #[Operand.tmp 163, Operand.tmp 165], argTypes := #[48, 48] }, type := 48, pos := "play.go:104", after := #[{ on := 17, ground := Ground.data }, { on := 19, ground := Ground.data }], guard := none }) rfl (fun K hK => ?_) ?_
                · refine step_append_run rfl (.tmp 163) (.tmp 165) 48 48 rfl (by simp [Act.eval]) (by simp [Act.eval]) hr ?_
                  refine hK.out _ _ ?_ (fun hHeld2 => ?_)
                  · (try dsimp only); (first | with_reducible exact HS1.out | with_reducible exact HS2.out | with_reducible exact HS0.out | go_keep)
                  clear hK K
                  try simp only [Act.put, List.setIfInBounds_toArray, List.set_cons_zero, List.set_cons_succ]
                  refine wpAnyH_take (i := 21) (oi := { dst := some 167, op := Op.indexAddr 47 (Operand.tmp 149) (Operand.tmp 153), type := 0, pos := "play.go:104", after := #[{ on := 3, ground := Ground.data }, { on := 7, ground := Ground.data }, { on := 0, ground := Ground.phase }, { on := 1, ground := Ground.phase }, { on := 2, ground := Ground.phase }, { on := 3, ground := Ground.phase }, { on := 4, ground := Ground.phase }, { on := 5, ground := Ground.phase }, { on := 6, ground := Ground.phase }, { on := 7, ground := Ground.phase }, { on := 8, ground := Ground.phase }, { on := 9, ground := Ground.phase }, { on := 10, ground := Ground.phase }, { on := 11, ground := Ground.phase }, { on := 12, ground := Ground.phase }, { on := 13, ground := Ground.phase }, { on := 14, ground := Ground.phase }, { on := 15, ground := Ground.phase }, { on := 16, ground := Ground.phase }, { on := 17, ground := Ground.phase }, { on := 18, ground := Ground.phase }, { on := 19, ground := Ground.phase }, { on := 20, ground := Ground.phase }], guard := none }) (v := ?_) rfl (by kernel_rfl) (by kernel_rfl) (by kernel_rfl) (fun _ _ _ h => h) (Or.inl ⟨by rfl, ?_⟩) (by assumption) ?_
                  rotate_left
                  · (intro wz hSw; (try dsimp only at hSw); go_simp; try with_reducible rfl)
                  simp only [Act.put, List.setIfInBounds_toArray, List.set_cons_zero, List.set_cons_succ]
                  refine wpAnyH_ready (rs := [22]) (by kernel_rfl) (by simp) ?_
                  refine AllReadyH.cons (o := { dst := none, op := Op.store 48 (Operand.tmp 167) (Operand.tmp 166), type := 0, pos := "play.go:104", after := #[{ on := 21, ground := Ground.data }, { on := 20, ground := Ground.data }, { on := 20, ground := Ground.chain }, { on := 0, ground := Ground.phase }, { on := 1, ground := Ground.phase }, { on := 2, ground := Ground.phase }, { on := 3, ground := Ground.phase }, { on := 4, ground := Ground.phase }, { on := 5, ground := Ground.phase }, { on := 6, ground := Ground.phase }, { on := 7, ground := Ground.phase }, { on := 8, ground := Ground.phase }, { on := 9, ground := Ground.phase }, { on := 10, ground := Ground.phase }, { on := 11, ground := Ground.phase }, { on := 12, ground := Ground.phase }, { on := 13, ground := Ground.phase }, { on := 14, ground := Ground.phase }, { on := 15, ground := Ground.phase }, { on := 16, ground := Ground.phase }, { on := 17, ground := Ground.phase }, { on := 18, ground := Ground.phase }, { on := 19, ground := Ground.phase }, { on := 20, ground := Ground.phase }], guard := none }) rfl (fun K hK => ?_) ?_
                  · go_simp
                    refine hK.out _ _ ?_ (fun hHeld2 => ?_)
                    · (try dsimp only); (first | with_reducible exact HS1.out | with_reducible exact HS2.out | with_reducible exact HS0.out | go_keep)
                    clear hK K
                    try simp only [Act.put, List.setIfInBounds_toArray, List.set_cons_zero, List.set_cons_succ]
                    refine wpAnyH_done (by kernel_rfl) ?_ _
                    go_wp2_with fail
                    go_meet
                    rfl
                  exact AllReadyH.nil
                exact AllReadyH.nil
              exact AllReadyH.nil
            refine AllReadyH.cons (o := { dst := some 165, op := Op.buildSlice 48 1 #[(0, Operand.tmp 164)], type := 48, pos := "play.go:104", after := #[{ on := 18, ground := Ground.data }], guard := none }) rfl (fun K hK => ?_) ?_
            · go_simp
              refine hK.out _ _ ?_ (fun hHeld2 => ?_)
              · (try dsimp only); (first | with_reducible exact HS1.out | with_reducible exact HS2.out | with_reducible exact HS0.out | go_keep)
              clear hK K
              try simp only [Act.put, List.setIfInBounds_toArray, List.set_cons_zero, List.set_cons_succ]
              refine wpAnyH_ready (rs := [17]) (by kernel_rfl) (by simp) ?_
              refine AllReadyH.cons (o := { dst := some 163, op := Op.load 48 (Operand.tmp 162), type := 48, pos := "play.go:104", after := #[{ on := 16, ground := Ground.data }], guard := none }) rfl (fun K hK => ?_) ?_
              · go_simp
                refine hK.out _ _ ?_ (fun hHeld2 => ?_)
                · (try dsimp only); (first | with_reducible exact HS1.out | with_reducible exact HS2.out | with_reducible exact HS0.out | go_keep)
                clear hK K
                try simp only [Act.put, List.setIfInBounds_toArray, List.set_cons_zero, List.set_cons_succ]
                refine wpAnyH_ready (rs := [20]) (by kernel_rfl) (by simp) ?_
                refine AllReadyH.cons (o := { dst := some 166, op := Op.call { callee := Callee.builtin Builtin.append, args := #[Operand.tmp 163, Operand.tmp 165], argTypes := #[48, 48] }, type := 48, pos := "play.go:104", after := #[{ on := 17, ground := Ground.data }, { on := 19, ground := Ground.data }], guard := none }) rfl (fun K hK => ?_) ?_
                · refine step_append_run rfl (.tmp 163) (.tmp 165) 48 48 rfl (by simp [Act.eval]) (by simp [Act.eval]) hr ?_
                  refine hK.out _ _ ?_ (fun hHeld2 => ?_)
                  · (try dsimp only); (first | with_reducible exact HS1.out | with_reducible exact HS2.out | with_reducible exact HS0.out | go_keep)
                  clear hK K
                  try simp only [Act.put, List.setIfInBounds_toArray, List.set_cons_zero, List.set_cons_succ]
                  refine wpAnyH_take (i := 21) (oi := { dst := some 167, op := Op.indexAddr 47 (Operand.tmp 149) (Operand.tmp 153), type := 0, pos := "play.go:104", after := #[{ on := 3, ground := Ground.data }, { on := 7, ground := Ground.data }, { on := 0, ground := Ground.phase }, { on := 1, ground := Ground.phase }, { on := 2, ground := Ground.phase }, { on := 3, ground := Ground.phase }, { on := 4, ground := Ground.phase }, { on := 5, ground := Ground.phase }, { on := 6, ground := Ground.phase }, { on := 7, ground := Ground.phase }, { on := 8, ground := Ground.phase }, { on := 9, ground := Ground.phase }, { on := 10, ground := Ground.phase }, { on := 11, ground := Ground.phase }, { on := 12, ground := Ground.phase }, { on := 13, ground := Ground.phase }, { on := 14, ground := Ground.phase }, { on := 15, ground := Ground.phase }, { on := 16, ground := Ground.phase }, { on := 17, ground := Ground.phase }, { on := 18, ground := Ground.phase }, { on := 19, ground := Ground.phase }, { on := 20, ground := Ground.phase }], guard := none }) (v := ?_) rfl (by kernel_rfl) (by kernel_rfl) (by kernel_rfl) (fun _ _ _ h => h) (Or.inl ⟨by rfl, ?_⟩) (by assumption) ?_
                  rotate_left
                  · (intro wz hSw; (try dsimp only at hSw); go_simp; try with_reducible rfl)
                  simp only [Act.put, List.setIfInBounds_toArray, List.set_cons_zero, List.set_cons_succ]
                  refine wpAnyH_ready (rs := [22]) (by kernel_rfl) (by simp) ?_
                  refine AllReadyH.cons (o := { dst := none, op := Op.store 48 (Operand.tmp 167) (Operand.tmp 166), type := 0, pos := "play.go:104", after := #[{ on := 21, ground := Ground.data }, { on := 20, ground := Ground.data }, { on := 20, ground := Ground.chain }, { on := 0, ground := Ground.phase }, { on := 1, ground := Ground.phase }, { on := 2, ground := Ground.phase }, { on := 3, ground := Ground.phase }, { on := 4, ground := Ground.phase }, { on := 5, ground := Ground.phase }, { on := 6, ground := Ground.phase }, { on := 7, ground := Ground.phase }, { on := 8, ground := Ground.phase }, { on := 9, ground := Ground.phase }, { on := 10, ground := Ground.phase }, { on := 11, ground := Ground.phase }, { on := 12, ground := Ground.phase }, { on := 13, ground := Ground.phase }, { on := 14, ground := Ground.phase }, { on := 15, ground := Ground.phase }, { on := 16, ground := Ground.phase }, { on := 17, ground := Ground.phase }, { on := 18, ground := Ground.phase }, { on := 19, ground := Ground.phase }, { on := 20, ground := Ground.phase }], guard := none }) rfl (fun K hK => ?_) ?_
                  · go_simp
                    refine hK.out _ _ ?_ (fun hHeld2 => ?_)
                    · (try dsimp only); (first | with_reducible exact HS1.out | with_reducible exact HS2.out | with_reducible exact HS0.out | go_keep)
                    clear hK K
                    try simp only [Act.put, List.setIfInBounds_toArray, List.set_cons_zero, List.set_cons_succ]
                    refine wpAnyH_done (by kernel_rfl) ?_ _
                    go_wp2_with fail
                    go_meet
                    rfl
                  exact AllReadyH.nil
                exact AllReadyH.nil
              exact AllReadyH.nil
            exact AllReadyH.nil
          case rest =>
            subst hcut
            clear dg fg cg cg' s11 s6 hr
            go_wp2_with fail
            refine hnf.mono ?_
            rintro e w5 ⟨rfl, h8, -⟩
            obtain ⟨n0, ⟨k1, k2, k3, k4, k5, k6, k7, k8⟩, -, ⟨z1, z2, z3, z4, z5, z6, z7, z8⟩⟩ := ACT.out _ _ _ _ _ _ _ h8 HA.out HV.out
            have HP : Hid _ := PUT.out w5 F3 va _ _ _ (X, ⟨x0, x1, x2, x3, x4, x5, x6, x7⟩) ⟨num, ⟨m0, m1, m2, m3, m4, m5, m6, m7⟩, ⟨y0, y1, y2, y3, y4, y5, y6, y7⟩⟩ h8 HA.out HV.out rfl rfl
            clear h8 hnf
            go_wp2_with fail
            go_end0
            refine ⟨rfl, ?_⟩
            rw [after_15, HX.out]
            exact ⟨_, _, _, _, _, HP.out⟩
        · exact absurd HCODE.out c15
end Go.Proofs.Ytlligclkoecknaa
