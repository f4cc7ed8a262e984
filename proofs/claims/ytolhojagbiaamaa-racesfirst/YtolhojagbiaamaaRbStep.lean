import Derived.Test.YtolhojagbiaamaaRbState
/-! The sweep, one deed of each kind. -/
namespace Go.Proofs.Ytolhojagbiaamaa
set_option linter.unusedVariables false
set_option maxRecDepth 20000
set_option linter.unusedSimpArgs false
open Go.RowKit Go.HeapKit

section
variable {w0 w w' : World} {base S mb : Nat} {U : List Nat} {M : List Bool} {A : List Int} {gu cu gm cm gl cl : Nat} {act : List Nat} {ga ca : Nat} {dn : List Nat} {vd dv mp : Value} {ds : List Dd} {n m : Nat} {rc : Int → Bool}
theorem SwM.f6 (h : SwM w base S U M A gu cu gm cm gl cl act ga ca dn vd dv mp) (hS : base ≤ S) : ∀ i, F6 S gu gl gm ga vd i → base ≤ i ∧ ¬ Bk w i ∧ ∃ c t f, w.heap[i]? = some (.cells c t f) := by
  obtain ⟨c, t, b1, b2, b3⟩ := h.sets.blk
  have nb := h.sets.toV.nb
  rintro i (e | e | e | e | e | e)
  · subst e; exact ⟨hS, nb.2.2.2, _, _, _, b1⟩
  · subst e; obtain ⟨_, hu⟩ := h.sets.ublk; exact ⟨row_low h.sets.ru rfl, nb.1 _ rfl, _, _, _, hu⟩
  · subst e; obtain ⟨_, hu⟩ := h.sets.lblk; exact ⟨row_low h.sets.rl rfl, nb.2.2.1 _ rfl, _, _, _, hu⟩
  · subst e; obtain ⟨_, hu⟩ := h.sets.mblk; exact ⟨row_low h.sets.rm rfl, nb.2.1 _ rfl, _, _, _, hu⟩
  · subst e; obtain ⟨_, hu⟩ := own_block h.ra (g := i) rfl; exact ⟨row_low h.ra rfl, not_bk_cells hu (.inl (by decide)), _, _, _, hu⟩
  · obtain ⟨_, hu⟩ := own_block h.rd e; exact ⟨row_low h.rd e, not_bk_cells hu (.inl (by decide)), _, _, _, hu⟩
theorem SwM.fp6 (h : SwM w base S U M A gu cu gm cm gl cl act ga ca dn vd dv mp) (hS : base ≤ S) (hk : Keeps (F6 S gu gl gm ga vd) w w') : Keeps (Fp w base) w w' := hk.mono (fun i e _ => ⟨(h.f6 hS i e).1, (h.f6 hS i e).2.1⟩)
theorem SwM.pl6 (h : SwM w base S U M A gu cu gm cm gl cl act ga ca dn vd dv mp) (hS : base ≤ S) (hk : Keeps (F6 S gu gl gm ga vd) w w') {PM : List (Int × Pl)} (hp : IsPl w mb PM) : IsPl w' mb PM := hp.kept hk (fun e => by
  obtain ⟨_, _, c, t, f, hb⟩ := h.f6 hS mb e
  obtain ⟨es, cl, hm, _⟩ := hp
  rw [hb] at hm
  cases hm)
theorem actN_len {rt : Nat → Nat} (h : BagI (bgN ds n) rt M A (cntB ds n)) : (actN ds n).length ≤ cntB ds n := by
  have h1 := allB_len _ h.ids
  have h2 := nodup_bound _ _ h.nd h.lt
  simp [actN]
  omega
/-- The current task. -/
theorem SwS.top (h : SwS w0 w base S mb dv ds n m rc) (hN : Now ds n) (hn : n ≤ 4096) : ∃ ga q ca, w.cell? ⟨S, 4, none⟩ = some (.slice (some ⟨ga, 0, none⟩) (q + 1) ca) ∧ w.cell? ⟨ga, q, none⟩ = some (.int .i64 (doer ds n : Nat)) ∧ q ≤ 4096 ∧ w.cell? ⟨S, 0, none⟩ = some dv := by
  obtain ⟨U, M, A, gu, cu, gm, cm, gl, cl, ga, ca, vd, rt, d, PM, h1, h2, h3, h4, h5, h6, h7⟩ := h.ex
  obtain ⟨t, r, hb, hid, hdo⟩ := hN.top
  have hact := act_top hb
  have hl := actN_len h3
  have hc := hN.cnt
  have hq : (actN ds n).length = r.length + 1 := by rw [hact]; simp
  have b4 := h1.b4
  have ra := h1.ra
  rw [hq] at b4
  rw [← natZ_lenB (actN ds n)] at ra
  refine ⟨ga, r.length, ca, b4, (ra.at (k := r.length) (x := ((doer ds n : Nat) : Int)) ?_).1, by omega, h1.b0⟩
  rw [hact, hdo]
  simp [natZ]
/-- Whose the next deed is. -/
theorem SwS.doers (h : SwS w0 w base S mb dv ds n n rc) (hn : n ≤ 4096) : ∃ vd g c w1, w.cell? ⟨S, 5, none⟩ = some vd ∧ (Builtin.append_ #[33, 33] 33 #[vd, .slice (some ⟨w.heap.size, 0, none⟩) 1 1]).run Try.prog (w.alloc (.cells #[.int .i64 (doer ds n : Nat)] 3)) = .ok (.slice (some ⟨g, 0, none⟩) (n + 1) c) w1 ∧ w1.cell? ⟨S, 5, none⟩ = some vd ∧ w1.frozen? ⟨S, 5, none⟩ = false ∧
    SwS w0 (w1.setCell ⟨S, 5, none⟩ (.slice (some ⟨g, 0, none⟩) (n + 1) c)) base S mb dv ds n (n + 1) rc ∧ Keeps (Fp w base) w (w1.setCell ⟨S, 5, none⟩ (.slice (some ⟨g, 0, none⟩) (n + 1) c)) := by
  obtain ⟨U, M, A, gu, cu, gm, cm, gl, cl, ga, ca, vd, rt, d, PM, h1, h2, h3, h4, h5, h6, h7⟩ := h.ex
  have kA := Keeps.alloc None w (.cells #[.int .i64 ((doer ds n : Nat) : Int)] 3)
  have h1' := h1.more kA
  obtain ⟨g, c, w1, hr, x1, x2, hM, hk⟩ := h1'.appD (doer ds n) (by have := h.b3; simp; omega) (by rw [dnN_len]; omega) (heap_alloc_new w _)
  rw [dnN_len] at hr hM hk
  rw [← dnN_succ] at hM
  have hk' := hk.mono (T := F6 S gu gl gm ga vd) (fun i e _ => by rcases e with e | e; exact .inr (.inr (.inr (.inr (.inr e)))); exact .inl e)
  have hfp : Keeps (Fp w base) w (w1.setCell ⟨S, 5, none⟩ (.slice (some ⟨g, 0, none⟩) (n + 1) c)) := Fp.trans (kA.mono (fun _ f _ => f.elim)) hk' (fun i e _ => ⟨(h1'.f6 h.b1 i e).1, (h1'.f6 h.b1 i e).2.1⟩)
  exact ⟨vd, g, c, w1, h1.b5, hr, x1, x2, ⟨⟨U, M, A, gu, cu, gm, cm, gl, cl, ga, ca, _, rt, d, PM, hM, h2, h3, h4, h1'.pl6 h.b1 hk' (h5.more kA), h6, h7⟩, h.kp.trans (Fp.low hfp) (fun i e _ => e), h.b1, h.b2, Nat.le_trans h.b3 hfp.size⟩, hfp⟩
theorem PlOk.up {PM : List (Int × Pl)} (h : PlOk ds PM n rc) (hk : ¬ kdN ds n = 3 ∧ ¬ kdN ds n = 4) : PlOk ds PM (n + 1) rc := ⟨h.nd, by have := h.len; omega, h.rc, fun a ha hka => h.tch a (by
  have : a ≠ n := fun e => by subst e; rcases hka with e | e; exact hk.1 e; exact hk.2 e
  omega) hka⟩
/-- A sync. -/
theorem SwS.sync (h : SwS w0 w base S mb dv ds n (n + 1) rc) (hN : Now ds n) (hn : n < 4096) (hk : kdN ds n = 2) : Calls Try.prog 55 #[.pointer (some ⟨S, 1, none⟩), .int .i64 (doer ds n : Nat)] w fun e w' => e = .returned (.tuple #[]) ∧ SwS w0 w' base S mb dv ds (n + 1) (n + 1) rc ∧ Keeps (Fp w base) w w' := by
  obtain ⟨U, M, A, gu, cu, gm, cm, gl, cl, ga, ca, vd, rt, d, PM, h1, h2, h3, h4, h5, h6, h7⟩ := h.ex
  obtain ⟨t, r, hb, hid, hdo⟩ := hN.top
  rw [hb] at h3
  obtain ⟨l1, l2, l3⟩ := late_ok h3
  have hT : t.id < cntB ds n := h3.lt _ (mem_all_P (b := t) (by simp) hid)
  have hc := hN.cnt
  rw [hdo]
  refine (wait_ok w base S 1 gu cu gm cm gl cl t.id U M A rt d h1.sets h2 (by omega) (by rw [h4]; exact l1) (by omega)).mono ?_
  rintro e w' ⟨rfl, ⟨U', d', g1, g2, g3⟩, g4⟩
  have g4' := g4.mono (T := F6 S gu gl gm ga vd) (fun i e _ => by rcases e with e | e; exact .inr (.inl e); exact .inr (.inr (.inl e)))
  have hfp := h1.fp6 h.b1 g4'
  have hM := h1.sets' (g4.mono (fun i e _ => by rcases e with e | e; exact .inl e; exact .inr (.inl e))) g1
  have hbn : bgN ds (n + 1) = ⟨t.id, t.P ++ t.O, []⟩ :: r := by
    show stepB (kdN ds n) (cntB ds n) (bgN ds n) = _
    rw [hk, hb, sb2]
  have hcn : cntB ds (n + 1) = cntB ds n := by
    show (if kdN ds n = 0 then _ else _) = _
    rw [if_neg (by omega)]
  have hact : actN ds (n + 1) = actN ds n := by unfold actN; rw [hbn, hb]; rfl
  have hS := h3.sync
  rw [← hbn, ← hcn] at hS
  refine ⟨rfl, ⟨⟨U', M, A.set t.id (-1), gu, cu, gm, cm, gl, cl, ga, ca, vd, waitR rt A t.id, d', PM, by rw [hact]; exact hM, g2, hS, by rw [g3, h4, hcn], h1.pl6 h.b1 g4' h5, h6.other hN.bin hN.ne (fun e => by omega) ⟨by omega, by omega⟩, h7.up ⟨by omega, by omega⟩⟩, h.kp.trans (Fp.low hfp) (fun i e _ => e), h.b1, h.b2, Nat.le_trans h.b3 hfp.size⟩, hfp⟩
/-- A return. -/
theorem SwS.ret (h : SwS w0 w base S mb dv ds n (n + 1) rc) (hN : Now ds n) (hn : n < 4096) (hk : kdN ds n = 1) (h2l : 2 ≤ (stN ds n).length) : Calls Try.prog 54 #[.pointer (some ⟨S, 0, none⟩), .int .i64 (doer ds n : Nat)] w fun e w' => e = .returned (.tuple #[]) ∧ SwS w0 w' base S mb dv ds (n + 1) (n + 1) rc ∧ Keeps (Fp w base) w w' := by
  obtain ⟨U, M, A, gu, cu, gm, cm, gl, cl, ga, ca, vd, rt, d, PM, h1, h2, h3, h4, h5, h6, h7⟩ := h.ex
  obtain ⟨t, r0, hb, hid, hdo⟩ := hN.top
  have hlen := Prs.len hN.bin.prs
  obtain ⟨u, r, rfl⟩ : ∃ u r, r0 = u :: r := by
    cases r0 with
    | nil => rw [hb] at hlen; simp at hlen; omega
    | cons u r => exact ⟨u, r, rfl⟩
  have hal := actN_len h3
  rw [hb] at h3
  have hact := act_top hb
  have hact' : actN ds n = (r.map Bg.id).reverse ++ [u.id, t.id] := by rw [hact]; simp
  obtain ⟨l1, l2, l3⟩ := late_ok h3
  have hT : t.id < cntB ds n := h3.lt _ (mem_all_P (b := t) (by simp) hid)
  have huid := h3.ids u (by simp)
  have hU : u.id < cntB ds n := h3.lt _ (mem_all_P (b := u) (by simp) huid)
  obtain ⟨a1, a2, a3⟩ := top_apart h3.nd
  have htu : t.id ≠ u.id := fun e => a2 t.id (.inl hid) (by rw [e]; exact mem_all_P (b := u) (by simp) huid)
  have hS := h3.sync
  have hget : (A.set t.id (-1)).getD u.id 0 = A.getD u.id 0 := by rw [getD_setZ _ _ _ _ (by rw [h3.la]; exact hT), if_neg (fun e => htu e.symm)]
  have hL2 : A.getD u.id 0 = -1 ∨ ∃ e : Nat, A.getD u.id 0 = (e : Int) ∧ e < U.length ∧ waitR rt A t.id e ≠ waitR rt A t.id t.id := by
    obtain ⟨u1, u2, u3⟩ := uO_root hS
    rw [hget] at u1 u2 u3
    rcases u3 with u3 | ⟨e, u3⟩
    · exact .inl u3
    · have he := (u2 e u3).1
      have hea : e ∈ allB (u :: r) := mem_all_O (b := u) (by simp) he
      refine .inr ⟨e, u3, by rw [h4]; exact h3.lt e (by rw [allB_cons]; simp [hea]), fun heq => root_ne hS (x := t.id) (y := e) (.inl (List.mem_append.2 (.inl hid))) hea heq.symm⟩
  have hc := hN.cnt
  have hrl : r.length + 2 ≤ cntB ds n := by rw [hact'] at hal; simpa using hal
  rw [hact'] at h1
  rw [hdo]
  refine (sreturned_ok w base S gu cu gm cm gl cl ga ca t.id u.id U (r.map Bg.id).reverse (dnN ds (n + 1)) M A vd dv (.map (some mb)) rt d h1 h2 (by omega) (by omega) htu (by rw [h4]; exact l1) hL2 (by omega) (by simp; omega) h.b1).mono ?_
  rintro e w' ⟨rfl, ⟨U', d', g1, g2, g3⟩, g4⟩
  have hfp := h1.fp6 h.b1 g4
  have hbn : bgN ds (n + 1) = ⟨u.id, u.P, (t.P ++ t.O) ++ u.O⟩ :: r := by
    show stepB (kdN ds n) (cntB ds n) (bgN ds n) = _
    rw [hk, hb, sb1]
  have hcn : cntB ds (n + 1) = cntB ds n := by
    show (if kdN ds n = 0 then _ else _) = _
    rw [if_neg (by omega)]
  have hR := hS.ret rfl
  have hend : endR (waitR rt A t.id) (A.set t.id (-1)) u.id t.id = endR (waitR rt A t.id) A u.id t.id := by unfold endR; rw [hget]
  simp only [hend] at hR
  rw [← hbn, ← hcn] at hR
  refine ⟨rfl, ⟨⟨U', _, _, gu, cu, gm, cm, gl, cl, ga, ca, vd, _, d', PM, by rw [act_top hbn]; exact g1, g2, hR, by rw [g3, h4, hcn], h1.pl6 h.b1 g4 h5, h6.other hN.bin hN.ne (fun _ => h2l) ⟨by omega, by omega⟩, h7.up ⟨by omega, by omega⟩⟩, h.kp.trans (Fp.low hfp) (fun i e _ => e), h.b1, h.b2, Nat.le_trans h.b3 hfp.size⟩, hfp⟩
/-- A spawn: the task has begun, and is not noted as the current one yet. -/
structure SpM (w0 w : World) (base S mb : Nat) (dv : Value) (ds : List Dd) (n : Nat) (rc : Int → Bool) (ga ca : Nat) : Prop where
  ex : ∃ (U : List Nat) (M : List Bool) (A : List Int) (gu cu gm cm gl cl : Nat) (vd : Value) (rt d : Nat → Nat) (PM : List (Int × Pl)), SwM w base S U M A gu cu gm cm gl cl (actN ds n) ga ca (dnN ds (n + 1)) vd dv (.map (some mb)) ∧ Fo U rt d ∧ BagI (bgN ds (n + 1)) rt M A (cntB ds (n + 1)) ∧ U.length = cntB ds (n + 1) ∧ IsPl w mb PM ∧ Std ds (n + 1) (fun L => (lookP PM L).w) (fun L => (lookP PM L).r) ∧ PlOk ds PM (n + 1) rc
  kp : Keeps (fun i => base ≤ i) w0 w
  b1 : base ≤ S
  b2 : base ≤ mb
  b3 : base ≤ w.heap.size
theorem SwS.spawn (h : SwS w0 w base S mb dv ds n (n + 1) rc) (hN : Now ds n) (hn : n < 4096) (hk : kdN ds n = 0) : ∃ ga ca q, q ≤ 4097 ∧ q = (actN ds n).length ∧ w.cell? ⟨S, 4, none⟩ = some (.slice (some ⟨ga, 0, none⟩) q ca) ∧ ∀ w2, Keeps None w w2 → Calls Try.prog 53 #[.pointer (some ⟨S, 1, none⟩)] w2 fun e w' => e = .returned (.int .i64 (cntB ds n : Nat)) ∧ w'.cell? ⟨S, 4, none⟩ = some (.slice (some ⟨ga, 0, none⟩) q ca) ∧ SpM w0 w' base S mb dv ds n rc ga ca ∧ Keeps (Fp w base) w w' := by
  obtain ⟨U, M, A, gu, cu, gm, cm, gl, cl, ga, ca, vd, rt, d, PM, h1, h2, h3, h4, h5, h6, h7⟩ := h.ex
  have hal := actN_len h3
  have hc := hN.cnt
  refine ⟨ga, ca, _, by omega, rfl, h1.b4, fun w2 hk2 => ?_⟩
  have h1' := h1.more hk2
  refine (sbegin_ok w2 base S gu cu gm cm gl cl ga ca U _ _ M A vd dv _ h1' (by omega) (Nat.le_trans h.b3 hk2.size) h.b1).mono ?_
  rintro e w' ⟨rfl, ⟨gu', cu', gm', cm', gl', cl', g1⟩, g4⟩
  have hfp : Keeps (Fp w base) w w' := Fp.trans (hk2.mono (fun _ f _ => f.elim)) g4 (fun i e _ => ⟨(h1'.f6 h.b1 i e).1, (h1'.f6 h.b1 i e).2.1⟩)
  have hbn : bgN ds (n + 1) = ⟨cntB ds n, [cntB ds n], []⟩ :: bgN ds n := by
    show stepB (kdN ds n) (cntB ds n) (bgN ds n) = _
    obtain ⟨t, r, hb, _⟩ := hN.top
    rw [hk, hb, sb0]
  have hcn : cntB ds (n + 1) = cntB ds n + 1 := by
    show (if kdN ds n = 0 then _ else _) = _
    rw [if_pos hk]
  have hB := h3.spawn
  rw [← hbn, ← hcn] at hB
  refine ⟨by rw [h4], g1.b4, ⟨⟨_, _, _, gu', cu', gm', cm', gl', cl', vd, newR rt (cntB ds n), d, PM, g1, by have := h2.more; rw [h4] at this ⊢; exact this, hB, by rw [List.length_append, h4, hcn]; rfl, h1'.pl6 h.b1 g4 (h5.more hk2), h6.other hN.bin hN.ne (fun e => by omega) ⟨by omega, by omega⟩, h7.up ⟨by omega, by omega⟩⟩, h.kp.trans (Fp.low hfp) (fun i e _ => e), h.b1, h.b2, Nat.le_trans h.b3 hfp.size⟩, hfp⟩
theorem SpM.app {ga ca q : Nat} (h : SpM w0 w base S mb dv ds n rc ga ca) (hN : Now ds n) (hk : kdN ds n = 0) (hq : q ≤ 4097) (hq2 : q = (actN ds n).length) : ∃ g c w1, (Builtin.append_ #[33, 33] 33 #[.slice (some ⟨ga, 0, none⟩) q ca, .slice (some ⟨w.heap.size, 0, none⟩) 1 1]).run Try.prog (w.alloc (.cells #[.int .i64 (cntB ds n : Nat)] 3)) = .ok (.slice (some ⟨g, 0, none⟩) (q + 1) c) w1 ∧ w1.cell? ⟨S, 4, none⟩ = some (.slice (some ⟨ga, 0, none⟩) q ca) ∧ w1.frozen? ⟨S, 4, none⟩ = false ∧
    SwS w0 (w1.setCell ⟨S, 4, none⟩ (.slice (some ⟨g, 0, none⟩) (q + 1) c)) base S mb dv ds (n + 1) (n + 1) rc ∧ Keeps (Fp w base) w (w1.setCell ⟨S, 4, none⟩ (.slice (some ⟨g, 0, none⟩) (q + 1) c)) := by
  obtain ⟨U, M, A, gu, cu, gm, cm, gl, cl, vd, rt, d, PM, h1, h2, h3, h4, h5, h6, h7⟩ := h.ex
  have kA := Keeps.alloc None w (.cells #[.int .i64 ((cntB ds n : Nat) : Int)] 3)
  have h1' := h1.more kA
  obtain ⟨g, c, w1, hr, x1, x2, hM, hk2⟩ := h1'.appAct (cntB ds n) (by have := h.b3; simp; omega) (by omega) (heap_alloc_new w _)
  rw [← hq2] at hr x1 hM hk2
  have hbn : bgN ds (n + 1) = ⟨cntB ds n, [cntB ds n], []⟩ :: bgN ds n := by
    show stepB (kdN ds n) (cntB ds n) (bgN ds n) = _
    obtain ⟨t, r, hb, _⟩ := hN.top
    rw [hk, hb, sb0]
  have hact : actN ds n ++ [cntB ds n] = actN ds (n + 1) := by rw [act_top hbn]; rfl
  rw [hact] at hM
  have hk' := hk2.mono (T := F6 S gu gl gm ga vd) (fun i e _ => by rcases e with e | e; exact .inr (.inr (.inr (.inr (.inl e)))); exact .inl e)
  have hfp : Keeps (Fp w base) w (w1.setCell ⟨S, 4, none⟩ (.slice (some ⟨g, 0, none⟩) (q + 1) c)) := Fp.trans (kA.mono (fun _ f _ => f.elim)) hk' (fun i e _ => ⟨(h1'.f6 h.b1 i e).1, (h1'.f6 h.b1 i e).2.1⟩)
  exact ⟨g, c, w1, hr, x1, x2, ⟨⟨U, M, A, gu, cu, gm, cm, gl, cl, g, c, vd, rt, d, PM, hM, h2, h3, h4, h1'.pl6 h.b1 hk' (h5.more kA), h6, h7⟩, h.kp.trans (Fp.low hfp) (fun i e _ => e), h.b1, h.b2, Nat.le_trans h.b3 hfp.size⟩, hfp⟩
end
end Go.Proofs.Ytolhojagbiaamaa
