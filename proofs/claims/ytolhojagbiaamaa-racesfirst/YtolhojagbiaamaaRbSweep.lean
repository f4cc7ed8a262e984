import Derived.Test.YtolhojagbiaamaaRbBoth
/-! The sweep in memory; a task's return. -/
namespace Go.Proofs.Ytolhojagbiaamaa
set_option linter.unusedVariables false
set_option maxRecDepth 20000
set_option linter.unusedSimpArgs false
open Go.RowKit Go.HeapKit

/-- The sweep: the sets, the tasks that have not returned (the root first), whose each deed is. -/
structure SwM (w : World) (base S : Nat) (U : List Nat) (M : List Bool) (A : List Int) (gu cu gm cm gl cl : Nat) (act : List Nat) (ga ca : Nat) (dn : List Nat) (vd dv mp : Value) : Prop where
  sets : SetM w base S 1 U M A gu cu gm cm gl cl
  b0 : w.cell? ⟨S, 0, none⟩ = some dv
  b4 : w.cell? ⟨S, 4, none⟩ = some (.slice (some ⟨ga, 0, none⟩) act.length ca)
  b5 : w.cell? ⟨S, 5, none⟩ = some vd
  b6 : w.cell? ⟨S, 6, none⟩ = some mp
  ra : RowZ w base (.slice (some ⟨ga, 0, none⟩) act.length ca) (natZ act)
  rd : RowZ w base vd (natZ dn)
  n1 : ga ≠ gu
  n2 : ga ≠ gl
  n3 : vd.ownBlock ≠ some gu
  n4 : vd.ownBlock ≠ some gl
  n5 : vd.ownBlock ≠ some ga
section
variable {w w' : World} {base S : Nat} {U : List Nat} {M : List Bool} {A : List Int} {gu cu gm cm gl cl : Nat} {act : List Nat} {ga ca : Nat} {dn : List Nat} {vd dv mp : Value}
theorem SwM.neS (h : SwM w base S U M A gu cu gm cm gl cl act ga ca dn vd dv mp) : S ≠ ga ∧ (∀ b, vd.ownBlock = some b → S ≠ b) ∧ ga ≠ gm ∧ (∀ b, vd.ownBlock = some b → b ≠ gm) := by
  obtain ⟨c, t, h1, h2, h3⟩ := h.sets.blk
  obtain ⟨_, ha⟩ := own_block h.ra (g := ga) rfl
  obtain ⟨_, hm⟩ := h.sets.mblk
  refine ⟨ne_of_types h1 ha h2, fun b hb => ?_, ne_of_types ha hm (by decide), fun b hb => ?_⟩
  · obtain ⟨_, hd⟩ := own_block h.rd hb; exact ne_of_types h1 hd h2
  · obtain ⟨_, hd⟩ := own_block h.rd hb; exact ne_of_types hd hm (by decide)
/-- The sets have changed, and nothing else. -/
theorem SwM.sets' (h : SwM w base S U M A gu cu gm cm gl cl act ga ca dn vd dv mp) {U' : List Nat} {M' : List Bool} {A' : List Int} (hk : Keeps (fun i => i = gu ∨ i = gl ∨ i = gm) w w') (hs : SetM w' base S 1 U' M' A' gu cu gm cm gl cl) : SwM w' base S U' M' A' gu cu gm cm gl cl act ga ca dn vd dv mp := by
  obtain ⟨m1, m2, m3, m4, m5⟩ := h.sets.neS
  obtain ⟨e1, e2, e3, e4⟩ := h.neS
  have hS : ¬ (S = gu ∨ S = gl ∨ S = gm) := by rintro (e | e | e); exact m1 e; exact m3 e; exact m2 e
  refine ⟨hs, hk.cell h.b0 hS, hk.cell h.b4 hS, hk.cell h.b5 hS, hk.cell h.b6 hS, h.ra.kept hk (fun g e => ?_), h.rd.kept hk (fun g e => ?_), h.n1, h.n2, h.n3, h.n4, h.n5⟩
  · simp [Value.ownBlock] at e
    subst e
    rintro (e | e | e)
    · exact h.n1 e
    · exact h.n2 e
    · exact e3 e
  · rintro (e5 | e5 | e5)
    · exact h.n3 (by rw [e, e5])
    · exact h.n4 (by rw [e, e5])
    · exact e4 g e e5
theorem SwM.more (h : SwM w base S U M A gu cu gm cm gl cl act ga ca dn vd dv mp) (hk : Keeps None w w') : SwM w' base S U M A gu cu gm cm gl cl act ga ca dn vd dv mp :=
  h.sets' (hk.mono (fun _ f _ => f.elim)) (h.sets.more hk)
/-- The last task is gone. -/
theorem SwM.pop {x : Nat} (h : SwM w base S U M A gu cu gm cm gl cl (act ++ [x]) ga ca dn vd dv mp) : SwM (w.setCell ⟨S, 4, none⟩ (.slice (some ⟨ga, 0, none⟩) act.length ca)) base S U M A gu cu gm cm gl cl act ga ca dn vd dv mp ∧ Keeps (· = S) w (w.setCell ⟨S, 4, none⟩ (.slice (some ⟨ga, 0, none⟩) act.length ca)) := by
  have hk : Keeps (· = S) w (w.setCell ⟨S, 4, none⟩ (.slice (some ⟨ga, 0, none⟩) act.length ca)) := keeps_one (Keeps.refl _ _) _
  obtain ⟨m1, m2, m3, m4, m5⟩ := h.sets.neS
  obtain ⟨e1, e2, e3, e4⟩ := h.neS
  obtain ⟨c, t, b1, b2, b3⟩ := h.sets.blk
  have hlt : 4 < c.size := by
    have := h.b4
    rw [blk_cell b1] at this
    exact (Array.getElem?_eq_some_iff.1 this).1
  have hset : SetM (w.setCell ⟨S, 4, none⟩ (.slice (some ⟨ga, 0, none⟩) act.length ca)) base S 1 U M A gu cu gm cm gl cl :=
    ⟨by rw [cell_setne (by omega)]; exact h.sets.c0, by rw [cell_setne (by omega)]; exact h.sets.c1, by rw [cell_setne (by omega)]; exact h.sets.c2, h.sets.ru.kept hk (fun g e => by simp [Value.ownBlock] at e; subst e; exact fun e => m1 e.symm), row_kept h.sets.rm hk (fun g e => by simp [Value.ownBlock] at e; subst e; exact fun e => m2 e.symm), h.sets.rl.kept hk (fun g e => by simp [Value.ownBlock] at e; subst e; exact fun e => m3 e.symm), h.sets.lm, h.sets.la, h.sets.ne, c.setIfInBounds 4 _, t, blk_set b1 _, b2, b3⟩
  have hra : RowZ w base (.slice (some ⟨ga, 0, none⟩) act.length ca) (natZ act) := by
    unfold RowZ
    rw [natZ_lenB]
    refine ⟨by simp [ivZ, natZ], ?_⟩
    rcases h.ra.2 with ⟨h0, _⟩ | ⟨g', cap', cur, hv, hbg, hg, hnc, hcm, hcs, htake⟩
    · cases h0
    · injection hv with e1 e2 e3
      injection e1 with e1
      injection e1 with e1
      subst e1 e3
      refine .inr ⟨ga, ca, cur, rfl, hbg, hg, by simp [natZ] at hnc; omega, hcm, hcs, ?_⟩
      have : cur.toList.take (act.length * 1) = (cur.toList.take ((natZ (act ++ [x])).length * 1)).take (act.length * 1) := by
        rw [List.take_take, Nat.min_eq_left (by simp [natZ])]
      rw [this, htake]
      simp [ivZ, natZ]
  refine ⟨⟨hset, by rw [cell_setne (by omega)]; exact h.b0, ?_, by rw [cell_setne (by omega)]; exact h.b5, by rw [cell_setne (by omega)]; exact h.b6, hra.kept hk (fun g e => by simp [Value.ownBlock] at e; subst e; exact fun e => e1 e.symm), h.rd.kept hk (fun g e => fun e2' => e2 g e e2'.symm), h.n1, h.n2, h.n3, h.n4, h.n5⟩, hk⟩
  rw [blk_cell (blk_set b1 _)]
  simp [hlt]
end
/-- What a step of the sweep may write. -/
def F6 (S gu gl gm ga : Nat) (vd : Value) : Nat → Prop := fun i => i = S ∨ i = gu ∨ i = gl ∨ i = gm ∨ i = ga ∨ vd.ownBlock = some i
set_option maxHeartbeats 1600000 in
theorem sreturned_ok (w : World) (base S gu cu gm cm gl cl ga ca t p : Nat) (U X dn : List Nat) (M : List Bool) (A : List Int) (vd dv mp : Value) (rt d : Nat → Nat) (h : SwM w base S U M A gu cu gm cm gl cl (X ++ [p, t]) ga ca dn vd dv mp) (hF : Fo U rt d) (ht : t < U.length) (hp : p < U.length) (htp : t ≠ p) (hL : LateOk rt A t U.length)
    (hL2 : A.getD p 0 = -1 ∨ ∃ e : Nat, A.getD p 0 = (e : Int) ∧ e < U.length ∧ waitR rt A t e ≠ waitR rt A t t) (hn : U.length ≤ 5000) (hX : X.length ≤ 5000) (hbS : base ≤ S) :
    Calls Try.prog 54 #[.pointer (some ⟨S, 0, none⟩), .int .i64 t] w fun e w' => e = .returned (.tuple #[]) ∧
      (∃ U' d', SwM w' base S U' (M.set (waitR rt A t t) true) ((A.set t (-1)).set p (t : Int)) gu cu gm cm gl cl (X ++ [p]) ga ca dn vd dv mp ∧ Fo U' (endR (waitR rt A t) A p t) d' ∧ U'.length = U.length) ∧ Keeps (F6 S gu gl gm ga vd) w w' := by
  have HM : Hid (SwM w base S U M A gu cu gm cm gl cl ((X ++ [p]) ++ [t]) ga ca dn vd dv mp) := by
    have : (X ++ [p]) ++ [t] = X ++ [p, t] := by simp
    rw [this]; exact h
  have H0 : Hid (Fo U rt d ∧ t < U.length ∧ p < U.length ∧ t ≠ p ∧ LateOk rt A t U.length ∧ (A.getD p 0 = -1 ∨ ∃ e : Nat, A.getD p 0 = (e : Int) ∧ e < U.length ∧ waitR rt A t e ≠ waitR rt A t t) ∧ U.length ≤ 5000) := ⟨hF, ht, hp, htp, hL, hL2, hn⟩
  obtain ⟨q, hq⟩ : ∃ q, q = X.length + 1 := ⟨_, rfl⟩
  have HQ : Hid (q = X.length + 1) := hq
  have r4 : w.cell? ⟨S, 4, none⟩ = some (.slice (some ⟨ga, 0, none⟩) (q + 1) ca) := by
    have := HM.out.b4
    rw [show ((X ++ [p]) ++ [t]).length = q + 1 by simp [hq]] at this
    exact this
  have hfit : q + 1 ≤ ca := by
    rcases HM.out.ra.2 with ⟨h0, _⟩ | ⟨g', cap', cur, hv, _, _, hnc, _⟩
    · cases h0
    · injection hv with _ _ e3
      subst e3
      simp [natZ] at hnc
      omega
  have f4 : w.frozen? ⟨S, 4, none⟩ = false := by obtain ⟨c, t, b1, _⟩ := HM.out.sets.blk; exact blk_free b1 4
  have hw1 : IntKind.i64.wrap (q : Int) = (q : Int) := by rw [IntWalk.i64_left]; unfold wrap64; omega
  have hw2 : IntKind.i64.wrap (((q + 1 : Nat) : Int) - 1) = (q : Int) := by rw [IntWalk.i64_left]; unfold wrap64; omega
  have q1 : (q : Int) ≤ (ca : Int) := by omega
  have q2 : q ≤ ca := by omega
  clear h hF ht hp htp hL hL2 hn hfit hq
  go_enter Try.func54, Try.ntmps54
  go_wp2_with fail
  go_cut [1] (fun s1 wx => s1 = .int .i64 t ∧ SwM wx base S U M A gu cu gm cm gl cl (X ++ [p]) ga ca dn vd dv mp ∧ Keeps (F6 S gu gl gm ga vd) w wx)
  case first =>
    go_region
    go_wp2_with fail
    go_meet
    obtain ⟨h1, h2⟩ := HM.out.pop
    rw [show (X ++ [p]).length = q by simp [HQ.out]] at h1 h2
    exact ⟨rfl, h1.more (Keeps.drew None _), (h2.mono (fun i e _ => .inl e)).andDrew⟩
  case rest =>
  obtain ⟨rfl, hM1, hk1⟩ := hcut
  obtain ⟨W1, hW1⟩ : ∃ W1, W1 = wc := ⟨_, rfl⟩
  rw [← hW1] at hM1 hk1 ⊢
  clear hW1 HM r4 f4
  have r5 : W1.cell? ⟨S, 4, none⟩ = some (.slice (some ⟨ga, 0, none⟩) q ca) := by
    have := hM1.b4
    rw [show (X ++ [p]).length = q by simp [HQ.out]] at this
    exact this
  have hra := hM1.ra
  rw [← natZ_lenB (X ++ [p])] at hra
  have a5 : W1.cell? ⟨ga, q - 1, none⟩ = some (.int .i64 (p : Int)) := (hra.at (k := q - 1) (x := (p : Int)) (by rw [HQ.out]; simp [natZ])).1
  have hw3 : IntKind.i64.wrap ((q : Int) - 1) = ((q - 1 : Nat) : Int) := by rw [IntWalk.i64_left]; have := HQ.out; unfold wrap64; omega
  have hw4 : ((q - 1 : Nat) : Int) < (q : Int) := by have := HQ.out; omega
  have HC : Hid (∀ w2, Keeps None W1 w2 → Calls Try.prog 61 #[.pointer (some ⟨S, 1, none⟩), .int .i64 t, .int .i64 p] w2 fun e w' => e = .returned (.tuple #[]) ∧ w'.cell? ⟨S, 4, none⟩ = some (.slice (some ⟨ga, 0, none⟩) q ca) ∧ w'.cell? ⟨ga, q - 1, none⟩ = some (.int .i64 (p : Int)) ∧ Hid ((∃ U' d', SwM w' base S U' (M.set (waitR rt A t t) true) ((A.set t (-1)).set p (t : Int)) gu cu gm cm gl cl (X ++ [p]) ga ca dn vd dv mp ∧ Fo U' (endR (waitR rt A t) A p t) d' ∧ U'.length = U.length) ∧ Keeps (F6 S gu gl gm ga vd) w w')) := by
    intro w2 hk
    obtain ⟨g1, g2, g3, g4, g5, g6, g7⟩ := H0.out
    have hM2 := hM1.more hk
    refine (end_ok w2 base S 1 gu cu gm cm gl cl t p U M A rt d hM2.sets g1 g2 g3 g4 g5 g6 g7).mono ?_
    rintro e w' ⟨rfl, ⟨U', d', h1, h2, h3⟩, h4⟩
    have hM3 := hM2.sets' h4 h1
    have c4 := hM3.b4
    rw [show (X ++ [p]).length = q by simp [HQ.out]] at c4
    have hra2 := hM3.ra
    rw [← natZ_lenB (X ++ [p])] at hra2
    refine ⟨rfl, c4, (hra2.at (k := q - 1) (x := (p : Int)) (by rw [HQ.out]; simp [natZ])).1, ⟨⟨U', d', hM3, h2, h3⟩, ?_⟩⟩
    refine (hk1.trans hk (fun _ f _ => f.elim)).trans h4 (fun i e _ => ?_)
    rcases e with e | e | e
    · exact .inr (.inl e)
    · exact .inr (.inr (.inl e))
    · exact .inr (.inr (.inr (.inl e)))
  clear hM1 hk1 hra H0 hw1 hw2
  go_wp2_with fail
  go_region_held3 (fun w' => w'.cell? ⟨S, 4, none⟩ = some (.slice (some ⟨ga, 0, none⟩) q ca) ∧ w'.cell? ⟨ga, q - 1, none⟩ = some (.int .i64 (p : Int))) (first | exact ⟨v1, v2⟩ | go_keep) (first | (go_at_call 61; refine Calls.mono (HC.out _ (Keeps.drew None _)) ?_; rintro _ w3 ⟨rfl, v1, v2, v3⟩))
  all_goals (go_wp2_with fail; go_end0)
  all_goals exact ⟨rfl, v3.out⟩
end Go.Proofs.Ytolhojagbiaamaa
