import Derived.Test.YtolhojagbiaamaaPkAJ
/-! The sweep in memory: what is appended; the state behind the first n deeds. -/
namespace Go.Proofs.Ytolhojagbiaamaa
set_option linter.unusedVariables false
set_option maxRecDepth 20000
set_option linter.unusedSimpArgs false
open Go.RowKit Go.HeapKit

section
variable {w w' : World} {base S : Nat} {U : List Nat} {M : List Bool} {A : List Int} {gu cu gm cm gl cl : Nat} {act : List Nat} {ga ca : Nat} {dn : List Nat} {vd dv mp : Value}
theorem SetM.putS (h : SetM w base S 1 U M A gu cu gm cm gl cl) (j : Nat) (hj : 4 ≤ j) (v : Value) : SetM (w.setCell ⟨S, j, none⟩ v) base S 1 U M A gu cu gm cm gl cl := by
  have hk : Keeps (· = S) w (w.setCell ⟨S, j, none⟩ v) := keeps_one (Keeps.refl _ _) _
  obtain ⟨m1, m2, m3, m4, m5⟩ := h.neS
  obtain ⟨c, t, b1, b2, b3⟩ := h.blk
  exact ⟨by rw [cell_setne (by omega)]; exact h.c0, by rw [cell_setne (by omega)]; exact h.c1, by rw [cell_setne (by omega)]; exact h.c2, h.ru.kept hk (fun g e => by simp [Value.ownBlock] at e; subst e; exact fun e => m1 e.symm), row_kept h.rm hk (fun g e => by simp [Value.ownBlock] at e; subst e; exact fun e => m2 e.symm), h.rl.kept hk (fun g e => by simp [Value.ownBlock] at e; subst e; exact fun e => m3 e.symm), h.lm, h.la, h.ne, c.setIfInBounds j _, t, blk_set b1 _, b2, b3⟩
theorem SwM.size4 (h : SwM w base S U M A gu cu gm cm gl cl act ga ca dn vd dv mp) {c : Array Value} {t : TypeId} {fz : Nat × Nat} (b1 : w.heap[S]? = some (.cells c t fz)) : 6 < c.size := by
  have := h.b6
  rw [blk_cell b1] at this
  exact (Array.getElem?_eq_some_iff.1 this).1
/-- One more deed's task. -/
theorem SwM.appD (h : SwM w base S U M A gu cu gm cm gl cl act ga ca dn vd dv mp) (x : Nat) (hb : base ≤ w.heap.size) (hlen : dn.length ≤ 5000) {g0 : Nat} (hg0 : w.heap[g0]? = some (.cells #[.int .i64 (x : Int)] 3 (0, 0))) :
    ∃ g c w', (Builtin.append_ #[33, 33] 33 #[vd, .slice (some ⟨g0, 0, none⟩) 1 1]).run Try.prog w = .ok (.slice (some ⟨g, 0, none⟩) (dn.length + 1) c) w' ∧ w'.cell? ⟨S, 5, none⟩ = some vd ∧ w'.frozen? ⟨S, 5, none⟩ = false ∧
      SwM (w'.setCell ⟨S, 5, none⟩ (.slice (some ⟨g, 0, none⟩) (dn.length + 1) c)) base S U M A gu cu gm cm gl cl act ga ca (dn ++ [x]) (.slice (some ⟨g, 0, none⟩) (dn.length + 1) c) dv mp ∧ Keeps (fun i => vd.ownBlock = some i ∨ i = S) w (w'.setCell ⟨S, 5, none⟩ (.slice (some ⟨g, 0, none⟩) (dn.length + 1) c)) := by
  obtain ⟨g, c, w1, hr, hR, hk, hm⟩ := intZ_more base vd (natZ dn) (x : Int) 33 w h.rd hb (by rw [natZ_lenB]; omega) hg0
  rw [natZ_lenB] at hr hR
  obtain ⟨e1, e2, e3, e4⟩ := h.neS
  obtain ⟨cc, t, b1, b2, b3⟩ := h.sets.blk
  have hlt := h.size4 b1
  have b1' := blk_kept b1 hk (fun e => e2 _ e rfl)
  have hk2 : Keeps (· = S) w1 (w1.setCell ⟨S, 5, none⟩ (.slice (some ⟨g, 0, none⟩) (dn.length + 1) c)) := keeps_one (Keeps.refl _ _) _
  have hcell : ∀ i, w1.cell? ⟨S, i, none⟩ = w.cell? ⟨S, i, none⟩ := fun i => by rw [blk_cell b1', blk_cell b1]
  have hgS : g ≠ S := by
    rcases hm with hm | ⟨hm, _⟩
    · exact fun e => e2 g hm e.symm
    · have := blk_lt b1; omega
  have off : ∀ k, vd.ownBlock ≠ some k → k < w.heap.size → g ≠ k := fun k h1 h2 e => by
    subst e
    rcases hm with hm | ⟨hm, _⟩
    · exact h1 hm
    · omega
  have l1 := own_lt h.sets.ru (g := gu) rfl
  have l2 := own_lt h.sets.rl (g := gl) rfl
  have l3 := own_lt h.ra (g := ga) rfl
  have hs1 : SetM w1 base S 1 U M A gu cu gm cm gl cl := h.sets.kept hk (fun e => e2 _ e rfl) h.n3 (fun e => e4 _ e rfl) h.n4
  refine ⟨g, c, w1, hr, by rw [hcell]; exact h.b5, blk_free b1' _, ⟨hs1.putS 5 (by omega) _, ?_, ?_, ?_, ?_, ?_, ?_, h.n1, h.n2, ?_, ?_, ?_⟩, (hk.mono (fun i e _ => .inl e)).trans hk2 (fun i e _ => .inr e)⟩
  · rw [cell_setne (by omega), hcell]; exact h.b0
  · rw [cell_setne (by omega), hcell]; exact h.b4
  · rw [blk_cell (blk_set b1' _)]; simp [show 5 < cc.size by omega]
  · rw [cell_setne (by omega), hcell]; exact h.b6
  · exact (h.ra.kept hk (fun b e e5 => by simp [Value.ownBlock] at e; subst e; exact h.n5 e5)).kept hk2 (fun b e e5 => by simp [Value.ownBlock] at e; subst e; exact e1 e5.symm)
  · have : RowZ w1 base (.slice (some ⟨g, 0, none⟩) (dn.length + 1) c) (natZ (dn ++ [x])) := by rw [← natZ_more]; exact hR
    exact this.kept hk2 (fun b e => by simp [Value.ownBlock] at e; subst e; exact hgS)
  · simp only [Value.ownBlock, ne_eq, Option.some.injEq]; exact off gu h.n3 l1
  · simp only [Value.ownBlock, ne_eq, Option.some.injEq]; exact off gl h.n4 l2
  · simp only [Value.ownBlock, ne_eq, Option.some.injEq]; exact off ga h.n5 l3
/-- One more task that has not returned. -/
theorem SwM.appAct (h : SwM w base S U M A gu cu gm cm gl cl act ga ca dn vd dv mp) (x : Nat) (hb : base ≤ w.heap.size) (hlen : act.length ≤ 5000) {g0 : Nat} (hg0 : w.heap[g0]? = some (.cells #[.int .i64 (x : Int)] 3 (0, 0))) :
    ∃ g c w', (Builtin.append_ #[33, 33] 33 #[.slice (some ⟨ga, 0, none⟩) act.length ca, .slice (some ⟨g0, 0, none⟩) 1 1]).run Try.prog w = .ok (.slice (some ⟨g, 0, none⟩) (act.length + 1) c) w' ∧ w'.cell? ⟨S, 4, none⟩ = some (.slice (some ⟨ga, 0, none⟩) act.length ca) ∧ w'.frozen? ⟨S, 4, none⟩ = false ∧
      SwM (w'.setCell ⟨S, 4, none⟩ (.slice (some ⟨g, 0, none⟩) (act.length + 1) c)) base S U M A gu cu gm cm gl cl (act ++ [x]) g c dn vd dv mp ∧ Keeps (fun i => i = ga ∨ i = S) w (w'.setCell ⟨S, 4, none⟩ (.slice (some ⟨g, 0, none⟩) (act.length + 1) c)) := by
  have hra := h.ra
  obtain ⟨g, c, w1, hr, hR, hk0, hm⟩ := intZ_more base (.slice (some ⟨ga, 0, none⟩) act.length ca) (natZ act) (x : Int) 33 w hra hb (by rw [natZ_lenB]; omega) hg0
  rw [natZ_lenB] at hr hR
  have hk : Keeps (· = ga) w w1 := hk0.mono (fun i e _ => by simp [Value.ownBlock] at e; exact e.symm)
  obtain ⟨e1, e2, e3, e4⟩ := h.neS
  obtain ⟨cc, t, b1, b2, b3⟩ := h.sets.blk
  have hlt := h.size4 b1
  have b1' := blk_kept b1 hk (fun e => e1 e)
  have hk2 : Keeps (· = S) w1 (w1.setCell ⟨S, 4, none⟩ (.slice (some ⟨g, 0, none⟩) (act.length + 1) c)) := keeps_one (Keeps.refl _ _) _
  have hcell : ∀ i, w1.cell? ⟨S, i, none⟩ = w.cell? ⟨S, i, none⟩ := fun i => by rw [blk_cell b1', blk_cell b1]
  have hm' : ga = g ∨ w.heap.size ≤ g := by
    rcases hm with hm | ⟨hm, _⟩
    · simp [Value.ownBlock] at hm; exact .inl hm
    · exact .inr hm
  have hgS : g ≠ S := by
    rcases hm' with hm | hm
    · exact fun e => e1 (by omega)
    · have := blk_lt b1; omega
  have off : ∀ k, ga ≠ k → k < w.heap.size → g ≠ k := fun k h1 h2 e => by
    subst e
    rcases hm' with hm | hm
    · exact h1 hm
    · omega
  have l1 := own_lt h.sets.ru (g := gu) rfl
  have l2 := own_lt h.sets.rl (g := gl) rfl
  have hs1 : SetM w1 base S 1 U M A gu cu gm cm gl cl := h.sets.kept hk e1 (fun e => h.n1 e.symm) (fun e => e3 e.symm) (fun e => h.n2 e.symm)
  refine ⟨g, c, w1, hr, by rw [hcell]; exact h.b4, blk_free b1' _, ⟨hs1.putS 4 (by omega) _, ?_, ?_, ?_, ?_, ?_, ?_, off gu h.n1 l1, off gl h.n2 l2, h.n3, h.n4, ?_⟩, (hk.mono (fun i e _ => .inl e)).trans hk2 (fun i e _ => .inr e)⟩
  · rw [cell_setne (by omega), hcell]; exact h.b0
  · rw [blk_cell (blk_set b1' _), List.length_append]; simp [show 4 < cc.size by omega]
  · rw [cell_setne (by omega), hcell]; exact h.b5
  · rw [cell_setne (by omega), hcell]; exact h.b6
  · have : RowZ w1 base (.slice (some ⟨g, 0, none⟩) (act ++ [x]).length c) (natZ (act ++ [x])) := by rw [← natZ_more, List.length_append]; exact hR
    exact this.kept hk2 (fun b e => by simp [Value.ownBlock] at e; subst e; exact hgS)
  · exact (h.rd.kept hk (fun b e e5 => by subst e5; exact h.n5 e)).kept hk2 (fun b e e5 => by subst e5; exact e2 _ e rfl)
  · intro e
    have hlt := own_lt h.rd e
    exact off g (fun e5 => by subst e5; exact h.n5 e) hlt rfl
end
/-- A task begins. -/
theorem sbegin_ok (w : World) (base S gu cu gm cm gl cl ga ca : Nat) (U act dn : List Nat) (M : List Bool) (A : List Int) (vd dv mp : Value) (h : SwM w base S U M A gu cu gm cm gl cl act ga ca dn vd dv mp) (hn : U.length ≤ 5000) (hb : base ≤ w.heap.size) (hbS : base ≤ S) :
    Calls Try.prog 53 #[.pointer (some ⟨S, 1, none⟩)] w fun e w' => e = .returned (.int .i64 (U.length : Nat)) ∧ (∃ gu cu gm cm gl cl, SwM w' base S (U ++ [U.length]) (M ++ [false]) (A ++ [-1]) gu cu gm cm gl cl act ga ca dn vd dv mp) ∧ Keeps (F6 S gu gl gm ga vd) w w' := by
  have hV := h.sets.toV
  refine (begin_ok w base S 1 (natZ U) A M _ _ _ hV (by rw [natZ_lenB]; exact h.sets.lm) (by rw [natZ_lenB]; exact h.sets.la) (by rw [natZ_lenB]; exact hn) hb hbS).mono ?_
  rintro e w' ⟨rfl, ⟨gu', cu', gm', cm', gl', cl', hV', hu, hl⟩, hk, hc⟩
  rw [natZ_lenB, natZ_more] at hV'
  obtain ⟨e1, e2, e3, e4⟩ := h.neS
  obtain ⟨m1, m2, m3, m4, m5⟩ := h.sets.neS
  have hFga : ¬ Fs S (.slice (some ⟨gu, 0, none⟩) U.length cu) (.slice (some ⟨gm, 0, none⟩) U.length cm) (.slice (some ⟨gl, 0, none⟩) U.length cl) ga := by
    rintro (e | e | e | e)
    · simp [Value.ownBlock] at e; exact h.n1 e.symm
    · simp [Value.ownBlock] at e; exact e3 e.symm
    · simp [Value.ownBlock] at e; exact h.n2 e.symm
    · exact e1 e.symm
  have hFvd : ∀ b, vd.ownBlock = some b → ¬ Fs S (.slice (some ⟨gu, 0, none⟩) U.length cu) (.slice (some ⟨gm, 0, none⟩) U.length cm) (.slice (some ⟨gl, 0, none⟩) U.length cl) b := by
    rintro b hb (e | e | e | e)
    · simp [Value.ownBlock] at e; subst e; exact h.n3 hb
    · simp [Value.ownBlock] at e; subst e; exact e4 _ hb rfl
    · simp [Value.ownBlock] at e; subst e; exact h.n4 hb
    · subst e; exact e2 _ hb rfl
  have hgu : gu = gu' ∨ w.heap.size ≤ gu' := by rcases hu with hu | hu; simp [Value.ownBlock] at hu; exact .inl hu; exact .inr hu
  have hgl : gl = gl' ∨ w.heap.size ≤ gl' := by rcases hl with hl | hl; simp [Value.ownBlock] at hl; exact .inl hl; exact .inr hl
  have l3 := own_lt h.ra (g := ga) rfl
  refine ⟨by rw [natZ_lenB], ⟨gu', cu', gm', cm', gl', cl', ?_⟩, hk.mono (fun i e _ => ?_)⟩
  rotate_left
  · rcases e with e | e | e | e
    · simp [Value.ownBlock] at e; exact .inr (.inl e.symm)
    · simp [Value.ownBlock] at e; exact .inr (.inr (.inr (.inl e.symm)))
    · simp [Value.ownBlock] at e; exact .inr (.inr (.inl e.symm))
    · exact .inl e
  have hS' : SetM w' base S 1 (U ++ [U.length]) (M ++ [false]) (A ++ [-1]) gu' cu' gm' cm' gl' cl' := by
    refine SetV.toM ?_ (by simp [h.sets.lm]) (by simp [h.sets.la])
    rw [List.length_append]
    exact hV'
  refine ⟨hS', ?_, ?_, ?_, ?_, h.ra.kept hk (fun b e => by simp [Value.ownBlock] at e; subst e; exact hFga), h.rd.kept hk (fun b e => hFvd b e), ?_, ?_, ?_, ?_, h.n5⟩
  · rw [hc 0 (by omega) (by omega) (by omega)]; exact h.b0
  · rw [hc 4 (by omega) (by omega) (by omega)]; exact h.b4
  · rw [hc 5 (by omega) (by omega) (by omega)]; exact h.b5
  · rw [hc 6 (by omega) (by omega) (by omega)]; exact h.b6
  · rcases hgu with e | e
    · rw [← e]; exact h.n1
    · omega
  · rcases hgl with e | e
    · rw [← e]; exact h.n2
    · omega
  · rcases hgu with e | e
    · rw [← e]; exact h.n3
    · intro e5; have := own_lt h.rd e5; omega
  · rcases hgl with e | e
    · rw [← e]; exact h.n4
    · intro e5; have := own_lt h.rd e5; omega
/-- The map of the places: no place twice, no more than have been touched; which are racy. -/
structure PlOk (ds : List Dd) (PM : List (Int × Pl)) (n : Nat) (rc : Int → Bool) : Prop where
  nd : (PM.map Prod.fst).Nodup
  len : PM.length ≤ n
  rc : ∀ L, (lookP PM L).racy = rc L
  tch : ∀ a, a < n → (kdN ds a = 3 ∨ kdN ds a = 4) → lcN ds a ∈ PM.map Prod.fst
/-- The sweep behind the first n deeds; of m deeds it is told whose they are. -/
structure SwS (w0 w : World) (base S mb : Nat) (dv : Value) (ds : List Dd) (n m : Nat) (rc : Int → Bool) : Prop where
  ex : ∃ (U : List Nat) (M : List Bool) (A : List Int) (gu cu gm cm gl cl ga ca : Nat) (vd : Value) (rt d : Nat → Nat) (PM : List (Int × Pl)), SwM w base S U M A gu cu gm cm gl cl (actN ds n) ga ca (dnN ds m) vd dv (.map (some mb)) ∧ Fo U rt d ∧ BagI (bgN ds n) rt M A (cntB ds n) ∧ U.length = cntB ds n ∧ IsPl w mb PM ∧ Std ds n (fun L => (lookP PM L).w) (fun L => (lookP PM L).r) ∧ PlOk ds PM n rc
  kp : Keeps (fun i => base ≤ i) w0 w
  b1 : base ≤ S
  b2 : base ≤ mb
  b3 : base ≤ w.heap.size
theorem SwS.more {w0 w w' : World} {base S mb : Nat} {dv : Value} {ds : List Dd} {n m : Nat} {rc : Int → Bool} (h : SwS w0 w base S mb dv ds n m rc) (hk : Keeps None w w') : SwS w0 w' base S mb dv ds n m rc := by
  obtain ⟨U, M, A, gu, cu, gm, cm, gl, cl, ga, ca, vd, rt, d, PM, h1, h2, h3, h4, h5, h6, h7⟩ := h.ex
  exact ⟨⟨U, M, A, gu, cu, gm, cm, gl, cl, ga, ca, vd, rt, d, PM, h1.more hk, h2, h3, h4, h5.more hk, h6, h7⟩, h.kp.trans hk (fun _ f _ => f.elim), h.b1, h.b2, Nat.le_trans h.b3 hk.size⟩
end Go.Proofs.Ytolhojagbiaamaa
/-! The sweep, one deed of each kind. -/
namespace Go.Proofs.Ytolhojagbiaamaa
set_option linter.unusedVariables false
set_option maxRecDepth 20000
set_option linter.unusedSimpArgs false
open Go.RowKit Go.HeapKit

section
variable {w0 w w' : World} {base S mb : Nat} {U : List Nat} {M : List Bool} {A : List Int} {gu cu gm cm gl cl : Nat} {act : List Nat} {ga ca : Nat} {dn : List Nat} {vd dv mp : Value} {ds : List Dd} {n m : Nat} {rc : Int → Bool}
theorem SwM.f6 (h : SwM w base S U M A gu cu gm cm gl cl act ga ca dn vd dv mp) (hS : base ≤ S) : ∀ i, F6 S gu gl gm ga vd i → base ≤ i ∧ ¬ Bk w i ∧ ∃ c t f, w.heap[i]? = some (.cells c t f) := by
  obtain ⟨c, t, b1, b2, b3⟩ := h.sets.blk
  have nb := h.sets.toV.nb
  rintro i (e | e | e | e | e | e)
  · subst e; exact ⟨hS, nb.2.2.2, _, _, _, b1⟩
  · subst e; obtain ⟨_, hu⟩ := h.sets.ublk; exact ⟨row_low h.sets.ru rfl, nb.1 _ rfl, _, _, _, hu⟩
  · subst e; obtain ⟨_, hu⟩ := h.sets.lblk; exact ⟨row_low h.sets.rl rfl, nb.2.2.1 _ rfl, _, _, _, hu⟩
  · subst e; obtain ⟨_, hu⟩ := h.sets.mblk; exact ⟨row_low h.sets.rm rfl, nb.2.1 _ rfl, _, _, _, hu⟩
  · subst e; obtain ⟨_, hu⟩ := own_block h.ra (g := i) rfl; exact ⟨row_low h.ra rfl, not_bk_cells hu (.inl (by decide)), _, _, _, hu⟩
  · obtain ⟨_, hu⟩ := own_block h.rd e; exact ⟨row_low h.rd e, not_bk_cells hu (.inl (by decide)), _, _, _, hu⟩
theorem SwM.fp6 (h : SwM w base S U M A gu cu gm cm gl cl act ga ca dn vd dv mp) (hS : base ≤ S) (hk : Keeps (F6 S gu gl gm ga vd) w w') : Keeps (Fp w base) w w' := hk.mono (fun i e _ => ⟨(h.f6 hS i e).1, (h.f6 hS i e).2.1⟩)
theorem SwM.pl6 (h : SwM w base S U M A gu cu gm cm gl cl act ga ca dn vd dv mp) (hS : base ≤ S) (hk : Keeps (F6 S gu gl gm ga vd) w w') {PM : List (Int × Pl)} (hp : IsPl w mb PM) : IsPl w' mb PM := hp.kept hk (fun e => by
  obtain ⟨_, _, c, t, f, hb⟩ := h.f6 hS mb e
  obtain ⟨es, cl, hm, _⟩ := hp
  rw [hb] at hm
  cases hm)
theorem actN_len {rt : Nat → Nat} (h : BagI (bgN ds n) rt M A (cntB ds n)) : (actN ds n).length ≤ cntB ds n := by
  have h1 := allB_len _ h.ids
  have h2 := nodup_bound _ _ h.nd h.lt
  simp [actN]
  omega
/-- The current task. -/
theorem SwS.top (h : SwS w0 w base S mb dv ds n m rc) (hN : Now ds n) (hn : n ≤ 4096) : ∃ ga q ca, w.cell? ⟨S, 4, none⟩ = some (.slice (some ⟨ga, 0, none⟩) (q + 1) ca) ∧ w.cell? ⟨ga, q, none⟩ = some (.int .i64 (doer ds n : Nat)) ∧ q ≤ 4096 ∧ w.cell? ⟨S, 0, none⟩ = some dv := by
  obtain ⟨U, M, A, gu, cu, gm, cm, gl, cl, ga, ca, vd, rt, d, PM, h1, h2, h3, h4, h5, h6, h7⟩ := h.ex
  obtain ⟨t, r, hb, hid, hdo⟩ := hN.top
  have hact := act_top hb
  have hl := actN_len h3
  have hc := hN.cnt
  have hq : (actN ds n).length = r.length + 1 := by rw [hact]; simp
  have b4 := h1.b4
  have ra := h1.ra
  rw [hq] at b4
  rw [← natZ_lenB (actN ds n)] at ra
  refine ⟨ga, r.length, ca, b4, (ra.at (k := r.length) (x := ((doer ds n : Nat) : Int)) ?_).1, by omega, h1.b0⟩
  rw [hact, hdo]
  simp [natZ]
/-- Whose the next deed is. -/
theorem SwS.doers (h : SwS w0 w base S mb dv ds n n rc) (hn : n ≤ 4096) : ∃ vd g c w1, w.cell? ⟨S, 5, none⟩ = some vd ∧ (Builtin.append_ #[33, 33] 33 #[vd, .slice (some ⟨w.heap.size, 0, none⟩) 1 1]).run Try.prog (w.alloc (.cells #[.int .i64 (doer ds n : Nat)] 3)) = .ok (.slice (some ⟨g, 0, none⟩) (n + 1) c) w1 ∧ w1.cell? ⟨S, 5, none⟩ = some vd ∧ w1.frozen? ⟨S, 5, none⟩ = false ∧
    SwS w0 (w1.setCell ⟨S, 5, none⟩ (.slice (some ⟨g, 0, none⟩) (n + 1) c)) base S mb dv ds n (n + 1) rc ∧ Keeps (Fp w base) w (w1.setCell ⟨S, 5, none⟩ (.slice (some ⟨g, 0, none⟩) (n + 1) c)) := by
  obtain ⟨U, M, A, gu, cu, gm, cm, gl, cl, ga, ca, vd, rt, d, PM, h1, h2, h3, h4, h5, h6, h7⟩ := h.ex
  have kA := Keeps.alloc None w (.cells #[.int .i64 ((doer ds n : Nat) : Int)] 3)
  have h1' := h1.more kA
  obtain ⟨g, c, w1, hr, x1, x2, hM, hk⟩ := h1'.appD (doer ds n) (by have := h.b3; simp; omega) (by rw [dnN_len]; omega) (heap_alloc_new w _)
  rw [dnN_len] at hr hM hk
  rw [← dnN_succ] at hM
  have hk' := hk.mono (T := F6 S gu gl gm ga vd) (fun i e _ => by rcases e with e | e; exact .inr (.inr (.inr (.inr (.inr e)))); exact .inl e)
  have hfp : Keeps (Fp w base) w (w1.setCell ⟨S, 5, none⟩ (.slice (some ⟨g, 0, none⟩) (n + 1) c)) := Fp.trans (kA.mono (fun _ f _ => f.elim)) hk' (fun i e _ => ⟨(h1'.f6 h.b1 i e).1, (h1'.f6 h.b1 i e).2.1⟩)
  exact ⟨vd, g, c, w1, h1.b5, hr, x1, x2, ⟨⟨U, M, A, gu, cu, gm, cm, gl, cl, ga, ca, _, rt, d, PM, hM, h2, h3, h4, h1'.pl6 h.b1 hk' (h5.more kA), h6, h7⟩, h.kp.trans (Fp.low hfp) (fun i e _ => e), h.b1, h.b2, Nat.le_trans h.b3 hfp.size⟩, hfp⟩
theorem PlOk.up {PM : List (Int × Pl)} (h : PlOk ds PM n rc) (hk : ¬ kdN ds n = 3 ∧ ¬ kdN ds n = 4) : PlOk ds PM (n + 1) rc := ⟨h.nd, by have := h.len; omega, h.rc, fun a ha hka => h.tch a (by
  have : a ≠ n := fun e => by subst e; rcases hka with e | e; exact hk.1 e; exact hk.2 e
  omega) hka⟩
/-- A sync. -/
theorem SwS.sync (h : SwS w0 w base S mb dv ds n (n + 1) rc) (hN : Now ds n) (hn : n < 4096) (hk : kdN ds n = 2) : Calls Try.prog 55 #[.pointer (some ⟨S, 1, none⟩), .int .i64 (doer ds n : Nat)] w fun e w' => e = .returned (.tuple #[]) ∧ SwS w0 w' base S mb dv ds (n + 1) (n + 1) rc ∧ Keeps (Fp w base) w w' := by
  obtain ⟨U, M, A, gu, cu, gm, cm, gl, cl, ga, ca, vd, rt, d, PM, h1, h2, h3, h4, h5, h6, h7⟩ := h.ex
  obtain ⟨t, r, hb, hid, hdo⟩ := hN.top
  rw [hb] at h3
  obtain ⟨l1, l2, l3⟩ := late_ok h3
  have hT : t.id < cntB ds n := h3.lt _ (mem_all_P (b := t) (by simp) hid)
  have hc := hN.cnt
  rw [hdo]
  refine (wait_ok w base S 1 gu cu gm cm gl cl t.id U M A rt d h1.sets h2 (by omega) (by rw [h4]; exact l1) (by omega)).mono ?_
  rintro e w' ⟨rfl, ⟨U', d', g1, g2, g3⟩, g4⟩
  have g4' := g4.mono (T := F6 S gu gl gm ga vd) (fun i e _ => by rcases e with e | e; exact .inr (.inl e); exact .inr (.inr (.inl e)))
  have hfp := h1.fp6 h.b1 g4'
  have hM := h1.sets' (g4.mono (fun i e _ => by rcases e with e | e; exact .inl e; exact .inr (.inl e))) g1
  have hbn : bgN ds (n + 1) = ⟨t.id, t.P ++ t.O, []⟩ :: r := by
    show stepB (kdN ds n) (cntB ds n) (bgN ds n) = _
    rw [hk, hb, sb2]
  have hcn : cntB ds (n + 1) = cntB ds n := by
    show (if kdN ds n = 0 then _ else _) = _
    rw [if_neg (by omega)]
  have hact : actN ds (n + 1) = actN ds n := by unfold actN; rw [hbn, hb]; rfl
  have hS := h3.sync
  rw [← hbn, ← hcn] at hS
  refine ⟨rfl, ⟨⟨U', M, A.set t.id (-1), gu, cu, gm, cm, gl, cl, ga, ca, vd, waitR rt A t.id, d', PM, by rw [hact]; exact hM, g2, hS, by rw [g3, h4, hcn], h1.pl6 h.b1 g4' h5, h6.other hN.bin hN.ne (fun e => by omega) ⟨by omega, by omega⟩, h7.up ⟨by omega, by omega⟩⟩, h.kp.trans (Fp.low hfp) (fun i e _ => e), h.b1, h.b2, Nat.le_trans h.b3 hfp.size⟩, hfp⟩
/-- A return. -/
theorem SwS.ret (h : SwS w0 w base S mb dv ds n (n + 1) rc) (hN : Now ds n) (hn : n < 4096) (hk : kdN ds n = 1) (h2l : 2 ≤ (stN ds n).length) : Calls Try.prog 54 #[.pointer (some ⟨S, 0, none⟩), .int .i64 (doer ds n : Nat)] w fun e w' => e = .returned (.tuple #[]) ∧ SwS w0 w' base S mb dv ds (n + 1) (n + 1) rc ∧ Keeps (Fp w base) w w' := by
  obtain ⟨U, M, A, gu, cu, gm, cm, gl, cl, ga, ca, vd, rt, d, PM, h1, h2, h3, h4, h5, h6, h7⟩ := h.ex
  obtain ⟨t, r0, hb, hid, hdo⟩ := hN.top
  have hlen := Prs.len hN.bin.prs
  obtain ⟨u, r, rfl⟩ : ∃ u r, r0 = u :: r := by
    cases r0 with
    | nil => rw [hb] at hlen; simp at hlen; omega
    | cons u r => exact ⟨u, r, rfl⟩
  have hal := actN_len h3
  rw [hb] at h3
  have hact := act_top hb
  have hact' : actN ds n = (r.map Bg.id).reverse ++ [u.id, t.id] := by rw [hact]; simp
  obtain ⟨l1, l2, l3⟩ := late_ok h3
  have hT : t.id < cntB ds n := h3.lt _ (mem_all_P (b := t) (by simp) hid)
  have huid := h3.ids u (by simp)
  have hU : u.id < cntB ds n := h3.lt _ (mem_all_P (b := u) (by simp) huid)
  obtain ⟨a1, a2, a3⟩ := top_apart h3.nd
  have htu : t.id ≠ u.id := fun e => a2 t.id (.inl hid) (by rw [e]; exact mem_all_P (b := u) (by simp) huid)
  have hS := h3.sync
  have hget : (A.set t.id (-1)).getD u.id 0 = A.getD u.id 0 := by rw [getD_setZ _ _ _ _ (by rw [h3.la]; exact hT), if_neg (fun e => htu e.symm)]
  have hL2 : A.getD u.id 0 = -1 ∨ ∃ e : Nat, A.getD u.id 0 = (e : Int) ∧ e < U.length ∧ waitR rt A t.id e ≠ waitR rt A t.id t.id := by
    obtain ⟨u1, u2, u3⟩ := uO_root hS
    rw [hget] at u1 u2 u3
    rcases u3 with u3 | ⟨e, u3⟩
    · exact .inl u3
    · have he := (u2 e u3).1
      have hea : e ∈ allB (u :: r) := mem_all_O (b := u) (by simp) he
      refine .inr ⟨e, u3, by rw [h4]; exact h3.lt e (by rw [allB_cons]; simp [hea]), fun heq => root_ne hS (x := t.id) (y := e) (.inl (List.mem_append.2 (.inl hid))) hea heq.symm⟩
  have hc := hN.cnt
  have hrl : r.length + 2 ≤ cntB ds n := by rw [hact'] at hal; simpa using hal
  rw [hact'] at h1
  rw [hdo]
  refine (sreturned_ok w base S gu cu gm cm gl cl ga ca t.id u.id U (r.map Bg.id).reverse (dnN ds (n + 1)) M A vd dv (.map (some mb)) rt d h1 h2 (by omega) (by omega) htu (by rw [h4]; exact l1) hL2 (by omega) (by simp; omega) h.b1).mono ?_
  rintro e w' ⟨rfl, ⟨U', d', g1, g2, g3⟩, g4⟩
  have hfp := h1.fp6 h.b1 g4
  have hbn : bgN ds (n + 1) = ⟨u.id, u.P, (t.P ++ t.O) ++ u.O⟩ :: r := by
    show stepB (kdN ds n) (cntB ds n) (bgN ds n) = _
    rw [hk, hb, sb1]
  have hcn : cntB ds (n + 1) = cntB ds n := by
    show (if kdN ds n = 0 then _ else _) = _
    rw [if_neg (by omega)]
  have hR := hS.ret rfl
  have hend : endR (waitR rt A t.id) (A.set t.id (-1)) u.id t.id = endR (waitR rt A t.id) A u.id t.id := by unfold endR; rw [hget]
  simp only [hend] at hR
  rw [← hbn, ← hcn] at hR
  refine ⟨rfl, ⟨⟨U', _, _, gu, cu, gm, cm, gl, cl, ga, ca, vd, _, d', PM, by rw [act_top hbn]; exact g1, g2, hR, by rw [g3, h4, hcn], h1.pl6 h.b1 g4 h5, h6.other hN.bin hN.ne (fun _ => h2l) ⟨by omega, by omega⟩, h7.up ⟨by omega, by omega⟩⟩, h.kp.trans (Fp.low hfp) (fun i e _ => e), h.b1, h.b2, Nat.le_trans h.b3 hfp.size⟩, hfp⟩
/-- A spawn: the task has begun, and is not noted as the current one yet. -/
structure SpM (w0 w : World) (base S mb : Nat) (dv : Value) (ds : List Dd) (n : Nat) (rc : Int → Bool) (ga ca : Nat) : Prop where
  ex : ∃ (U : List Nat) (M : List Bool) (A : List Int) (gu cu gm cm gl cl : Nat) (vd : Value) (rt d : Nat → Nat) (PM : List (Int × Pl)), SwM w base S U M A gu cu gm cm gl cl (actN ds n) ga ca (dnN ds (n + 1)) vd dv (.map (some mb)) ∧ Fo U rt d ∧ BagI (bgN ds (n + 1)) rt M A (cntB ds (n + 1)) ∧ U.length = cntB ds (n + 1) ∧ IsPl w mb PM ∧ Std ds (n + 1) (fun L => (lookP PM L).w) (fun L => (lookP PM L).r) ∧ PlOk ds PM (n + 1) rc
  kp : Keeps (fun i => base ≤ i) w0 w
  b1 : base ≤ S
  b2 : base ≤ mb
  b3 : base ≤ w.heap.size
theorem SwS.spawn (h : SwS w0 w base S mb dv ds n (n + 1) rc) (hN : Now ds n) (hn : n < 4096) (hk : kdN ds n = 0) : ∃ ga ca q, q ≤ 4097 ∧ q = (actN ds n).length ∧ w.cell? ⟨S, 4, none⟩ = some (.slice (some ⟨ga, 0, none⟩) q ca) ∧ ∀ w2, Keeps None w w2 → Calls Try.prog 53 #[.pointer (some ⟨S, 1, none⟩)] w2 fun e w' => e = .returned (.int .i64 (cntB ds n : Nat)) ∧ w'.cell? ⟨S, 4, none⟩ = some (.slice (some ⟨ga, 0, none⟩) q ca) ∧ SpM w0 w' base S mb dv ds n rc ga ca ∧ Keeps (Fp w base) w w' := by
  obtain ⟨U, M, A, gu, cu, gm, cm, gl, cl, ga, ca, vd, rt, d, PM, h1, h2, h3, h4, h5, h6, h7⟩ := h.ex
  have hal := actN_len h3
  have hc := hN.cnt
  refine ⟨ga, ca, _, by omega, rfl, h1.b4, fun w2 hk2 => ?_⟩
  have h1' := h1.more hk2
  refine (sbegin_ok w2 base S gu cu gm cm gl cl ga ca U _ _ M A vd dv _ h1' (by omega) (Nat.le_trans h.b3 hk2.size) h.b1).mono ?_
  rintro e w' ⟨rfl, ⟨gu', cu', gm', cm', gl', cl', g1⟩, g4⟩
  have hfp : Keeps (Fp w base) w w' := Fp.trans (hk2.mono (fun _ f _ => f.elim)) g4 (fun i e _ => ⟨(h1'.f6 h.b1 i e).1, (h1'.f6 h.b1 i e).2.1⟩)
  have hbn : bgN ds (n + 1) = ⟨cntB ds n, [cntB ds n], []⟩ :: bgN ds n := by
    show stepB (kdN ds n) (cntB ds n) (bgN ds n) = _
    obtain ⟨t, r, hb, _⟩ := hN.top
    rw [hk, hb, sb0]
  have hcn : cntB ds (n + 1) = cntB ds n + 1 := by
    show (if kdN ds n = 0 then _ else _) = _
    rw [if_pos hk]
  have hB := h3.spawn
  rw [← hbn, ← hcn] at hB
  refine ⟨by rw [h4], g1.b4, ⟨⟨_, _, _, gu', cu', gm', cm', gl', cl', vd, newR rt (cntB ds n), d, PM, g1, by have := h2.more; rw [h4] at this ⊢; exact this, hB, by rw [List.length_append, h4, hcn]; rfl, h1'.pl6 h.b1 g4 (h5.more hk2), h6.other hN.bin hN.ne (fun e => by omega) ⟨by omega, by omega⟩, h7.up ⟨by omega, by omega⟩⟩, h.kp.trans (Fp.low hfp) (fun i e _ => e), h.b1, h.b2, Nat.le_trans h.b3 hfp.size⟩, hfp⟩
theorem SpM.app {ga ca q : Nat} (h : SpM w0 w base S mb dv ds n rc ga ca) (hN : Now ds n) (hk : kdN ds n = 0) (hq : q ≤ 4097) (hq2 : q = (actN ds n).length) : ∃ g c w1, (Builtin.append_ #[33, 33] 33 #[.slice (some ⟨ga, 0, none⟩) q ca, .slice (some ⟨w.heap.size, 0, none⟩) 1 1]).run Try.prog (w.alloc (.cells #[.int .i64 (cntB ds n : Nat)] 3)) = .ok (.slice (some ⟨g, 0, none⟩) (q + 1) c) w1 ∧ w1.cell? ⟨S, 4, none⟩ = some (.slice (some ⟨ga, 0, none⟩) q ca) ∧ w1.frozen? ⟨S, 4, none⟩ = false ∧
    SwS w0 (w1.setCell ⟨S, 4, none⟩ (.slice (some ⟨g, 0, none⟩) (q + 1) c)) base S mb dv ds (n + 1) (n + 1) rc ∧ Keeps (Fp w base) w (w1.setCell ⟨S, 4, none⟩ (.slice (some ⟨g, 0, none⟩) (q + 1) c)) := by
  obtain ⟨U, M, A, gu, cu, gm, cm, gl, cl, vd, rt, d, PM, h1, h2, h3, h4, h5, h6, h7⟩ := h.ex
  have kA := Keeps.alloc None w (.cells #[.int .i64 ((cntB ds n : Nat) : Int)] 3)
  have h1' := h1.more kA
  obtain ⟨g, c, w1, hr, x1, x2, hM, hk2⟩ := h1'.appAct (cntB ds n) (by have := h.b3; simp; omega) (by omega) (heap_alloc_new w _)
  rw [← hq2] at hr x1 hM hk2
  have hbn : bgN ds (n + 1) = ⟨cntB ds n, [cntB ds n], []⟩ :: bgN ds n := by
    show stepB (kdN ds n) (cntB ds n) (bgN ds n) = _
    obtain ⟨t, r, hb, _⟩ := hN.top
    rw [hk, hb, sb0]
  have hact : actN ds n ++ [cntB ds n] = actN ds (n + 1) := by rw [act_top hbn]; rfl
  rw [hact] at hM
  have hk' := hk2.mono (T := F6 S gu gl gm ga vd) (fun i e _ => by rcases e with e | e; exact .inr (.inr (.inr (.inr (.inl e)))); exact .inl e)
  have hfp : Keeps (Fp w base) w (w1.setCell ⟨S, 4, none⟩ (.slice (some ⟨g, 0, none⟩) (q + 1) c)) := Fp.trans (kA.mono (fun _ f _ => f.elim)) hk' (fun i e _ => ⟨(h1'.f6 h.b1 i e).1, (h1'.f6 h.b1 i e).2.1⟩)
  exact ⟨g, c, w1, hr, x1, x2, ⟨⟨U, M, A, gu, cu, gm, cm, gl, cl, g, c, vd, rt, d, PM, hM, h2, h3, h4, h1'.pl6 h.b1 hk' (h5.more kA), h6, h7⟩, h.kp.trans (Fp.low hfp) (fun i e _ => e), h.b1, h.b2, Nat.le_trans h.b3 hfp.size⟩, hfp⟩
end
end Go.Proofs.Ytolhojagbiaamaa
/-! The sweep: a read or a write; a place is set racy. -/
namespace Go.Proofs.Ytolhojagbiaamaa
set_option linter.unusedVariables false
set_option maxRecDepth 20000
set_option linter.unusedSimpArgs false
open Go.RowKit Go.HeapKit

open Classical in
/-- Does a deed have a race with an earlier one? -/
noncomputable def rcB (ds : List Dd) (n : Nat) : Bool := decide (∃ a, a < n ∧ RaceW ds a n)
theorem rcB_iff (ds : List Dd) (n : Nat) : rcB ds n = true ↔ ∃ a, a < n ∧ RaceW ds a n := by unfold rcB; simp
theorem fnd_none : ∀ (M : List (Int × Pl)) (k : Int) (i : Nat), fnd M k i = none ↔ k ∉ M.map Prod.fst
  | [], k, i => by simp [fnd]
  | (k', v) :: M, k, i => by
    unfold fnd
    by_cases e : k = k'
    · simp [e]
    · rw [if_neg e, fnd_none M k (i + 1)]
      simp [e]
theorem put_keys (M : List (Int × Pl)) (k : Int) (v : Pl) : (k ∈ M.map Prod.fst ∧ (putP M k v).map Prod.fst = M.map Prod.fst) ∨ (k ∉ M.map Prod.fst ∧ (putP M k v).map Prod.fst = M.map Prod.fst ++ [k]) := by
  unfold putP
  cases hf : fnd M k 0 with
  | none => exact .inr ⟨(fnd_none M k 0).1 hf, by simp⟩
  | some p =>
    obtain ⟨i, v0⟩ := p
    obtain ⟨h1, h2, h3⟩ := fnd_le M k 0 i v0 hf
    simp at h2 h3
    refine .inl ⟨?_, ?_⟩
    · apply Classical.byContradiction
      intro hn
      rw [(fnd_none M k 0).2 hn] at hf
      cases hf
    · rw [List.map_set]
      apply List.ext_getElem?
      intro j
      rw [List.getElem?_set]
      split
      · rename_i e
        subst e
        have := List.getElem?_eq_some_iff.1 h3
        obtain ⟨q1, q2⟩ := this
        simp [h2, h3, q2]
      · rfl
theorem put_nd {M : List (Int × Pl)} (k : Int) (v : Pl) (h : (M.map Prod.fst).Nodup) : ((putP M k v).map Prod.fst).Nodup := by
  rcases put_keys M k v with ⟨_, e⟩ | ⟨hn, e⟩
  · rw [e]; exact h
  · rw [e, List.nodup_append]
    exact ⟨h, by simp, fun a ha b hb => by simp at hb; subst hb; exact fun e => hn (e ▸ ha)⟩
theorem put_len (M : List (Int × Pl)) (k : Int) (v : Pl) : (putP M k v).length ≤ M.length + 1 ∧ (k ∈ M.map Prod.fst → (putP M k v).length = M.length) := by
  have e0 : (putP M k v).length = ((putP M k v).map Prod.fst).length := by simp
  rcases put_keys M k v with ⟨hm, e⟩ | ⟨hn, e⟩
  · rw [e0, e]; simp
  · rw [e0, e]; exact ⟨by simp, fun h => (hn h).elim⟩
theorem put_mem (M : List (Int × Pl)) (k x : Int) (v : Pl) (h : x ∈ M.map Prod.fst ∨ x = k) : x ∈ (putP M k v).map Prod.fst := by
  rcases put_keys M k v with ⟨hm, e⟩ | ⟨hn, e⟩
  · rw [e]; rcases h with h | h; exact h; subst h; exact hm
  · rw [e]; rcases h with h | h; simp only [List.mem_append]; exact .inl h; subst h; simp
section
variable {w0 w w' : World} {base S mb : Nat} {dv : Value} {ds : List Dd} {n m : Nat} {rc : Int → Bool}
theorem SwS.touch (h : SwS w0 w base S mb dv ds n (n + 1) rc) (hN : Now ds n) (hn : n < 4096) (hk : kdN ds n = 3 ∨ kdN ds n = 4) : Calls Try.prog 56 #[.pointer (some ⟨S, 0, none⟩), .int .i64 (doer ds n : Nat), .agg #[.int .i64 (kdN ds n), .int .i64 (lcN ds n)]] w fun e w' => e = .returned (.bool (rcB ds n)) ∧ SwS w0 w' base S mb dv ds (n + 1) (n + 1) rc ∧ Keeps (Fp w base) w w' := by
  obtain ⟨U, M, A, gu, cu, gm, cm, gl, cl, ga, ca, vd, rt, d, PM, h1, h2, h3, h4, h5, h6, h7⟩ := h.ex
  obtain ⟨t, r, hb, hid, hdo⟩ := hN.top
  have hc := hN.cnt
  have hlt : ∀ L, (lookP PM L).w < cntB ds n ∧ (lookP PM L).r < cntB ds n := fun L => by
    constructor
    · rcases h6.wh L with e | ⟨a, a1, a2, a3, a4⟩
      · have := hN.bin.pos; omega
      · rw [← a4]; exact hN.bin.doers a a1
    · rcases h6.rh L with e | ⟨a, a1, a2, a3, a4⟩
      · have := hN.bin.pos; omega
      · rw [← a4]; exact hN.bin.doers a a1
  have hT : doer ds n < cntB ds n := by
    rw [hdo]
    have h3' := h3
    rw [hb] at h3'
    exact h3'.lt _ (mem_all_P (b := t) (by simp) hid)
  have hlate : ∀ x, x < cntB ds n → (M.getD (rt x) false = true ↔ Late (bgN ds n) x) := fun x hx => h3.r.late (hN.all x hx)
  have hboth : ∀ x, x < cntB ds n → bothT M rt x (doer ds n) = bothV (bgN ds n) x (doer ds n) := fun x hx => by
    unfold bothT bothV
    by_cases e : Late (bgN ds n) x
    · rw [if_pos ((hlate x hx).2 e), if_pos e]
    · rw [if_neg (fun e2 => e ((hlate x hx).1 e2)), if_neg e]
  have hrace : raceT M rt PM (kdN ds n) (lcN ds n) = rcB ds n := by
    rw [Bool.eq_iff_iff, rcB_iff]
    unfold raceT
    rcases hk with e | e
    · rw [if_neg (by omega), hlate _ (hlt _).1]
      exact race_read hN.inv hN.bin h6 hN.ne e
    · rw [if_pos e, Bool.or_eq_true, hlate _ (hlt _).1, hlate _ (hlt _).2]
      exact race_write hN.inv hN.bin h6 hN.ne e
  refine (touch_ok w base S gu cu gm cm gl cl ga ca (doer ds n) mb U (actN ds n) (dnN ds (n + 1)) M A vd dv rt d PM (kdN ds n) (lcN ds n) h1 h5 h2 (by omega) (by rw [h4]; exact (hlt _).1) (by rw [h4]; exact (hlt _).2) (by omega) hk h.b3 h.b2).mono ?_
  rintro e w' ⟨rfl, ⟨U', g1, g2, g3⟩, g4, g5⟩
  have hbn : bgN ds (n + 1) = bgN ds n := bg_same hk (by rw [hb]; simp)
  have hcn : cntB ds (n + 1) = cntB ds n := by
    show (if kdN ds n = 0 then _ else _) = _
    rw [if_neg (by omega)]
  have hact : actN ds (n + 1) = actN ds n := by unfold actN; rw [hbn]
  have hB := h3
  rw [← hbn, ← hcn] at hB
  have hpl : PlOk ds (putP PM (lcN ds n) (newP M rt PM (kdN ds n) (lcN ds n) (doer ds n))) (n + 1) rc := by
    refine ⟨put_nd _ _ h7.nd, by have := (put_len PM (lcN ds n) (newP M rt PM (kdN ds n) (lcN ds n) (doer ds n))).1; have := h7.len; omega, fun L => ?_, fun a ha hka => ?_⟩
    · rw [look_put]
      by_cases e : L = lcN ds n
      · rw [if_pos e, ← h7.rc L, e]
        unfold newP
        split <;> rfl
      · rw [if_neg e]; exact h7.rc L
    · apply put_mem
      by_cases e : a = n
      · subst e; exact .inr rfl
      · exact .inl (h7.tch a (by omega) hka)
  have hstd : Std ds (n + 1) (fun L => (lookP (putP PM (lcN ds n) (newP M rt PM (kdN ds n) (lcN ds n) (doer ds n))) L).w) (fun L => (lookP (putP PM (lcN ds n) (newP M rt PM (kdN ds n) (lcN ds n) (doer ds n))) L).r) := by
    rcases hk with e | e
    · have h8 := h6.read hN.bin hN.ne e
      have e1 : (fun L => (lookP (putP PM (lcN ds n) (newP M rt PM (kdN ds n) (lcN ds n) (doer ds n))) L).w) = fun L => (lookP PM L).w := by
        funext L
        rw [look_put]
        by_cases eL : L = lcN ds n
        · rw [if_pos eL, eL]; unfold newP; rw [if_neg (by omega)]
        · rw [if_neg eL]
      have e2 : (fun L => (lookP (putP PM (lcN ds n) (newP M rt PM (kdN ds n) (lcN ds n) (doer ds n))) L).r) = updZ (fun L => (lookP PM L).r) (lcN ds n) (bothV (bgN ds n) (lookP PM (lcN ds n)).r (doer ds n)) := by
        funext L
        rw [look_put]
        unfold updZ
        by_cases eL : L = lcN ds n
        · rw [if_pos eL, if_pos eL]; unfold newP; rw [if_neg (by omega)]; exact hboth _ (hlt _).2
        · rw [if_neg eL, if_neg eL]
      rw [e1, e2]
      exact h8
    · have h8 := h6.write hN.bin hN.ne e
      have e1 : (fun L => (lookP (putP PM (lcN ds n) (newP M rt PM (kdN ds n) (lcN ds n) (doer ds n))) L).r) = fun L => (lookP PM L).r := by
        funext L
        rw [look_put]
        by_cases eL : L = lcN ds n
        · rw [if_pos eL, eL]; unfold newP; rw [if_pos (by omega)]
        · rw [if_neg eL]
      have e2 : (fun L => (lookP (putP PM (lcN ds n) (newP M rt PM (kdN ds n) (lcN ds n) (doer ds n))) L).w) = updZ (fun L => (lookP PM L).w) (lcN ds n) (bothV (bgN ds n) (lookP PM (lcN ds n)).w (doer ds n)) := by
        funext L
        rw [look_put]
        unfold updZ
        by_cases eL : L = lcN ds n
        · rw [if_pos eL, if_pos eL]; unfold newP; rw [if_pos (by omega)]; exact hboth _ (hlt _).1
        · rw [if_neg eL, if_neg eL]
      rw [e1, e2]
      exact h8
  exact ⟨by rw [hrace], ⟨⟨U', M, A, gu, cu, gm, cm, gl, cl, ga, ca, vd, rt, d, _, by rw [hact]; exact g1, g2, hB, by rw [g3, h4, hcn], g4, hstd, hpl⟩, h.kp.trans (Fp.low g5) (fun i e _ => e), h.b1, h.b2, Nat.le_trans h.b3 g5.size⟩, g5⟩
end
end Go.Proofs.Ytolhojagbiaamaa
