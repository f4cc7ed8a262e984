import Derived.Test.YtolhojagbiaamaaRbNow
/-! The sweep in memory: what is appended; the state behind the first n deeds. -/
namespace Go.Proofs.Ytolhojagbiaamaa
set_option linter.unusedVariables false
set_option maxRecDepth 20000
set_option linter.unusedSimpArgs false
open Go.RowKit Go.HeapKit

section
variable {w w' : World} {base S : Nat} {U : List Nat} {M : List Bool} {A : List Int} {gu cu gm cm gl cl : Nat} {act : List Nat} {ga ca : Nat} {dn : List Nat} {vd dv mp : Value}
theorem SetM.putS (h : SetM w base S 1 U M A gu cu gm cm gl cl) (j : Nat) (hj : 4 ≤ j) (v : Value) : SetM (w.setCell ⟨S, j, none⟩ v) base S 1 U M A gu cu gm cm gl cl := by
  have hk : Keeps (· = S) w (w.setCell ⟨S, j, none⟩ v) := keeps_one (Keeps.refl _ _) _
  obtain ⟨m1, m2, m3, m4, m5⟩ := h.neS
  obtain ⟨c, t, b1, b2, b3⟩ := h.blk
  exact ⟨by rw [cell_setne (by omega)]; exact h.c0, by rw [cell_setne (by omega)]; exact h.c1, by rw [cell_setne (by omega)]; exact h.c2, h.ru.kept hk (fun g e => by simp [Value.ownBlock] at e; subst e; exact fun e => m1 e.symm), row_kept h.rm hk (fun g e => by simp [Value.ownBlock] at e; subst e; exact fun e => m2 e.symm), h.rl.kept hk (fun g e => by simp [Value.ownBlock] at e; subst e; exact fun e => m3 e.symm), h.lm, h.la, h.ne, c.setIfInBounds j _, t, blk_set b1 _, b2, b3⟩
theorem SwM.size4 (h : SwM w base S U M A gu cu gm cm gl cl act ga ca dn vd dv mp) {c : Array Value} {t : TypeId} {fz : Nat × Nat} (b1 : w.heap[S]? = some (.cells c t fz)) : 6 < c.size := by
  have := h.b6
  rw [blk_cell b1] at this
  exact (Array.getElem?_eq_some_iff.1 this).1
/-- One more deed's task. -/
theorem SwM.appD (h : SwM w base S U M A gu cu gm cm gl cl act ga ca dn vd dv mp) (x : Nat) (hb : base ≤ w.heap.size) (hlen : dn.length ≤ 5000) {g0 : Nat} (hg0 : w.heap[g0]? = some (.cells #[.int .i64 (x : Int)] 3 (0, 0))) :
    ∃ g c w', (Builtin.append_ #[33, 33] 33 #[vd, .slice (some ⟨g0, 0, none⟩) 1 1]).run Try.prog w = .ok (.slice (some ⟨g, 0, none⟩) (dn.length + 1) c) w' ∧ w'.cell? ⟨S, 5, none⟩ = some vd ∧ w'.frozen? ⟨S, 5, none⟩ = false ∧
      SwM (w'.setCell ⟨S, 5, none⟩ (.slice (some ⟨g, 0, none⟩) (dn.length + 1) c)) base S U M A gu cu gm cm gl cl act ga ca (dn ++ [x]) (.slice (some ⟨g, 0, none⟩) (dn.length + 1) c) dv mp ∧ Keeps (fun i => vd.ownBlock = some i ∨ i = S) w (w'.setCell ⟨S, 5, none⟩ (.slice (some ⟨g, 0, none⟩) (dn.length + 1) c)) := by
  obtain ⟨g, c, w1, hr, hR, hk, hm⟩ := intZ_more base vd (natZ dn) (x : Int) 33 w h.rd hb (by rw [natZ_lenB]; omega) hg0
  rw [natZ_lenB] at hr hR
  obtain ⟨e1, e2, e3, e4⟩ := h.neS
  obtain ⟨cc, t, b1, b2, b3⟩ := h.sets.blk
  have hlt := h.size4 b1
  have b1' := blk_kept b1 hk (fun e => e2 _ e rfl)
  have hk2 : Keeps (· = S) w1 (w1.setCell ⟨S, 5, none⟩ (.slice (some ⟨g, 0, none⟩) (dn.length + 1) c)) := keeps_one (Keeps.refl _ _) _
  have hcell : ∀ i, w1.cell? ⟨S, i, none⟩ = w.cell? ⟨S, i, none⟩ := fun i => by rw [blk_cell b1', blk_cell b1]
  have hgS : g ≠ S := by
    rcases hm with hm | ⟨hm, _⟩
    · exact fun e => e2 g hm e.symm
    · have := blk_lt b1; omega
  have off : ∀ k, vd.ownBlock ≠ some k → k < w.heap.size → g ≠ k := fun k h1 h2 e => by
    subst e
    rcases hm with hm | ⟨hm, _⟩
    · exact h1 hm
    · omega
  have l1 := own_lt h.sets.ru (g := gu) rfl
  have l2 := own_lt h.sets.rl (g := gl) rfl
  have l3 := own_lt h.ra (g := ga) rfl
  have hs1 : SetM w1 base S 1 U M A gu cu gm cm gl cl := h.sets.kept hk (fun e => e2 _ e rfl) h.n3 (fun e => e4 _ e rfl) h.n4
  refine ⟨g, c, w1, hr, by rw [hcell]; exact h.b5, blk_free b1' _, ⟨hs1.putS 5 (by omega) _, ?_, ?_, ?_, ?_, ?_, ?_, h.n1, h.n2, ?_, ?_, ?_⟩, (hk.mono (fun i e _ => .inl e)).trans hk2 (fun i e _ => .inr e)⟩
  · rw [cell_setne (by omega), hcell]; exact h.b0
  · rw [cell_setne (by omega), hcell]; exact h.b4
  · rw [blk_cell (blk_set b1' _)]; simp [show 5 < cc.size by omega]
  · rw [cell_setne (by omega), hcell]; exact h.b6
  · exact (h.ra.kept hk (fun b e e5 => by simp [Value.ownBlock] at e; subst e; exact h.n5 e5)).kept hk2 (fun b e e5 => by simp [Value.ownBlock] at e; subst e; exact e1 e5.symm)
  · have : RowZ w1 base (.slice (some ⟨g, 0, none⟩) (dn.length + 1) c) (natZ (dn ++ [x])) := by rw [← natZ_more]; exact hR
    exact this.kept hk2 (fun b e => by simp [Value.ownBlock] at e; subst e; exact hgS)
  · simp only [Value.ownBlock, ne_eq, Option.some.injEq]; exact off gu h.n3 l1
  · simp only [Value.ownBlock, ne_eq, Option.some.injEq]; exact off gl h.n4 l2
  · simp only [Value.ownBlock, ne_eq, Option.some.injEq]; exact off ga h.n5 l3
/-- One more task that has not returned. -/
theorem SwM.appAct (h : SwM w base S U M A gu cu gm cm gl cl act ga ca dn vd dv mp) (x : Nat) (hb : base ≤ w.heap.size) (hlen : act.length ≤ 5000) {g0 : Nat} (hg0 : w.heap[g0]? = some (.cells #[.int .i64 (x : Int)] 3 (0, 0))) :
    ∃ g c w', (Builtin.append_ #[33, 33] 33 #[.slice (some ⟨ga, 0, none⟩) act.length ca, .slice (some ⟨g0, 0, none⟩) 1 1]).run Try.prog w = .ok (.slice (some ⟨g, 0, none⟩) (act.length + 1) c) w' ∧ w'.cell? ⟨S, 4, none⟩ = some (.slice (some ⟨ga, 0, none⟩) act.length ca) ∧ w'.frozen? ⟨S, 4, none⟩ = false ∧
      SwM (w'.setCell ⟨S, 4, none⟩ (.slice (some ⟨g, 0, none⟩) (act.length + 1) c)) base S U M A gu cu gm cm gl cl (act ++ [x]) g c dn vd dv mp ∧ Keeps (fun i => i = ga ∨ i = S) w (w'.setCell ⟨S, 4, none⟩ (.slice (some ⟨g, 0, none⟩) (act.length + 1) c)) := by
  have hra := h.ra
  obtain ⟨g, c, w1, hr, hR, hk0, hm⟩ := intZ_more base (.slice (some ⟨ga, 0, none⟩) act.length ca) (natZ act) (x : Int) 33 w hra hb (by rw [natZ_lenB]; omega) hg0
  rw [natZ_lenB] at hr hR
  have hk : Keeps (· = ga) w w1 := hk0.mono (fun i e _ => by simp [Value.ownBlock] at e; exact e.symm)
  obtain ⟨e1, e2, e3, e4⟩ := h.neS
  obtain ⟨cc, t, b1, b2, b3⟩ := h.sets.blk
  have hlt := h.size4 b1
  have b1' := blk_kept b1 hk (fun e => e1 e)
  have hk2 : Keeps (· = S) w1 (w1.setCell ⟨S, 4, none⟩ (.slice (some ⟨g, 0, none⟩) (act.length + 1) c)) := keeps_one (Keeps.refl _ _) _
  have hcell : ∀ i, w1.cell? ⟨S, i, none⟩ = w.cell? ⟨S, i, none⟩ := fun i => by rw [blk_cell b1', blk_cell b1]
  have hm' : ga = g ∨ w.heap.size ≤ g := by
    rcases hm with hm | ⟨hm, _⟩
    · simp [Value.ownBlock] at hm; exact .inl hm
    · exact .inr hm
  have hgS : g ≠ S := by
    rcases hm' with hm | hm
    · exact fun e => e1 (by omega)
    · have := blk_lt b1; omega
  have off : ∀ k, ga ≠ k → k < w.heap.size → g ≠ k := fun k h1 h2 e => by
    subst e
    rcases hm' with hm | hm
    · exact h1 hm
    · omega
  have l1 := own_lt h.sets.ru (g := gu) rfl
  have l2 := own_lt h.sets.rl (g := gl) rfl
  have hs1 : SetM w1 base S 1 U M A gu cu gm cm gl cl := h.sets.kept hk e1 (fun e => h.n1 e.symm) (fun e => e3 e.symm) (fun e => h.n2 e.symm)
  refine ⟨g, c, w1, hr, by rw [hcell]; exact h.b4, blk_free b1' _, ⟨hs1.putS 4 (by omega) _, ?_, ?_, ?_, ?_, ?_, ?_, off gu h.n1 l1, off gl h.n2 l2, h.n3, h.n4, ?_⟩, (hk.mono (fun i e _ => .inl e)).trans hk2 (fun i e _ => .inr e)⟩
  · rw [cell_setne (by omega), hcell]; exact h.b0
  · rw [blk_cell (blk_set b1' _), List.length_append]; simp [show 4 < cc.size by omega]
  · rw [cell_setne (by omega), hcell]; exact h.b5
  · rw [cell_setne (by omega), hcell]; exact h.b6
  · have : RowZ w1 base (.slice (some ⟨g, 0, none⟩) (act ++ [x]).length c) (natZ (act ++ [x])) := by rw [← natZ_more, List.length_append]; exact hR
    exact this.kept hk2 (fun b e => by simp [Value.ownBlock] at e; subst e; exact hgS)
  · exact (h.rd.kept hk (fun b e e5 => by subst e5; exact h.n5 e)).kept hk2 (fun b e e5 => by subst e5; exact e2 _ e rfl)
  · intro e
    have hlt := own_lt h.rd e
    exact off g (fun e5 => by subst e5; exact h.n5 e) hlt rfl
end
/-- A task begins. -/
theorem sbegin_ok (w : World) (base S gu cu gm cm gl cl ga ca : Nat) (U act dn : List Nat) (M : List Bool) (A : List Int) (vd dv mp : Value) (h : SwM w base S U M A gu cu gm cm gl cl act ga ca dn vd dv mp) (hn : U.length ≤ 5000) (hb : base ≤ w.heap.size) (hbS : base ≤ S) :
    Calls Try.prog 53 #[.pointer (some ⟨S, 1, none⟩)] w fun e w' => e = .returned (.int .i64 (U.length : Nat)) ∧ (∃ gu cu gm cm gl cl, SwM w' base S (U ++ [U.length]) (M ++ [false]) (A ++ [-1]) gu cu gm cm gl cl act ga ca dn vd dv mp) ∧ Keeps (F6 S gu gl gm ga vd) w w' := by
  have hV := h.sets.toV
  refine (begin_ok w base S 1 (natZ U) A M _ _ _ hV (by rw [natZ_lenB]; exact h.sets.lm) (by rw [natZ_lenB]; exact h.sets.la) (by rw [natZ_lenB]; exact hn) hb hbS).mono ?_
  rintro e w' ⟨rfl, ⟨gu', cu', gm', cm', gl', cl', hV', hu, hl⟩, hk, hc⟩
  rw [natZ_lenB, natZ_more] at hV'
  obtain ⟨e1, e2, e3, e4⟩ := h.neS
  obtain ⟨m1, m2, m3, m4, m5⟩ := h.sets.neS
  have hFga : ¬ Fs S (.slice (some ⟨gu, 0, none⟩) U.length cu) (.slice (some ⟨gm, 0, none⟩) U.length cm) (.slice (some ⟨gl, 0, none⟩) U.length cl) ga := by
    rintro (e | e | e | e)
    · simp [Value.ownBlock] at e; exact h.n1 e.symm
    · simp [Value.ownBlock] at e; exact e3 e.symm
    · simp [Value.ownBlock] at e; exact h.n2 e.symm
    · exact e1 e.symm
  have hFvd : ∀ b, vd.ownBlock = some b → ¬ Fs S (.slice (some ⟨gu, 0, none⟩) U.length cu) (.slice (some ⟨gm, 0, none⟩) U.length cm) (.slice (some ⟨gl, 0, none⟩) U.length cl) b := by
    rintro b hb (e | e | e | e)
    · simp [Value.ownBlock] at e; subst e; exact h.n3 hb
    · simp [Value.ownBlock] at e; subst e; exact e4 _ hb rfl
    · simp [Value.ownBlock] at e; subst e; exact h.n4 hb
    · subst e; exact e2 _ hb rfl
  have hgu : gu = gu' ∨ w.heap.size ≤ gu' := by rcases hu with hu | hu; simp [Value.ownBlock] at hu; exact .inl hu; exact .inr hu
  have hgl : gl = gl' ∨ w.heap.size ≤ gl' := by rcases hl with hl | hl; simp [Value.ownBlock] at hl; exact .inl hl; exact .inr hl
  have l3 := own_lt h.ra (g := ga) rfl
  refine ⟨by rw [natZ_lenB], ⟨gu', cu', gm', cm', gl', cl', ?_⟩, hk.mono (fun i e _ => ?_)⟩
  rotate_left
  · rcases e with e | e | e | e
    · simp [Value.ownBlock] at e; exact .inr (.inl e.symm)
    · simp [Value.ownBlock] at e; exact .inr (.inr (.inr (.inl e.symm)))
    · simp [Value.ownBlock] at e; exact .inr (.inr (.inl e.symm))
    · exact .inl e
  have hS' : SetM w' base S 1 (U ++ [U.length]) (M ++ [false]) (A ++ [-1]) gu' cu' gm' cm' gl' cl' := by
    refine SetV.toM ?_ (by simp [h.sets.lm]) (by simp [h.sets.la])
    rw [List.length_append]
    exact hV'
  refine ⟨hS', ?_, ?_, ?_, ?_, h.ra.kept hk (fun b e => by simp [Value.ownBlock] at e; subst e; exact hFga), h.rd.kept hk (fun b e => hFvd b e), ?_, ?_, ?_, ?_, h.n5⟩
  · rw [hc 0 (by omega) (by omega) (by omega)]; exact h.b0
  · rw [hc 4 (by omega) (by omega) (by omega)]; exact h.b4
  · rw [hc 5 (by omega) (by omega) (by omega)]; exact h.b5
  · rw [hc 6 (by omega) (by omega) (by omega)]; exact h.b6
  · rcases hgu with e | e
    · rw [← e]; exact h.n1
    · omega
  · rcases hgl with e | e
    · rw [← e]; exact h.n2
    · omega
  · rcases hgu with e | e
    · rw [← e]; exact h.n3
    · intro e5; have := own_lt h.rd e5; omega
  · rcases hgl with e | e
    · rw [← e]; exact h.n4
    · intro e5; have := own_lt h.rd e5; omega
/-- The map of the places: no place twice, no more than have been touched; which are racy. -/
structure PlOk (ds : List Dd) (PM : List (Int × Pl)) (n : Nat) (rc : Int → Bool) : Prop where
  nd : (PM.map Prod.fst).Nodup
  len : PM.length ≤ n
  rc : ∀ L, (lookP PM L).racy = rc L
  tch : ∀ a, a < n → (kdN ds a = 3 ∨ kdN ds a = 4) → lcN ds a ∈ PM.map Prod.fst
/-- The sweep behind the first n deeds; of m deeds it is told whose they are. -/
structure SwS (w0 w : World) (base S mb : Nat) (dv : Value) (ds : List Dd) (n m : Nat) (rc : Int → Bool) : Prop where
  ex : ∃ (U : List Nat) (M : List Bool) (A : List Int) (gu cu gm cm gl cl ga ca : Nat) (vd : Value) (rt d : Nat → Nat) (PM : List (Int × Pl)), SwM w base S U M A gu cu gm cm gl cl (actN ds n) ga ca (dnN ds m) vd dv (.map (some mb)) ∧ Fo U rt d ∧ BagI (bgN ds n) rt M A (cntB ds n) ∧ U.length = cntB ds n ∧ IsPl w mb PM ∧ Std ds n (fun L => (lookP PM L).w) (fun L => (lookP PM L).r) ∧ PlOk ds PM n rc
  kp : Keeps (fun i => base ≤ i) w0 w
  b1 : base ≤ S
  b2 : base ≤ mb
  b3 : base ≤ w.heap.size
theorem SwS.more {w0 w w' : World} {base S mb : Nat} {dv : Value} {ds : List Dd} {n m : Nat} {rc : Int → Bool} (h : SwS w0 w base S mb dv ds n m rc) (hk : Keeps None w w') : SwS w0 w' base S mb dv ds n m rc := by
  obtain ⟨U, M, A, gu, cu, gm, cm, gl, cl, ga, ca, vd, rt, d, PM, h1, h2, h3, h4, h5, h6, h7⟩ := h.ex
  exact ⟨⟨U, M, A, gu, cu, gm, cm, gl, cl, ga, ca, vd, rt, d, PM, h1.more hk, h2, h3, h4, h5.more hk, h6, h7⟩, h.kp.trans hk (fun _ f _ => f.elim), h.b1, h.b2, Nat.le_trans h.b3 hk.size⟩
end Go.Proofs.Ytolhojagbiaamaa
