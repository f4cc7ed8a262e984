import Derived.Test.YtnhoedodnbifdaaDgHeap2
/-! The heap in a plan: in; the nodes of one time. -/
namespace Go.Proofs.Ytnhoedodnbifdaa
set_option linter.unusedVariables false
set_option maxRecDepth 20000
open Go.RowKit Go.HeapKit

theorem half_up {i : Nat} (h : 0 < i) : (((i : Int) - 1).tdiv 2) = (((i - 1) / 2 : Nat) : Int) := by
  rw [Int.tdiv_eq_ediv_of_nonneg (by omega)]
  omega
theorem less_t (a b : Int) (w : World) (h : a < b) : Calls Try.prog 60 #[.int .i64 a, .int .i64 b] w fun e w' => e = .returned (.bool true) ∧ w' = w := by
  have := less_any a b w
  rw [decide_eq_true h] at this
  exact this
theorem less_f (a b : Int) (w : World) (h : ¬ a < b) : Calls Try.prog 60 #[.int .i64 a, .int .i64 b] w fun e w' => e = .returned (.bool false) ∧ w' = w := by
  have := less_any a b w
  rw [decide_eq_false h] at this
  exact this
set_option maxHeartbeats 3200000 in
theorem push_any (p base : Nat) (L Lf Tm v : Value) (hl : List Int) (x : Int) (w : World) (h : HpIn w p base L Lf Tm v hl) (hh : Hp hl) (hb : base ≤ w.heap.size) (hn : hl.length + 1 ≤ 4096) :
    Calls Try.prog 61 #[.pointer (some ⟨p, 2, none⟩), .int .i64 x] w fun e w' => ∃ v' hl', e = .returned (.tuple #[]) ∧ HpIn w' p base L Lf Tm v' hl' ∧ Hp hl' ∧ hl'.Perm (hl ++ [x]) ∧ Keeps (fun q => q = p ∨ v.ownBlock = some q) w w' ∧ (v'.ownBlock = v.ownBlock ∨ ∃ q, v'.ownBlock = some q ∧ w.heap.size ≤ q) := by
  obtain ⟨a, c, rfl⟩ := row_shape h.row
  have c2 := h.c2
  obtain ⟨n, hnn⟩ : ∃ n, n = hl.length := ⟨_, rfl⟩
  have hrow := h.row
  rw [← hnn] at c2 hrow
  have hk1 := Keeps.alloc None w (.cells #[.int .i64 x] 3)
  obtain ⟨g, cap, w2, hr, ho, hk2, hm⟩ := int_more base (.slice a n c) hl x n 25 w.heap.size (w.alloc (.cells #[.int .i64 x] 3)) hnn (row_kept hrow hk1 (fun _ _ f => f)) (by simp; omega) (by omega) (blk_new _ _ _ rfl)
  have hnp : ¬ (Value.slice a n c).ownBlock = some p := by rw [hnn]; exact h.np
  have hb2 := blk_kept (blk_kept h.blk hk1 (fun f => f)) hk2 hnp
  have hgp : g ≠ p := by
    intro e
    exact absurd (own_type ho (g := p) (by simp [Value.ownBlock, e]) hb2) (by decide)
  have hkS : Keeps (· = p) w2 (w2.setCell ⟨p, 2, none⟩ (.slice (some ⟨g, 0, none⟩) (n + 1) cap)) := Keeps.setCell (S := (· = p)) w2 rfl _
  have HN : Hid (HpIn (w2.setCell ⟨p, 2, none⟩ (.slice (some ⟨g, 0, none⟩) (n + 1) cap)) p base L Lf Tm (.slice (some ⟨g, 0, none⟩) (n + 1) cap) (hl ++ [x]) ∧ Up (hl ++ [x]) n ∧
      Keeps (fun q => q = p ∨ (Value.slice a n c).ownBlock = some q) w (w2.setCell ⟨p, 2, none⟩ (.slice (some ⟨g, 0, none⟩) (n + 1) cap)) ∧ ((Value.slice a n c).ownBlock = some g ∨ w.heap.size ≤ g) ∧ n = hl.length) := by
    refine ⟨⟨?_, ?_⟩, by rw [hnn]; exact Up.start hh x, ((((hk1.mono (T := fun q => (Value.slice a n c).ownBlock = some q) (fun _ f _ => f.elim)).trans hk2 (fun i e _ => e)).mono (fun i e _ => .inr e)).trans hkS (fun i e _ => .inl e)), ?_, hnn⟩
    · rw [blk_set hb2]; rfl
    · rw [show (hl ++ [x]).length = n + 1 by simp; omega]
      exact row_kept ho hkS (fun q e e2 => by subst e2; simp [Value.ownBlock] at e; exact hgp e)
    · rcases hm with hm | hm
      · exact .inl hm
      · right; simp at hm; omega
  have d2 : w2.cell? ⟨p, 2, none⟩ = some (.slice a n c) := by rw [blk_cell hb2, ← hnn]; rfl
  have f2 := blk_free hb2 2
  rw [← hnn] at hn ⊢
  clear h hh hb hrow hk1 ho hk2 hm hnp hb2 hgp hkS hnn
  go_enter Try.func61, Try.ntmps61
  go_wp2_with (at_builtin; refine wpList_append_run rfl (.tmp 10) (.tmp 12) 25 25 rfl rfl rfl hr ?_)
  obtain ⟨W, hW⟩ : ∃ W, W = w2.setCell ⟨p, 2, none⟩ (.slice (some ⟨g, 0, none⟩) (n + 1) cap) := ⟨_, rfl⟩
  rw [← hW] at HN ⊢
  clear hW hr d2 f2 c2
  go_loopw [4, 5] (fun s4 _ wr => ∃ (i : Nat) (hl' : List Int), s4 = .int .i64 i ∧ i ≤ n ∧ HpIn wr p base L Lf Tm (.slice (some ⟨g, 0, none⟩) (n + 1) cap) hl' ∧ Up hl' i ∧ hl'.Perm (hl ++ [x]) ∧ Keeps (fun q => q = g) W wr) (fun s4 _ _ => (intOf s4).toNat)
  case atStart => exact ⟨n, _, rfl, Nat.le_refl _, HN.out.1, HN.out.2.1, List.Perm.refl _, Keeps.refl _ _⟩
  case round =>
    obtain ⟨i, hl', rfl, hi, hI, hU, hP, hk⟩ := hrel
    have HI : Hid (HpIn wr p base L Lf Tm (.slice (some ⟨g, 0, none⟩) (n + 1) cap) hl' ∧ Up hl' i ∧ hl'.Perm (hl ++ [x]) ∧ Keeps (fun q => q = g) W wr ∧ hl'.length = n + 1) :=
      ⟨hI, hU, hP, hk, by rw [hP.length_eq]; simp; have := HN.out.2.2.2.2; omega⟩
    clear hI hU hP hk
    have hfin : ∀ wz hz, HpIn wz p base L Lf Tm (.slice (some ⟨g, 0, none⟩) (n + 1) cap) hz → Hp hz → hz.Perm (hl ++ [x]) → Keeps (fun q => q = g) W wz →
        ∃ v' hl', HpIn wz p base L Lf Tm v' hl' ∧ Hp hl' ∧ hl'.Perm (hl ++ [x]) ∧ Keeps (fun q => q = p ∨ (Value.slice a n c).ownBlock = some q) w wz ∧ (v'.ownBlock = (Value.slice a n c).ownBlock ∨ ∃ q, v'.ownBlock = some q ∧ w.heap.size ≤ q) := by
      intro wz hz h1 h2 h3 h4
      refine ⟨_, hz, h1, h2, h3, HN.out.2.2.1.trans h4 (fun q e hq => ?_), ?_⟩
      · subst e
        rcases HN.out.2.2.2.1 with e | e
        · exact .inr e
        · omega
      · rcases HN.out.2.2.2.1 with e | e
        · exact .inl (by rw [e]; rfl)
        · exact .inr ⟨g, rfl, e⟩
    have HF : Hid (∀ wz hz, HpIn wz p base L Lf Tm (.slice (some ⟨g, 0, none⟩) (n + 1) cap) hz → Hp hz → hz.Perm (hl ++ [x]) → Keeps (fun q => q = g) W wz →
        ∃ v' hl', HpIn wz p base L Lf Tm v' hl' ∧ Hp hl' ∧ hl'.Perm (hl ++ [x]) ∧ Keeps (fun q => q = p ∨ (Value.slice a n c).ownBlock = some q) w wz ∧ (v'.ownBlock = (Value.slice a n c).ownBlock ∨ ∃ q, v'.ownBlock = some q ∧ w.heap.size ≤ q)) := hfin
    clear hfin
    by_cases h0 : i = 0
    · subst h0
      go_wp2_with fail
      go_end0
      obtain ⟨v', hz, h1⟩ := HF.out _ _ HI.out.1 (HI.out.2.1.done (.inl rfl)) HI.out.2.2.1 HI.out.2.2.2.1
      exact ⟨v', hz, rfl, h1⟩
    · have z0 : (0 : Int) < (i : Int) := by omega
      have z1 : 0 < i := by omega
      have hlen := HI.out.2.2.2.2
      obtain ⟨j, hj⟩ : ∃ j, j = (i - 1) / 2 := ⟨_, rfl⟩
      have hji : j < i := by omega
      have hq : ((i : Int) - 1).tdiv 2 = (j : Int) := by rw [half_up z1, hj]
      have HJ : Hid (j = (i - 1) / 2) := hj
      obtain ⟨g1, e1, x1, _⟩ := row_at (by have := HI.out.1.row; rw [hlen] at this; exact this) (at_get (l := hl') (i := i) (by omega))
      obtain ⟨g2, e2, x2, _⟩ := row_at (by have := HI.out.1.row; rw [hlen] at this; exact this) (at_get (l := hl') (i := j) (by omega))
      injection e1 with e1
      injection e1 with e1
      injection e2 with e2
      injection e2 with e2
      rw [← e1] at x1
      rw [← e2] at x2
      have c2 := HI.out.1.c2
      have c3 := HI.out.1.c3
      unfold lessV at c3
      obtain ⟨u, hu⟩ : ∃ u, u = at' hl' i := ⟨_, rfl⟩
      obtain ⟨u', hu'⟩ : ∃ u', u' = at' hl' j := ⟨_, rfl⟩
      have HU : Hid (u = at' hl' i ∧ u' = at' hl' j) := ⟨hu, hu'⟩
      rw [← hu] at x1
      rw [← hu'] at x2
      have i2 : (i : Int) < ((n + 1 : Nat) : Int) := by omega
      have i3 : (j : Int) < ((n + 1 : Nat) : Int) := by omega
      have i4 : ¬ n + 1 = 0 := by omega
      have i5 : (i : Int) < (n : Int) + 1 := by omega
      have i6 : (j : Int) < (n : Int) + 1 := by omega
      clear e1 e2 hu hu' hj h0 hlen
      by_cases hlt : u < u'
      · go_upto_region 4 with fail
        go_region_held3 (fun w' => w'.cell? ⟨p, 2, none⟩ = some (.slice (some ⟨g, 0, none⟩) (n + 1) cap) ∧ w'.cell? ⟨p, 3, none⟩ = some (.func (.func 60) #[] #[]) ∧ w'.cell? ⟨g, i, none⟩ = some (.int .i64 u) ∧ w'.cell? ⟨g, j, none⟩ = some (.int .i64 u')) (go_keep) (first
          | (go_at_call 60; refine (less_t _ _ _ hlt).mono ?_; rintro _ w4 ⟨rfl, hw⟩; have hw2 := hw.symm; subst hw2; clear hw))
        all_goals go_wp2_with fail
        have hlen := HI.out.2.2.2.2
        refine (swap_any p base L Lf Tm _ hl' i j _ (HI.out.1.more (Keeps.drew None _)) (by omega) (by omega) (by omega)).mono ?_
        rintro _ w4 ⟨rfl, hI4, hk4⟩
        have HN2 : Hid (HpIn w4 p base L Lf Tm (.slice (some ⟨g, 0, none⟩) (n + 1) cap) (sw hl' i j) ∧ Up (sw hl' i j) j ∧ (sw hl' i j).Perm (hl ++ [x]) ∧ Keeps (fun q => q = g) W w4) := by
          refine ⟨hI4, ?_, (sw_perm hl' i j (by omega) (by omega)).trans HI.out.2.2.1, (HI.out.2.2.2.1.andDrew).trans hk4 (fun q e _ => by simpa [Value.ownBlock] using e.symm)⟩
          have := HI.out.2.1.step z1 (by rw [← HJ.out, ← HU.out.1, ← HU.out.2]; exact hlt)
          rw [← HJ.out] at this
          exact this
        clear hI4 hk4
        go_wp2_with fail
        exact ⟨⟨j, _, rfl, by omega, HN2.out⟩, by simp [intOf]; omega⟩
      · go_upto_region 4 with fail
        go_region_held3 (fun w' => w'.cell? ⟨p, 2, none⟩ = some (.slice (some ⟨g, 0, none⟩) (n + 1) cap) ∧ w'.cell? ⟨p, 3, none⟩ = some (.func (.func 60) #[] #[]) ∧ w'.cell? ⟨g, i, none⟩ = some (.int .i64 u) ∧ w'.cell? ⟨g, j, none⟩ = some (.int .i64 u')) (go_keep) (first
          | (go_at_call 60; refine (less_f _ _ _ (by omega)).mono ?_; rintro _ w4 ⟨rfl, hw⟩; have hw2 := hw.symm; subst hw2; clear hw))
        all_goals go_wp2_with fail
        refine bodyPost_ret (results_none rfl _ _ _) rfl ?_
        obtain ⟨v', hz, h1⟩ := HF.out _ _ (HI.out.1.more (Keeps.drew None _)) (HI.out.2.1.done (.inr (by rw [← HJ.out, ← HU.out.1, ← HU.out.2]; omega))) HI.out.2.2.1 HI.out.2.2.2.1.andDrew
        exact ⟨v', hz, rfl, h1⟩
end Go.Proofs.Ytnhoedodnbifdaa
