import Derived.Test.YtdiabpoafennlaaHyTold
/-! The walk of HyperPicks. -/
namespace Go.Proofs.Ytdiabpoafennlaa
set_option linter.unusedVariables false
set_option maxRecDepth 20000
set_option linter.unusedSimpArgs false
open Go.RowKit Go.HeapKit

theorem refE_pk {l : List Dd} {st : List Bool} {pk pk2 : List Int} (h2 : pk2.length ≤ 1048576) : (refE l st pk = 0 → refE l st pk2 = 0) ∧ (refE l st pk ≠ 0 → pk.length ≤ 1048576 → refE l st pk2 ≠ 0) := by
  unfold refE
  constructor
  · intro h
    split at h
    · omega
    · rw [if_neg (by omega)]; exact h
  · intro h h3
    split at h
    · rw [if_pos (by omega)]; omega
    · rw [if_neg (by omega)]; exact h
theorem fin_looks (l : List Dd) (st : List Bool) (pk pk2 : List Int) : (finPS l st pk2).lk = (finPS l st pk).lk := looks_same st (l.map dp) pk pk2
theorem fin_made {l : List Dd} (h : chkL l 0 0 = none) (st : List Bool) (pk pk2 : List Int) : (finPS l st pk2).vs.length = (finPS l st pk).vs.length := by
  show (endMS listK st (l.map dp) pk2).vs.length = (endMS listK st (l.map dp) pk).vs.length
  rw [made_all _ _ _ _ (kinds_of h), made_all _ _ _ _ (kinds_of h)]
/-- Looks are no longer than what is put. -/
theorem look_le (st : List Bool) : ∀ (ds : List (Int × Int)) (n : Nat) (P : List Int) (s : HS (List Int)) (N : Nat), HInv P s → (P ++ putsL ds).length ≤ N → (∀ x ∈ s.lk, x.length ≤ N) → ∀ x ∈ (s.run listK st ds n).lk, x.length ≤ N := by
  intro ds
  induction ds with
  | nil => intro n P s N _ _ h; exact h
  | cons d ds ih =>
    intro n P s N hs hN h
    rw [putsL_cons, ← List.append_assoc] at hN
    refine ih (n + 1) _ _ N (hinv_deed st n d.1 d.2 hs) hN ?_
    have hne := hs.lk.ne
    have hin : s.hand ∈ preL s.ini ++ s.m.row := List.mem_append_right _ (hand_in hne)
    obtain ⟨A, B, hAB⟩ := List.append_of_mem hin
    have hc := hs.line.cat
    rw [hAB, catL_app, catL_cons] at hc
    have hl := congrArg List.length hc
    simp only [List.length_append] at hl hN
    unfold HS.deed
    split
    · exact h
    · split
      · intro x hx
        have hx2 : x ∈ s.lk ++ [s.m.vs.getD s.hand []] := hx
        rcases List.mem_append.1 hx2 with hx2 | hx2
        · exact h x hx2
        · simp only [List.mem_singleton] at hx2
          subst hx2
          omega
      · split
        · exact h
        · split
          · exact h
          · unfold HS.back
            split
            · exact h
            · split <;> exact h
theorem fin_look_le {l : List Dd} (hl : l.length ≤ 4096) (st : List Bool) (pk : List Int) : ∀ x ∈ (finPS l st pk).lk, x.length ≤ 5000 := by
  refine look_le st (l.map dp) 0 [] _ 5000 (hinv_start pk) ?_ (by intro x hx; simp [HS.start] at hx)
  rw [List.nil_append, putsD_eq]
  have := putsD_len l
  omega
theorem fin_look_n {l : List Dd} (h : chkL l 0 0 = none) (hl : l.length ≤ 4096) (st : List Bool) (pk : List Int) : (finPS l st pk).lk.length ≤ 5000 := by
  have : ∀ (ds : List (Int × Int)) (n : Nat) (s : HS (List Int)), (s.run listK st ds n).lk.length ≤ s.lk.length + ds.length := by
    intro ds
    induction ds with
    | nil => intro n s; exact Nat.le_refl _
    | cons d ds ih =>
      intro n s
      refine Nat.le_trans (ih (n + 1) _) ?_
      have hd : (s.deed listK st n d.1 d.2).lk.length ≤ s.lk.length + 1 := by
        unfold HS.deed
        split
        · exact Nat.le_succ _
        · split
          · show (s.lk ++ [_]).length ≤ _; simp
          · split
            · exact Nat.le_succ _
            · split
              · exact Nat.le_succ _
              · unfold HS.back
                split
                · exact Nat.le_succ _
                · split <;> exact Nat.le_succ _
      simp only [List.length_cons]
      omega
  have h2 := this (l.map dp) 0 (HS.start listK pk)
  have h3 : (finPS l st pk).lk.length ≤ 0 + (l.map dp).length := h2
  rw [List.length_map] at h3
  omega
set_option maxHeartbeats 6400000 in
theorem hyperPicks_walk (a0 a1 a2 a3 : Option Addr) (n0 c0 n1 c1 n2 c2 n3 c3 : Nat) (l : List Dd) (st : List Bool) (pk pk2 : List Int) (w : World) (h0 : Seen w a0 n0 l) (h1 : SeenV w a1 n1 (bv' st)) (h2 : SeenV w a2 n2 (iv pk)) (hc : n2 ≤ c2) (h3 : SeenV w a3 n3 (iv pk2)) (hc3 : n3 ≤ c3) :
    Calls Try.prog 6 #[.agg #[.slice a0 n0 c0, .slice a1 n1 c1, .slice a2 n2 c2], .slice a3 n3 c3] w fun e w' => e = .returned (.bool true) ∧ Below w.heap.size w w' := by
  have HS : Hid (Seen w a0 n0 l ∧ SeenV w a1 n1 (bv' st) ∧ SeenV w a2 n2 (iv pk) ∧ n2 ≤ c2 ∧ SeenV w a3 n3 (iv pk2) ∧ n3 ≤ c3) := ⟨h0, h1, h2, hc, h3, hc3⟩
  have HL : Hid (n0 = l.length ∧ n1 = st.length ∧ n2 = pk.length ∧ n3 = pk2.length) := ⟨h0.len, by have := h1.len; rwa [bv_len] at this, by have := h2.len; rwa [iv_len] at this, by have := h3.len; rwa [iv_len] at this⟩
  clear h0 h1 h2 hc h3 hc3
  obtain ⟨p0, hp0⟩ : ∃ p0, p0 = w.heap.size := ⟨_, rfl⟩
  have hb0 := blk_new w (.cells #[.slice a0 n0 c0, .slice a1 n1 c1, .slice a2 n2 c2] 26) p0 hp0.symm
  have hkb := (Keeps.alloc None w (.cells #[.slice a0 n0 c0, .slice a1 n1 c1, .slice a2 n2 c2] 26))
  go_enter Try.func6, Try.ntmps6
  go_upto_region 1 with fail
  rw [← hp0]
  clear hp0
  generalize (w.alloc (.cells #[.slice a0 n0 c0, .slice a1 n1 c1, .slice a2 n2 c2] 26)) = wb at *
  have HY : Hid (∀ wx, Keeps None w wx → Seen wx a0 n0 l ∧ SeenV wx a1 n1 (bv' st) ∧ SeenV wx a2 n2 (iv pk) ∧ SeenV wx a3 n3 (iv pk2)) := fun wx hx => ⟨HS.out.1.more hx, HS.out.2.1.more hx, HS.out.2.2.1.more hx, HS.out.2.2.2.2.1.more hx⟩
  have HB : Hid (wb.heap[p0]? = some (.cells #[.slice a0 n0 c0, .slice a1 n1 c1, .slice a2 n2 c2] 26 (0, 0)) ∧ Keeps None w wb) := ⟨hb0, hkb⟩
  have y0 : wb.cell? ⟨p0, 0, none⟩ = some (.slice a0 n0 c0) := blk_cell hb0 0
  have y1 : wb.cell? ⟨p0, 1, none⟩ = some (.slice a1 n1 c1) := blk_cell hb0 1
  have y2 : wb.cell? ⟨p0, 2, none⟩ = some (.slice a2 n2 c2) := blk_cell hb0 2
  clear hb0 hkb
  go_wp2_with fail
  refine (Play_told a0 n0 c0 l a1 n1 c1 st a2 n2 c2 pk wb (HY.out wb HB.out.2).1 (HY.out wb HB.out.2).2.1 (HY.out wb HB.out.2).2.2.1 HS.out.2.2.2.1).mono ?_
  rintro e w1 ⟨fa, fc, ma, mc, la, lc, rfl, hf1, hl1, -, hk1⟩
  clear y0 y1 y2
  obtain ⟨E, hE⟩ : ∃ E, E = refE l st pk := ⟨_, rfl⟩
  obtain ⟨F, hF⟩ : ∃ F, F = finT l st pk := ⟨_, rfl⟩
  obtain ⟨M, hM⟩ : ∃ M, M = madeT l st pk := ⟨_, rfl⟩
  obtain ⟨G, hG⟩ : ∃ G, G = (mgT l st pk).length := ⟨_, rfl⟩
  obtain ⟨L, hL⟩ : ∃ L, L = lkT l st pk := ⟨_, rfl⟩
  rw [← hF] at hf1
  rw [← hL] at hl1
  rw [← hE, ← hF, ← hM, ← hG, ← hL]
  have hbv := blk_new w1 (.cells #[.slice fa F.length fc, .int .i64 M, .slice ma G mc, .slice la L.length lc] 39) w1.heap.size rfl
  have hkv := Keeps.alloc None w1 (.cells #[.slice fa F.length fc, .int .i64 M, .slice ma G mc, .slice la L.length lc] 39)
  obtain ⟨p1, hp1⟩ : ∃ p1, p1 = w1.heap.size := ⟨_, rfl⟩
  have HN : Hid (E = refE l st pk ∧ F = finT l st pk ∧ M = madeT l st pk ∧ L = lkT l st pk) := ⟨hE, hF, hM, hL⟩
  have hkw := HB.out.2.trans hk1 (fun _ f _ => f)
  have hb1 := blk_kept HB.out.1 hk1 (fun f => f)
  clear hE hF hM hG hL
  go_upto_region 2 with fail
  rw [← hp1] at hbv ⊢
  clear hp1
  generalize (w1.alloc (.cells #[.slice fa F.length fc, .int .i64 M, .slice ma G mc, .slice la L.length lc] 39)) = w2 at *
  have HW : Hid (Keeps None w w2 ∧ w2.heap[p0]? = some (.cells #[.slice a0 n0 c0, .slice a1 n1 c1, .slice a2 n2 c2] 26 (0, 0)) ∧ w2.heap[p1]? = some (.cells #[.slice fa F.length fc, .int .i64 M, .slice ma G mc, .slice la L.length lc] 39 (0, 0)) ∧ SeenV w2 fa F.length (iv F) ∧ SeenL w2 la L.length L) := ⟨hkw.trans hkv (fun _ f _ => f), blk_kept hb1 hkv (fun f => f), hbv, hf1.more hkv, hl1.more hkv⟩
  have y0 : w2.cell? ⟨p0, 0, none⟩ = some (.slice a0 n0 c0) := blk_cell HW.out.2.1 0
  have y1 : w2.cell? ⟨p0, 1, none⟩ = some (.slice a1 n1 c1) := blk_cell HW.out.2.1 1
  have y2 : w2.cell? ⟨p0, 2, none⟩ = some (.slice a2 n2 c2) := blk_cell HW.out.2.1 2
  clear hkv hbv hf1 hl1 hkw hb1 hk1
  by_cases h3 : 1048576 < n3
  · have i3 : (1048576 : Int) < (n3 : Int) := by omega
    go_wp2_with fail
    refine (right_ok a0 a1 a2 n0 c0 n1 c1 n2 c2 l st pk w2 (HY.out w2 HW.out.1).1 HL.out.2.1 HL.out.2.2.1).mono ?_
    rintro e w3 ⟨rfl, hk3⟩
    have HE : Hid (Below w.heap.size w w3) := (HW.out.1.trans hk3 (fun _ f _ => f)).below _ (Nat.le_refl _) (fun _ f => f.elim)
    have hR := right_iff (l := l) (st := st) (pk := pk)
    rw [← HN.out.1] at hR
    clear hk3 y0 y1 y2
    by_cases hE : E = 0
    · rw [hR.1 hE]
      subst hE
      clear hR
      go_wp2
      go_ret
      exact ⟨rfl, HE.out⟩
    · rw [hR.2 hE]
      have hE2 : (E == 0) = false := by simp [hE]
      clear hR
      go_wp2
      go_ret
      exact ⟨rfl, HE.out⟩
  · have i3 : ¬ (1048576 : Int) < (n3 : Int) := by omega
    go_wp2_with fail
    refine (Play_told a0 n0 c0 l a1 n1 c1 st a3 n3 c3 pk2 w2 (HY.out w2 HW.out.1).1 (HY.out w2 HW.out.1).2.1 (HY.out w2 HW.out.1).2.2.2 HS.out.2.2.2.2.2).mono ?_
    rintro e w3 ⟨ga, gc, ma2, mc2, ka, kc, rfl, hf3, hl3, -, hk3⟩
    obtain ⟨E2, hE⟩ : ∃ E, E = refE l st pk2 := ⟨_, rfl⟩
    obtain ⟨F2, hF⟩ : ∃ F, F = finT l st pk2 := ⟨_, rfl⟩
    obtain ⟨M2, hM⟩ : ∃ M, M = madeT l st pk2 := ⟨_, rfl⟩
    obtain ⟨G2, hG⟩ : ∃ G, G = (mgT l st pk2).length := ⟨_, rfl⟩
    obtain ⟨L2, hL⟩ : ∃ L, L = lkT l st pk2 := ⟨_, rfl⟩
    rw [← hF] at hf3
    rw [← hL] at hl3
    rw [← hE, ← hF, ← hM, ← hG, ← hL]
    have hbv := blk_new w3 (.cells #[.slice ga F2.length gc, .int .i64 M2, .slice ma2 G2 mc2, .slice ka L2.length kc] 39) w3.heap.size rfl
    have hkv := Keeps.alloc None w3 (.cells #[.slice ga F2.length gc, .int .i64 M2, .slice ma2 G2 mc2, .slice ka L2.length kc] 39)
    obtain ⟨p2, hp2⟩ : ∃ p2, p2 = w3.heap.size := ⟨_, rfl⟩
    have HN2 : Hid (E2 = refE l st pk2 ∧ F2 = finT l st pk2 ∧ M2 = madeT l st pk2 ∧ L2 = lkT l st pk2) := ⟨hE, hF, hM, hL⟩
    clear hE hF hM hG hL y0 y1 y2
    go_upto_region 5 with fail
    rw [← hp2] at hbv ⊢
    clear hp2
    generalize (w3.alloc (.cells #[.slice ga F2.length gc, .int .i64 M2, .slice ma2 G2 mc2, .slice ka L2.length kc] 39)) = w4 at *
    have hk4 : Keeps None w2 w4 := hk3.trans hkv (fun _ f _ => f)
    have HX : Hid (Keeps None w w4 ∧ w4.heap[p0]? = some (.cells #[.slice a0 n0 c0, .slice a1 n1 c1, .slice a2 n2 c2] 26 (0, 0)) ∧ w4.heap[p1]? = some (.cells #[.slice fa F.length fc, .int .i64 M, .slice ma G mc, .slice la L.length lc] 39 (0, 0)) ∧ w4.heap[p2]? = some (.cells #[.slice ga F2.length gc, .int .i64 M2, .slice ma2 G2 mc2, .slice ka L2.length kc] 39 (0, 0)) ∧ (SeenV w4 fa F.length (iv F) ∧ SeenL w4 la L.length L) ∧ SeenV w4 ga F2.length (iv F2) ∧ SeenL w4 ka L2.length L2) :=
      ⟨HW.out.1.trans hk4 (fun _ f _ => f), blk_kept HW.out.2.1 hk4 (fun f => f), blk_kept HW.out.2.2.1 hk4 (fun f => f), hbv, ⟨HW.out.2.2.2.1.more hk4, HW.out.2.2.2.2.more hk4⟩, hf3.more hkv, hl3.more hkv⟩
    have y0 : w4.cell? ⟨p0, 0, none⟩ = some (.slice a0 n0 c0) := blk_cell HX.out.2.1 0
    have y1 : w4.cell? ⟨p0, 1, none⟩ = some (.slice a1 n1 c1) := blk_cell HX.out.2.1 1
    have y2 : w4.cell? ⟨p0, 2, none⟩ = some (.slice a2 n2 c2) := blk_cell HX.out.2.1 2
    clear hk4 hk3 hkv hbv hf3 hl3 HW
    go_wp2_with fail
    refine (right_ok a0 a1 a2 n0 c0 n1 c1 n2 c2 l st pk w4 (HY.out w4 HX.out.1).1 HL.out.2.1 HL.out.2.2.1).mono ?_
    rintro e w5 ⟨rfl, hk5⟩
    have hR := right_iff (l := l) (st := st) (pk := pk)
    rw [← HN.out.1] at hR
    have y3 : w5.cell? ⟨p0, 2, none⟩ = some (.slice a2 n2 c2) := hk5.cell y2 (fun f => f)
    by_cases hE : E = 0
    · have hEq := HN.out.1
      rw [hE] at hEq
      have hE2 := (refE_pk (pk := pk) (pk2 := pk2) (l := l) (st := st) (by have := HL.out.2.2.2; omega)).1 hEq.symm
      have hchk := (refE_ok hEq.symm).2.2.2
      have hll := (refE_ok hEq.symm).1
      have hFF : F = putsD l := by rw [HN.out.2.1]; unfold finT; rw [if_pos hEq.symm]
      have hF2 : F2 = putsD l := by rw [HN2.out.2.1]; unfold finT; rw [if_pos hE2]
      have hMM : M2 = M := by rw [HN2.out.2.2.1, HN.out.2.2.1]; unfold madeT; rw [if_pos hE2, if_pos hEq.symm]; exact fin_made hchk st pk pk2
      have hL1 : L = (finPS l st pk).lk := by rw [HN.out.2.2.2]; unfold lkT; rw [if_pos hEq.symm]
      have hLL : L2 = L := by rw [HN2.out.2.2.2, hL1]; unfold lkT; rw [if_pos hE2]; exact fin_looks l st pk pk2
      have hEE2 : E2 = 0 := by rw [HN2.out.1]; exact hE2
      rw [hR.1 hE]
      subst hE hEE2 hMM hLL
      have hFF2 : F2 = F := by rw [hFF, hF2]
      subst hFF2
      have HZ : Hid (F2 = putsD l ∧ F2.length ≤ 4096 ∧ L2.length ≤ 5000 ∧ (∀ x ∈ L2, x.length ≤ 5000) ∧ l.length ≤ 4096) := ⟨hF2, by rw [hF2]; have := putsD_len l; omega, by rw [hL1]; exact fin_look_n hchk hll st pk, by rw [hL1]; exact fin_look_le hll st pk, hll⟩
      have HK5 : Hid (Keeps None w4 w5) := hk5
      clear hR hEq hE2 hchk hll hFF hF2 hL1 y0 y1 y2 y3 hk5
      go_upto_region 7 with fail
      have HQ : Hid (∀ wx, Keeps None w5 wx → (wx.cell? ⟨p1, 0, none⟩ = some (.slice fa F2.length fc) ∧ wx.cell? ⟨p1, 1, none⟩ = some (.int .i64 M2) ∧ wx.cell? ⟨p1, 3, none⟩ = some (.slice la L2.length lc) ∧ wx.cell? ⟨p2, 0, none⟩ = some (.slice ga F2.length gc) ∧ wx.cell? ⟨p2, 1, none⟩ = some (.int .i64 M2) ∧ wx.cell? ⟨p2, 3, none⟩ = some (.slice ka L2.length kc) ∧ wx.cell? ⟨p0, 0, none⟩ = some (.slice a0 n0 c0)) ∧ (SeenV wx fa F2.length (iv F2) ∧ SeenL wx la L2.length L2) ∧ (SeenV wx ga F2.length (iv F2) ∧ SeenL wx ka L2.length L2) ∧ Seen wx a0 n0 l) := fun wx hk => by
        have hkk := HK5.out.trans hk (fun _ f _ => f)
        exact ⟨⟨blk_cell (blk_kept HX.out.2.2.1 hkk (fun f => f)) 0, blk_cell (blk_kept HX.out.2.2.1 hkk (fun f => f)) 1, blk_cell (blk_kept HX.out.2.2.1 hkk (fun f => f)) 3, blk_cell (blk_kept HX.out.2.2.2.1 hkk (fun f => f)) 0, blk_cell (blk_kept HX.out.2.2.2.1 hkk (fun f => f)) 1, blk_cell (blk_kept HX.out.2.2.2.1 hkk (fun f => f)) 3, blk_cell (blk_kept HX.out.2.1 hkk (fun f => f)) 0⟩,
          ⟨HX.out.2.2.2.2.1.1.more hkk, HX.out.2.2.2.2.1.2.more hkk⟩, ⟨HX.out.2.2.2.2.2.1.more hkk, HX.out.2.2.2.2.2.2.more hkk⟩, (HY.out wx (HX.out.1.trans hkk (fun _ f _ => f))).1⟩
      have hkc : Keeps None w5 w5.drew := Keeps.drew None w5
      have hs := (HQ.out _ hkc).1
      go_region_held3 (fun wx => wx.cell? ⟨p1, 0, none⟩ = some (.slice fa F2.length fc) ∧ wx.cell? ⟨p1, 1, none⟩ = some (.int .i64 M2) ∧ wx.cell? ⟨p1, 3, none⟩ = some (.slice la L2.length lc) ∧ wx.cell? ⟨p2, 0, none⟩ = some (.slice ga F2.length gc) ∧ wx.cell? ⟨p2, 1, none⟩ = some (.int .i64 M2) ∧ wx.cell? ⟨p2, 3, none⟩ = some (.slice ka L2.length kc) ∧ wx.cell? ⟨p0, 0, none⟩ = some (.slice a0 n0 c0)) (first | exact hs | go_keep) (first
        | (go_at_call 19; refine Calls.mono (sameLooks_ok la ka L2.length lc kc L2 _ (HQ.out _ hkc).2.1.2 (HQ.out _ hkc).2.2.1.2 HZ.out.2.2.1 HZ.out.2.2.2.1) ?_; rintro _ wn ⟨rfl, hkn⟩; replace hkc := hkc.trans hkn (fun _ f _ => f); replace hs := (HQ.out _ hkc).1; clear hkn)
        | (go_at_call 18; refine Calls.mono (puts_ok a0 n0 c0 n0 l _ (HQ.out _ hkc).2.2.2 (by have := HZ.out.2.2.2.2; have := HL.out.1; omega) (Nat.le_refl _)) ?_; rintro _ wn ⟨ua, uc, rfl, hsu, hkn⟩; replace hkc := hkc.trans hkn (fun _ f _ => f); replace hs := (HQ.out _ hkc).1; have ht : putsD (l.take n0) = F2 := (by rw [List.take_of_length_le (by have := HL.out.1; omega), HZ.out.1]); rw [ht] at hsu; rw [ht]; clear hkn ht)
        | (go_at_call 12; refine Calls.mono (sameInts_ok fa _ F2.length fc _ F2 _ (HQ.out _ hkc).2.1.1 (by first | exact hsu | exact (HQ.out _ hkc).2.2.1.1) (by have := HZ.out.2.1; omega)) ?_; rintro _ wn ⟨rfl, hkn⟩; replace hkc := hkc.trans hkn (fun _ f _ => f); replace hs := (HQ.out _ hkc).1; clear hkn))
      all_goals (go_wp2_with fail; go_ret)
      all_goals exact ⟨rfl, ((HX.out.1.trans HK5.out (fun _ f _ => f)).trans hkc (fun _ f _ => f)).below _ (Nat.le_refl _) (fun _ f => f.elim)⟩
    · have hne := HN.out.1
      rw [hR.2 hE]
      have HE : Hid (Below w.heap.size w w5) := (HX.out.1.trans hk5 (fun _ f _ => f)).below _ (Nat.le_refl _) (fun _ f => f.elim)
      have hE1 : (E != 0) = true := by simp [hE]
      by_cases hp : n2 ≤ 1048576
      · have hE2 : (E2 != 0) = true := by
          have := (refE_pk (pk := pk) (pk2 := pk2) (l := l) (st := st) (by have := HL.out.2.2.2; omega)).2 (by rw [← hne]; exact hE) (by have := HL.out.2.2.1; omega)
          rw [← HN2.out.1] at this
          simp [this]
        clear hne hR y0 y1 y2 hk5
        go_wp2
        go_ret
        exact ⟨rfl, HE.out⟩
      · have hp2 : (1048576 : Int) < (n2 : Int) := by omega
        clear hne hR y0 y1 y2 hk5
        by_cases hE3 : E2 = 0
        · have hE2 : (E2 != 0) = false := by simp [hE3]
          go_wp2
          go_ret
          exact ⟨rfl, HE.out⟩
        · have hE2 : (E2 != 0) = true := by simp [hE3]
          go_wp2
          go_ret
          exact ⟨rfl, HE.out⟩
end Go.Proofs.Ytdiabpoafennlaa
