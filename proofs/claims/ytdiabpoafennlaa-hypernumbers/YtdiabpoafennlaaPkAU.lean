import Derived.Test.YtdiabpoafennlaaPkAT
import Derived.Test.YtdiabpoafennlaaPkAP
import Derived.Deep.Cut
/-! The walk of HyperPicks. -/
namespace Go.Proofs.Ytdiabpoafennlaa
set_option linter.unusedVariables false
set_option maxRecDepth 20000
set_option linter.unusedSimpArgs false
open Go.RowKit Go.HeapKit

theorem refE_pk {l : List Dd} {st : List Bool} {pk pk2 : List Int} (h2 : pk2.length ≤ 1048576) : (refE l st pk = 0 → refE l st pk2 = 0) ∧ (refE l st pk ≠ 0 → pk.length ≤ 1048576 → refE l st pk2 ≠ 0) := by
  unfold refE
  constructor
  · intro h
    split at h
    · omega
    · rw [if_neg (by omega)]; exact h
  · intro h h3
    split at h
    · rw [if_pos (by omega)]; omega
    · rw [if_neg (by omega)]; exact h
theorem fin_looks (l : List Dd) (st : List Bool) (pk pk2 : List Int) : (finPS l st pk2).lk = (finPS l st pk).lk := looks_same st (l.map dp) pk pk2
theorem fin_made {l : List Dd} (h : chkL l 0 0 = none) (st : List Bool) (pk pk2 : List Int) : (finPS l st pk2).vs.length = (finPS l st pk).vs.length := by
  show (endMS listK st (l.map dp) pk2).vs.length = (endMS listK st (l.map dp) pk).vs.length
  rw [made_all _ _ _ _ (kinds_of h), made_all _ _ _ _ (kinds_of h)]
/-- Looks are no longer than what is put. -/
theorem look_le (st : List Bool) : ∀ (ds : List (Int × Int)) (n : Nat) (P : List Int) (s : HS (List Int)) (N : Nat), HInv P s → (P ++ putsL ds).length ≤ N → (∀ x ∈ s.lk, x.length ≤ N) → ∀ x ∈ (s.run listK st ds n).lk, x.length ≤ N := by
  intro ds
  induction ds with
  | nil => intro n P s N _ _ h; exact h
  | cons d ds ih =>
    intro n P s N hs hN h
    rw [putsL_cons, ← List.append_assoc] at hN
    refine ih (n + 1) _ _ N (hinv_deed st n d.1 d.2 hs) hN ?_
    have hne := hs.lk.ne
    have hin : s.hand ∈ preL s.ini ++ s.m.row := List.mem_append_right _ (hand_in hne)
    obtain ⟨A, B, hAB⟩ := List.append_of_mem hin
    have hc := hs.line.cat
    rw [hAB, catL_app, catL_cons] at hc
    have hl := congrArg List.length hc
    simp only [List.length_append] at hl hN
    unfold HS.deed
    split
    · exact h
    · split
      · intro x hx
        have hx2 : x ∈ s.lk ++ [s.m.vs.getD s.hand []] := hx
        rcases List.mem_append.1 hx2 with hx2 | hx2
        · exact h x hx2
        · simp only [List.mem_singleton] at hx2
          subst hx2
          omega
      · split
        · exact h
        · split
          · exact h
          · unfold HS.back
            split
            · exact h
            · split <;> exact h
theorem fin_look_le {l : List Dd} (hl : l.length ≤ 4096) (st : List Bool) (pk : List Int) : ∀ x ∈ (finPS l st pk).lk, x.length ≤ 5000 := by
  refine look_le st (l.map dp) 0 [] _ 5000 (hinv_start pk) ?_ (by intro x hx; simp [HS.start] at hx)
  rw [List.nil_append, putsD_eq]
  have := putsD_len l
  omega
theorem fin_look_n {l : List Dd} (h : chkL l 0 0 = none) (hl : l.length ≤ 4096) (st : List Bool) (pk : List Int) : (finPS l st pk).lk.length ≤ 5000 := by
  have : ∀ (ds : List (Int × Int)) (n : Nat) (s : HS (List Int)), (s.run listK st ds n).lk.length ≤ s.lk.length + ds.length := by
    intro ds
    induction ds with
    | nil => intro n s; exact Nat.le_refl _
    | cons d ds ih =>
      intro n s
      refine Nat.le_trans (ih (n + 1) _) ?_
      have hd : (s.deed listK st n d.1 d.2).lk.length ≤ s.lk.length + 1 := by
        unfold HS.deed
        split
        · exact Nat.le_succ _
        · split
          · show (s.lk ++ [_]).length ≤ _; simp
          · split
            · exact Nat.le_succ _
            · split
              · exact Nat.le_succ _
              · unfold HS.back
                split
                · exact Nat.le_succ _
                · split <;> exact Nat.le_succ _
      simp only [List.length_cons]
      omega
  have h2 := this (l.map dp) 0 (HS.start listK pk)
  have h3 : (finPS l st pk).lk.length ≤ 0 + (l.map dp).length := h2
  rw [List.length_map] at h3
  omega
set_option maxHeartbeats 6400000 in
theorem hyperPicks_walk (a0 a1 a2 a3 : Option Addr) (n0 c0 n1 c1 n2 c2 n3 c3 : Nat) (l : List Dd) (st : List Bool) (pk pk2 : List Int) (w : World) (h0 : Seen w a0 n0 l) (h1 : SeenV w a1 n1 (bv' st)) (h2 : SeenV w a2 n2 (iv pk)) (hc : n2 ≤ c2) (h3 : SeenV w a3 n3 (iv pk2)) (hc3 : n3 ≤ c3) :
    Calls Try.prog 6 #[.agg #[.slice a0 n0 c0, .slice a1 n1 c1, .slice a2 n2 c2], .slice a3 n3 c3] w fun e w' => e = .returned (.bool true) ∧ Below w.heap.size w w' := by
  have HS : Hid (Seen w a0 n0 l ∧ SeenV w a1 n1 (bv' st) ∧ SeenV w a2 n2 (iv pk) ∧ n2 ≤ c2 ∧ SeenV w a3 n3 (iv pk2) ∧ n3 ≤ c3) := ⟨h0, h1, h2, hc, h3, hc3⟩
  have HL : Hid (n0 = l.length ∧ n1 = st.length ∧ n2 = pk.length ∧ n3 = pk2.length) := ⟨h0.len, by have := h1.len; rwa [bv_len] at this, by have := h2.len; rwa [iv_len] at this, by have := h3.len; rwa [iv_len] at this⟩
  clear h0 h1 h2 hc h3 hc3
  obtain ⟨p0, hp0⟩ : ∃ p0, p0 = w.heap.size := ⟨_, rfl⟩
  have hb0 := blk_new w (.cells #[.slice a0 n0 c0, .slice a1 n1 c1, .slice a2 n2 c2] 26) p0 hp0.symm
  have hkb := (Keeps.alloc None w (.cells #[.slice a0 n0 c0, .slice a1 n1 c1, .slice a2 n2 c2] 26))
  go_enter Try.func6, Try.ntmps6
  go_upto_region 1 with fail
  rw [← hp0]
  clear hp0
  generalize (w.alloc (.cells #[.slice a0 n0 c0, .slice a1 n1 c1, .slice a2 n2 c2] 26)) = wb at *
  have HY : Hid (∀ wx, Keeps None w wx → Seen wx a0 n0 l ∧ SeenV wx a1 n1 (bv' st) ∧ SeenV wx a2 n2 (iv pk) ∧ SeenV wx a3 n3 (iv pk2)) := fun wx hx => ⟨HS.out.1.more hx, HS.out.2.1.more hx, HS.out.2.2.1.more hx, HS.out.2.2.2.2.1.more hx⟩
  have HB : Hid (wb.heap[p0]? = some (.cells #[.slice a0 n0 c0, .slice a1 n1 c1, .slice a2 n2 c2] 26 (0, 0)) ∧ Keeps None w wb) := ⟨hb0, hkb⟩
  have y0 : wb.cell? ⟨p0, 0, none⟩ = some (.slice a0 n0 c0) := blk_cell hb0 0
  have y1 : wb.cell? ⟨p0, 1, none⟩ = some (.slice a1 n1 c1) := blk_cell hb0 1
  have y2 : wb.cell? ⟨p0, 2, none⟩ = some (.slice a2 n2 c2) := blk_cell hb0 2
  clear hb0 hkb
  go_wp2_with fail
  refine (Play_told a0 n0 c0 l a1 n1 c1 st a2 n2 c2 pk wb (HY.out wb HB.out.2).1 (HY.out wb HB.out.2).2.1 (HY.out wb HB.out.2).2.2.1 HS.out.2.2.2.1).mono ?_
  rintro e w1 ⟨fa, fc, ma, mc, la, lc, rfl, hf1, hl1, -, hk1⟩
  clear y0 y1 y2
  obtain ⟨E, hE⟩ : ∃ E, E = refE l st pk := ⟨_, rfl⟩
  obtain ⟨F, hF⟩ : ∃ F, F = finT l st pk := ⟨_, rfl⟩
  obtain ⟨M, hM⟩ : ∃ M, M = madeT l st pk := ⟨_, rfl⟩
  obtain ⟨G, hG⟩ : ∃ G, G = (mgT l st pk).length := ⟨_, rfl⟩
  obtain ⟨L, hL⟩ : ∃ L, L = lkT l st pk := ⟨_, rfl⟩
  rw [← hF] at hf1
  rw [← hL] at hl1
  rw [← hE, ← hF, ← hM, ← hG, ← hL]
  have hbv := blk_new w1 (.cells #[.slice fa F.length fc, .int .i64 M, .slice ma G mc, .slice la L.length lc] 39) w1.heap.size rfl
  have hkv := Keeps.alloc None w1 (.cells #[.slice fa F.length fc, .int .i64 M, .slice ma G mc, .slice la L.length lc] 39)
  obtain ⟨p1, hp1⟩ : ∃ p1, p1 = w1.heap.size := ⟨_, rfl⟩
  have HN : Hid (E = refE l st pk ∧ F = finT l st pk ∧ M = madeT l st pk ∧ L = lkT l st pk) := ⟨hE, hF, hM, hL⟩
  have hkw := HB.out.2.trans hk1 (fun _ f _ => f)
  have hb1 := blk_kept HB.out.1 hk1 (fun f => f)
  clear hE hF hM hG hL
  go_upto_region 2 with fail
  rw [← hp1] at hbv ⊢
  clear hp1
  generalize (w1.alloc (.cells #[.slice fa F.length fc, .int .i64 M, .slice ma G mc, .slice la L.length lc] 39)) = w2 at *
  have HW : Hid (Keeps None w w2 ∧ w2.heap[p0]? = some (.cells #[.slice a0 n0 c0, .slice a1 n1 c1, .slice a2 n2 c2] 26 (0, 0)) ∧ w2.heap[p1]? = some (.cells #[.slice fa F.length fc, .int .i64 M, .slice ma G mc, .slice la L.length lc] 39 (0, 0)) ∧ SeenV w2 fa F.length (iv F) ∧ SeenL w2 la L.length L) := ⟨hkw.trans hkv (fun _ f _ => f), blk_kept hb1 hkv (fun f => f), hbv, hf1.more hkv, hl1.more hkv⟩
  have y0 : w2.cell? ⟨p0, 0, none⟩ = some (.slice a0 n0 c0) := blk_cell HW.out.2.1 0
  have y1 : w2.cell? ⟨p0, 1, none⟩ = some (.slice a1 n1 c1) := blk_cell HW.out.2.1 1
  have y2 : w2.cell? ⟨p0, 2, none⟩ = some (.slice a2 n2 c2) := blk_cell HW.out.2.1 2
  clear hkv hbv hf1 hl1 hkw hb1 hk1
  by_cases h3 : 1048576 < n3
  · have i3 : (1048576 : Int) < (n3 : Int) := by omega
    go_wp2_with fail
    refine (right_ok a0 a1 a2 n0 c0 n1 c1 n2 c2 l st pk w2 (HY.out w2 HW.out.1).1 HL.out.2.1 HL.out.2.2.1).mono ?_
    rintro e w3 ⟨rfl, hk3⟩
    have HE : Hid (Below w.heap.size w w3) := (HW.out.1.trans hk3 (fun _ f _ => f)).below _ (Nat.le_refl _) (fun _ f => f.elim)
    have hR := right_iff (l := l) (st := st) (pk := pk)
    rw [← HN.out.1] at hR
    clear hk3 y0 y1 y2
    by_cases hE : E = 0
    · rw [hR.1 hE]
      subst hE
      clear hR
      go_wp2
      go_ret
      exact ⟨rfl, HE.out⟩
    · rw [hR.2 hE]
      have hE2 : (E == 0) = false := by simp [hE]
      clear hR
      go_wp2
      go_ret
      exact ⟨rfl, HE.out⟩
  · have i3 : ¬ (1048576 : Int) < (n3 : Int) := by omega
    go_wp2_with fail
    refine (Play_told a0 n0 c0 l a1 n1 c1 st a3 n3 c3 pk2 w2 (HY.out w2 HW.out.1).1 (HY.out w2 HW.out.1).2.1 (HY.out w2 HW.out.1).2.2.2 HS.out.2.2.2.2.2).mono ?_
    rintro e w3 ⟨ga, gc, ma2, mc2, ka, kc, rfl, hf3, hl3, -, hk3⟩
    obtain ⟨E2, hE⟩ : ∃ E, E = refE l st pk2 := ⟨_, rfl⟩
    obtain ⟨F2, hF⟩ : ∃ F, F = finT l st pk2 := ⟨_, rfl⟩
    obtain ⟨M2, hM⟩ : ∃ M, M = madeT l st pk2 := ⟨_, rfl⟩
    obtain ⟨G2, hG⟩ : ∃ G, G = (mgT l st pk2).length := ⟨_, rfl⟩
    obtain ⟨L2, hL⟩ : ∃ L, L = lkT l st pk2 := ⟨_, rfl⟩
    rw [← hF] at hf3
    rw [← hL] at hl3
    rw [← hE, ← hF, ← hM, ← hG, ← hL]
    have hbv := blk_new w3 (.cells #[.slice ga F2.length gc, .int .i64 M2, .slice ma2 G2 mc2, .slice ka L2.length kc] 39) w3.heap.size rfl
    have hkv := Keeps.alloc None w3 (.cells #[.slice ga F2.length gc, .int .i64 M2, .slice ma2 G2 mc2, .slice ka L2.length kc] 39)
    obtain ⟨p2, hp2⟩ : ∃ p2, p2 = w3.heap.size := ⟨_, rfl⟩
    have HN2 : Hid (E2 = refE l st pk2 ∧ F2 = finT l st pk2 ∧ M2 = madeT l st pk2 ∧ L2 = lkT l st pk2) := ⟨hE, hF, hM, hL⟩
    clear hE hF hM hG hL y0 y1 y2
    go_upto_region 5 with fail
    rw [← hp2] at hbv ⊢
    clear hp2
    generalize (w3.alloc (.cells #[.slice ga F2.length gc, .int .i64 M2, .slice ma2 G2 mc2, .slice ka L2.length kc] 39)) = w4 at *
    have hk4 : Keeps None w2 w4 := hk3.trans hkv (fun _ f _ => f)
    have HX : Hid (Keeps None w w4 ∧ w4.heap[p0]? = some (.cells #[.slice a0 n0 c0, .slice a1 n1 c1, .slice a2 n2 c2] 26 (0, 0)) ∧ w4.heap[p1]? = some (.cells #[.slice fa F.length fc, .int .i64 M, .slice ma G mc, .slice la L.length lc] 39 (0, 0)) ∧ w4.heap[p2]? = some (.cells #[.slice ga F2.length gc, .int .i64 M2, .slice ma2 G2 mc2, .slice ka L2.length kc] 39 (0, 0)) ∧ (SeenV w4 fa F.length (iv F) ∧ SeenL w4 la L.length L) ∧ SeenV w4 ga F2.length (iv F2) ∧ SeenL w4 ka L2.length L2) :=
      ⟨HW.out.1.trans hk4 (fun _ f _ => f), blk_kept HW.out.2.1 hk4 (fun f => f), blk_kept HW.out.2.2.1 hk4 (fun f => f), hbv, ⟨HW.out.2.2.2.1.more hk4, HW.out.2.2.2.2.more hk4⟩, hf3.more hkv, hl3.more hkv⟩
    have y0 : w4.cell? ⟨p0, 0, none⟩ = some (.slice a0 n0 c0) := blk_cell HX.out.2.1 0
    have y1 : w4.cell? ⟨p0, 1, none⟩ = some (.slice a1 n1 c1) := blk_cell HX.out.2.1 1
    have y2 : w4.cell? ⟨p0, 2, none⟩ = some (.slice a2 n2 c2) := blk_cell HX.out.2.1 2
    clear hk4 hk3 hkv hbv hf3 hl3 HW
    go_wp2_with fail
    refine (right_ok a0 a1 a2 n0 c0 n1 c1 n2 c2 l st pk w4 (HY.out w4 HX.out.1).1 HL.out.2.1 HL.out.2.2.1).mono ?_
    rintro e w5 ⟨rfl, hk5⟩
    have hR := right_iff (l := l) (st := st) (pk := pk)
    rw [← HN.out.1] at hR
    have y3 : w5.cell? ⟨p0, 2, none⟩ = some (.slice a2 n2 c2) := hk5.cell y2 (fun f => f)
    by_cases hE : E = 0
    · have hEq := HN.out.1
      rw [hE] at hEq
      have hE2 := (refE_pk (pk := pk) (pk2 := pk2) (l := l) (st := st) (by have := HL.out.2.2.2; omega)).1 hEq.symm
      have hchk := (refE_ok hEq.symm).2.2.2
      have hll := (refE_ok hEq.symm).1
      have hFF : F = putsD l := by rw [HN.out.2.1]; unfold finT; rw [if_pos hEq.symm]
      have hF2 : F2 = putsD l := by rw [HN2.out.2.1]; unfold finT; rw [if_pos hE2]
      have hMM : M2 = M := by rw [HN2.out.2.2.1, HN.out.2.2.1]; unfold madeT; rw [if_pos hE2, if_pos hEq.symm]; exact fin_made hchk st pk pk2
      have hL1 : L = (finPS l st pk).lk := by rw [HN.out.2.2.2]; unfold lkT; rw [if_pos hEq.symm]
      have hLL : L2 = L := by rw [HN2.out.2.2.2, hL1]; unfold lkT; rw [if_pos hE2]; exact fin_looks l st pk pk2
      have hEE2 : E2 = 0 := by rw [HN2.out.1]; exact hE2
      rw [hR.1 hE]
      subst hE hEE2 hMM hLL
      have hFF2 : F2 = F := by rw [hFF, hF2]
      subst hFF2
      have HZ : Hid (F2 = putsD l ∧ F2.length ≤ 4096 ∧ L2.length ≤ 5000 ∧ (∀ x ∈ L2, x.length ≤ 5000) ∧ l.length ≤ 4096) := ⟨hF2, by rw [hF2]; have := putsD_len l; omega, by rw [hL1]; exact fin_look_n hchk hll st pk, by rw [hL1]; exact fin_look_le hll st pk, hll⟩
      have HK5 : Hid (Keeps None w4 w5) := hk5
      clear hR hEq hE2 hchk hll hFF hF2 hL1 y0 y1 y2 y3 hk5
      go_upto_region 7 with fail
      have HQ : Hid (∀ wx, Keeps None w5 wx → (wx.cell? ⟨p1, 0, none⟩ = some (.slice fa F2.length fc) ∧ wx.cell? ⟨p1, 1, none⟩ = some (.int .i64 M2) ∧ wx.cell? ⟨p1, 3, none⟩ = some (.slice la L2.length lc) ∧ wx.cell? ⟨p2, 0, none⟩ = some (.slice ga F2.length gc) ∧ wx.cell? ⟨p2, 1, none⟩ = some (.int .i64 M2) ∧ wx.cell? ⟨p2, 3, none⟩ = some (.slice ka L2.length kc) ∧ wx.cell? ⟨p0, 0, none⟩ = some (.slice a0 n0 c0)) ∧ (SeenV wx fa F2.length (iv F2) ∧ SeenL wx la L2.length L2) ∧ (SeenV wx ga F2.length (iv F2) ∧ SeenL wx ka L2.length L2) ∧ Seen wx a0 n0 l) := fun wx hk => by
        have hkk := HK5.out.trans hk (fun _ f _ => f)
        exact ⟨⟨blk_cell (blk_kept HX.out.2.2.1 hkk (fun f => f)) 0, blk_cell (blk_kept HX.out.2.2.1 hkk (fun f => f)) 1, blk_cell (blk_kept HX.out.2.2.1 hkk (fun f => f)) 3, blk_cell (blk_kept HX.out.2.2.2.1 hkk (fun f => f)) 0, blk_cell (blk_kept HX.out.2.2.2.1 hkk (fun f => f)) 1, blk_cell (blk_kept HX.out.2.2.2.1 hkk (fun f => f)) 3, blk_cell (blk_kept HX.out.2.1 hkk (fun f => f)) 0⟩,
          ⟨HX.out.2.2.2.2.1.1.more hkk, HX.out.2.2.2.2.1.2.more hkk⟩, ⟨HX.out.2.2.2.2.2.1.more hkk, HX.out.2.2.2.2.2.2.more hkk⟩, (HY.out wx (HX.out.1.trans hkk (fun _ f _ => f))).1⟩
      have hkc : Keeps None w5 w5.drew := Keeps.drew None w5
      have hs := (HQ.out _ hkc).1
      go_region_held3 (fun wx => wx.cell? ⟨p1, 0, none⟩ = some (.slice fa F2.length fc) ∧ wx.cell? ⟨p1, 1, none⟩ = some (.int .i64 M2) ∧ wx.cell? ⟨p1, 3, none⟩ = some (.slice la L2.length lc) ∧ wx.cell? ⟨p2, 0, none⟩ = some (.slice ga F2.length gc) ∧ wx.cell? ⟨p2, 1, none⟩ = some (.int .i64 M2) ∧ wx.cell? ⟨p2, 3, none⟩ = some (.slice ka L2.length kc) ∧ wx.cell? ⟨p0, 0, none⟩ = some (.slice a0 n0 c0)) (first | exact hs | go_keep) (first
        | (go_at_call 19; refine Calls.mono (sameLooks_ok la ka L2.length lc kc L2 _ (HQ.out _ hkc).2.1.2 (HQ.out _ hkc).2.2.1.2 HZ.out.2.2.1 HZ.out.2.2.2.1) ?_; rintro _ wn ⟨rfl, hkn⟩; replace hkc := hkc.trans hkn (fun _ f _ => f); replace hs := (HQ.out _ hkc).1; clear hkn)
        | (go_at_call 18; refine Calls.mono (puts_ok a0 n0 c0 n0 l _ (HQ.out _ hkc).2.2.2 (by have := HZ.out.2.2.2.2; have := HL.out.1; omega) (Nat.le_refl _)) ?_; rintro _ wn ⟨ua, uc, rfl, hsu, hkn⟩; replace hkc := hkc.trans hkn (fun _ f _ => f); replace hs := (HQ.out _ hkc).1; have ht : putsD (l.take n0) = F2 := (by rw [List.take_of_length_le (by have := HL.out.1; omega), HZ.out.1]); rw [ht] at hsu; rw [ht]; clear hkn ht)
        | (go_at_call 12; refine Calls.mono (sameInts_ok fa _ F2.length fc _ F2 _ (HQ.out _ hkc).2.1.1 (by first | exact hsu | exact (HQ.out _ hkc).2.2.1.1) (by have := HZ.out.2.1; omega)) ?_; rintro _ wn ⟨rfl, hkn⟩; replace hkc := hkc.trans hkn (fun _ f _ => f); replace hs := (HQ.out _ hkc).1; clear hkn))
      all_goals (go_wp2_with fail; go_ret)
      all_goals exact ⟨rfl, ((HX.out.1.trans HK5.out (fun _ f _ => f)).trans hkc (fun _ f _ => f)).below _ (Nat.le_refl _) (fun _ f => f.elim)⟩
    · have hne := HN.out.1
      rw [hR.2 hE]
      have HE : Hid (Below w.heap.size w w5) := (HX.out.1.trans hk5 (fun _ f _ => f)).below _ (Nat.le_refl _) (fun _ f => f.elim)
      have hE1 : (E != 0) = true := by simp [hE]
      by_cases hp : n2 ≤ 1048576
      · have hE2 : (E2 != 0) = true := by
          have := (refE_pk (pk := pk) (pk2 := pk2) (l := l) (st := st) (by have := HL.out.2.2.2; omega)).2 (by rw [← hne]; exact hE) (by have := HL.out.2.2.1; omega)
          rw [← HN2.out.1] at this
          simp [this]
        clear hne hR y0 y1 y2 hk5
        go_wp2
        go_ret
        exact ⟨rfl, HE.out⟩
      · have hp2 : (1048576 : Int) < (n2 : Int) := by omega
        clear hne hR y0 y1 y2 hk5
        by_cases hE3 : E2 = 0
        · have hE2 : (E2 != 0) = false := by simp [hE3]
          go_wp2
          go_ret
          exact ⟨rfl, HE.out⟩
        · have hE2 : (E2 != 0) = true := by simp [hE3]
          go_wp2
          go_ret
          exact ⟨rfl, HE.out⟩
end Go.Proofs.Ytdiabpoafennlaa
/-! The walk of HyperCounts. -/
namespace Go.Proofs.Ytdiabpoafennlaa
set_option linter.unusedVariables false
set_option maxRecDepth 20000
set_option linter.unusedSimpArgs false
open Go.RowKit Go.HeapKit

/-- Which views are gone behind the first k merges. -/
def goneL (mg : List (Nat × Nat × Nat)) (k V : Nat) : List Bool := (List.range V).map (fun v => decide (v ∈ (mg.take k).map (·.2.2)))
theorem goneL_len (mg : List (Nat × Nat × Nat)) (k V : Nat) : (goneL mg k V).length = V := by simp [goneL]
theorem goneL_at {mg : List (Nat × Nat × Nat)} {k V v : Nat} (hv : v < V) : (goneL mg k V)[v]? = some (decide (v ∈ (mg.take k).map (·.2.2))) := by simp [goneL, hv]
theorem goneL_step {mg : List (Nat × Nat × Nat)} {k V : Nat} {x : Nat × Nat × Nat} (hx : mg[k]? = some x) : (goneL mg k V).set x.2.2 true = goneL mg (k + 1) V := by
  apply List.ext_getElem?
  intro i
  rw [List.getElem?_set]
  have ht : mg.take (k + 1) = mg.take k ++ [x] := by rw [List.take_add_one, hx]; rfl
  by_cases hi : i < V
  · rw [goneL_at hi, goneL_at hi, ht, List.map_append, goneL_len]
    by_cases e : x.2.2 = i
    · subst e; simp [hi]
    · rw [if_neg e]
      congr 1
      simp only [List.mem_append, List.map_cons, List.map_nil, List.mem_singleton]
      simp [Ne.symm e]
  · have h1 : (goneL mg (k + 1) V)[i]? = none := List.getElem?_eq_none (by rw [goneL_len]; omega)
    have h2 : (goneL mg k V)[i]? = none := List.getElem?_eq_none (by rw [goneL_len]; omega)
    rw [h1, h2, goneL_len]
    split
    · rw [if_neg (by omega)]
    · rfl
theorem made_bools (n : Nat) : madeCells (Value.bool false).cells (n * 1) = (bv' (List.replicate n false)).toArray := by
  have hc : (Value.bool false).cells = #[.bool false] := by kernel_rfl
  rw [hc]
  apply Array.ext
  · rw [size_madeCells]; simp [bv']
  · intro i h1 h2
    have hi : i < n := by simpa [bv'] using h2
    simp [madeCells, bv', Nat.mod_one]
theorem make_bools (n : Nat) (w : World) (hn : n ≤ 100000) : ∃ w', (Instr.makeSlice 23 (.int .i64 n) (.int .i64 n)).run Try.prog w = .ok (.slice (some ⟨w.heap.size, 0, none⟩) n n) w' ∧ w'.ownsRow w.heap.size 4 1 (.slice (some ⟨w.heap.size, 0, none⟩) n n) n (bv' (List.replicate n false)) ∧ Keeps None w w' := by
  obtain ⟨i0, hi, hz0, hz1, hz2⟩ := info_parts Try.infoBool
  obtain ⟨M, hM, hs, hr⟩ := run_make_block (P := Try.prog) (w := w) 23 4 i0 _ 1 1 Try.underlying23 hi hz0 hz1 hz2 n (by omega) (by omega)
  rw [made_bools] at hM
  refine ⟨_, hr, ⟨by rw [bv_len]; simp, .inr ⟨_, _, M, rfl, Nat.le_refl _, heap_alloc_new _ _, Nat.le_refl _, ?_, ?_, ?_⟩⟩, Keeps.alloc None w _⟩
  all_goals first
    | (unfold maxLen; omega)
    | (rw [hM]; simp [bv']; done)
    | (rw [hM]; exact List.take_of_length_le (by rw [bv_len]; simp))
theorem goneL_zero (mg : List (Nat × Nat × Nat)) (V : Nat) : List.replicate V false = goneL mg 0 V := by
  apply List.ext_getElem?
  intro i
  by_cases h : i < V
  · rw [goneL_at h, List.getElem?_replicate, if_pos h]; simp
  · rw [List.getElem?_eq_none (by simp; omega), List.getElem?_eq_none (by rw [goneL_len]; omega)]
theorem fin_counts {l : List Dd} {st : List Bool} {pk : List Int} (h : chkL l 0 0 = none) : MgOk (okAt (l.map dp)) [0] (finPS l st pk).vs.length (l.map dp).length (finPS l st pk).mg ∧ (finPS l st pk).vs.length = 1 + madeL st (l.map dp) 0 [] :=
  ⟨counts_all st (l.map dp) pk (kinds_of h), made_all listK st (l.map dp) pk (kinds_of h)⟩
theorem okAt_deed {l : List Dd} {i : Nat} (h : okAt (l.map dp) i) (hi : i < l.length) : ∃ x, l[i]? = some x ∧ (x.k = 2 ∨ x.k = 1) := by
  obtain ⟨d, h1, h2⟩ := h (by simpa using hi)
  rw [List.getElem?_map] at h1
  cases hx : l[i]? with
  | none => rw [hx] at h1; cases h1
  | some x =>
    rw [hx] at h1
    obtain rfl := Option.some.inj h1
    exact ⟨x, rfl, h2⟩
theorem made_le {l : List Dd} (h : l.length ≤ 4096) (st : List Bool) : madeL st (l.map dp) 0 [] ≤ 4096 := by
  have : ∀ (ds : List (Int × Int)) (n : Nat) (op : List Nat), madeL st ds n op ≤ ds.length := by
    intro ds
    induction ds with
    | nil => intro n op; exact Nat.le_refl _
    | cons d ds ih =>
      intro n op
      rw [madeL_cons, List.length_cons]
      split
      · exact Nat.le_succ_of_le (ih _ _)
      · split
        · split
          · exact Nat.le_succ_of_le (ih _ _)
          · have := ih n (by assumption)
            split <;> omega
        · exact Nat.le_succ_of_le (ih _ _)
  have := this (l.map dp) 0 []
  rw [List.length_map] at this
  omega
theorem cell_lt {w : World} {b o : Nat} {v : Value} (h : w.cell? ⟨b, o, none⟩ = some v) : b < w.heap.size := by
  cases hb : w.heap[b]? with
  | none => simp [World.cell?, hb] at h
  | some o => exact (Array.getElem?_eq_some_iff.1 hb).1
theorem seen_far {w wn : World} {p0 p1 M D n0 c0 n1 c1 n2 c2 mc : Nat} {a0 a1 a2 ma : Option Addr} {l : List Dd} {st : List Bool} {mg : List (Nat × Nat × Nat)}
    (h : (wn.cell? ⟨p1, 1, none⟩ = some (.int .i64 M) ∧ wn.cell? ⟨p1, 2, none⟩ = some (.slice ma D mc) ∧ wn.cell? ⟨p0, 0, none⟩ = some (.slice a0 n0 c0) ∧ wn.cell? ⟨p0, 1, none⟩ = some (.slice a1 n1 c1) ∧ wn.cell? ⟨p0, 2, none⟩ = some (.slice a2 n2 c2)) ∧ (Seen wn a0 n0 l ∧ SeenV wn a1 n1 (bv' st)) ∧ SeenM wn ma mg ∧ Keeps None w wn) :
    ∀ wx, Keeps (fun i => wn.heap.size ≤ i) wn wx → (wx.cell? ⟨p1, 1, none⟩ = some (.int .i64 M) ∧ wx.cell? ⟨p1, 2, none⟩ = some (.slice ma D mc) ∧ wx.cell? ⟨p0, 0, none⟩ = some (.slice a0 n0 c0) ∧ wx.cell? ⟨p0, 1, none⟩ = some (.slice a1 n1 c1) ∧ wx.cell? ⟨p0, 2, none⟩ = some (.slice a2 n2 c2)) ∧ Seen wx a0 n0 l ∧ SeenM wx ma mg := by
  intro wx hx
  obtain ⟨⟨h1, h2, h3, h4, h5⟩, ⟨h6, -⟩, h7, -⟩ := h
  have k : ∀ {b o : Nat} {v : Value}, wn.cell? ⟨b, o, none⟩ = some v → wx.cell? ⟨b, o, none⟩ = some v := fun hc => hx.cell hc (fun e => by have h1 := cell_lt hc; have h2 : wn.heap.size ≤ _ := e; simp only at h2; omega)
  exact ⟨⟨k h1, k h2, k h3, k h4, k h5⟩, h6.below hx (Nat.le_refl _), fun i y hy => by
    obtain ⟨g, e, q0, q1, q2⟩ := h7 i y hy
    exact ⟨g, e, k q0, k q1, k q2⟩⟩
theorem pair_take {mg : List (Nat × Nat × Nat)} {k : Nat} {x y : Nat × Nat × Nat} (hp : mg.Pairwise (fun x y => x.2.2 ≠ y.2.1 ∧ x.2.2 ≠ y.2.2 ∧ x.1 ≤ y.1)) (hx : mg[k]? = some x) (hy : y ∈ mg.take k) : y.2.2 ≠ x.2.1 ∧ y.2.2 ≠ x.2.2 := by
  obtain ⟨i, hi, rfl⟩ := List.mem_iff_getElem.1 hy
  obtain ⟨hk, rfl⟩ := List.getElem?_eq_some_iff.1 hx
  rw [List.length_take] at hi
  have := List.pairwise_iff_getElem.1 hp i k (by omega) hk (by omega)
  rw [List.getElem_take]
  exact ⟨this.1, this.2.1⟩
theorem pair_later {mg : List (Nat × Nat × Nat)} {k j : Nat} {x y : Nat × Nat × Nat} (hp : mg.Pairwise (fun x y => x.2.2 ≠ y.2.1 ∧ x.2.2 ≠ y.2.2 ∧ x.1 ≤ y.1)) (hx : mg[k]? = some x) (hy : mg[j]? = some y) (hj : k + 1 ≤ j) : x.1 ≤ y.1 := by
  obtain ⟨hk, rfl⟩ := List.getElem?_eq_some_iff.1 hx
  obtain ⟨hj2, rfl⟩ := List.getElem?_eq_some_iff.1 hy
  exact (List.pairwise_iff_getElem.1 hp k j hk hj2 (by omega)).2.2
set_option maxHeartbeats 6400000 in
theorem hyperCounts_walk (a0 a1 a2 : Option Addr) (n0 c0 n1 c1 n2 c2 : Nat) (l : List Dd) (st : List Bool) (pk : List Int) (w : World) (h0 : Seen w a0 n0 l) (h1 : SeenV w a1 n1 (bv' st)) (h2 : SeenV w a2 n2 (iv pk)) (hc : n2 ≤ c2) :
    Calls Try.prog 4 #[.agg #[.slice a0 n0 c0, .slice a1 n1 c1, .slice a2 n2 c2]] w fun e w' => e = .returned (.bool true) ∧ Below w.heap.size w w' := by
  have HS : Hid (Seen w a0 n0 l ∧ SeenV w a1 n1 (bv' st) ∧ SeenV w a2 n2 (iv pk) ∧ n2 ≤ c2) := ⟨h0, h1, h2, hc⟩
  have HL : Hid (n0 = l.length ∧ n1 = st.length ∧ n2 = pk.length) := ⟨h0.len, by have := h1.len; rwa [bv_len] at this, by have := h2.len; rwa [iv_len] at this⟩
  clear h0 h1 h2 hc
  obtain ⟨p0, hp0⟩ : ∃ p0, p0 = w.heap.size := ⟨_, rfl⟩
  have hb0 := blk_new w (.cells #[.slice a0 n0 c0, .slice a1 n1 c1, .slice a2 n2 c2] 26) p0 hp0.symm
  have hkb := (Keeps.alloc None w (.cells #[.slice a0 n0 c0, .slice a1 n1 c1, .slice a2 n2 c2] 26))
  go_enter Try.func4, Try.ntmps4
  go_upto_region 1 with fail
  rw [← hp0]
  clear hp0
  generalize (w.alloc (.cells #[.slice a0 n0 c0, .slice a1 n1 c1, .slice a2 n2 c2] 26)) = wb at *
  have HY : Hid (∀ wx, Keeps None wb wx → (Seen wx a0 n0 l ∧ SeenV wx a1 n1 (bv' st) ∧ SeenV wx a2 n2 (iv pk)) ∧ wx.cell? ⟨p0, 0, none⟩ = some (.slice a0 n0 c0) ∧ wx.cell? ⟨p0, 1, none⟩ = some (.slice a1 n1 c1) ∧ wx.cell? ⟨p0, 2, none⟩ = some (.slice a2 n2 c2)) := fun wx hx => ⟨⟨(HS.out.1.more hkb).more hx, (HS.out.2.1.more hkb).more hx, (HS.out.2.2.1.more hkb).more hx⟩, blk_cell (blk_kept hb0 hx (fun f => f)) 0, blk_cell (blk_kept hb0 hx (fun f => f)) 1, blk_cell (blk_kept hb0 hx (fun f => f)) 2⟩
  have HK : Hid (Keeps None w wb) := hkb
  clear hb0 hkb
  obtain ⟨⟨s0, s1, s2⟩, y0, y1, y2⟩ := HY.out wb (Keeps.refl _ _)
  go_wp2_with fail
  refine (right_ok a0 a1 a2 n0 c0 n1 c1 n2 c2 l st pk wb s0 HL.out.2.1 HL.out.2.2).mono ?_
  clear y0 y1 y2 s0 s1 s2
  rintro e w1 ⟨rfl, hk1⟩
  have HK1 : Hid (Keeps None wb w1) := hk1
  clear hk1
  obtain ⟨⟨s0, s1, s2⟩, y0, y1, y2⟩ := HY.out w1 HK1.out
  by_cases hE : refE l st pk = 0
  · rw [right_iff.1 hE]
    go_wp2_with fail
    refine (Play_told a0 n0 c0 l a1 n1 c1 st a2 n2 c2 pk w1 s0 s1 s2 HS.out.2.2.2).mono ?_
    clear y0 y1 y2 s0 s1 s2
    rintro e w2 ⟨fa, fc, ma, mc, la, lc, rfl, -, -, hm2, hk2⟩
    obtain ⟨hcnt, hmade⟩ := fin_counts (st := st) (pk := pk) (refE_ok hE).2.2.2
    have hml := made_le (refE_ok hE).1 st
    rw [hE]
    obtain ⟨F, hF⟩ : ∃ F, F = (finT l st pk).length := ⟨_, rfl⟩
    obtain ⟨M, hM⟩ : ∃ M, M = madeT l st pk := ⟨_, rfl⟩
    obtain ⟨mg, hG⟩ : ∃ G, G = mgT l st pk := ⟨_, rfl⟩
    obtain ⟨L, hL⟩ : ∃ L, L = (lkT l st pk).length := ⟨_, rfl⟩
    rw [← hG] at hm2
    rw [← hF, ← hM, ← hG, ← hL]
    have hM2 : M = (finPS l st pk).vs.length := by rw [hM]; unfold madeT; rw [if_pos hE]
    have hG2 : mg = (finPS l st pk).mg := by rw [hG]; unfold mgT; rw [if_pos hE]
    rw [← hM2, ← hG2] at hcnt
    rw [← hM2] at hmade
    obtain ⟨D, hD⟩ : ∃ D, D = mg.length := ⟨_, rfl⟩
    have hDM : D + 1 = M := by have := hcnt.cnt; simp at this; omega
    have hbv := blk_new w2 (.cells #[.slice fa F fc, .int .i64 M, .slice ma mg.length mc, .slice la L lc] 39) w2.heap.size rfl
    have hkv := Keeps.alloc None w2 (.cells #[.slice fa F fc, .int .i64 M, .slice ma mg.length mc, .slice la L lc] 39)
    obtain ⟨p1, hp1⟩ : ∃ p1, p1 = w2.heap.size := ⟨_, rfl⟩
    rw [← hD]
    rw [← hD] at hbv hkv
    have HC : Hid (MgOk (okAt (l.map dp)) [0] M (l.map dp).length mg ∧ M = 1 + madeL st (l.map dp) 0 [] ∧ M ≤ 4097 ∧ D + 1 = M ∧ D = mg.length ∧ l.length ≤ 4096) := ⟨hcnt, hmade, by omega, hDM, hD, (refE_ok hE).1⟩
    clear hF hM hG hL hM2 hG2 hcnt hmade hml hE hD
    go_upto_region 5 with fail
    rw [← hp1] at hbv ⊢
    clear hp1
    generalize (w2.alloc (.cells #[.slice fa F fc, .int .i64 M, .slice ma D mc, .slice la L lc] 39)) = w3 at *
    have HZ : Hid (∀ wx, Keeps None w3 wx → (wx.cell? ⟨p1, 1, none⟩ = some (.int .i64 M) ∧ wx.cell? ⟨p1, 2, none⟩ = some (.slice ma D mc) ∧ wx.cell? ⟨p0, 0, none⟩ = some (.slice a0 n0 c0) ∧ wx.cell? ⟨p0, 1, none⟩ = some (.slice a1 n1 c1) ∧ wx.cell? ⟨p0, 2, none⟩ = some (.slice a2 n2 c2)) ∧ (Seen wx a0 n0 l ∧ SeenV wx a1 n1 (bv' st)) ∧ SeenM wx ma mg ∧ Keeps None w wx) := fun wx hx => by
      have hkk := ((HK1.out.trans hk2 (fun _ f _ => f)).trans hkv (fun _ f _ => f)).trans hx (fun _ f _ => f)
      obtain ⟨⟨s0, s1, s2⟩, y0, y1, y2⟩ := HY.out wx hkk
      exact ⟨⟨blk_cell (blk_kept hbv hx (fun f => f)) 1, blk_cell (blk_kept hbv hx (fun f => f)) 2, y0, y1, y2⟩, ⟨s0, s1⟩, (hm2.more hkv).more hx, HK.out.trans hkk (fun _ f _ => f)⟩
    clear hk2 hkv hbv hm2
    have hkc : Keeps None w3 w3.drew := Keeps.drew None w3
    have hs := (HZ.out _ hkc).1
    have hwM : IntKind.i64.wrap ((M : Int) - 1) = (D : Int) := by rw [IntKind.wrap_i64]; have := HC.out.2.2.1; omega
    go_region_held3 (fun wx => wx.cell? ⟨p1, 1, none⟩ = some (.int .i64 M) ∧ wx.cell? ⟨p1, 2, none⟩ = some (.slice ma D mc) ∧ wx.cell? ⟨p0, 0, none⟩ = some (.slice a0 n0 c0) ∧ wx.cell? ⟨p0, 1, none⟩ = some (.slice a1 n1 c1) ∧ wx.cell? ⟨p0, 2, none⟩ = some (.slice a2 n2 c2)) (first | exact hs | go_keep) (first
      | (go_at_call 17; refine Calls.mono (made_ok a0 a1 a2 n0 c0 n1 c1 n2 c2 l st _ (HZ.out _ hkc).2.1.1 (HZ.out _ hkc).2.1.2 (by have := HC.out.2.2.2.2.2; have := HL.out.1; omega) M HC.out.2.1.symm) ?_; rintro _ wn ⟨rfl, hkn⟩; replace hkc := hkc.trans hkn (fun _ f _ => f); replace hs := (HZ.out _ hkc).1; clear hkn))
    all_goals
      have HZ2 := seen_far (HZ.out wn hkc)
      have HW : Hid (Keeps None w wn) := (HZ.out wn hkc).2.2.2
      obtain ⟨w6, hr6, ho6, hk6⟩ := make_bools M wn (by have := HC.out.2.2.1; omega)
      rw [goneL_zero mg M] at ho6
      obtain ⟨g7, hg7⟩ : ∃ g7, g7 = wn.heap.size := ⟨_, rfl⟩
      rw [← hg7] at ho6 hr6
      have H6 : Hid (w6.ownsRow g7 4 1 (.slice (some ⟨g7, 0, none⟩) M M) M (bv' (goneL mg 0 M)) ∧ Keeps None wn w6 ∧ g7 = wn.heap.size) := ⟨ho6, hk6, hg7⟩
      have HF : Hid _ := HZ2
      clear ho6 hk6 hg7 hkc hDM HZ HY HK HK1 HZ2
      go_wp2_with (at_make; refine wpList_make_run rfl (.tmp 55) (.tmp 55) 23 rfl rfl rfl hr6 ?_)
      clear hr6 hs
      go_loopw [8, 9, 10] (fun at_ i _ wr => ∃ k A : Nat, k ≤ D ∧ i = .int .i64 k ∧ at_ = .int .i64 A ∧ (∀ j x, k ≤ j → mg[j]? = some x → A ≤ x.1) ∧ wr.ownsRow g7 4 1 (.slice (some ⟨g7, 0, none⟩) M M) M (bv' (goneL mg k M)) ∧ Keeps (fun i => wn.heap.size ≤ i) wn wr) (fun _ i _ _ => D - (intOf i).toNat)
      case atStart => exact ⟨0, 0, Nat.zero_le _, rfl, rfl, fun _ _ _ _ => Nat.zero_le _, H6.out.1, H6.out.2.1.mono (fun _ f _ => f.elim)⟩
      case round =>
        obtain ⟨k, A, hk, rfl, rfl, hA, hrow, hkp⟩ := hrel
        obtain ⟨⟨z1, z2, z3, z4, z5⟩, hSd, hSm⟩ := HF.out wr hkp
        by_cases hkn : k < D
        · obtain ⟨x, hx⟩ : ∃ x, mg[k]? = some x := ⟨mg[k]'(by have := HC.out.2.2.2.2.1; omega), by simp⟩
          obtain ⟨gm, rfl, m0, m1, m2⟩ := hSm k x hx
          have hxm := List.mem_of_getElem? hx
          obtain ⟨e1, e2, e3, e4⟩ := HC.out.1.each x hxm
          have hpair := HC.out.1.pair
          have hgl : x.2.1 ∉ (mg.take k).map (·.2.2) := by
            intro hm
            obtain ⟨y, hy, hye⟩ := List.mem_map.1 hm
            have := pair_take hpair hx hy
            exact this.1 hye
          have hgr : x.2.2 ∉ (mg.take k).map (·.2.2) := by
            intro hm
            obtain ⟨y, hy, hye⟩ := List.mem_map.1 hm
            have := pair_take hpair hx hy
            exact this.2 hye
          obtain ⟨g8, e8, -, -, -, cl, hfr⟩ := own_cell1 hrow (k := x.2.1) (x := .bool false) (by rw [bv', List.getElem?_map, goneL_at (show x.2.1 < M by omega)]; simp only [Option.map_some]; rw [decide_eq_false hgl])
          obtain ⟨g9, e9, -, -, -, cr, -⟩ := own_cell1 hrow (k := x.2.2) (x := .bool false) (by rw [bv', List.getElem?_map, goneL_at e2]; simp only [Option.map_some]; rw [decide_eq_false hgr])
          injection e8 with e8
          injection e8 with e8
          subst e8
          injection e9 with e9
          injection e9 with e9
          subst e9
          have fr := hfr x.2.2
          have hAx := hA k x (Nat.le_refl _) hx
          have HN : Hid (((wr.alloc (.cells #[.int .i64 x.1, .int .i64 x.2.1, .int .i64 x.2.2] 43)).setCell ⟨g7, x.2.2, none⟩ (.bool true)).ownsRow g7 4 1 (.slice (some ⟨g7, 0, none⟩) M M) M (bv' (goneL mg (k + 1) M)) ∧ Keeps (fun i => wn.heap.size ≤ i) wn ((wr.alloc (.cells #[.int .i64 x.1, .int .i64 x.2.1, .int .i64 x.2.2] 43)).setCell ⟨g7, x.2.2, none⟩ (.bool true)) ∧ (∀ j y, k + 1 ≤ j → mg[j]? = some y → x.1 ≤ y.1)) := by
            refine ⟨?_, (hkp.andAlloc _).andSet (x := ⟨g7, _, none⟩) (.inr (by have := H6.out.2.2; show wn.heap.size ≤ g7; omega)) _, fun j y hj hy => pair_later hpair hx hy hj⟩
            have := row_set (hrow.alloc (.cells #[.int .i64 x.1, .int .i64 x.2.1, .int .i64 x.2.2] 43)) x.2.2 (.bool true)
            rw [← goneL_step hx]
            rwa [show (bv' (goneL mg k M)).set x.2.2 (.bool true) = bv' ((goneL mg k M).set x.2.2 true) by simp [bv']] at this
          have hln : l.length = n0 := HL.out.1.symm
          rw [List.length_map, hln] at e3
          obtain ⟨xa, xl, xr⟩ := x
          simp only at m0 m1 m2 e1 e2 e3 cl cr fr hAx HN e4
          have i1 : (k : Int) < (D : Int) := by omega
          have i2 : ¬ (xl : Int) < 0 := by omega
          have i3 : ¬ (xr : Int) ≤ (xl : Int) := by omega
          have i4 : ¬ (M : Int) ≤ (xr : Int) := by omega
          have i5 : ¬ (xa : Int) < (A : Int) := by omega
          have i6 : ¬ (n0 : Int) < (xa : Int) := by omega
          have i7 : (xl : Int) < (M : Int) := by omega
          have i8 : (xr : Int) < (M : Int) := by omega
          have i9 : (0 : Int) ≤ (xl : Int) := by omega
          have i10 : (0 : Int) ≤ (xr : Int) := by omega
          have HM5 : Hid (M ≤ 4097 ∧ D + 1 = M) := ⟨HC.out.2.2.1, HC.out.2.2.2.1⟩
          have hkA := Keeps.alloc None wr (.cells #[.int .i64 xa, .int .i64 xl, .int .i64 xr] 43)
          have z1A := hkA.cell z1 (fun f => f)
          have z2A := hkA.cell z2 (fun f => f)
          have z3A := hkA.cell z3 (fun f => f)
          have clA := hkA.cell cl (fun f => f)
          have crA := hkA.cell cr (fun f => f)
          have frA : (wr.alloc (.cells #[.int .i64 xa, .int .i64 xl, .int .i64 xr] 43)).frozen? ⟨g7, xr, none⟩ = false := by
            obtain ⟨q9, w9, -, -, -, -, hfr2⟩ := own_cell1 (hrow.alloc (.cells #[.int .i64 xa, .int .i64 xl, .int .i64 xr] 43)) (k := xr) (x := .bool false) (by rw [bv', List.getElem?_map, goneL_at e2]; simp only [Option.map_some]; rw [decide_eq_false hgr])
            injection w9 with w9
            injection w9 with w9
            subst w9
            exact hfr2 xr
          by_cases hxa : xa < n0
          · obtain ⟨y, hy, hyk⟩ := okAt_deed e4 (by omega)
            obtain ⟨b, off, y', rfl, hb9, hy', u0, u1⟩ := hSd.elem hxa
            rw [hy] at hy'
            obtain rfl := Option.some.inj hy'
            obtain ⟨yk, yl⟩ := y
            simp only at u0 hyk
            have u0A := hkA.cell u0 (fun f => f)
            have j1 : (xa : Int) < (n0 : Int) := by omega
            have j2 : (0 : Int) ≤ (xa : Int) := by omega
            have hD5 : D ≤ 5000 := by have := HM5.out; omega
            clear hA hrow hkp hSd hSm hx hxm hgl hgr hpair hfr e4 hy hy' hln hkA HF HW HC HS HL H6
            rcases hyk with rfl | rfl
            all_goals
              go_wp2
              go_roundw
              case rel => exact ⟨k + 1, xa, by omega, by go_num, rfl, HN.out.2.2, HN.out.1, HN.out.2.1⟩
              case measure => simp [intOf]; omega
          · have j1 : ¬ (xa : Int) < (n0 : Int) := by omega
            have hD5 : D ≤ 5000 := by have := HM5.out; omega
            clear hA hrow hkp hSd hSm hx hxm hgl hgr hpair hfr e4 hln hkA HF HW HC HS HL H6
            go_wp2
            go_roundw
            case rel => exact ⟨k + 1, xa, by omega, by go_num, rfl, HN.out.2.2, HN.out.1, HN.out.2.1⟩
            case measure => simp [intOf]; omega
        · have i1 : ¬ (k : Int) < (D : Int) := by omega
          have HE : Hid (Below w.heap.size w wr) := ((HW.out.mono (T := fun i => w.heap.size ≤ i) (fun _ f _ => f.elim)).trans hkp (fun i e _ => by have := HW.out.size; have h2 : wn.heap.size ≤ i := e; show w.heap.size ≤ i; omega)).below _ (Nat.le_refl _) (fun _ e => e)
          clear hA hrow hkp hSd hSm
          go_wp2
          go_ret
          exact ⟨rfl, HE.out⟩
  · rw [right_iff.2 hE]
    go_wp2_with fail
    refine (Play_told a0 n0 c0 l a1 n1 c1 st a2 n2 c2 pk w1 s0 s1 s2 HS.out.2.2.2).mono ?_
    clear y0 y1 y2 s0 s1 s2
    rintro e w2 ⟨fa, fc, ma, mc, la, lc, rfl, -, -, -, hk2⟩
    obtain ⟨E, hEE⟩ : ∃ E, E = refE l st pk := ⟨_, rfl⟩
    rw [← hEE]
    rw [← hEE] at hE
    have hE2 : (E != 0) = true := by simp [hE]
    have hkk := (HK.out.trans HK1.out (fun _ f _ => f)).trans hk2 (fun _ f _ => f)
    have HE : Hid (∀ o : Obj, Below w.heap.size w (w2.alloc o)) := fun o => (hkk.andAlloc o).below _ (Nat.le_refl _) (fun _ f => f.elim)
    clear hk2 hkk hEE
    go_wp2
    go_ret
    exact ⟨rfl, HE.out _⟩
end Go.Proofs.Ytdiabpoafennlaa
/-! A play of numbers, in memory. -/
namespace Go.Proofs.Ytdiabpoafennlaa.Nm
set_option linter.unusedVariables false
set_option maxRecDepth 20000
set_option linter.unusedSimpArgs false
open Go.RowKit Go.HeapKit Go.PlainOps

theorem PM.start {w : World} {K0 : NP} {base pb : Nat} {st : List Bool} {pk : List Int} {sa pa : Option Addr} {sc pc : Nat} (hb : w.heap[pb]? = some (.cells #[.func (.func 48) #[] #[.pointer (some ⟨K0.pu, 0, none⟩)], .func (.func 46) #[] #[.pointer (some ⟨K0.pa, 0, none⟩)], .func (.func 46) #[] #[.pointer (some ⟨K0.pa, 0, none⟩)], .func (.func 49) #[] #[],
    .slice sa st.length sc, .slice pa pk.length pc, .slice none 0 0, .slice none 0 0, .int .i64 0, .slice none 0 0, .slice none 0 0] 76 (0, 0))) (hl : base ≤ pb) (hA : Ar w base sa pa pc st pk K0) :
    PM w base pb st ⟨sa, sc, pa, pc, none, 0, none, 0, none, 0, none, 0⟩ K0 (fun _ => .slice none 0 0) (fun _ => .slice none 0 0) ⟨[], [], pk, 0, [], []⟩ := by
  exact ⟨hb, hl, ⟨row_nil _ _ _ _, row_nil _ _ _ _, fun b n c m d e => by simp [Value.ownBlock] at e⟩, ⟨row_nil _ _ _ _, fun i hi => by simp at hi, fun i j b hi => by simp at hi⟩, hA, row_nil _ _ _ _⟩
/-- The root begins. -/
theorem PM.firstTask {w w1 : World} {base pb : Nat} {st : List Bool} {X : PX} {K : NP} {H R : Nat → Value} {s : PS} (h : PM w base pb st X K H R s) (hs : s.tk = []) {x : Nat × List Nat} {V : Value} {g : Nat} (hk : Keeps None w w1) (hV : w1.ownsRow base 3 1 V x.2.length (nv x.2)) (hT : w1.ownsRow base 84 2 (.slice (some ⟨g, 0, none⟩) 1 1) 1 [.int .i64 x.1, V]) :
    PM (w1.setCell ⟨pb, 7, none⟩ (.slice (some ⟨g, 0, none⟩) 1 1)) base pb st { X with ta := some ⟨g, 0, none⟩, tc := 1 } K (fun _ => V) (fun _ => V) { s with tk := [x] } := by
  have h1 := h.more hk
  refine PM.put (c := cells X st K s) h1.blk h.low (by simp [cells]) h1.vw ⟨?_, ?_, ?_⟩ h1.ar h1.mg
  · show w1.ownsRow base 84 2 (.slice (some ⟨g, 0, none⟩) 1 1) 1 ((List.range (1 * 2)).map (tkF [x] (fun _ => V)))
    have e : (List.range (1 * 2)).map (tkF [x] (fun _ => V)) = [.int .i64 x.1, V] := by simp [List.range_succ, tkF]
    rw [e]
    exact hT
  · intro i hi
    have hi0 : i = 0 := by have : i < [x].length := hi; simpa using this
    subst hi0
    exact hV
  · intro i j b hi hj hij
    have h1 : i < [x].length := hi
    have h2 : j < [x].length := hj
    simp at h1 h2
    omega
set_option maxHeartbeats 6400000 in
theorem play_ok (K0 : NP) (a : Option Addr) (n c : Nat) (l : List Dd) (sa : Option Addr) (sc : Nat) (st : List Bool) (pa : Option Addr) (pc : Nat) (pk : List Int) (w : World) (hS : Seen w a n l) (hT : SeenV w sa st.length (bv' st)) (hP : SeenV w pa pk.length (iv pk)) (hpc : pk.length ≤ pc) (hn : n ≤ 4096) (hst : st.length ≤ 4096) (hc : chkL l 0 0 = none) (hu : hasU K0.op = true) (hf : Fits (putsL (l.map dp))) (hb1 : w.cell? ⟨K0.pa, 0, none⟩ = some (.int .i64 K0.op)) (hb2 : w.cell? ⟨K0.pu, 0, none⟩ = some (.int .i64 (unitV K0.op))) :
    Calls Try.prog 29 #[.agg #[.func (.func 48) #[] #[.pointer (some ⟨K0.pu, 0, none⟩)], .func (.func 46) #[] #[.pointer (some ⟨K0.pa, 0, none⟩)], .func (.func 46) #[] #[.pointer (some ⟨K0.pa, 0, none⟩)], .func (.func 49) #[] #[]], .slice a n c, .slice sa st.length sc, .slice pa pk.length pc] w fun e w' =>
      ∃ pb X R, e = .returned (.pointer (some ⟨pb, 0, none⟩)) ∧ PM w' w.heap.size pb st X K0 R R ⟨(endMS listK st (l.map dp) pk).vs, [], (endMS listK st (l.map dp) pk).pk, (endHS listK st (l.map dp) pk).spn, (endMS listK st (l.map dp) pk).mg, (endHS listK st (l.map dp) pk).lk⟩ ∧ Keeps None w w' := by
  have HSS : Hid (Seen w a n l ∧ SeenV w sa st.length (bv' st) ∧ SeenV w pa pk.length (iv pk) ∧ pk.length ≤ pc ∧ n = l.length ∧ chkL l 0 0 = none) := ⟨hS, hT, hP, hpc, hS.len, hc⟩
  have HU : Hid (hasU K0.op = true ∧ Fits (putsL (l.map dp))) := ⟨hu, hf⟩
  have HBX : Hid (w.cell? ⟨K0.pa, 0, none⟩ = some (.int .i64 K0.op) ∧ w.cell? ⟨K0.pu, 0, none⟩ = some (.int .i64 (unitV K0.op)) ∧ K0.pa < w.heap.size ∧ K0.pu < w.heap.size) := ⟨hb1, hb2, cell_lt hb1, cell_lt hb2⟩
  clear hS hT hP hpc hc hu hf hb1 hb2
  go_enter Try.func29, Try.ntmps29
  go_upto_region 2 with fail
  obtain ⟨B, hB⟩ : ∃ B, B = w.heap.size := ⟨_, rfl⟩
  have hk0 := (Keeps.alloc None w (.cells #[.func (.func 48) #[] #[.pointer (some ⟨K0.pu, 0, none⟩)], .func (.func 46) #[] #[.pointer (some ⟨K0.pa, 0, none⟩)], .func (.func 46) #[] #[.pointer (some ⟨K0.pa, 0, none⟩)], .func (.func 49) #[] #[]] 74)).andAlloc (.cells #[.func (.func 48) #[] #[.pointer (some ⟨K0.pu, 0, none⟩)], .func (.func 46) #[] #[.pointer (some ⟨K0.pa, 0, none⟩)], .func (.func 46) #[] #[.pointer (some ⟨K0.pa, 0, none⟩)], .func (.func 49) #[] #[], .slice sa st.length sc, .slice pa pk.length pc, .slice none 0 0, .slice none 0 0, .int .i64 0, .slice none 0 0, .slice none 0 0] 76)
  have hb0 := blk_new (w.alloc (.cells #[.func (.func 48) #[] #[.pointer (some ⟨K0.pu, 0, none⟩)], .func (.func 46) #[] #[.pointer (some ⟨K0.pa, 0, none⟩)], .func (.func 46) #[] #[.pointer (some ⟨K0.pa, 0, none⟩)], .func (.func 49) #[] #[]] 74)) (.cells #[.func (.func 48) #[] #[.pointer (some ⟨K0.pu, 0, none⟩)], .func (.func 46) #[] #[.pointer (some ⟨K0.pa, 0, none⟩)], .func (.func 46) #[] #[.pointer (some ⟨K0.pa, 0, none⟩)], .func (.func 49) #[] #[], .slice sa st.length sc, .slice pa pk.length pc, .slice none 0 0, .slice none 0 0, .int .i64 0, .slice none 0 0, .slice none 0 0] 76) (B + 1) (by simp; omega)
  rw [← hB]
  have HB : Hid (B = w.heap.size) := hB
  generalize (w.alloc (.cells #[.func (.func 48) #[] #[.pointer (some ⟨K0.pu, 0, none⟩)], .func (.func 46) #[] #[.pointer (some ⟨K0.pa, 0, none⟩)], .func (.func 46) #[] #[.pointer (some ⟨K0.pa, 0, none⟩)], .func (.func 49) #[] #[]] 74)).alloc (.cells #[.func (.func 48) #[] #[.pointer (some ⟨K0.pu, 0, none⟩)], .func (.func 46) #[] #[.pointer (some ⟨K0.pa, 0, none⟩)], .func (.func 46) #[] #[.pointer (some ⟨K0.pa, 0, none⟩)], .func (.func 49) #[] #[], .slice sa st.length sc, .slice pa pk.length pc, .slice none 0 0, .slice none 0 0, .int .i64 0, .slice none 0 0, .slice none 0 0] 76) = wb at *
  have HP0 : Hid (PM wb B (B + 1) st ⟨sa, sc, pa, pc, none, 0, none, 0, none, 0, none, 0⟩ K0 (fun _ => .slice none 0 0) (fun _ => .slice none 0 0) ⟨[], [], pk, 0, [], []⟩ ∧ Keeps (fun i => B ≤ i) w wb) := by
    refine ⟨PM.start hb0 (by omega) ⟨⟨HSS.out.2.1.more hk0, HSS.out.2.2.1.more hk0, fun b e h0 => ?_, fun b e h0 => ?_, HSS.out.2.2.2.1⟩, hk0.cell HBX.out.1 (fun f => f), hk0.cell HBX.out.2.1 (fun f => f), by have := HBX.out.2.2.1; omega, by have := HBX.out.2.2.2; omega⟩, hk0.mono (fun _ f _ => f.elim)⟩
    · obtain ⟨b', off, e', hlt, _⟩ := HSS.out.2.1.ex h0
      rw [e'] at e
      simp [blockOf] at e
      omega
    · obtain ⟨b', off, e', hlt, _⟩ := HSS.out.2.2.1.ex h0
      rw [e'] at e
      simp [blockOf] at e
      omega
  clear hb0 hk0 hB
  go_wp2_with fail
  refine (newView_ok B (B + 1) st _ _ _ _ _ wb HP0.out.1 HP0.out.1.sizeLe (by simp)).mono ?_
  rintro e w2 ⟨rfl, ⟨X2, hM2, hta2⟩, hk2⟩
  have hd2 := (Keeps.alloc None w2 (.cells #[.int .i64 (0 : Nat)] 3)).andAlloc (.cells #[.int .i64 (0 : Nat), .slice (some ⟨w2.heap.size, 0, none⟩) 1 1] 84)
  have ho1 := (own_one (w := w2) (base := B) 0 hM2.sizeLe).alloc (.cells #[.int .i64 (0 : Nat), .slice (some ⟨w2.heap.size, 0, none⟩) 1 1] 84)
  have ho2 := own_task (w := w2.alloc (.cells #[.int .i64 (0 : Nat)] 3)) (base := B) 0 (.slice (some ⟨w2.heap.size, 0, none⟩) 1 1) (by have := hM2.sizeLe; simp; omega)
  have hM3 := hM2.firstTask rfl (x := (0, [0])) hd2 ho1 ho2
  have f7 := (hM2.more hd2).free 7
  have z7 := (hM2.more hd2).c0.2.2.2.2.2.2.2.1
  rw [show (w2.alloc (.cells #[.int .i64 (0 : Nat)] 3)).heap.size = w2.heap.size + 1 by simp] at hM3
  simp only [Int.ofNat_zero, List.length_nil] at hM3 f7 z7 ⊢
  have hkw := (HP0.out.2.trans hk2 (fun i e _ => e)).trans hd2 (fun _ f _ => f.elim)
  simp only [Int.ofNat_zero] at hkw
  have HM3 : Hid _ := hM3
  have HKW : Hid _ := hkw
  clear hM3 hkw ho1 ho2 hd2 hk2 hM2 hta2
  go_wp2_with fail
  have HM4 : Hid ((∃ X R, PM (((w2.alloc (.cells #[.int .i64 0] 3)).alloc (.cells #[.int .i64 0, .slice (some ⟨w2.heap.size, 0, none⟩) 1 1] 84)).setCell ⟨B + 1, 7, none⟩ (.slice (some ⟨w2.heap.size + 1, 0, none⟩) 1 1)) B (B + 1) st X K0 R R (psS (HS.start listK pk))) ∧ Keeps (fun i => B ≤ i) w (((w2.alloc (.cells #[.int .i64 0] 3)).alloc (.cells #[.int .i64 0, .slice (some ⟨w2.heap.size, 0, none⟩) 1 1] 84)).setCell ⟨B + 1, 7, none⟩ (.slice (some ⟨w2.heap.size + 1, 0, none⟩) 1 1))) := ⟨⟨_, _, HM3.out⟩, HKW.out.andSet (x := ⟨B + 1, 7, none⟩) (.inl (by show B ≤ B + 1; omega)) _⟩
  generalize ((w2.alloc (.cells #[.int .i64 0] 3)).alloc (.cells #[.int .i64 0, .slice (some ⟨w2.heap.size, 0, none⟩) 1 1] 84)).setCell ⟨B + 1, 7, none⟩ (.slice (some ⟨w2.heap.size + 1, 0, none⟩) 1 1) = w4 at *
  clear f7 z7 HM3 HKW HP0
  go_loopw [10, 11, 27] (fun _ _ i wr => ∃ (k d : Nat) (s : HS (List Int)) (P : List Int) (X : PX) (R : Nat → Value), k ≤ n ∧ i = .int .i64 k ∧ PM wr B (B + 1) st X K0 R R (psS s) ∧ Okd k d P s ∧ s.run listK st ((l.drop k).map dp) k = endHS listK st (l.map dp) pk ∧ chkL (l.drop k) k d = none ∧ P ++ putsL ((l.drop k).map dp) = putsL (l.map dp) ∧ Keeps (fun i => B ≤ i) w wr) (fun _ _ i _ => n - (intOf i).toNat)
  case atStart =>
    obtain ⟨⟨X, R, h1⟩, h2⟩ := HM4.out
    exact ⟨0, 0, HS.start listK pk, [], X, R, Nat.zero_le _, rfl, h1, okd_start pk, rfl, HSS.out.2.2.2.2.2, rfl, h2⟩
  case round =>
    clear HM4
    obtain ⟨k, d, s, P, X, R, hk, rfl, hM, hok, hrun, hchk, hput, hkp⟩ := hrel
    have hlen := HSS.out.2.2.2.2.1
    by_cases hkn : k < n
    · have hBw : w.heap.size ≤ B := by have := HB.out; omega
      obtain ⟨b, off, x, rfl, hb, hx, u0, u1⟩ := (HSS.out.1.below (hkp.mono (fun i e _ => e)) hBw).elem hkn
      obtain ⟨hbad, hchk2⟩ := chkL_ok hx hchk
      obtain ⟨hkk, hkd⟩ := badK_ok hbad
      have hi2 : (k : Int) < (n : Int) := by omega
      have HM : Hid (PM wr B (B + 1) st X K0 R R (psS s) ∧ Okd k d P s ∧ Keeps (fun i => B ≤ i) w wr) := ⟨hM, hok, hkp⟩
      have HN : Hid ((s.deed listK st k x.k x.loc).run listK st ((l.drop (k + 1)).map dp) (k + 1) = endHS listK st (l.map dp) pk ∧ chkL (l.drop (k + 1)) (k + 1) (nxtK x.k d) = none ∧ (P ++ if x.k = 4 then [x.loc] else []) ++ putsL ((l.drop (k + 1)).map dp) = putsL (l.map dp) ∧ (x.k = 0 ∨ x.k = 1 ∨ x.k = 2 ∨ x.k = 3 ∨ x.k = 4) ∧ ¬ (x.k = 1 ∧ d = 0)) := by
        refine ⟨by rw [← run_step hx]; exact hrun, hchk2, ?_, hkk, hkd⟩
        rw [← hput]
        obtain ⟨h1, h2⟩ := List.getElem?_eq_some_iff.1 hx
        conv => rhs; rw [List.drop_eq_getElem_cons h1, h2]
        rw [List.map_cons, putsL_cons, List.append_assoc]
        rfl
      clear hM hok hrun hchk hput hkp hlen hbad hchk2 hkk hkd hx hBw
      obtain ⟨xk, xl⟩ := x
      go_wp2_with fail
      have hkA := Keeps.alloc None wr (.cells #[.int .i64 xk, .int .i64 xl] 45)
      refine (do_any B (B + 1) k d st X K0 R s P _ xk xl (HM.out.1.more hkA) HM.out.2.1 (by omega) hst HN.out.2.2.2.1 HN.out.2.2.2.2 HU.out.1 (fun y hy => HU.out.2 y (by rw [← HN.out.2.2.1]; exact List.mem_append_left _ (List.mem_append_left _ hy)))).mono ?_
      rintro e w5 ⟨rfl, ⟨X5, R5, hM5⟩, hk5⟩
      have HE : Hid (PM w5 B (B + 1) st X5 K0 R5 R5 (psS (s.deed listK st k xk xl)) ∧ Okd (k + 1) (nxtK xk d) (P ++ if xk = 4 then [xl] else []) (s.deed listK st k xk xl) ∧ Keeps (fun i => B ≤ i) w w5) := ⟨hM5, HM.out.2.1.deed st xk xl HN.out.2.2.2.1 HN.out.2.2.2.2, (HM.out.2.2.andAlloc _).trans hk5 (fun i e _ => e)⟩
      clear hM5 hk5 hkA
      go_wp2_with fail
      exact ⟨⟨k + 1, nxtK xk d, _, _, X5, R5, by omega, by go_num, HE.out.1, HE.out.2.1, HN.out.1, HN.out.2.1, HN.out.2.2.1, HE.out.2.2⟩, by simp [intOf]; omega⟩
    · have hkn2 : k = n := by omega
      subst hkn2
      have hi2 : ¬ (k : Int) < (k : Int) := by omega
      rw [List.drop_eq_nil_of_le (by omega)] at hrun hput
      have hs : s = endHS listK st (l.map dp) pk := hrun
      have hPP : P = putsL (l.map dp) := by rw [← hput]; simp [putsL]
      have HFP : Hid (Fits P) := by have h := HU.out.2; rw [← hPP] at h; exact h
      have HM : Hid (PM wr B (B + 1) st X K0 R R (psS s) ∧ Okd k d P s ∧ Keeps (fun i => B ≤ i) w wr ∧ s = endHS listK st (l.map dp) pk ∧ k = l.length ∧ P.length ≤ 4096) := ⟨hM, hok, hkp, hs, hlen, by have := hok.np; omega⟩
      obtain ⟨tb, hta, -, -, -, -, -, -⟩ := hM.cur (tk := s.ini.reverse) (x := (s.sp, s.m.row)) rfl
      have q7 : wr.cell? ⟨B + 1, 7, none⟩ = some (.slice X.ta (s.ini.reverse ++ [(s.sp, s.m.row)]).length X.tc) := hM.c0.2.2.2.2.2.2.2.1
      have hT : (s.ini.reverse ++ [(s.sp, s.m.row)]).length = s.ini.length + 1 := by simp
      rw [hT] at q7
      obtain ⟨T, hTT⟩ : ∃ T, T = s.ini.length + 1 := ⟨_, rfl⟩
      rw [← hTT] at q7
      have HTT : Hid (T = s.ini.length + 1 ∧ T ≤ 5000) := ⟨hTT, by have := hok.ni; have := hok.nd; omega⟩
      clear hM hok hrun hchk hput hkp hlen hs hPP hta hT hTT
      go_wp2_with fail
      clear q7
      go_loopw [42] (fun i wq => ∃ (j : Nat) (X : PX) (R : Nat → Value) (tk : List (Nat × List Nat)) (m : MS (List Int)), i = .int .i64 j ∧ j + tk.length = T ∧ PM wq B (B + 1) st X K0 R R ⟨m.vs, tk, m.pk, s.spn, m.mg, s.lk⟩ ∧ Keeps (fun i => B ≤ i) w wq ∧ ((∃ sp ini, tk = ini.reverse ++ [(sp, m.row)] ∧ Left k P ini m ∧ MS.ends listK k ini m = endMS listK st (l.map dp) pk) ∨ (tk = [] ∧ m = endMS listK st (l.map dp) pk))) (fun i _ => T - (intOf i).toNat)
      case atStart =>
        refine ⟨0, X, R, s.ini.reverse ++ [(s.sp, s.m.row)], s.m, rfl, by simp [HTT.out.1], HM.out.1, HM.out.2.2.1, .inl ⟨s.sp, s.ini, rfl, ⟨HM.out.2.1.inv.lk, HM.out.2.1.inv.line, HM.out.2.1.ct.ct, by have := HM.out.2.1.nv; omega⟩, ?_⟩⟩
        unfold endMS
        rw [← HM.out.2.2.2.1, List.length_map, ← HM.out.2.2.2.2.1]
      case round =>
        obtain ⟨j, X6, R6, tk, m, rfl, hjT, hM6, hk6, hcase⟩ := hrel
        have HEnd : Hid ((endHS listK st (l.map dp) pk).spn = s.spn ∧ (endHS listK st (l.map dp) pk).lk = s.lk) := by
          have h := HM.out.2.2.2.1
          exact ⟨by rw [← h], by rw [← h]⟩
        rcases hcase with ⟨sp, ini, rfl, hL, hends⟩ | ⟨rfl, rfl⟩
        · have hj : j < T := by rw [← hjT]; simp
          have hi5 : (j : Int) < (T : Int) := by omega
          obtain ⟨r1, r2⟩ := hL.rows
          have H6 : Hid (PM wr B (B + 1) st X6 K0 R6 R6 (psOf (psS s) ini.reverse sp m) ∧ Keeps (fun i => B ≤ i) w wr ∧ Left k P ini m ∧ MS.ends listK k ini m = endMS listK st (l.map dp) pk ∧ j + (ini.length + 1) = T) := ⟨hM6, hk6, hL, hends, by rw [← hjT]; simp⟩
          have hin : ini.length ≤ 5000 := by have := H6.out.2.2.2.2; have := HTT.out.2; omega
          clear hM6 hk6 hL hends hjT
          go_wp2_with fail
          refine (merge_ok B (B + 1) k st X6 K0 R6 (psS s) wr ini.reverse sp m (preL ini) P H6.out.1 H6.out.1.sizeLe H6.out.2.2.1.line (by have := HM.out.2.2.2.2.2; omega) r2 (by omega) (by simp; omega) (by omega) HU.out.1 HFP.out).mono ?_
          rintro e w6 ⟨rfl, ⟨X7, R7, hM7⟩, hk7⟩
          have H7 : Hid (PM w6 B (B + 1) st X7 K0 R7 R7 (psOf (psS s) ini.reverse sp (m.all listK k)) ∧ Keeps (fun i => B ≤ i) w w6) := ⟨hM7, H6.out.2.1.trans hk7 (fun i e _ => e)⟩
          clear hM7 hk7
          go_wp2_with fail
          refine (end_ok B (B + 1) st X7 K0 R7 R7 _ w6 ini.reverse (sp, (m.all listK k).row) H7.out.1 rfl (by simp; omega)).mono ?_
          rintro e w7 ⟨rfl, hM8, hk8⟩
          have HE : Hid (∃ (X : PX) (R : Nat → Value) (tk : List (Nat × List Nat)) (m : MS (List Int)), j + 1 + tk.length = T ∧ PM w7 B (B + 1) st X K0 R R ⟨m.vs, tk, m.pk, s.spn, m.mg, s.lk⟩ ∧ Keeps (fun i => B ≤ i) w w7 ∧ ((∃ sp ini, tk = ini.reverse ++ [(sp, m.row)] ∧ Left k P ini m ∧ MS.ends listK k ini m = endMS listK st (l.map dp) pk) ∨ (tk = [] ∧ m = endMS listK st (l.map dp) pk))) := by
            have hkk : Keeps (fun i => B ≤ i) w w7 := H7.out.2.trans hk8 (fun i e _ => by omega)
            have hj5 := H6.out.2.2.2.2
            cases ini with
            | nil => exact ⟨X7, R7, [], m.all listK k, by simp at hj5 ⊢; omega, hM8, hkk, .inr ⟨rfl, H6.out.2.2.2.1⟩⟩
            | cons t ini =>
              refine ⟨X7, R7, ini.reverse ++ [(t.1, t.2)], { m.all listK k with row := t.2 }, by simp at hj5 ⊢; omega, ?_, hkk, .inl ⟨t.1, ini, rfl, H6.out.2.2.1.next, H6.out.2.2.2.1⟩⟩
              have e5 : (t :: ini).reverse = ini.reverse ++ [(t.1, t.2)] := by rw [List.reverse_cons]
              rw [e5] at hM8
              exact hM8
          clear hM8 hk8
          have hT5 := HTT.out.2
          go_wp2_with fail
          obtain ⟨X9, R9, tk9, m9, h9⟩ := HE.out
          exact ⟨⟨j + 1, X9, R9, tk9, m9, by go_num, h9⟩, by simp [intOf]; omega⟩
        · have hj : j = T := by rw [← hjT]; simp
          subst hj
          have hi5 : ¬ (j : Int) < (j : Int) := by omega
          have HE : Hid (PM wr B (B + 1) st X6 K0 R6 R6 ⟨(endMS listK st (l.map dp) pk).vs, [], (endMS listK st (l.map dp) pk).pk, (endHS listK st (l.map dp) pk).spn, (endMS listK st (l.map dp) pk).mg, (endHS listK st (l.map dp) pk).lk⟩ ∧ Keeps None w wr) := by
            refine ⟨by rw [HEnd.out.1, HEnd.out.2]; exact hM6, hk6.mono (fun i e hi => by have h1 := HB.out; have h2 : B ≤ i := e; omega)⟩
          clear hM6 hk6 hjT
          go_wp2_with fail
          go_ret
          rw [← HB.out]
          exact ⟨B + 1, rfl, ⟨X6, R6, HE.out.1⟩, HE.out.2⟩
end Go.Proofs.Ytdiabpoafennlaa.Nm
