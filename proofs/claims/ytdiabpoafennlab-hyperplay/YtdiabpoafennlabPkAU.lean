import Derived.Test.YtdiabpoafennlabPkAT
/-! The walk of HyperPlay. -/
namespace Go.Proofs.Ytdiabpoafennlab.Rn
set_option linter.unusedVariables false
set_option maxRecDepth 20000
set_option linter.unusedSimpArgs false
open Go.RowKit Go.HeapKit Go.PlainOps

theorem fits_okD {l : List Dd} (h : ∀ i ∈ l, okD i) : Fits (l.map Dd.loc) := fun x hx => by
  obtain ⟨d, hd, rfl⟩ := List.mem_map.1 hx
  exact (h d hd).2
set_option maxHeartbeats 3200000 in
theorem hyperPlay_walk (a0 a1 a2 : Option Addr) (n0 c0 n1 c1 n2 c2 : Nat) (l : List Dd) (st : List Bool) (pk : List Int) (w : World) (h0 : Seen w a0 n0 l) (h1 : SeenV w a1 n1 (bv' st)) (h2 : SeenV w a2 n2 (iv pk)) (hpc : n2 ≤ c2) (hD : ∀ i ∈ l, okD i) (s0 : n0 * 16 ≤ 140737488351232) (s1 : n1 ≤ 140737488351232) (s2 : n2 * 8 ≤ 140737488351232) :
    Calls Try.prog 3 #[.agg #[.slice a0 n0 c0, .slice a1 n1 c1, .slice a2 n2 c2]] w fun e w' => e = .returned (.bool true) ∧ Below w.heap.size w w' := by
  have HS : Hid (Seen w a0 n0 l ∧ SeenV w a1 n1 (bv' st) ∧ SeenV w a2 n2 (iv pk) ∧ n2 ≤ c2 ∧ Fits (l.map Dd.loc)) := ⟨h0, h1, h2, hpc, fits_okD hD⟩
  have HL : Hid (n0 = l.length) := h0.len
  clear h0 h1 h2 hpc hD
  obtain ⟨p0, hp0⟩ : ∃ p0, p0 = w.heap.size := ⟨_, rfl⟩
  have hb0 := blk_new w (.cells #[.slice a0 n0 c0, .slice a1 n1 c1, .slice a2 n2 c2] 26) p0 hp0.symm
  have hkb := (Keeps.alloc None w (.cells #[.slice a0 n0 c0, .slice a1 n1 c1, .slice a2 n2 c2] 26))
  go_enter Try.func3, Try.ntmps3
  go_upto_region 1 with fail
  rw [← hp0]
  generalize (w.alloc (.cells #[.slice a0 n0 c0, .slice a1 n1 c1, .slice a2 n2 c2] 26)) = wb at *
  have y0 : wb.cell? ⟨p0, 0, none⟩ = some (.slice a0 n0 c0) := (blk_cell hb0 0).trans rfl
  have y1 : wb.cell? ⟨p0, 1, none⟩ = some (.slice a1 n1 c1) := (blk_cell hb0 1).trans rfl
  have y2 : wb.cell? ⟨p0, 2, none⟩ = some (.slice a2 n2 c2) := (blk_cell hb0 2).trans rfl
  have HY : Hid (∀ wx, Keeps None wb wx → wx.cell? ⟨p0, 0, none⟩ = some (.slice a0 n0 c0) ∧ wx.cell? ⟨p0, 1, none⟩ = some (.slice a1 n1 c1) ∧ wx.cell? ⟨p0, 2, none⟩ = some (.slice a2 n2 c2) ∧ Seen wx a0 n0 l ∧ SeenV wx a1 n1 (bv' st) ∧ SeenV wx a2 n2 (iv pk)) := fun wx hx =>
    ⟨hx.cell y0 (fun f => f), hx.cell y1 (fun f => f), hx.cell y2 (fun f => f), (HS.out.1.more hkb).more hx, (HS.out.2.1.more hkb).more hx, (HS.out.2.2.1.more hkb).more hx⟩
  have HK : Hid (Keeps None w wb) := hkb
  clear hb0 hkb hp0
  go_wp2_with fail
  refine (copied_ok a0 a1 a2 n0 c0 n1 c1 n2 c2 l st pk wb (HY.out wb (Keeps.refl _ _)).2.2.2.1 (HY.out wb (Keeps.refl _ _)).2.2.2.2.1 (HY.out wb (Keeps.refl _ _)).2.2.2.2.2 s0 s1 s2).mono ?_
  rintro e w1 ⟨v0, v1, v2, rfl, hT, hk1⟩
  obtain ⟨b0, d0, rfl⟩ := row_shape hT.r0
  obtain ⟨b1, d1, rfl⟩ := row_shape hT.r1
  obtain ⟨b2, d2, rfl⟩ := row_shape hT.r2
  clear y0 y1 y2
  obtain ⟨p1, hp1⟩ : ∃ p1, p1 = w1.heap.size := ⟨_, rfl⟩
  have hc1 := blk_new w1 (.cells #[.slice b0 n0 d0, .slice b1 n1 d1, .slice b2 n2 d2] 26) p1 hp1.symm
  have hkc := (Keeps.alloc None w1 (.cells #[.slice b0 n0 d0, .slice b1 n1 d1, .slice b2 n2 d2] 26))
  go_upto_region 2 with fail
  rw [← hp1]
  generalize (w1.alloc (.cells #[.slice b0 n0 d0, .slice b1 n1 d1, .slice b2 n2 d2] 26)) = wc at *
  have hkq : Keeps None wb wc := hk1.trans hkc (fun _ f _ => f)
  have HC : Hid (wc.heap[p1]? = some (.cells #[.slice b0 n0 d0, .slice b1 n1 d1, .slice b2 n2 d2] 26 (0, 0))) := hc1
  have HT : Hid (Tri wc wb.heap.size (.slice b0 n0 d0) (.slice b1 n1 d1) (.slice b2 n2 d2) n0 n1 n2 l st pk ∧ Keeps None wb wc) := ⟨hT.more hkc, hkq⟩
  obtain ⟨y0, y1, y2, -, -, -⟩ := HY.out wc hkq
  clear hc1 hT hkc hk1 hkq hp1
  go_wp2_with fail
  refine (Play_told a0 n0 c0 l a1 n1 c1 st a2 n2 c2 pk wc (HY.out wc HT.out.2).2.2.2.1 (HY.out wc HT.out.2).2.2.2.2.1 (HY.out wc HT.out.2).2.2.2.2.2 HS.out.2.2.2.1).mono ?_
  rintro e w2 ⟨fa, fc, ma, mc, la, lc, rfl, hf1, hl1, hm1, hk2⟩
  obtain ⟨NF, hNF⟩ : ∃ N, N = (finT l st pk).length := ⟨_, rfl⟩
  obtain ⟨NG, hNG⟩ : ∃ N, N = (mgT l st pk).length := ⟨_, rfl⟩
  obtain ⟨NL, hNL⟩ : ∃ N, N = (lkT l st pk).length := ⟨_, rfl⟩
  obtain ⟨NM, hNM⟩ : ∃ N, N = madeT l st pk := ⟨_, rfl⟩
  obtain ⟨E, hE⟩ : ∃ E, E = refE l st pk := ⟨_, rfl⟩
  have HN : Hid (NF = (finT l st pk).length ∧ NG = (mgT l st pk).length ∧ NL = (lkT l st pk).length ∧ NM = madeT l st pk ∧ E = refE l st pk) := ⟨hNF, hNG, hNL, hNM, hE⟩
  have HV : Hid (Ans w2 (finT l st pk) NM (mgT l st pk) (lkT l st pk) fa ma la ∧ Keeps None wc w2) := ⟨⟨hf1, hl1, hm1⟩, hk2⟩
  rw [← hNF, ← hNG, ← hNL, ← hNM, ← hE]
  obtain ⟨p2, hp2⟩ : ∃ p2, p2 = w2.heap.size := ⟨_, rfl⟩
  have hb2 := blk_new w2 (.cells #[.slice fa NF fc, .int .i64 NM, .slice ma NG mc, .slice la NL lc] 32) p2 hp2.symm
  have hkd := (Keeps.alloc None w2 (.cells #[.slice fa NF fc, .int .i64 NM, .slice ma NG mc, .slice la NL lc] 32))
  clear hf1 hl1 hm1 hk2 y0 y1 y2 hNF hNG hNL hNM hE
  go_upto_region 3 with fail
  rw [← hp2]
  generalize (w2.alloc (.cells #[.slice fa NF fc, .int .i64 NM, .slice ma NG mc, .slice la NL lc] 32)) = w3 at *
  have HV3 : Hid (Ans w3 (finT l st pk) NM (mgT l st pk) (lkT l st pk) fa ma la ∧ Keeps None wc w3 ∧ w3.heap[p2]? = some (.cells #[.slice fa NF fc, .int .i64 NM, .slice ma NG mc, .slice la NL lc] 32 (0, 0))) := ⟨HV.out.1.more hkd, HV.out.2.trans hkd (fun _ f _ => f), hb2⟩
  have hC3 := blk_kept HC.out HV3.out.2.1 (fun f => f)
  have z0 : w3.cell? ⟨p1, 0, none⟩ = some (.slice b0 n0 d0) := (blk_cell hC3 0).trans rfl
  have z1 : w3.cell? ⟨p1, 1, none⟩ = some (.slice b1 n1 d1) := (blk_cell hC3 1).trans rfl
  have z2 : w3.cell? ⟨p1, 2, none⟩ = some (.slice b2 n2 d2) := (blk_cell hC3 2).trans rfl
  clear hb2 hkd hp2 HV hC3
  go_wp2_with fail
  refine (RPlay_told b0 n0 d0 l b1 n1 d1 st b2 n2 d2 pk w3 ((HT.out.1.more HV3.out.2.1).seen HL.out) (own_seen1 (HT.out.1.more HV3.out.2.1).r1) (own_seen1 (HT.out.1.more HV3.out.2.1).r2) HS.out.2.2.2.2).mono ?_
  rintro e w4 ⟨fb, gc, mb, md, lb, ld, rfl, hf2, hl2, hm2, hk4⟩
  rw [← HN.out.1, ← HN.out.2.1, ← HN.out.2.2.1, ← HN.out.2.2.2.1, ← HN.out.2.2.2.2]
  obtain ⟨p4, hp4⟩ : ∃ p4, p4 = w4.heap.size := ⟨_, rfl⟩
  have hb4 := blk_new w4 (.cells #[.slice fb NF gc, .int .i64 NM, .slice mb NG md, .slice lb NL ld] 32) p4 hp4.symm
  have hkd := (Keeps.alloc None w4 (.cells #[.slice fb NF gc, .int .i64 NM, .slice mb NG md, .slice lb NL ld] 32))
  have HW : Hid (Ans w4 (finT l st pk) NM (mgT l st pk) (lkT l st pk) fb mb lb ∧ Keeps None w3 w4) := ⟨⟨hf2, hl2, hm2⟩, hk4⟩
  clear hf2 hl2 hm2 hk4 z0 z1 z2
  go_upto_region 4 with fail
  rw [← hp4]
  generalize (w4.alloc (.cells #[.slice fb NF gc, .int .i64 NM, .slice mb NG md, .slice lb NL ld] 32)) = w5 at *
  have k35 : Keeps None w3 w5 := HW.out.2.trans hkd (fun _ f _ => f)
  have H5 : Hid (Ans w5 (finT l st pk) NM (mgT l st pk) (lkT l st pk) fa ma la ∧ Ans w5 (finT l st pk) NM (mgT l st pk) (lkT l st pk) fb mb lb ∧ Keeps None wc w5 ∧ w5.heap[p2]? = some (.cells #[.slice fa NF fc, .int .i64 NM, .slice ma NG mc, .slice la NL lc] 32 (0, 0)) ∧ w5.heap[p4]? = some (.cells #[.slice fb NF gc, .int .i64 NM, .slice mb NG md, .slice lb NL ld] 32 (0, 0))) :=
    ⟨HV3.out.1.more k35, HW.out.1.more hkd, HV3.out.2.1.trans k35 (fun _ f _ => f), blk_kept HV3.out.2.2 k35 (fun f => f), hb4⟩
  have HX : Hid (∀ wx, Keeps None w5 wx → (wx.cell? ⟨p2, 0, none⟩ = some (.slice fa NF fc) ∧ wx.cell? ⟨p2, 1, none⟩ = some (.int .i64 NM) ∧ wx.cell? ⟨p2, 2, none⟩ = some (.slice ma NG mc) ∧ wx.cell? ⟨p2, 3, none⟩ = some (.slice la NL lc)) ∧ (wx.cell? ⟨p4, 0, none⟩ = some (.slice fb NF gc) ∧ wx.cell? ⟨p4, 1, none⟩ = some (.int .i64 NM) ∧ wx.cell? ⟨p4, 2, none⟩ = some (.slice mb NG md) ∧ wx.cell? ⟨p4, 3, none⟩ = some (.slice lb NL ld)) ∧
      (wx.cell? ⟨p1, 0, none⟩ = some (.slice b0 n0 d0) ∧ wx.cell? ⟨p1, 1, none⟩ = some (.slice b1 n1 d1) ∧ wx.cell? ⟨p1, 2, none⟩ = some (.slice b2 n2 d2)) ∧ (wx.cell? ⟨p0, 0, none⟩ = some (.slice a0 n0 c0) ∧ wx.cell? ⟨p0, 1, none⟩ = some (.slice a1 n1 c1) ∧ wx.cell? ⟨p0, 2, none⟩ = some (.slice a2 n2 c2))) := fun wx hx => by
    have e2 := blk_kept H5.out.2.2.2.1 hx (fun f => f)
    have e4 := blk_kept H5.out.2.2.2.2 hx (fun f => f)
    have ec := blk_kept HC.out (H5.out.2.2.1.trans hx (fun _ f _ => f)) (fun f => f)
    have ey := HY.out wx (HT.out.2.trans (H5.out.2.2.1.trans hx (fun _ f _ => f)) (fun _ f _ => f))
    exact ⟨⟨(blk_cell e2 0).trans rfl, (blk_cell e2 1).trans rfl, (blk_cell e2 2).trans rfl, (blk_cell e2 3).trans rfl⟩, ⟨(blk_cell e4 0).trans rfl, (blk_cell e4 1).trans rfl, (blk_cell e4 2).trans rfl, (blk_cell e4 3).trans rfl⟩, ⟨(blk_cell ec 0).trans rfl, (blk_cell ec 1).trans rfl, (blk_cell ec 2).trans rfl⟩, ⟨ey.1, ey.2.1, ey.2.2.1⟩⟩
  clear hkd hp4 HW hb4 k35 HV3
  obtain ⟨⟨x0, x1, x2, x3⟩, ⟨x4, x5, x6, x7⟩, ⟨x8, x9, x10⟩, x11, x12, x13⟩ := HX.out w5 (Keeps.refl _ _)
  go_wp2_with fail
  clear x0 x1 x2 x3 x4 x5 x6 x7 x8 x9 x10 x11 x12 x13
  refine (sameViews_ok (finT l st pk) NM (mgT l st pk) (lkT l st pk) fa ma la fb mb lb NF NG NL fc mc lc gc md ld w5 H5.out.1 H5.out.2.1 HN.out.1 HN.out.2.1 HN.out.2.2.1 (by rw [HN.out.1]; exact finT_len l st pk) (by rw [HN.out.2.1]; exact mgT_len l st pk) (by rw [HN.out.2.2.1]; exact (lkT_len l st pk).1) (lkT_len l st pk).2).mono ?_
  rintro e w6 ⟨rfl, hk6⟩
  have HW6 : Hid (Keeps None w5 w6 ∧ Keeps None wc w6) := ⟨hk6, H5.out.2.2.1.trans hk6 (fun _ f _ => f)⟩
  obtain ⟨⟨x0, x1, x2, x3⟩, ⟨x4, x5, x6, x7⟩, ⟨x8, x9, x10⟩, x11, x12, x13⟩ := HX.out w6 hk6
  clear hk6 x0 x1 x2 x3 x4 x5 x6 x7
  go_wp2_with fail
  clear x8 x9 x10 x11 x12 x13
  refine (same_ok a0 a1 a2 b0 b1 b2 n0 c0 n1 c1 n2 c2 d0 d1 d2 l st pk w6 (HY.out w6 (HT.out.2.trans HW6.out.2 (fun _ f _ => f))).2.2.2.1 (HY.out w6 (HT.out.2.trans HW6.out.2 (fun _ f _ => f))).2.2.2.2.1 (HY.out w6 (HT.out.2.trans HW6.out.2 (fun _ f _ => f))).2.2.2.2.2 ((HT.out.1.more HW6.out.2).seen HL.out) (own_seen1 (HT.out.1.more HW6.out.2).r1) (own_seen1 (HT.out.1.more HW6.out.2).r2) s0 s1 s2).mono ?_
  rintro e w7 ⟨rfl, hk7⟩
  have HE : Hid (Below w.heap.size w w7) := (((HK.out.trans HT.out.2 (fun _ f _ => f)).trans HW6.out.2 (fun _ f _ => f)).trans hk7 (fun _ f _ => f)).below _ (Nat.le_refl _) (fun _ f => f.elim)
  clear hk7
  go_wp2
  go_ret
  exact ⟨rfl, HE.out⟩
end Go.Proofs.Ytdiabpoafennlab.Rn
