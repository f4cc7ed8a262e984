import Derived.Test.YtdiabpoafennlabPkAX
import Derived.Deep.CutBlock
/-! The walk of HyperFresh. -/
namespace Go.Proofs.Ytdiabpoafennlab.Rn
set_option linter.unusedVariables false
set_option maxRecDepth 20000
set_option linter.unusedSimpArgs false
open Go.RowKit Go.HeapKit Go.PlainOps

theorem own_cap2 {w : World} {B : Nat} {e : TypeId} {z : Nat} {a : Option Addr} {n c : Nat} {xs : List Value} (h : w.ownsRow B e z (.slice a n c) n xs) : n ≤ c := by
  rcases h.2 with ⟨e1, h0⟩ | ⟨g, cap, cur, e1, hb, hg, hnc, hcm, hcs, ht⟩
  · omega
  · injection e1 with e1 e2 e3
    omega
theorem flip_fits2 {l : List Dd} (h : Fits (l.map Dd.loc)) : Fits ((l.map flipD).map Dd.loc) := fun x hx => by
  obtain ⟨d, hd, rfl⟩ := List.mem_map.1 hx
  obtain ⟨y, hy, rfl⟩ := List.mem_map.1 hd
  exact workV_fits 7 y.loc 1 (by decide) (h y.loc (List.mem_map.2 ⟨y, hy, rfl⟩)) (by decide)
theorem fits_putsD2 {l : List Dd} (h : Fits (l.map Dd.loc)) : Fits (putsD l) := fun x hx => by
  obtain ⟨d, hd, rfl⟩ := List.mem_map.1 hx
  exact h _ (List.mem_map.2 ⟨d, (List.mem_filter.1 hd).1, rfl⟩)
/-- The lists with room: what is read of them. -/
theorem roomy_seen {w : World} {B0 B1 B2 r0 r1 r2 m0 m1 m2 q0 q1 q2 n0 n1 n2 : Nat} {l : List Dd} {st : List Bool} {pk : List Int} (h0 : w.ownsRow B0 44 2 (.slice (some ⟨r0, 0, none⟩) m0 q0) m0 (ddVals (l ++ [⟨-77, 0⟩]))) (h1 : w.ownsRow B1 4 1 (.slice (some ⟨r1, 0, none⟩) m1 q1) m1 (bv' (st ++ [true]))) (h2 : w.ownsRow B2 3 1 (.slice (some ⟨r2, 0, none⟩) m2 q2) m2 (iv (pk ++ [79])))
    (e0 : m0 = n0 + 1) (e1 : m1 = n1 + 1) (e2 : m2 = n2 + 1) (l0 : n0 = l.length) (l1 : n1 = st.length) (l2 : n2 = pk.length) :
    (Seen w (some ⟨r0, 0, none⟩) n0 l ∧ SeenV w (some ⟨r1, 0, none⟩) n1 (bv' st) ∧ SeenV w (some ⟨r2, 0, none⟩) n2 (iv pk)) ∧ (w.cell? ⟨r0, n0 * 2, none⟩ = some (.int .i64 (-77)) ∧ w.cell? ⟨r1, n1, none⟩ = some (.bool true) ∧ w.cell? ⟨r2, n2, none⟩ = some (.int .i64 79)) ∧ n0 ≤ q0 ∧ n1 ≤ q1 ∧ n2 ≤ q2 := by
  have c0 : (ddVals (l ++ [⟨-77, 0⟩]))[n0 * 2]? = some (.int .i64 (-77)) := ddVals_at (l ++ [⟨-77, 0⟩]) n0 ⟨-77, 0⟩ (by rw [l0]; simp) 0 _ rfl
  have c1 : (bv' (st ++ [true]))[n1]? = some (.bool true) := by rw [l1]; simp [bv']
  have c2 : (iv (pk ++ [79]))[n2]? = some (.int .i64 79) := by rw [l2]; simp [iv]
  obtain ⟨g, e, -, -, k0, d0, -⟩ := own_cellS h0 c0
  injection e with e
  injection e with e
  subst e
  obtain ⟨g, e, -, -, k1, d1, -⟩ := own_cellS h1 c1
  injection e with e
  injection e with e
  subst e
  obtain ⟨g, e, -, -, k2, d2, -⟩ := own_cellS h2 c2
  injection e with e
  injection e with e
  subst e
  rw [ddVals_append] at h0
  rw [show bv' (st ++ [true]) = bv' st ++ bv' [true] by simp [bv']] at h1
  rw [iv_app] at h2
  refine ⟨⟨Seen.of_row l0 (own_fst h0 (by rw [ddVals_length, l0]) (by omega)), own_seen1 (own_fst h1 (by rw [bv_len]; omega) (by omega)), own_seen1 (own_fst h2 (by rw [iv_len]; omega) (by omega))⟩, ⟨d0, d1, d2⟩, by omega, by omega, by omega⟩
set_option maxHeartbeats 12800000 in
theorem hyperFresh_walk (a0 a1 a2 : Option Addr) (n0 c0 n1 c1 n2 c2 : Nat) (l : List Dd) (st : List Bool) (pk : List Int) (w : World) (h0 : Seen w a0 n0 l) (h1 : SeenV w a1 n1 (bv' st)) (h2 : SeenV w a2 n2 (iv pk)) (hpc : n2 ≤ c2) (hD : ∀ i ∈ l, okD i) (s0 : n0 * 16 ≤ 140737488351232) (s1 : n1 ≤ 140737488351232) (s2 : n2 * 8 ≤ 140737488351232) :
    Calls Try.prog 5 #[.agg #[.slice a0 n0 c0, .slice a1 n1 c1, .slice a2 n2 c2]] w fun e w' => e = .returned (.bool true) ∧ Below w.heap.size w w' := by
  have HS : Hid (Seen w a0 n0 l ∧ SeenV w a1 n1 (bv' st) ∧ SeenV w a2 n2 (iv pk) ∧ n2 ≤ c2 ∧ Fits (l.map Dd.loc)) := ⟨h0, h1, h2, hpc, fits_okD hD⟩
  have HL : Hid (n0 = l.length) := h0.len
  have HL2 : Hid (n1 = st.length ∧ n2 = pk.length) := ⟨by have := h1.len; rwa [bv_len] at this, by have := h2.len; rwa [iv_len] at this⟩
  clear h0 h1 h2 hpc hD
  obtain ⟨p0, hp0⟩ : ∃ p0, p0 = w.heap.size := ⟨_, rfl⟩
  have hb0 := blk_new w (.cells #[.slice a0 n0 c0, .slice a1 n1 c1, .slice a2 n2 c2] 26) p0 hp0.symm
  have hkb := (Keeps.alloc None w (.cells #[.slice a0 n0 c0, .slice a1 n1 c1, .slice a2 n2 c2] 26))
  go_enter Try.func5, Try.ntmps5
  go_upto_region 1 with fail
  rw [← hp0]
  generalize (w.alloc (.cells #[.slice a0 n0 c0, .slice a1 n1 c1, .slice a2 n2 c2] 26)) = wb at *
  have y0 : wb.cell? ⟨p0, 0, none⟩ = some (.slice a0 n0 c0) := (blk_cell hb0 0).trans rfl
  have y1 : wb.cell? ⟨p0, 1, none⟩ = some (.slice a1 n1 c1) := (blk_cell hb0 1).trans rfl
  have y2 : wb.cell? ⟨p0, 2, none⟩ = some (.slice a2 n2 c2) := (blk_cell hb0 2).trans rfl
  have HY : Hid (∀ wx, Keeps None wb wx → wx.cell? ⟨p0, 0, none⟩ = some (.slice a0 n0 c0) ∧ wx.cell? ⟨p0, 1, none⟩ = some (.slice a1 n1 c1) ∧ wx.cell? ⟨p0, 2, none⟩ = some (.slice a2 n2 c2) ∧ Seen wx a0 n0 l ∧ SeenV wx a1 n1 (bv' st) ∧ SeenV wx a2 n2 (iv pk)) := fun wx hx =>
    ⟨hx.cell y0 (fun f => f), hx.cell y1 (fun f => f), hx.cell y2 (fun f => f), (HS.out.1.more hkb).more hx, (HS.out.2.1.more hkb).more hx, (HS.out.2.2.1.more hkb).more hx⟩
  have HK : Hid (Keeps None w wb) := hkb
  clear hb0 hkb hp0
  go_wp2_with fail
  refine (copied_ok a0 a1 a2 n0 c0 n1 c1 n2 c2 l st pk wb (HY.out wb (Keeps.refl _ _)).2.2.2.1 (HY.out wb (Keeps.refl _ _)).2.2.2.2.1 (HY.out wb (Keeps.refl _ _)).2.2.2.2.2 s0 s1 s2).mono ?_
  rintro e w1 ⟨v0, v1, v2, rfl, hT, hk1⟩
  obtain ⟨b0, d0, rfl⟩ := row_shape hT.r0
  obtain ⟨b1, d1, rfl⟩ := row_shape hT.r1
  obtain ⟨b2, d2, rfl⟩ := row_shape hT.r2
  clear y0 y1 y2
  obtain ⟨p1, hp1⟩ : ∃ p1, p1 = w1.heap.size := ⟨_, rfl⟩
  have hc1 := blk_new w1 (.cells #[.slice b0 n0 d0, .slice b1 n1 d1, .slice b2 n2 d2] 26) p1 hp1.symm
  have hkc := (Keeps.alloc None w1 (.cells #[.slice b0 n0 d0, .slice b1 n1 d1, .slice b2 n2 d2] 26))
  go_upto_region 2 with fail
  rw [← hp1]
  generalize (w1.alloc (.cells #[.slice b0 n0 d0, .slice b1 n1 d1, .slice b2 n2 d2] 26)) = wc at *
  have hkq : Keeps None wb wc := hk1.trans hkc (fun _ f _ => f)
  have HC : Hid (wc.heap[p1]? = some (.cells #[.slice b0 n0 d0, .slice b1 n1 d1, .slice b2 n2 d2] 26 (0, 0))) := hc1
  have HT : Hid (Tri wc wb.heap.size (.slice b0 n0 d0) (.slice b1 n1 d1) (.slice b2 n2 d2) n0 n1 n2 l st pk ∧ Keeps None wb wc) := ⟨hT.more hkc, hkq⟩
  obtain ⟨y0, y1, y2, -, -, -⟩ := HY.out wc hkq
  clear hc1 hT hkc hk1 hkq hp1
  go_wp2_with fail
  refine (Play_fam a0 n0 c0 l a1 n1 c1 st a2 n2 c2 pk wc (HY.out wc HT.out.2).2.2.2.1 (HY.out wc HT.out.2).2.2.2.2.1 (HY.out wc HT.out.2).2.2.2.2.2 HS.out.2.2.2.1).mono ?_
  rintro e w2 ⟨fa, fc, ma, mc, la, lc, BB, Q, rfl, hak, hvm, hB1, hB2, hk2⟩
  obtain ⟨NF, hNF⟩ : ∃ N, N = (finT l st pk).length := ⟨_, rfl⟩
  obtain ⟨NG, hNG⟩ : ∃ N, N = (mgT l st pk).length := ⟨_, rfl⟩
  obtain ⟨NL, hNL⟩ : ∃ N, N = (lkT l st pk).length := ⟨_, rfl⟩
  obtain ⟨NM, hNM⟩ : ∃ N, N = madeT l st pk := ⟨_, rfl⟩
  obtain ⟨E, hE⟩ : ∃ E, E = refE l st pk := ⟨_, rfl⟩
  have HN : Hid (NF = (finT l st pk).length ∧ NG = (mgT l st pk).length ∧ NL = (lkT l st pk).length ∧ NM = madeT l st pk ∧ E = refE l st pk) := ⟨hNF, hNG, hNL, hNM, hE⟩
  have HV : Hid (AnsK w2 wc.heap.size (finT l st pk) NM (mgT l st pk) (lkT l st pk) fa ma la ∧ Keeps None wc w2 ∧ VM w2 BB w2.heap.size fa fc la lc Q (zT l st pk) NL ∧ wc.heap.size ≤ BB ∧ BB ≤ w2.heap.size) := ⟨by rw [hNM]; exact hak, hk2, by rw [hNL]; exact hvm, hB1, hB2⟩
  rw [← hNF, ← hNG, ← hNL, ← hNM, ← hE]
  obtain ⟨p2, hp2⟩ : ∃ p2, p2 = w2.heap.size := ⟨_, rfl⟩
  have hb2 := blk_new w2 (.cells #[.slice fa NF fc, .int .i64 NM, .slice ma NG mc, .slice la NL lc] 32) p2 hp2.symm
  have hkd := (Keeps.alloc None w2 (.cells #[.slice fa NF fc, .int .i64 NM, .slice ma NG mc, .slice la NL lc] 32))
  clear hak hvm hB1 hB2 hk2 y0 y1 y2 hNF hNG hNL hNM hE
  go_upto_region 3 with fail
  rw [← hp2]
  generalize (w2.alloc (.cells #[.slice fa NF fc, .int .i64 NM, .slice ma NG mc, .slice la NL lc] 32)) = w3 at *
  have HV3 : Hid (Ans w3 (finT l st pk) NM (mgT l st pk) (lkT l st pk) fa ma la ∧ Keeps None wc w3 ∧ w3.heap[p2]? = some (.cells #[.slice fa NF fc, .int .i64 NM, .slice ma NG mc, .slice la NL lc] 32 (0, 0))) := ⟨HV.out.1.now.more hkd, HV.out.2.1.trans hkd (fun _ f _ => f), hb2⟩
  have hC3 := blk_kept HC.out HV3.out.2.1 (fun f => f)
  have z0 : w3.cell? ⟨p1, 0, none⟩ = some (.slice b0 n0 d0) := (blk_cell hC3 0).trans rfl
  have z1 : w3.cell? ⟨p1, 1, none⟩ = some (.slice b1 n1 d1) := (blk_cell hC3 1).trans rfl
  have z2 : w3.cell? ⟨p1, 2, none⟩ = some (.slice b2 n2 d2) := (blk_cell hC3 2).trans rfl
  have HP2 : Hid (p2 = w2.heap.size ∧ Keeps None w2 w3) := ⟨hp2, hkd⟩
  clear hb2 hkd hp2 hC3
  go_wp2_with fail
  refine (RPlay_fam b0 n0 d0 l b1 n1 d1 st b2 n2 d2 pk w3 ((HT.out.1.more HV3.out.2.1).seen HL.out) (own_seen1 (HT.out.1.more HV3.out.2.1).r1) (own_seen1 (HT.out.1.more HV3.out.2.1).r2) HS.out.2.2.2.2).mono ?_
  rintro e w4 ⟨fb, gc, mb, md, lb, ld, rfl, hak, hk4⟩
  rw [← HN.out.1, ← HN.out.2.1, ← HN.out.2.2.1, ← HN.out.2.2.2.1, ← HN.out.2.2.2.2]
  obtain ⟨p4, hp4⟩ : ∃ p4, p4 = w4.heap.size := ⟨_, rfl⟩
  have hb4 := blk_new w4 (.cells #[.slice fb NF gc, .int .i64 NM, .slice mb NG md, .slice lb NL ld] 32) p4 hp4.symm
  have hkd := (Keeps.alloc None w4 (.cells #[.slice fb NF gc, .int .i64 NM, .slice mb NG md, .slice lb NL ld] 32))
  have HW : Hid (AnsK w4 w3.heap.size (finT l st pk) NM (mgT l st pk) (lkT l st pk) fb mb lb ∧ Keeps None w3 w4) := ⟨by rw [HN.out.2.2.2.1]; exact hak, hk4⟩
  clear hak hk4 z0 z1 z2
  go_upto_region 4 with fail
  rw [← hp4]
  generalize (w4.alloc (.cells #[.slice fb NF gc, .int .i64 NM, .slice mb NG md, .slice lb NL ld] 32)) = w5 at *
  have k35 : Keeps None w3 w5 := HW.out.2.trans hkd (fun _ f _ => f)
  have H5 : Hid (Ans w5 (finT l st pk) NM (mgT l st pk) (lkT l st pk) fa ma la ∧ Ans w5 (finT l st pk) NM (mgT l st pk) (lkT l st pk) fb mb lb ∧ Keeps None wc w5 ∧ w5.heap[p2]? = some (.cells #[.slice fa NF fc, .int .i64 NM, .slice ma NG mc, .slice la NL lc] 32 (0, 0)) ∧ w5.heap[p4]? = some (.cells #[.slice fb NF gc, .int .i64 NM, .slice mb NG md, .slice lb NL ld] 32 (0, 0))) :=
    ⟨HV3.out.1.more k35, HW.out.1.now.more hkd, HV3.out.2.1.trans k35 (fun _ f _ => f), blk_kept HV3.out.2.2 k35 (fun f => f), hb4⟩
  have HX : Hid (∀ wx, Keeps None w5 wx → (wx.cell? ⟨p2, 0, none⟩ = some (.slice fa NF fc) ∧ wx.cell? ⟨p2, 1, none⟩ = some (.int .i64 NM) ∧ wx.cell? ⟨p2, 2, none⟩ = some (.slice ma NG mc) ∧ wx.cell? ⟨p2, 3, none⟩ = some (.slice la NL lc)) ∧ (wx.cell? ⟨p4, 0, none⟩ = some (.slice fb NF gc) ∧ wx.cell? ⟨p4, 1, none⟩ = some (.int .i64 NM) ∧ wx.cell? ⟨p4, 2, none⟩ = some (.slice mb NG md) ∧ wx.cell? ⟨p4, 3, none⟩ = some (.slice lb NL ld)) ∧
      (wx.cell? ⟨p1, 0, none⟩ = some (.slice b0 n0 d0) ∧ wx.cell? ⟨p1, 1, none⟩ = some (.slice b1 n1 d1) ∧ wx.cell? ⟨p1, 2, none⟩ = some (.slice b2 n2 d2)) ∧ (wx.cell? ⟨p0, 0, none⟩ = some (.slice a0 n0 c0) ∧ wx.cell? ⟨p0, 1, none⟩ = some (.slice a1 n1 c1) ∧ wx.cell? ⟨p0, 2, none⟩ = some (.slice a2 n2 c2))) := fun wx hx => by
    have e2 := blk_kept H5.out.2.2.2.1 hx (fun f => f)
    have e4 := blk_kept H5.out.2.2.2.2 hx (fun f => f)
    have ec := blk_kept HC.out (H5.out.2.2.1.trans hx (fun _ f _ => f)) (fun f => f)
    have ey := HY.out wx (HT.out.2.trans (H5.out.2.2.1.trans hx (fun _ f _ => f)) (fun _ f _ => f))
    exact ⟨⟨(blk_cell e2 0).trans rfl, (blk_cell e2 1).trans rfl, (blk_cell e2 2).trans rfl, (blk_cell e2 3).trans rfl⟩, ⟨(blk_cell e4 0).trans rfl, (blk_cell e4 1).trans rfl, (blk_cell e4 2).trans rfl, (blk_cell e4 3).trans rfl⟩, ⟨(blk_cell ec 0).trans rfl, (blk_cell ec 1).trans rfl, (blk_cell ec 2).trans rfl⟩, ⟨ey.1, ey.2.1, ey.2.2.1⟩⟩
  have HP4 : Hid (p4 = w4.heap.size ∧ Keeps None w4 w5 ∧ Keeps None w3 w5) := ⟨hp4, hkd, k35⟩
  clear hkd hp4 hb4 k35 HV3
  obtain ⟨⟨x0, x1, x2, x3⟩, ⟨x4, x5, x6, x7⟩, ⟨x8, x9, x10⟩, x11, x12, x13⟩ := HX.out w5 (Keeps.refl _ _)
  go_wp2_with fail
  clear x0 x1 x2 x3 x4 x5 x6 x7 x8 x9 x10 x11 x12 x13
  refine (sameViews_ok (finT l st pk) NM (mgT l st pk) (lkT l st pk) fa ma la fb mb lb NF NG NL fc mc lc gc md ld w5 H5.out.1 H5.out.2.1 HN.out.1 HN.out.2.1 HN.out.2.2.1 (by rw [HN.out.1]; exact finT_len l st pk) (by rw [HN.out.2.1]; exact mgT_len l st pk) (by rw [HN.out.2.2.1]; exact (lkT_len l st pk).1) (lkT_len l st pk).2).mono ?_
  rintro e w6 ⟨rfl, hk6⟩
  have HW6 : Hid (Keeps None w5 w6 ∧ Keeps None wc w6) := ⟨hk6, H5.out.2.2.1.trans hk6 (fun _ f _ => f)⟩
  obtain ⟨⟨x0, x1, x2, x3⟩, ⟨x4, x5, x6, x7⟩, ⟨x8, x9, x10⟩, x11, x12, x13⟩ := HX.out w6 hk6
  clear hk6 x0 x1 x2 x3 x4 x5 x6 x7
  -- lists with room behind their ends
  have hG6 := HY.out w6 (HT.out.2.trans HW6.out.2 (fun _ f _ => f))
  obtain ⟨rx0, rc0, u1, r0, q0, u2, hr1, hr2, ho2, kk1, kk2⟩ := roomy_deeds w6 a0 n0 c0 l hG6.2.2.2.1 s0
  have hG7 := HY.out u2 ((HT.out.2.trans HW6.out.2 (fun _ f _ => f)).trans kk2 (fun _ f _ => f))
  obtain ⟨rx1, rc1, u3, r1, q1, u4, hr3, hr4, ho4, kk3, kk4⟩ := roomy_bools u2 a1 n1 c1 st hG7.2.2.2.2.1 s1
  have hG8 := HY.out u4 (((HT.out.2.trans HW6.out.2 (fun _ f _ => f)).trans kk2 (fun _ f _ => f)).trans kk4 (fun _ f _ => f))
  obtain ⟨rx2, rc2, u5, r2, q2, u6, hr5, hr6, ho6, kk5, kk6⟩ := roomy_ints u4 a2 n2 c2 pk hG8.2.2.2.2.2 s2
  have kA1 := (Keeps.alloc None w6 (.cells #[] 44)).cell x11 (fun f => f)
  have kA2 := (Keeps.alloc None u2 (.cells #[] 4)).cell (kk2.cell x12 (fun f => f)) (fun f => f)
  have kA3 := (Keeps.alloc None u4 (.cells #[] 3)).cell (kk4.cell (kk2.cell x13 (fun f => f)) (fun f => f)) (fun f => f)
  obtain ⟨m0, hm0⟩ : ∃ m, m = n0 + 1 := ⟨_, rfl⟩
  obtain ⟨m1, hm1⟩ : ∃ m, m = n1 + 1 := ⟨_, rfl⟩
  obtain ⟨m2, hm2⟩ : ∃ m, m = n2 + 1 := ⟨_, rfl⟩
  rw [← hm0] at hr2 ho2
  rw [← hm1] at hr4 ho4
  rw [← hm2] at hr6 ho6
  have hRS := roomy_seen (row_kept (row_kept ho2 kk4 (fun _ _ f => f)) kk6 (fun _ _ f => f)) (row_kept ho4 kk6 (fun _ _ f => f)) ho6 hm0 hm1 hm2 HL.out HL2.out.1 HL2.out.2
  have H6 : Hid (Keeps None w6 u6 ∧ (Seen u6 (some ⟨r0, 0, none⟩) n0 l ∧ SeenV u6 (some ⟨r1, 0, none⟩) n1 (bv' st) ∧ SeenV u6 (some ⟨r2, 0, none⟩) n2 (iv pk)) ∧ (u6.cell? ⟨r0, n0 * 2, none⟩ = some (.int .i64 (-77)) ∧ u6.cell? ⟨r1, n1, none⟩ = some (.bool true) ∧ u6.cell? ⟨r2, n2, none⟩ = some (.int .i64 79)) ∧ n2 ≤ q2) :=
    ⟨(kk2.trans kk4 (fun _ f _ => f)).trans kk6 (fun _ f _ => f), hRS.1, hRS.2.1, hRS.2.2.2.2⟩
  have j0 : (n0 : Int) ≤ (q0 : Int) := by have := hRS.2.2.1; omega
  have j1 : (n1 : Int) ≤ (q1 : Int) := by have := hRS.2.2.2.1; omega
  have j2 : (n2 : Int) ≤ (q2 : Int) := by have := hRS.2.2.2.2; omega
  have j3 : (n0 : Int) < (m0 : Int) := by omega
  have j4 : (n1 : Int) < (m1 : Int) := by omega
  have j5 : (n2 : Int) < (m2 : Int) := by omega
  clear hRS hm0 hm1 hm2
  clear hG6 hG7 hG8 ho2 ho4 ho6 kk1 kk2 kk3 kk4 kk5 kk6 x8 x9 x10 x12 x13
  go_upto_region 6 with fail
  clear x11
  go_upto_region 7 with (first | (at_builtin; refine wpList_append_run rfl (.tmp 62) (.tmp 64) 22 22 rfl rfl rfl hr1 ?_) | (at_builtin; refine wpList_append_run rfl (.tmp 65) (.tmp 67) 22 22 rfl rfl rfl hr2 ?_))
  clear hr1 hr2 kA1
  go_upto_region 8 with (first | (at_builtin; refine wpList_append_run rfl (.tmp 69) (.tmp 71) 23 23 rfl rfl rfl hr3 ?_) | (at_builtin; refine wpList_append_run rfl (.tmp 72) (.tmp 73) 23 23 rfl rfl rfl hr4 ?_))
  clear hr3 hr4 kA2
  go_upto_region 9 with (first | (at_builtin; refine wpList_append_run rfl (.tmp 75) (.tmp 77) 24 24 rfl rfl rfl hr5 ?_) | (at_builtin; refine wpList_append_run rfl (.tmp 78) (.tmp 79) 24 24 rfl rfl rfl hr6 ?_))
  clear hr5 hr6 kA3
  -- asked with them
  have HP6 : Hid (Keeps None wc u6) := HW6.out.2.trans H6.out.1 (fun _ f _ => f)
  have HP0 : Hid (∀ wx, Keeps None u6 wx → wx.cell? ⟨p0, 0, none⟩ = some (.slice a0 n0 c0) ∧ wx.cell? ⟨p0, 1, none⟩ = some (.slice a1 n1 c1) ∧ wx.cell? ⟨p0, 2, none⟩ = some (.slice a2 n2 c2)) := fun wx hx => by
    have := HY.out wx ((HT.out.2.trans HP6.out (fun _ f _ => f)).trans hx (fun _ f _ => f))
    exact ⟨this.1, this.2.1, this.2.2.1⟩
  have hs := HP0.out u6.drew (Keeps.drew None u6)
  go_region_held3 (fun wx => wx.cell? ⟨p0, 0, none⟩ = some (.slice a0 n0 c0) ∧ wx.cell? ⟨p0, 1, none⟩ = some (.slice a1 n1 c1) ∧ wx.cell? ⟨p0, 2, none⟩ = some (.slice a2 n2 c2)) (first | with_reducible exact hs2 | exact hs | go_keep) (first
    | (go_at_call 7; refine Calls.mono (Play_told (some ⟨r0, 0, none⟩) n0 q0 l (some ⟨r1, 0, none⟩) n1 q1 st (some ⟨r2, 0, none⟩) n2 q2 pk _ (H6.out.2.1.1.more (Keeps.drew None u6)) (H6.out.2.1.2.1.more (Keeps.drew None u6)) (H6.out.2.1.2.2.more (Keeps.drew None u6)) H6.out.2.2.2) ?_; rintro _ w9 ⟨_, _, _, _, _, _, rfl, -, -, -, hk9⟩; have hkd := (Keeps.drew None u6).trans hk9 (fun _ f _ => f); have hs2 := HP0.out w9 hkd))
  all_goals
    have H9 : Hid (Keeps None u6 w9) := hkd
    clear hs hs2 hk9 hkd
    go_upto_region 10 with fail
    have hs := HP0.out w9.drew (H9.out.trans (Keeps.drew None w9) (fun _ f _ => f))
    have HF9 : Hid (Seen w9.drew (some ⟨r0, 0, none⟩) n0 l ∧ SeenV w9.drew (some ⟨r1, 0, none⟩) n1 (bv' st) ∧ SeenV w9.drew (some ⟨r2, 0, none⟩) n2 (iv pk)) := by
      have hk := H9.out.trans (Keeps.drew None w9) (fun _ f _ => f)
      exact ⟨H6.out.2.1.1.more hk, H6.out.2.1.2.1.more hk, H6.out.2.1.2.2.more hk⟩
    go_region_held3 (fun wx => wx.cell? ⟨p0, 0, none⟩ = some (.slice a0 n0 c0) ∧ wx.cell? ⟨p0, 1, none⟩ = some (.slice a1 n1 c1) ∧ wx.cell? ⟨p0, 2, none⟩ = some (.slice a2 n2 c2)) (first | with_reducible exact hs2 | exact hs | go_keep) (first
      | (go_at_call 11; refine Calls.mono (Nm.Fold_ok 0 (some ⟨r0, 0, none⟩) n0 q0 l (some ⟨r1, 0, none⟩) n1 q1 st (some ⟨r2, 0, none⟩) n2 q2 pk _ HF9.out.1 HF9.out.2.1 HF9.out.2.2 H6.out.2.2.2 (fits_putsD2 HS.out.2.2.2.2)) ?_; rintro _ w10 ⟨rfl, hk10⟩; have hkd := (H9.out.trans (Keeps.drew None w9) (fun _ f _ => f)).trans hk10 (fun _ f _ => f); have hs2 := HP0.out w10 hkd))
    all_goals
      have H10 : Hid (Keeps None u6 w10) := hkd
      obtain ⟨x11, x12, x13⟩ := hs2
      clear hs hk10 hkd HF9
      go_upto_region 11 with fail
      go_wp2_with fail
      refine (serial_any (some ⟨r0, 0, none⟩) n0 q0 l w10 (H6.out.2.1.1.more H10.out)).mono ?_
      rintro e w11 ⟨_, _, rfl, -, hk11⟩
      have H11 : Hid (Keeps None u6 w11) := H10.out.trans hk11 (fun _ f _ => f)
      clear hk11 x11 x12 x13
      obtain ⟨x11, x12, x13⟩ := HP0.out w11 H11.out
      have e0 := H11.out.cell H6.out.2.2.1.1 (fun f => f)
      have e1 := H11.out.cell H6.out.2.2.1.2.1 (fun f => f)
      have e2 := H11.out.cell H6.out.2.2.1.2.2 (fun f => f)
      go_upto_region 14 with fail
      clear e0 e1 e2 j0 j1 j2 j3 j4 j5
      have HW11 : Hid (Keeps None wc w11) := HP6.out.trans H11.out (fun _ f _ => f)
      have hG := HY.out w11 (HT.out.2.trans HW11.out (fun _ f _ => f))
      go_wp2_with fail
      refine (Play_fam a0 n0 c0 l a1 n1 c1 st a2 n2 c2 pk w11 hG.2.2.2.1 hG.2.2.2.2.1 hG.2.2.2.2.2 HS.out.2.2.2.1).mono ?_
      clear hG
      rintro e w12 ⟨fx, fxc, mx, mxc, lx, lxc, BX, QX, rfl, hak, -, -, -, hk12⟩
      rw [← HN.out.1, ← HN.out.2.1, ← HN.out.2.2.1, ← HN.out.2.2.2.1, ← HN.out.2.2.2.2]
      obtain ⟨p11, hp11⟩ : ∃ p, p = w12.heap.size := ⟨_, rfl⟩
      have hbx := blk_new w12 (.cells #[.slice fx NF fxc, .int .i64 NM, .slice mx NG mxc, .slice lx NL lxc] 32) p11 hp11.symm
      have hkx := (Keeps.alloc None w12 (.cells #[.slice fx NF fxc, .int .i64 NM, .slice mx NG mxc, .slice lx NL lxc] 32))
      clear x11 x12 x13
      go_upto_region 15 with fail
      rw [← hp11]
      generalize (w12.alloc (.cells #[.slice fx NF fxc, .int .i64 NM, .slice mx NG mxc, .slice lx NL lxc] 32)) = w13 at *
      have HX13 : Hid (AnsK w12 w11.heap.size (finT l st pk) NM (mgT l st pk) (lkT l st pk) fx mx lx ∧ Keeps None w12 w13 ∧ w13.heap[p11]? = some (.cells #[.slice fx NF fxc, .int .i64 NM, .slice mx NG mxc, .slice lx NL lxc] 32 (0, 0)) ∧ p11 = w12.heap.size ∧ Keeps None w11 w13 ∧ Keeps None wc w13 ∧ w11.heap.size ≤ w12.heap.size) := ⟨by rw [HN.out.2.2.2.1]; exact hak, hkx, hbx, hp11, hk12.trans hkx (fun _ f _ => f), (HW11.out.trans hk12 (fun _ f _ => f)).trans hkx (fun _ f _ => f), hk12.size⟩
      clear hak hkx hbx hp11 hk12
      have hG := HY.out w13 (HT.out.2.trans HX13.out.2.2.2.2.2.1 (fun _ f _ => f))
      have hG0 := hG.1
      have HG : Hid (Seen w13 a0 n0 l) := hG.2.2.2.1
      clear hG
      go_wp2_with fail
      clear hG0
      refine (Play_told a0 n0 c0 l none 0 0 [] none 0 0 [] w13 HG.out (SeenV.nil _ _) (SeenV.nil _ _) (Nat.le_refl _)).mono ?_
      rintro e w14 ⟨_, _, _, _, _, _, rfl, -, -, -, hk14⟩
      have H14 : Hid (Keeps None wc w14 ∧ Keeps None w5 w14 ∧ Keeps None w13 w14) := ⟨HX13.out.2.2.2.2.2.1.trans hk14 (fun _ f _ => f), ((((HW6.out.1.trans H6.out.1 (fun _ f _ => f)).trans H11.out (fun _ f _ => f)).trans HX13.out.2.2.2.2.1 (fun _ f _ => f))).trans hk14 (fun _ f _ => f), hk14⟩
      clear hk14 HG
      obtain ⟨⟨x0, x1, x2, x3⟩, ⟨x4, x5, x6, x7⟩, -, -⟩ := HX.out w14 H14.out.2.1
      go_wp2_with fail
      clear x0 x1 x2 x3 x4 x5 x6 x7
      refine (sameViews_ok (finT l st pk) NM (mgT l st pk) (lkT l st pk) fa ma la fb mb lb NF NG NL fc mc lc gc md ld w14 (H5.out.1.more H14.out.2.1) (H5.out.2.1.more H14.out.2.1) HN.out.1 HN.out.2.1 HN.out.2.2.1 (by rw [HN.out.1]; exact finT_len l st pk) (by rw [HN.out.2.1]; exact mgT_len l st pk) (by rw [HN.out.2.2.1]; exact (lkT_len l st pk).1) (lkT_len l st pk).2).mono ?_
      rintro e w15 ⟨rfl, hk15⟩
      -- all that stands while the first answer's lists are written over
      have H15 : Hid (Keeps None wc w15 ∧ Keeps None w5 w15 ∧ Keeps None w13 w15) := ⟨H14.out.1.trans hk15 (fun _ f _ => f), H14.out.2.1.trans hk15 (fun _ f _ => f), H14.out.2.2.trans hk15 (fun _ f _ => f)⟩
      clear hk15 H14
      obtain ⟨S, hS⟩ : ∃ S, S = w2.heap.size := ⟨_, rfl⟩
      obtain ⟨S8, hS8⟩ : ∃ S, S = w15.heap.size := ⟨_, rfl⟩
      obtain ⟨TL, hTL⟩ : ∃ TL : Nat → Prop, TL = fun b => VS BB S b ∨ S8 ≤ b := ⟨_, rfl⟩
      obtain ⟨Z0, hZ0⟩ : ∃ Z0, Z0 = zT l st pk := ⟨_, rfl⟩
      have HTL : Hid ((∀ b, VS BB S b ∨ S8 ≤ b → TL b) ∧ (∀ b, TL b → VS BB S b ∨ S8 ≤ b)) := ⟨fun b h => by rw [hTL]; exact h, fun b h => by rw [hTL] at h; exact h⟩
      have hsz3 : w2.heap.size ≤ w3.heap.size := HP2.out.2.size
      have hsz5 : w3.heap.size ≤ w5.heap.size := HP4.out.2.2.size
      have hsz4 : w4.heap.size ≤ w5.heap.size := HP4.out.2.1.size
      have hsz43 : w3.heap.size ≤ w4.heap.size := HW.out.2.size
      have hsz15 : w5.heap.size ≤ w15.heap.size := H15.out.2.1.size
      have hsz11 : w5.heap.size ≤ w11.heap.size := ((HW6.out.1.trans H6.out.1 (fun _ f _ => f)).trans H11.out (fun _ f _ => f)).size
      have hsz12 : w12.heap.size ≤ w15.heap.size := Nat.le_trans HX13.out.2.1.size H15.out.2.2.size
      have hszc : wc.heap.size ≤ BB := HV.out.2.2.2.1
      have hszB : BB ≤ S := by rw [hS]; exact HV.out.2.2.2.2
      have hsz0 : w.heap.size ≤ wc.heap.size := (HK.out.trans HT.out.2 (fun _ f _ => f)).size
      have hsz11b : w11.heap.size ≤ w12.heap.size := HX13.out.2.2.2.2.2.2
      have HZ : Hid (S ≤ S8 ∧ S8 ≤ w15.heap.size ∧ BB ≤ S ∧ (Z0 0).length = NF ∧ (∀ j, (Z0 j).length ≤ 5000) ∧ NF ≤ 5000 ∧ NL ≤ 5000 ∧ NG ≤ 5000) := by
        refine ⟨by omega, by omega, hszB, ?_, fun j => by rw [hZ0]; exact zT_len l st pk j, by rw [HN.out.1]; exact finT_len l st pk, by rw [HN.out.2.2.1]; exact (lkT_len l st pk).1, by rw [HN.out.2.1]; exact mgT_len l st pk⟩
        rw [hZ0, HN.out.1]
        rfl
      have HVR : Hid (VR w15 w15 TL BB S fa fc la lc Q Z0 Z0 NL) := by
        refine ⟨?_, fun _ => rfl, Keeps.refl _ _⟩
        rw [hZ0, hS]
        exact ((HV.out.2.2.1.more HP2.out.2).more HP4.out.2.2).more H15.out.2.1
      have HSt : Hid (∀ wx, Keeps TL w15 wx → (wx.cell? ⟨p2, 0, none⟩ = some (.slice fa NF fc) ∧ wx.cell? ⟨p2, 3, none⟩ = some (.slice la NL lc)) ∧ (wx.cell? ⟨p4, 0, none⟩ = some (.slice fb NF gc) ∧ wx.cell? ⟨p4, 1, none⟩ = some (.int .i64 NM) ∧ wx.cell? ⟨p4, 2, none⟩ = some (.slice mb NG md) ∧ wx.cell? ⟨p4, 3, none⟩ = some (.slice lb NL ld)) ∧
          (wx.cell? ⟨p11, 0, none⟩ = some (.slice fx NF fxc) ∧ wx.cell? ⟨p11, 1, none⟩ = some (.int .i64 NM) ∧ wx.cell? ⟨p11, 2, none⟩ = some (.slice mx NG mxc) ∧ wx.cell? ⟨p11, 3, none⟩ = some (.slice lx NL lxc)) ∧
          (wx.cell? ⟨p0, 0, none⟩ = some (.slice a0 n0 c0) ∧ wx.cell? ⟨p0, 1, none⟩ = some (.slice a1 n1 c1) ∧ wx.cell? ⟨p0, 2, none⟩ = some (.slice a2 n2 c2)) ∧
          (wx.cell? ⟨p1, 0, none⟩ = some (.slice b0 n0 d0) ∧ wx.cell? ⟨p1, 1, none⟩ = some (.slice b1 n1 d1) ∧ wx.cell? ⟨p1, 2, none⟩ = some (.slice b2 n2 d2)) ∧
          Ans wx (finT l st pk) NM (mgT l st pk) (lkT l st pk) fb mb lb ∧ Ans wx (finT l st pk) NM (mgT l st pk) (lkT l st pk) fx mx lx ∧
          (Seen wx a0 n0 l ∧ SeenV wx a1 n1 (bv' st) ∧ SeenV wx a2 n2 (iv pk)) ∧ Tri wx wb.heap.size (.slice b0 n0 d0) (.slice b1 n1 d1) (.slice b2 n2 d2) n0 n1 n2 l st pk ∧ wx.heap[p1]? = some (.cells #[.slice b0 n0 d0, .slice b1 n1 d1, .slice b2 n2 d2] 26 (0, 0)) ∧ wb.heap.size ≤ wx.heap.size) := fun wx hx => by
        have notT : ∀ p, p < S8 → (S ≤ p ∨ p < BB) → ¬ TL p := fun p h1 h2 h3 => by
          rcases HTL.out.2 p h3 with ⟨h4, h5⟩ | h4 <;> omega
        have hpc := blk_lt HC.out
        have hp0b : p0 < wb.heap.size := by
          have h := (HY.out wb (Keeps.refl _ _)).1
          exact g_lt h
        have hszbc : wb.heap.size ≤ wc.heap.size := HT.out.2.size
        have hp2 := HP2.out.1
        have hp4 := HP4.out.1
        have hp11 := HX13.out.2.2.2.1
        have e2 := blk_kept (blk_kept H5.out.2.2.2.1 H15.out.2.1 (fun f => f)) hx (notT p2 (by have := blk_lt H5.out.2.2.2.1; omega) (.inl (by omega)))
        have e4 := blk_kept (blk_kept H5.out.2.2.2.2 H15.out.2.1 (fun f => f)) hx (notT p4 (by have := blk_lt H5.out.2.2.2.2; omega) (.inl (by omega)))
        have e11 := blk_kept (blk_kept HX13.out.2.2.1 H15.out.2.2 (fun f => f)) hx (notT p11 (by have := blk_lt HX13.out.2.2.1; have := H15.out.2.2.size; omega) (.inl (by omega)))
        have ec := blk_kept (blk_kept HC.out H15.out.1 (fun f => f)) hx (notT p1 (by have := H15.out.1.size; omega) (.inr (by omega)))
        have hbc := HT.out.2.trans H15.out.1 (fun _ f _ => f)
        have ey := HY.out w15 hbc
        have nt0 := notT p0 (by have := H15.out.1.size; omega) (.inr (by omega))
        have kT4 : Keeps TL w4 wx := ((HP4.out.2.1.trans H15.out.2.1 (fun _ f _ => f)).mono (T := TL) (fun _ f _ => f.elim)).trans hx (fun i e _ => e)
        have kT12 : Keeps TL w12 wx := ((HX13.out.2.1.trans H15.out.2.2 (fun _ f _ => f)).mono (T := TL) (fun _ f _ => f.elim)).trans hx (fun i e _ => e)
        have kTc : Keeps TL wc wx := (H15.out.1.mono (T := TL) (fun _ f _ => f.elim)).trans hx (fun i e _ => e)
        have kTw : Keeps TL w wx := (((HK.out.trans HT.out.2 (fun _ f _ => f))).mono (T := TL) (fun _ f _ => f.elim)).trans kTc (fun i e _ => e)
        have ntl : ∀ b, b < w.heap.size → ¬ TL b := fun b hb => notT b (by have := H15.out.1.size; omega) (.inr (by omega))
        exact ⟨⟨(blk_cell e2 0).trans rfl, (blk_cell e2 3).trans rfl⟩, ⟨(blk_cell e4 0).trans rfl, (blk_cell e4 1).trans rfl, (blk_cell e4 2).trans rfl, (blk_cell e4 3).trans rfl⟩, ⟨(blk_cell e11 0).trans rfl, (blk_cell e11 1).trans rfl, (blk_cell e11 2).trans rfl, (blk_cell e11 3).trans rfl⟩,
          ⟨hx.cell ey.1 nt0, hx.cell ey.2.1 nt0, hx.cell ey.2.2.1 nt0⟩, ⟨(blk_cell ec 0).trans rfl, (blk_cell ec 1).trans rfl, (blk_cell ec 2).trans rfl⟩,
          HW.out.1.out TL wx kT4 (fun i h => by rcases HTL.out.2 i h with ⟨h4, h5⟩ | h4 <;> omega), HX13.out.1.out TL wx kT12 (fun i h => by rcases HTL.out.2 i h with ⟨h4, h5⟩ | h4 <;> omega),
          ⟨HS.out.1.kept kTw (fun _ b _ hb => ntl b hb), HS.out.2.1.kept kTw (fun _ b _ hb => ntl b hb), HS.out.2.2.1.kept kTw (fun _ b _ hb => ntl b hb)⟩,
          HT.out.1.kept kTc (fun g h1 h2 => notT g (by have := H15.out.1.size; omega) (.inr (by omega))), ec, Nat.le_trans hszbc kTc.size⟩
      have HTLw : Hid (∀ b, TL b → w.heap.size ≤ b) := fun b hb => by rcases HTL.out.2 b hb with ⟨h4, h5⟩ | h4 <;> omega
      have HKwb : Hid (w.heap.size ≤ wb.heap.size) := HK.out.size
      have HW15 : Hid (Keeps None w w15) := (HK.out.trans HT.out.2 (fun _ f _ => f)).trans H15.out.1 (fun _ f _ => f)
      clear hS hS8 hTL hZ0 hsz3 hsz5 hsz4 hsz43 hsz15 hsz11 hsz12 hszc hszB hsz0 hsz11b
      clear HX HY H5 HW6 HP6 HP0 H6 H9 H10 H11 HW11 HX13 H15 HP2 HP4 HW HV HC HT
      go_upto_block 0 with fail
      go_cut [13] (fun _ wx => ∃ Z, VR w15 wx TL BB S fa fc la lc Q Z0 Z NL ∧ D0 Z)
      case first =>
        go_wp2_with fail
        go_loopw [13] (fun i wr => ∃ (k : Nat) (Z : Nat → List Int), k ≤ NF ∧ i = .int .i64 k ∧ VR w15 wr TL BB S fa fc la lc Q Z0 Z NL ∧ ∀ q, q < k → (Z 0)[q]? = some (-1)) (fun i _ => NF - (intOf i).toNat)
        case atStart => exact ⟨0, Z0, Nat.zero_le _, rfl, HVR.out, fun q h => absurd h (Nat.not_lt_zero q)⟩
        case round =>
          obtain ⟨k, Z, hk, rfl, hv, hd⟩ := hrel
          have hst := HSt.out wr hv.kp
          have x0 := hst.1.1
          clear hst
          by_cases hkn : k < NF
          · obtain ⟨g, c, hQ, ⟨v, u0⟩, uf, hv2⟩ := hv.set (fun b h => HTL.out.1 b (.inl h)) (i := 0) (p := k) (Nat.succ_pos _) (by rw [HZ.out.2.2.2.1]; exact hkn) (-1)
            rw [(hv.first hQ).1] at x0
            have i1 : (k : Int) < (NF : Int) := by omega
            have hkl : k < (Z 0).length := by rw [hv.len, HZ.out.2.2.2.1]; exact hkn
            have HN1 : Hid (∃ (k' : Nat) (Z' : Nat → List Int), k' ≤ NF ∧ Value.int .i64 ((k : Int) + 1) = .int .i64 k' ∧ VR w15 (wr.setCell ⟨g, k, none⟩ (.int .i64 (-1))) TL BB S fa fc la lc Q Z0 Z' NL ∧ ∀ q, q < k' → (Z' 0)[q]? = some (-1)) := by
              refine ⟨k + 1, _, hkn, by simp, hv2, fun q hq => ?_⟩
              by_cases e : q = k
              · subst e; exact set_at hkl
              · rw [set_old (fun h => e h.2)]; exact hd q (by omega)
            have HKN : Hid (k < NF ∧ NF ≤ 5000) := ⟨hkn, HZ.out.2.2.2.2.2.1⟩
            have hkb : k ≤ 5000 := by have := HKN.out.2; omega
            clear hv hd hQ hv2 hkl hkn hk
            go_wp2_with fail
            refine ⟨HN1.out, ?_⟩
            have := HKN.out.1
            simp [intOf]
            omega
          · have i1 : ¬ (k : Int) < (NF : Int) := by omega
            have hd0 : D0 Z := fun q hq => hd q (by rw [hv.len, HZ.out.2.2.2.1] at hq; omega)
            have HN1 : Hid (VR w15 wr TL BB S fa fc la lc Q Z0 Z NL ∧ D0 Z) := ⟨hv, hd0⟩
            clear hv hd hd0 hkn hk
            go_wp2_with fail
            go_meet
            exact ⟨Z, HN1.out⟩
      case rest =>
        obtain ⟨ZA, hvA, hdA⟩ := hcut
        have HA1 : Hid (VR w15 wc TL BB S fa fc la lc Q Z0 ZA NL ∧ D0 ZA) := ⟨hvA, hdA⟩
        clear hvA hdA HVR
        go_upto_block 2 with fail
        go_cut [14, 15] (fun _ _ wx => ∃ Z, VR w15 wx TL BB S fa fc la lc Q Z0 Z NL ∧ D0 Z ∧ DL Z NL)
        case first =>
          go_wp2_with fail
          go_loopw [14, 15] (fun i _ wr => ∃ (k : Nat) (Z : Nat → List Int), k ≤ NL ∧ i = .int .i64 k ∧ VR w15 wr TL BB S fa fc la lc Q Z0 Z NL ∧ D0 Z ∧ DL Z k) (fun i _ _ => NL - (intOf i).toNat)
          case atStart => exact ⟨0, ZA, Nat.zero_le _, rfl, HA1.out.1, HA1.out.2, fun j h => absurd h (Nat.not_lt_zero j)⟩
          case round =>
            obtain ⟨k, Z, hk, rfl, hv, hd, hl⟩ := hrel
            have hst := HSt.out wr hv.kp
            have x3 := hst.1.2
            clear hst
            by_cases hkn : k < NL
            · have i1 : (k : Int) < (NL : Int) := by omega
              obtain ⟨N1, hN1⟩ : ∃ N, N = (Z0 (k + 1)).length := ⟨_, rfl⟩
              have HKN : Hid (k < NL ∧ NL ≤ 5000 ∧ N1 = (Z0 (k + 1)).length ∧ N1 ≤ 5000) := ⟨hkn, HZ.out.2.2.2.2.2.2.1, hN1, by rw [hN1]; exact HZ.out.2.2.2.2.1 (k + 1)⟩
              have HR0 : Hid (VR w15 wr TL BB S fa fc la lc Q Z0 Z NL ∧ D0 Z ∧ DL Z k) := ⟨hv, hd, hl⟩
              have hkb : k ≤ 5000 := by have := HKN.out.2.1; omega
              clear hv hd hl hkn hk hN1
              go_wp2_with fail
              clear x3
              go_loopw [15] (fun i wr => ∃ (p : Nat) (Z : Nat → List Int), p ≤ N1 ∧ i = .int .i64 p ∧ VR w15 wr TL BB S fa fc la lc Q Z0 Z NL ∧ D0 Z ∧ DL Z k ∧ ∀ q, q < p → (Z (k + 1))[q]? = some (k : Int)) (fun i _ => N1 - (intOf i).toNat)
              case atStart => exact ⟨0, Z, Nat.zero_le _, rfl, HR0.out.1, HR0.out.2.1, HR0.out.2.2, fun q h => absurd h (Nat.not_lt_zero q)⟩
              case round =>
                clear HR0
                obtain ⟨p, Z, hp, rfl, hv, hd, hl, hq⟩ := hrel
                have hst := HSt.out wr hv.kp
                have x3 := hst.1.2
                clear hst
                obtain ⟨g3, hla, hc3, ar, cr, hQr⟩ := hv.look HKN.out.1
                rw [hla] at x3
                rw [← HKN.out.2.2.1] at hQr
                by_cases hpn : p < N1
                · obtain ⟨g, c, hQ, ⟨v, u0⟩, uf, hv2⟩ := hv.set (fun b h => HTL.out.1 b (.inl h)) (i := k + 1) (p := p) (by have := HKN.out.1; omega) (by rw [← HKN.out.2.2.1]; exact hpn) (k : Int)
                  rw [hQ, ← HKN.out.2.2.1] at hc3
                  have i2 : (p : Int) < (N1 : Int) := by omega
                  have hpl : p < (Z (k + 1)).length := by rw [hv.len, ← HKN.out.2.2.1]; exact hpn
                  have HN1 : Hid (∃ (p' : Nat) (Z' : Nat → List Int), p' ≤ N1 ∧ Value.int .i64 ((p : Int) + 1) = .int .i64 p' ∧ VR w15 (wr.setCell ⟨g, p, none⟩ (.int .i64 (k : Int))) TL BB S fa fc la lc Q Z0 Z' NL ∧ D0 Z' ∧ DL Z' k ∧ ∀ q, q < p' → (Z' (k + 1))[q]? = some (k : Int)) := by
                    refine ⟨p + 1, _, hpn, by simp, hv2, fun q hq2 => ?_, fun j hj q hq2 => ?_, fun q hq2 => ?_⟩
                    · rw [set_old (fun h => by have := h.1; omega)]
                      refine hd q ?_
                      rwa [hv2.len, ← hv.len] at hq2
                    · rw [set_old (fun h => by have := h.1; omega)]
                      refine hl j hj q ?_
                      rwa [hv2.len, ← hv.len] at hq2
                    · by_cases e : q = p
                      · subst e; exact set_at hpl
                      · rw [set_old (fun h => e h.2)]; exact hq q (by omega)
                  have HPN : Hid (p < N1) := hpn
                  have hpb : p ≤ 5000 := by have := HKN.out.2.2.2; omega
                  clear hv hd hl hq hQ hv2 hpl hpn hp hla hQr
                  go_wp2_with fail
                  refine ⟨HN1.out, ?_⟩
                  have := HPN.out
                  simp [intOf]
                  omega
                · have i2 : ¬ (p : Int) < (N1 : Int) := by omega
                  rw [hQr] at hc3
                  have HN1 : Hid (∃ (k' : Nat) (Z' : Nat → List Int), k' ≤ NL ∧ Value.int .i64 ((k : Int) + 1) = .int .i64 k' ∧ VR w15 wr TL BB S fa fc la lc Q Z0 Z' NL ∧ D0 Z' ∧ DL Z' k') := by
                    refine ⟨k + 1, Z, HKN.out.1, by simp, hv, hd, fun j hj q hq2 => ?_⟩
                    by_cases e : j = k
                    · subst e
                      refine hq q ?_
                      rw [hv.len, ← HKN.out.2.2.1] at hq2
                      omega
                    · exact hl j (by omega) q hq2
                  clear hv hd hl hq hpn hp hla hQr
                  go_wp2_with fail
                  refine ⟨HN1.out, ?_⟩
                  have := HKN.out.1
                  simp [intOf]
                  omega
            · have i1 : ¬ (k : Int) < (NL : Int) := by omega
              have hkk : k = NL := by omega
              have HN1 : Hid (VR w15 wr TL BB S fa fc la lc Q Z0 Z NL ∧ D0 Z ∧ DL Z NL) := ⟨hv, hd, by rw [← hkk]; exact hl⟩
              clear hv hd hl hkn hk hkk
              go_wp2_with fail
              go_meet
              exact ⟨Z, HN1.out⟩
        case rest =>
          obtain ⟨ZB, hvB, hdB, hlB⟩ := hcut
          have HB1 : Hid (VR w15 wc TL BB S fa fc la lc Q Z0 ZB NL ∧ D0 ZB ∧ DL ZB NL) := ⟨hvB, hdB, hlB⟩
          clear hvB hdB hlB HA1
          have x0 := (HSt.out wc HB1.out.1.kp).1.1
          go_upto_block 6 with fail
          clear x0
          obtain ⟨M2, hM2⟩ : ∃ M, M = NF + 64 := ⟨_, rfl⟩
          have HM2 : Hid (M2 = NF + 64) := hM2
          clear hM2
          go_cut [17, 18] (fun r _ wx => VR w15 wx TL BB S fa fc la lc Q Z0 ZB NL ∧ ∃ a c, r = .slice a M2 c)
          case first =>
            go_wp2_with fail
            go_loopw [17, 18] (fun r i wr => ∃ (j : Nat), j ≤ 64 ∧ i = .int .i64 j ∧ VR w15 wr TL BB S fa fc la lc Q Z0 ZB NL ∧ Gr wr BB S8 Q ZB 0 r (NF + j)) (fun _ i _ => 64 - (intOf i).toNat)
            case atStart =>
              refine ⟨0, Nat.zero_le _, rfl, HB1.out.1, ?_⟩
              have hg := HB1.out.1.gr (i := 0) (Nat.succ_pos _) S8
              rw [HB1.out.1.vm.fin, HB1.out.1.len, HZ.out.2.2.2.1] at hg
              exact hg
            case round =>
              obtain ⟨j, hj, rfl, hv, hg⟩ := hrel
              obtain ⟨ga, gcap, hr0⟩ := hg.shape
              subst hr0
              by_cases hjn : j < 64
              · have i1 : (j : Int) < 64 := by omega
                obtain ⟨gn, cn, w', hr, hv2, hg2⟩ := hv.app HTL.out.1 hg (Nat.succ_pos _) HZ.out.1 HZ.out.2.1 HZ.out.2.2.1 (by have := HZ.out.2.2.2.2.2.1; omega) (-2)
                have HN1 : Hid (∃ (j' : Nat), j' ≤ 64 ∧ Value.int .i64 ((j : Int) + 1) = .int .i64 j' ∧ VR w15 w' TL BB S fa fc la lc Q Z0 ZB NL ∧ Gr w' BB S8 Q ZB 0 (.slice (some ⟨gn, 0, none⟩) (NF + j + 1) cn) (NF + j')) := ⟨j + 1, hjn, by simp, hv2, by rw [← Nat.add_assoc]; exact hg2⟩
                have HJN : Hid (j < 64) := hjn
                obtain ⟨m, hm⟩ : ∃ m, m = NF + j := ⟨_, rfl⟩
                rw [← hm] at hr HN1 ⊢
                clear hv hg hv2 hg2 hm hj
                go_wp2_with (at_builtin; refine wpList_append_run rfl (.tmp 209) (.tmp 210) 28 28 rfl rfl rfl hr ?_)
                refine ⟨HN1.out, ?_⟩
                have := HJN.out
                simp [intOf]
                omega
              · have i1 : ¬ (j : Int) < 64 := by omega
                have hjj : j = 64 := by omega
                subst hjj
                have HN1 : Hid (VR w15 wr TL BB S fa fc la lc Q Z0 ZB NL) := hv
                clear hv hg hjn hj
                go_wp2_with fail
                go_meet
                exact ⟨HN1.out, ga, gcap, by rw [HM2.out]⟩
          case rest =>
            obtain ⟨hvC, ga, gcap, rfl⟩ := hcut
            have HC1 : Hid (VR w15 wc TL BB S fa fc la lc Q Z0 ZB NL) := hvC
            clear hvC
            go_upto_block 8 with fail
            go_cut [16, 19, 20, 21] (fun s16 _ _ _ wx => VR w15 wx TL BB S fa fc la lc Q Z0 ZB NL ∧ ∃ nn : Nat, s16 = .int .i64 nn ∧ 1 ≤ nn ∧ nn ≤ 50000000)
            case first =>
              go_wp2_with fail
              go_loopw [16, 19, 20, 21] (fun s16 i _ _ wr => ∃ (k nn : Nat), k ≤ NL ∧ i = .int .i64 k ∧ s16 = .int .i64 nn ∧ 1 ≤ nn ∧ nn ≤ 1 + k * 5064 ∧ VR w15 wr TL BB S fa fc la lc Q Z0 ZB NL) (fun _ i _ _ _ => NL - (intOf i).toNat)
              case atStart => exact ⟨0, 1, Nat.zero_le _, rfl, rfl, Nat.le_refl _, by omega, HC1.out⟩
              case round =>
                obtain ⟨k, nn, hk, rfl, rfl, hn1, hn2, hv⟩ := hrel
                have x3 := (HSt.out wr hv.kp).1.2
                by_cases hkn : k < NL
                · have i1 : (k : Int) < (NL : Int) := by omega
                  obtain ⟨N1, hN1⟩ : ∃ N, N = (Z0 (k + 1)).length := ⟨_, rfl⟩
                  obtain ⟨g3, hla, hc3, ar, cr, hQr⟩ := hv.look hkn
                  rw [hla] at x3
                  rw [← hN1] at hQr
                  rw [hQr] at hc3
                  have HKN : Hid (k < NL ∧ NL ≤ 5000 ∧ N1 = (Z0 (k + 1)).length ∧ N1 ≤ 5000 ∧ 1 ≤ nn ∧ nn ≤ 1 + k * 5064 ∧ Q (k + 1) = .slice ar N1 cr) := ⟨hkn, HZ.out.2.2.2.2.2.2.1, hN1, by rw [hN1]; exact HZ.out.2.2.2.2.1 (k + 1), hn1, hn2, hQr⟩
                  have HR0 : Hid (VR w15 wr TL BB S fa fc la lc Q Z0 ZB NL) := hv
                  have hkb : k ≤ 5000 := by have := HKN.out.2.1; omega
                  have hnb : nn ≤ 25400000 := by omega
                  clear hv hkn hk hN1 hla hQr hn1 hn2
                  go_wp2_with fail
                  clear x3 hc3
                  go_loopw [20, 21] (fun r i wr => ∃ (j : Nat), j ≤ 64 ∧ i = .int .i64 j ∧ VR w15 wr TL BB S fa fc la lc Q Z0 ZB NL ∧ Gr wr BB S8 Q ZB (k + 1) r (N1 + j)) (fun _ i _ => 64 - (intOf i).toNat)
                  case atStart =>
                    refine ⟨0, Nat.zero_le _, rfl, HR0.out, ?_⟩
                    have hg := HR0.out.gr (i := k + 1) (by have := HKN.out.1; omega) S8
                    rw [HKN.out.2.2.2.2.2.2, ← HKN.out.2.2.1] at hg
                    exact hg
                  case round =>
                    clear HR0
                    obtain ⟨j, hj, rfl, hv, hg⟩ := hrel
                    obtain ⟨ga2, gcap2, hr0⟩ := hg.shape
                    subst hr0
                    by_cases hjn : j < 64
                    · have i2 : (j : Int) < 64 := by omega
                      obtain ⟨gn, cn, w', hr, hv2, hg2⟩ := hv.app HTL.out.1 hg (by have := HKN.out.1; omega) HZ.out.1 HZ.out.2.1 HZ.out.2.2.1 (by have := HKN.out.2.2.2.1; omega) (-3)
                      have HN1 : Hid (∃ (j' : Nat), j' ≤ 64 ∧ Value.int .i64 ((j : Int) + 1) = .int .i64 j' ∧ VR w15 w' TL BB S fa fc la lc Q Z0 ZB NL ∧ Gr w' BB S8 Q ZB (k + 1) (.slice (some ⟨gn, 0, none⟩) (N1 + j + 1) cn) (N1 + j')) := ⟨j + 1, hjn, by simp, hv2, by rw [← Nat.add_assoc]; exact hg2⟩
                      have HJN : Hid (j < 64) := hjn
                      obtain ⟨m, hm⟩ : ∃ m, m = N1 + j := ⟨_, rfl⟩
                      rw [← hm] at hr HN1 ⊢
                      clear hv hg hv2 hg2 hm hj
                      go_wp2_with (at_builtin; refine wpList_append_run rfl (.tmp 228) (.tmp 229) 28 28 rfl rfl rfl hr ?_)
                      refine ⟨HN1.out, ?_⟩
                      have := HJN.out
                      simp [intOf]
                      omega
                    · have i2 : ¬ (j : Int) < 64 := by omega
                      have hjj : j = 64 := by omega
                      subst hjj
                      obtain ⟨M1, hM1⟩ : ∃ M, M = N1 + 64 := ⟨_, rfl⟩
                      rw [← hM1]
                      obtain ⟨n3, hn3⟩ : ∃ n3, n3 = nn + M1 := ⟨_, rfl⟩
                      have hwn : wrap64 ((nn : Int) + (M1 : Int)) = (n3 : Int) := by
                        have := HKN.out.2.2.2.1
                        unfold wrap64
                        omega
                      have HN1 : Hid (∃ (k' nn' : Nat), k' ≤ NL ∧ Value.int .i64 ((k : Int) + 1) = .int .i64 k' ∧ Value.int .i64 (wrap64 ((nn : Int) + (M1 : Int))) = .int .i64 nn' ∧ 1 ≤ nn' ∧ nn' ≤ 1 + k' * 5064 ∧ VR w15 wr TL BB S fa fc la lc Q Z0 ZB NL) := by
                        refine ⟨k + 1, n3, HKN.out.1, by simp, by rw [hwn], ?_, ?_, hv⟩
                        · have := HKN.out.2.2.2.2.1; omega
                        · have := HKN.out.2.2.2.2.2.1; have := HKN.out.2.2.2.1; omega
                      clear hv hg hjn hj hM1 hn3 hwn
                      go_wp2_with fail
                      refine ⟨HN1.out, ?_⟩
                      have := HKN.out.1
                      simp [intOf]
                      omega
                · have i1 : ¬ (k : Int) < (NL : Int) := by omega
                  have HN1 : Hid (VR w15 wr TL BB S fa fc la lc Q Z0 ZB NL ∧ 1 ≤ nn ∧ nn ≤ 50000000) := ⟨hv, hn1, by have := HZ.out.2.2.2.2.2.2.1; omega⟩
                  clear hv hkn hk hn1 hn2
                  go_wp2_with fail
                  go_meet
                  exact ⟨HN1.out.1, nn, rfl, HN1.out.2.1, HN1.out.2.2⟩
            case rest =>
              obtain ⟨hvD, nn, rfl, hn1, hn2⟩ := hcut
              have HD1 : Hid (VR w15 wc TL BB S fa fc la lc Q Z0 ZB NL ∧ 1 ≤ nn ∧ nn ≤ 50000000) := ⟨hvD, hn1, hn2⟩
              clear hvD hn1 hn2 HC1
              obtain ⟨-, ⟨y0, y1, y2, y3⟩, ⟨z0, z1, z2, z3⟩, ⟨x11, x12, x13⟩, -⟩ := HSt.out wc HD1.out.1.kp
              have HAn := HSt.out wc HD1.out.1.kp
              have HAW : Hid (Ans wc (finT l st pk) NM (mgT l st pk) (lkT l st pk) fb mb lb ∧ Ans wc (finT l st pk) NM (mgT l st pk) (lkT l st pk) fx mx lx) := ⟨HAn.2.2.2.2.2.1, HAn.2.2.2.2.2.2.1⟩
              clear HAn
              go_upto_region 44 with fail
              go_wp2_with fail
              clear y0 y1 y2 y3 z0 z1 z2 z3
              refine (sameViews_ok (finT l st pk) NM (mgT l st pk) (lkT l st pk) fx mx lx fb mb lb NF NG NL fxc mxc lxc gc md ld wc HAW.out.2 HAW.out.1 HN.out.1 HN.out.2.1 HN.out.2.2.1 HZ.out.2.2.2.2.2.1 HZ.out.2.2.2.2.2.2.2 HZ.out.2.2.2.2.2.2.1 (lkT_len l st pk).2).mono ?_
              rintro e w20 ⟨rfl, hk20⟩
              have HE1 : Hid (VR w15 w20 TL BB S fa fc la lc Q Z0 ZB NL) := HD1.out.1.more hk20
              clear hk20 HAW x11 x12 x13
              have hst := HSt.out w20 HE1.out.kp
              obtain ⟨-, -, -, ⟨x11, x12, x13⟩, -, -, -, hg, -⟩ := hst
              have HG20 : Hid (Seen w20 a0 n0 l ∧ SeenV w20 a1 n1 (bv' st) ∧ SeenV w20 a2 n2 (iv pk)) := hg
              clear hg
              go_upto_region 46 with fail
              go_wp2_with fail
              clear x11 x12 x13
              refine (Play_fam a0 n0 c0 l a1 n1 c1 st a2 n2 c2 pk w20 HG20.out.1 HG20.out.2.1 HG20.out.2.2 HS.out.2.2.2.1).mono ?_
              rintro e w21 ⟨fu, fuc, mu, muc, lu, luc, BU, QU, rfl, hak, -, -, -, hk21⟩
              rw [← HN.out.1, ← HN.out.2.1, ← HN.out.2.2.1, ← HN.out.2.2.2.1, ← HN.out.2.2.2.2]
              obtain ⟨p22, hp22⟩ : ∃ p, p = w21.heap.size := ⟨_, rfl⟩
              have hbu := blk_new w21 (.cells #[.slice fu NF fuc, .int .i64 NM, .slice mu NG muc, .slice lu NL luc] 32) p22 hp22.symm
              have hku := (Keeps.alloc None w21 (.cells #[.slice fu NF fuc, .int .i64 NM, .slice mu NG muc, .slice lu NL luc] 32))
              have HU0 : Hid (Ans w21 (finT l st pk) NM (mgT l st pk) (lkT l st pk) fu mu lu) := by rw [HN.out.2.2.2.1]; exact hak.now
              clear hak HG20
              go_upto_block 12 with fail
              rw [← hp22]
              generalize (w21.alloc (.cells #[.slice fu NF fuc, .int .i64 NM, .slice mu NG muc, .slice lu NL luc] 32)) = w22 at *
              have HU : Hid (Ans w22 (finT l st pk) NM (mgT l st pk) (lkT l st pk) fu mu lu ∧ w22.heap[p22]? = some (.cells #[.slice fu NF fuc, .int .i64 NM, .slice mu NG muc, .slice lu NL luc] 32 (0, 0)) ∧ VR w15 w22 TL BB S fa fc la lc Q Z0 ZB NL) := ⟨HU0.out.more hku, hbu, (HE1.out.more hk21).more hku⟩
              clear hbu hku hk21 hp22 HU0 HE1
              go_cut [24] (fun _ wx => Keeps None w22 wx)
              case first =>
                go_wp2_with fail
                go_loopw [24] (fun i wr => ∃ k : Nat, k ≤ NF ∧ i = .int .i64 k ∧ Keeps None w22 wr) (fun i _ => NF - (intOf i).toNat)
                case atStart => exact ⟨0, Nat.zero_le _, rfl, Keeps.refl _ _⟩
                case round =>
                  obtain ⟨k, hk, rfl, hkp⟩ := hrel
                  have hv := HU.out.2.2.more hkp
                  have x0 := (HSt.out wr hv.kp).1.1
                  by_cases hkn : k < NF
                  · have hd0 := HB1.out.2.1 k (by rw [hv.len, HZ.out.2.2.2.1]; exact hkn)
                    obtain ⟨g, c, hQ, u0⟩ := hv.at (i := 0) (p := k) (Nat.succ_pos _) hd0
                    rw [(hv.first hQ).1] at x0
                    have i1 : (k : Int) < (NF : Int) := by omega
                    have HKN : Hid (k < NF ∧ NF ≤ 5000 ∧ Keeps None w22 wr) := ⟨hkn, HZ.out.2.2.2.2.2.1, hkp⟩
                    have hkb : k ≤ 5000 := by have := HKN.out.2.1; omega
                    clear hv hd0 hQ hkn hk hkp
                    go_wp2_with fail
                    refine ⟨⟨k + 1, HKN.out.1, by go_num, HKN.out.2.2⟩, ?_⟩
                    have := HKN.out.1
                    simp [intOf]
                    omega
                  · have i1 : ¬ (k : Int) < (NF : Int) := by omega
                    have HKN : Hid (Keeps None w22 wr) := hkp
                    clear hv hkn hk hkp
                    go_wp2_with fail
                    go_meet
                    exact HKN.out
              case rest =>
                have HU2 : Hid (Keeps None w22 wc) := hcut
                clear hcut
                go_upto_block 14 with fail
                go_cut [25, 26] (fun _ _ wx => Keeps None w22 wx)
                case first =>
                  go_wp2_with fail
                  go_loopw [25, 26] (fun i _ wr => ∃ k : Nat, k ≤ NL ∧ i = .int .i64 k ∧ Keeps None w22 wr) (fun i _ _ => NL - (intOf i).toNat)
                  case atStart => exact ⟨0, Nat.zero_le _, rfl, HU2.out⟩
                  case round =>
                    obtain ⟨k, hk, rfl, hkp⟩ := hrel
                    have hv := HU.out.2.2.more hkp
                    have x3 := (HSt.out wr hv.kp).1.2
                    by_cases hkn : k < NL
                    · have i1 : (k : Int) < (NL : Int) := by omega
                      obtain ⟨N1, hN1⟩ : ∃ N, N = (Z0 (k + 1)).length := ⟨_, rfl⟩
                      have HKN : Hid (k < NL ∧ NL ≤ 5000 ∧ N1 = (Z0 (k + 1)).length ∧ N1 ≤ 5000 ∧ Keeps None w22 wr) := ⟨hkn, HZ.out.2.2.2.2.2.2.1, hN1, by rw [hN1]; exact HZ.out.2.2.2.2.1 (k + 1), hkp⟩
                      have hkb : k ≤ 5000 := by have := HKN.out.2.1; omega
                      clear hv hkn hk hN1 hkp
                      go_wp2_with fail
                      clear x3
                      go_loopw [26] (fun i wr => ∃ p : Nat, p ≤ N1 ∧ i = .int .i64 p ∧ Keeps None w22 wr) (fun i _ => N1 - (intOf i).toNat)
                      case atStart => exact ⟨0, Nat.zero_le _, rfl, HKN.out.2.2.2.2⟩
                      case round =>
                        obtain ⟨p, hp, rfl, hkp⟩ := hrel
                        have hv := HU.out.2.2.more hkp
                        have x3 := (HSt.out wr hv.kp).1.2
                        obtain ⟨g3, hla, hc3, ar, cr, hQr⟩ := hv.look HKN.out.1
                        rw [hla] at x3
                        by_cases hpn : p < N1
                        · have hd0 := HB1.out.2.2 k HKN.out.1 p (by rw [hv.len, ← HKN.out.2.2.1]; exact hpn)
                          obtain ⟨g, c, hQ, u0⟩ := hv.at (i := k + 1) (p := p) (by have := HKN.out.1; omega) hd0
                          rw [hQ, ← HKN.out.2.2.1] at hc3
                          have i2 : (p : Int) < (N1 : Int) := by omega
                          have HPN : Hid (p < N1 ∧ Keeps None w22 wr) := ⟨hpn, hkp⟩
                          have hpb : p ≤ 5000 := by have := HKN.out.2.2.2.1; omega
                          clear hv hd0 hQ hpn hp hla hQr hkp
                          go_wp2_with fail
                          refine ⟨⟨p + 1, HPN.out.1, by go_num, HPN.out.2⟩, ?_⟩
                          have := HPN.out.1
                          simp [intOf]
                          omega
                        · have i2 : ¬ (p : Int) < (N1 : Int) := by omega
                          rw [hQr, ← HKN.out.2.2.1] at hc3
                          have HPN : Hid (Keeps None w22 wr) := hkp
                          clear hv hpn hp hla hQr hkp
                          go_wp2_with fail
                          refine ⟨⟨k + 1, HKN.out.1, by go_num, HPN.out⟩, ?_⟩
                          have := HKN.out.1
                          simp [intOf]
                          omega
                    · have i1 : ¬ (k : Int) < (NL : Int) := by omega
                      have HKN : Hid (Keeps None w22 wr) := hkp
                      clear hv hkn hk hkp
                      go_wp2_with fail
                      go_meet
                      exact HKN.out
                case rest =>
                  have HU3 : Hid (Keeps None w22 wc) := hcut
                  clear hcut HU2
                  have HvE : Hid (VR w15 wc TL BB S fa fc la lc Q Z0 ZB NL) := HU.out.2.2.more HU3.out
                  have hst := HSt.out wc HvE.out.kp
                  obtain ⟨-, ⟨y0, y1, y2, y3⟩, -, -, -, hAW, -⟩ := hst
                  have HAW : Hid (Ans wc (finT l st pk) NM (mgT l st pk) (lkT l st pk) fb mb lb) := hAW
                  have e22 := blk_kept HU.out.2.1 HU3.out (fun f => f)
                  have t0 : wc.cell? ⟨p22, 0, none⟩ = some (.slice fu NF fuc) := (blk_cell e22 0).trans rfl
                  have t1 : wc.cell? ⟨p22, 1, none⟩ = some (.int .i64 NM) := (blk_cell e22 1).trans rfl
                  have t2 : wc.cell? ⟨p22, 2, none⟩ = some (.slice mu NG muc) := (blk_cell e22 2).trans rfl
                  have t3 : wc.cell? ⟨p22, 3, none⟩ = some (.slice lu NL luc) := (blk_cell e22 3).trans rfl
                  obtain ⟨n9, hn9⟩ : ∃ n, n = nn + M2 := ⟨_, rfl⟩
                  have hw9 : wrap64 ((nn : Int) + (M2 : Int)) = (n9 : Int) := by
                    have := HD1.out.2.2
                    have := HM2.out
                    have := HZ.out.2.2.2.2.2.1
                    unfold wrap64
                    omega
                  have hw8 : ¬ (n9 : Int) ≤ 64 := by
                    have := HM2.out
                    have := HD1.out.2.1
                    omega
                  have hw7 : ¬ wrap64 ((nn : Int) + (M2 : Int)) ≤ 64 := by rw [hw9]; exact hw8
                  clear hAW e22 hn9
                  go_upto_region 60 with fail
                  go_wp2_with fail
                  clear y0 y1 y2 y3 t0 t1 t2 t3
                  refine (sameViews_ok (finT l st pk) NM (mgT l st pk) (lkT l st pk) fu mu lu fb mb lb NF NG NL fuc muc luc gc md ld wc (HU.out.1.more HU3.out) HAW.out HN.out.1 HN.out.2.1 HN.out.2.2.1 HZ.out.2.2.2.2.2.1 HZ.out.2.2.2.2.2.2.2 HZ.out.2.2.2.2.2.2.1 (lkT_len l st pk).2).mono ?_
                  rintro e w30 ⟨rfl, hk30⟩
                  have HF0 : Hid (Keeps TL w15 w30) := (HvE.out.more hk30).kp
                  clear hk30 HAW HU HU3 HvE
                  have hst := HSt.out w30 HF0.out
                  obtain ⟨-, -, -, -, ⟨x0, x1, x2⟩, -, -, -, hTri, hp1, hsz⟩ := hst
                  have HT30 : Hid (Tri w30 wb.heap.size (.slice b0 n0 d0) (.slice b1 n1 d1) (.slice b2 n2 d2) n0 n1 n2 l st pk ∧ w30.heap[p1]? = some (.cells #[.slice b0 n0 d0, .slice b1 n1 d1, .slice b2 n2 d2] 26 (0, 0)) ∧ wb.heap.size ≤ w30.heap.size ∧ n2 ≤ d2) := ⟨hTri, hp1, hsz, own_cap2 hTri.r2⟩
                  clear hTri hp1 hsz
                  go_upto_region 62 with fail
                  clear hw7 hw8 hw9
                  go_wp2_with fail
                  clear x0 x1 x2
                  refine (Play_told b0 n0 d0 l b1 n1 d1 st b2 n2 d2 pk w30 (HT30.out.1.seen HL.out) (own_seen1 HT30.out.1.r1) (own_seen1 HT30.out.1.r2) HT30.out.2.2.2).mono ?_
                  rintro e w31 ⟨_, _, _, _, _, _, rfl, -, -, -, hk31⟩
                  have HT31 : Hid (Tri w31 wb.heap.size (.slice b0 n0 d0) (.slice b1 n1 d1) (.slice b2 n2 d2) n0 n1 n2 l st pk ∧ w31.heap[p1]? = some (.cells #[.slice b0 n0 d0, .slice b1 n1 d1, .slice b2 n2 d2] 26 (0, 0)) ∧ wb.heap.size ≤ w31.heap.size ∧ Keeps TL w15 w31 ∧ n2 ≤ d2) := ⟨HT30.out.1.more hk31, blk_kept HT30.out.2.1 hk31 (fun f => f), Nat.le_trans HT30.out.2.2.1 hk31.size, HF0.out.trans hk31 (fun _ f _ => f.elim), HT30.out.2.2.2⟩
                  have x0 : w31.cell? ⟨p1, 0, none⟩ = some (.slice b0 n0 d0) := (blk_cell HT31.out.2.1 0).trans rfl
                  have x1 : w31.cell? ⟨p1, 1, none⟩ = some (.slice b1 n1 d1) := (blk_cell HT31.out.2.1 1).trans rfl
                  have x2 : w31.cell? ⟨p1, 2, none⟩ = some (.slice b2 n2 d2) := (blk_cell HT31.out.2.1 2).trans rfl
                  clear hk31 HT30 HF0 HSt
                  go_upto_region 63 with fail
                  go_wp2_with fail
                  clear x0 x1 x2
                  refine (over_ok b0 b1 b2 n0 d0 n1 d1 n2 d2 wb.heap.size l st pk w31 HT31.out.1 HT31.out.2.2.1 HL.out s0 s1 s2).mono ?_
                  rintro e w32 ⟨⟨v7, rfl⟩, hT7, hk7⟩
                  have HT32 : Hid (Tri w32 wb.heap.size (.slice b0 n0 d0) (.slice b1 n1 d1) (.slice b2 n2 d2) n0 n1 n2 (l.map flipD) (st.map not) (pk.map flipI) ∧ w32.heap[p1]? = some (.cells #[.slice b0 n0 d0, .slice b1 n1 d1, .slice b2 n2 d2] 26 (0, 0)) ∧ n0 = (l.map flipD).length ∧ n2 ≤ d2 ∧ Fits ((l.map flipD).map Dd.loc) ∧ Keeps (fun i => w.heap.size ≤ i) w w32) :=
                    ⟨hT7, blk_kept HT31.out.2.1 hk7 (HT31.out.1.notBox HT31.out.2.1), by rw [List.length_map]; exact HL.out, HT31.out.2.2.2.2, flip_fits2 HS.out.2.2.2.2, ((HW15.out.mono (T := fun i => w.heap.size ≤ i) (fun _ f _ => f.elim)).trans HT31.out.2.2.2.1 (fun i e _ => HTLw.out i e)).trans hk7 (fun i e _ => Nat.le_trans HKwb.out (HT31.out.1.lowF e))⟩
                  clear hT7 hk7 HT31
                  generalize l.map flipD = l2 at *
                  generalize st.map not = st2 at *
                  generalize pk.map flipI = pk2 at *
                  have x0 : w32.cell? ⟨p1, 0, none⟩ = some (.slice b0 n0 d0) := (blk_cell HT32.out.2.1 0).trans rfl
                  have x1 : w32.cell? ⟨p1, 1, none⟩ = some (.slice b1 n1 d1) := (blk_cell HT32.out.2.1 1).trans rfl
                  have x2 : w32.cell? ⟨p1, 2, none⟩ = some (.slice b2 n2 d2) := (blk_cell HT32.out.2.1 2).trans rfl
                  go_upto_region 64 with fail
                  go_wp2_with fail
                  clear x0 x1 x2
                  refine (Play_fam b0 n0 d0 l2 b1 n1 d1 st2 b2 n2 d2 pk2 w32 (HT32.out.1.seen HT32.out.2.2.1) (own_seen1 HT32.out.1.r1) (own_seen1 HT32.out.1.r2) HT32.out.2.2.2.1).mono ?_
                  rintro e w33 ⟨fp, fpc, mp, mpc, lp, lpc, BP, QP, rfl, hak, -, -, -, hk33⟩
                  obtain ⟨NF2, hNF⟩ : ∃ N, N = (finT l2 st2 pk2).length := ⟨_, rfl⟩
                  obtain ⟨NG2, hNG⟩ : ∃ N, N = (mgT l2 st2 pk2).length := ⟨_, rfl⟩
                  obtain ⟨NL2, hNL⟩ : ∃ N, N = (lkT l2 st2 pk2).length := ⟨_, rfl⟩
                  obtain ⟨NM2, hNM⟩ : ∃ N, N = madeT l2 st2 pk2 := ⟨_, rfl⟩
                  obtain ⟨E2, hE⟩ : ∃ E, E = refE l2 st2 pk2 := ⟨_, rfl⟩
                  have HN2 : Hid (NF2 = (finT l2 st2 pk2).length ∧ NG2 = (mgT l2 st2 pk2).length ∧ NL2 = (lkT l2 st2 pk2).length ∧ NM2 = madeT l2 st2 pk2 ∧ E2 = refE l2 st2 pk2) := ⟨hNF, hNG, hNL, hNM, hE⟩
                  rw [← hNF, ← hNG, ← hNL, ← hNM, ← hE]
                  obtain ⟨p33, hp33⟩ : ∃ p, p = w33.heap.size := ⟨_, rfl⟩
                  have hbp := blk_new w33 (.cells #[.slice fp NF2 fpc, .int .i64 NM2, .slice mp NG2 mpc, .slice lp NL2 lpc] 32) p33 hp33.symm
                  have hkp := (Keeps.alloc None w33 (.cells #[.slice fp NF2 fpc, .int .i64 NM2, .slice mp NG2 mpc, .slice lp NL2 lpc] 32))
                  have HA33 : Hid (Ans w33 (finT l2 st2 pk2) NM2 (mgT l2 st2 pk2) (lkT l2 st2 pk2) fp mp lp) := by rw [HN2.out.2.2.2.1]; exact hak.now
                  clear hak hNF hNG hNL hNM hE
                  go_upto_region 65 with fail
                  rw [← hp33]
                  generalize (w33.alloc (.cells #[.slice fp NF2 fpc, .int .i64 NM2, .slice mp NG2 mpc, .slice lp NL2 lpc] 32)) = w34 at *
                  have H34 : Hid (Ans w34 (finT l2 st2 pk2) NM2 (mgT l2 st2 pk2) (lkT l2 st2 pk2) fp mp lp ∧ w34.heap[p33]? = some (.cells #[.slice fp NF2 fpc, .int .i64 NM2, .slice mp NG2 mpc, .slice lp NL2 lpc] 32 (0, 0)) ∧ Keeps None w32 w34) := ⟨HA33.out.more hkp, hbp, hk33.trans hkp (fun _ f _ => f)⟩
                  clear hbp hkp hk33 hp33 HA33
                  have hC34 := blk_kept HT32.out.2.1 H34.out.2.2 (fun f => f)
                  have x0 : w34.cell? ⟨p1, 0, none⟩ = some (.slice b0 n0 d0) := (blk_cell hC34 0).trans rfl
                  have x1 : w34.cell? ⟨p1, 1, none⟩ = some (.slice b1 n1 d1) := (blk_cell hC34 1).trans rfl
                  have x2 : w34.cell? ⟨p1, 2, none⟩ = some (.slice b2 n2 d2) := (blk_cell hC34 2).trans rfl
                  clear hC34
                  go_wp2_with fail
                  clear x0 x1 x2
                  refine (RPlay_fam b0 n0 d0 l2 b1 n1 d1 st2 b2 n2 d2 pk2 w34 ((HT32.out.1.more H34.out.2.2).seen HT32.out.2.2.1) (own_seen1 (HT32.out.1.more H34.out.2.2).r1) (own_seen1 (HT32.out.1.more H34.out.2.2).r2) HT32.out.2.2.2.2.1).mono ?_
                  rintro e w35 ⟨fq, fqc, mq, mqc, lq, lqc, rfl, hak, hk35⟩
                  rw [← HN2.out.1, ← HN2.out.2.1, ← HN2.out.2.2.1, ← HN2.out.2.2.2.1, ← HN2.out.2.2.2.2]
                  obtain ⟨p35, hp35⟩ : ∃ p, p = w35.heap.size := ⟨_, rfl⟩
                  have hbq := blk_new w35 (.cells #[.slice fq NF2 fqc, .int .i64 NM2, .slice mq NG2 mqc, .slice lq NL2 lqc] 32) p35 hp35.symm
                  have hkq := (Keeps.alloc None w35 (.cells #[.slice fq NF2 fqc, .int .i64 NM2, .slice mq NG2 mqc, .slice lq NL2 lqc] 32))
                  have HA35 : Hid (Ans w35 (finT l2 st2 pk2) NM2 (mgT l2 st2 pk2) (lkT l2 st2 pk2) fq mq lq) := by rw [HN2.out.2.2.2.1]; exact hak.now
                  clear hak
                  go_upto_region 66 with fail
                  rw [← hp35]
                  generalize (w35.alloc (.cells #[.slice fq NF2 fqc, .int .i64 NM2, .slice mq NG2 mqc, .slice lq NL2 lqc] 32)) = w36 at *
                  have hk346 : Keeps None w34 w36 := hk35.trans hkq (fun _ f _ => f)
                  have H36 : Hid (Ans w36 (finT l2 st2 pk2) NM2 (mgT l2 st2 pk2) (lkT l2 st2 pk2) fp mp lp ∧ Ans w36 (finT l2 st2 pk2) NM2 (mgT l2 st2 pk2) (lkT l2 st2 pk2) fq mq lq ∧ Keeps (fun i => w.heap.size ≤ i) w w36) := ⟨H34.out.1.more hk346, HA35.out.more hkq, HT32.out.2.2.2.2.2.trans (H34.out.2.2.trans hk346 (fun _ f _ => f)) (fun _ f _ => f.elim)⟩
                  have e33 := blk_kept H34.out.2.1 hk346 (fun f => f)
                  have t0 : w36.cell? ⟨p33, 0, none⟩ = some (.slice fp NF2 fpc) := (blk_cell e33 0).trans rfl
                  have t1 : w36.cell? ⟨p33, 1, none⟩ = some (.int .i64 NM2) := (blk_cell e33 1).trans rfl
                  have t2 : w36.cell? ⟨p33, 2, none⟩ = some (.slice mp NG2 mpc) := (blk_cell e33 2).trans rfl
                  have t3 : w36.cell? ⟨p33, 3, none⟩ = some (.slice lp NL2 lpc) := (blk_cell e33 3).trans rfl
                  have y0 : w36.cell? ⟨p35, 0, none⟩ = some (.slice fq NF2 fqc) := (blk_cell hbq 0).trans rfl
                  have y1 : w36.cell? ⟨p35, 1, none⟩ = some (.int .i64 NM2) := (blk_cell hbq 1).trans rfl
                  have y2 : w36.cell? ⟨p35, 2, none⟩ = some (.slice mq NG2 mqc) := (blk_cell hbq 2).trans rfl
                  have y3 : w36.cell? ⟨p35, 3, none⟩ = some (.slice lq NL2 lqc) := (blk_cell hbq 3).trans rfl
                  clear e33 hbq hkq hk35 hk346 hp35 HA35 H34 HT32
                  go_wp2_with fail
                  clear t0 t1 t2 t3 y0 y1 y2 y3
                  refine (sameViews_ok (finT l2 st2 pk2) NM2 (mgT l2 st2 pk2) (lkT l2 st2 pk2) fp mp lp fq mq lq NF2 NG2 NL2 fpc mpc lpc fqc mqc lqc w36 H36.out.1 H36.out.2.1 HN2.out.1 HN2.out.2.1 HN2.out.2.2.1 (by rw [HN2.out.1]; exact finT_len l2 st2 pk2) (by rw [HN2.out.2.1]; exact mgT_len l2 st2 pk2) (by rw [HN2.out.2.2.1]; exact (lkT_len l2 st2 pk2).1) (lkT_len l2 st2 pk2).2).mono ?_
                  rintro e w37 ⟨rfl, hk37⟩
                  have HE : Hid (Below w.heap.size w w37) := (H36.out.2.2.trans hk37 (fun _ f _ => f.elim)).below _ (Nat.le_refl _) (fun _ e => e)
                  clear hk37
                  go_wp2
                  go_ret
                  exact ⟨rfl, HE.out⟩
end Go.Proofs.Ytdiabpoafennlab.Rn
