import Derived.Test.YtdiabpoafennlabPkAX
/-! The walk of HyperFold. -/
namespace Go.Proofs.Ytdiabpoafennlab.Rn
set_option linter.unusedVariables false
set_option maxRecDepth 20000
set_option linter.unusedSimpArgs false
open Go.RowKit Go.HeapKit Go.PlainOps

theorem fits_okD2 {l : List Dd} (h : ∀ i ∈ l, okD i) : Fits (l.map Dd.loc) := fun x hx => by
  obtain ⟨d, hd, rfl⟩ := List.mem_map.1 hx
  exact (h d hd).2
theorem fits_putsD {l : List Dd} (h : Fits (l.map Dd.loc)) : Fits (putsD l) := fun x hx => by
  obtain ⟨d, hd, rfl⟩ := List.mem_map.1 hx
  exact h _ (List.mem_map.2 ⟨d, (List.mem_filter.1 hd).1, rfl⟩)
theorem flip_fits {l : List Dd} (h : Fits (l.map Dd.loc)) : Fits ((l.map flipD).map Dd.loc) := fun x hx => by
  obtain ⟨d, hd, rfl⟩ := List.mem_map.1 hx
  obtain ⟨y, hy, rfl⟩ := List.mem_map.1 hd
  exact workV_fits 7 y.loc 1 (by decide) (h y.loc (List.mem_map.2 ⟨y, hy, rfl⟩)) (by decide)
theorem own_cap {w : World} {B : Nat} {e : TypeId} {z : Nat} {a : Option Addr} {n c : Nat} {xs : List Value} (h : w.ownsRow B e z (.slice a n c) n xs) : n ≤ c := by
  rcases h.2 with ⟨e1, h0⟩ | ⟨g, cap, cur, e1, hb, hg, hnc, hm, hcs, ht⟩
  · omega
  · injection e1 with e1 e2 e3
    omega
set_option maxHeartbeats 3200000 in
theorem hyperFold_walk (op : Int) (a0 a1 a2 : Option Addr) (n0 c0 n1 c1 n2 c2 : Nat) (l : List Dd) (st : List Bool) (pk : List Int) (w : World) (h0 : Seen w a0 n0 l) (h1 : SeenV w a1 n1 (bv' st)) (h2 : SeenV w a2 n2 (iv pk)) (hpc : n2 ≤ c2) (hD : ∀ i ∈ l, okD i) (s0 : n0 * 16 ≤ 140737488351232) (s1 : n1 ≤ 140737488351232) (s2 : n2 * 8 ≤ 140737488351232) :
    Calls Try.prog 4 #[.int .i64 op, .agg #[.slice a0 n0 c0, .slice a1 n1 c1, .slice a2 n2 c2]] w fun e w' => e = .returned (.bool true) ∧ Below w.heap.size w w' := by
  have HS : Hid (Seen w a0 n0 l ∧ SeenV w a1 n1 (bv' st) ∧ SeenV w a2 n2 (iv pk) ∧ n2 ≤ c2 ∧ Fits (l.map Dd.loc)) := ⟨h0, h1, h2, hpc, fits_okD2 hD⟩
  have HL : Hid (n0 = l.length) := h0.len
  clear h0 h1 h2 hpc hD
  obtain ⟨p0, hp0⟩ : ∃ p0, p0 = w.heap.size := ⟨_, rfl⟩
  have hb0 := blk_new w (.cells #[.slice a0 n0 c0, .slice a1 n1 c1, .slice a2 n2 c2] 26) p0 hp0.symm
  have hkb := (Keeps.alloc None w (.cells #[.slice a0 n0 c0, .slice a1 n1 c1, .slice a2 n2 c2] 26))
  go_enter Try.func4, Try.ntmps4
  go_upto_region 1 with fail
  rw [← hp0]
  generalize (w.alloc (.cells #[.slice a0 n0 c0, .slice a1 n1 c1, .slice a2 n2 c2] 26)) = wb at *
  have y0 : wb.cell? ⟨p0, 0, none⟩ = some (.slice a0 n0 c0) := (blk_cell hb0 0).trans rfl
  have y1 : wb.cell? ⟨p0, 1, none⟩ = some (.slice a1 n1 c1) := (blk_cell hb0 1).trans rfl
  have y2 : wb.cell? ⟨p0, 2, none⟩ = some (.slice a2 n2 c2) := (blk_cell hb0 2).trans rfl
  have HY : Hid (∀ wx, Keeps None wb wx → wx.cell? ⟨p0, 0, none⟩ = some (.slice a0 n0 c0) ∧ wx.cell? ⟨p0, 1, none⟩ = some (.slice a1 n1 c1) ∧ wx.cell? ⟨p0, 2, none⟩ = some (.slice a2 n2 c2) ∧ Seen wx a0 n0 l ∧ SeenV wx a1 n1 (bv' st) ∧ SeenV wx a2 n2 (iv pk)) := fun wx hx =>
    ⟨hx.cell y0 (fun f => f), hx.cell y1 (fun f => f), hx.cell y2 (fun f => f), (HS.out.1.more hkb).more hx, (HS.out.2.1.more hkb).more hx, (HS.out.2.2.1.more hkb).more hx⟩
  have HK : Hid (Keeps None w wb ∧ w.heap.size ≤ wb.heap.size ∧ p0 < wb.heap.size) := ⟨hkb, hkb.size, blk_lt hb0⟩
  clear hb0 hkb hp0
  go_wp2_with fail
  refine (copied_ok a0 a1 a2 n0 c0 n1 c1 n2 c2 l st pk wb (HY.out wb (Keeps.refl _ _)).2.2.2.1 (HY.out wb (Keeps.refl _ _)).2.2.2.2.1 (HY.out wb (Keeps.refl _ _)).2.2.2.2.2 s0 s1 s2).mono ?_
  rintro e w1 ⟨v0, v1, v2, rfl, hT, hk1⟩
  obtain ⟨b0, d0, rfl⟩ := row_shape hT.r0
  obtain ⟨b1, d1, rfl⟩ := row_shape hT.r1
  obtain ⟨b2, d2, rfl⟩ := row_shape hT.r2
  clear y0 y1 y2
  obtain ⟨p1, hp1⟩ : ∃ p1, p1 = w1.heap.size := ⟨_, rfl⟩
  have hc1 := blk_new w1 (.cells #[.slice b0 n0 d0, .slice b1 n1 d1, .slice b2 n2 d2] 26) p1 hp1.symm
  have hkc := (Keeps.alloc None w1 (.cells #[.slice b0 n0 d0, .slice b1 n1 d1, .slice b2 n2 d2] 26))
  go_upto_region 2 with fail
  rw [← hp1]
  generalize (w1.alloc (.cells #[.slice b0 n0 d0, .slice b1 n1 d1, .slice b2 n2 d2] 26)) = wc at *
  have hkq : Keeps None wb wc := hk1.trans hkc (fun _ f _ => f)
  have HC : Hid (wc.heap[p1]? = some (.cells #[.slice b0 n0 d0, .slice b1 n1 d1, .slice b2 n2 d2] 26 (0, 0))) := hc1
  have HT : Hid (Tri wc wb.heap.size (.slice b0 n0 d0) (.slice b1 n1 d1) (.slice b2 n2 d2) n0 n1 n2 l st pk ∧ Keeps None wb wc ∧ n2 ≤ d2) := ⟨hT.more hkc, hkq, own_cap hT.r2⟩
  obtain ⟨y0, y1, y2, -, -, -⟩ := HY.out wc hkq
  clear hc1 hT hkc hk1 hkq hp1
  go_wp2_with fail
  refine (Nm.Fold_ok op a0 n0 c0 l a1 n1 c1 st a2 n2 c2 pk wc (HY.out wc HT.out.2.1).2.2.2.1 (HY.out wc HT.out.2.1).2.2.2.2.1 (HY.out wc HT.out.2.1).2.2.2.2.2 HS.out.2.2.2.1 (fits_putsD HS.out.2.2.2.2)).mono ?_
  rintro e w2 ⟨rfl, hk2⟩
  obtain ⟨V, hV⟩ : ∃ V, V = Nm.nmV op l st pk := ⟨_, rfl⟩
  obtain ⟨E, hE⟩ : ∃ E, E = Nm.nmE op l st pk := ⟨_, rfl⟩
  have HV : Hid (V = Nm.nmV op l st pk ∧ E = Nm.nmE op l st pk ∧ Keeps None wc w2) := ⟨hV, hE, hk2⟩
  rw [← hV, ← hE]
  have hC2 := blk_kept HC.out hk2 (fun f => f)
  have z0 : w2.cell? ⟨p1, 0, none⟩ = some (.slice b0 n0 d0) := (blk_cell hC2 0).trans rfl
  have z1 : w2.cell? ⟨p1, 1, none⟩ = some (.slice b1 n1 d1) := (blk_cell hC2 1).trans rfl
  have z2 : w2.cell? ⟨p1, 2, none⟩ = some (.slice b2 n2 d2) := (blk_cell hC2 2).trans rfl
  clear hV hE hk2 y0 y1 y2 hC2
  go_upto_region 3 with fail
  go_wp2_with fail
  refine (RFold_ok op b0 n0 d0 l b1 n1 d1 st b2 n2 d2 pk w2 ((HT.out.1.more HV.out.2.2).seen HL.out) (own_seen1 (HT.out.1.more HV.out.2.2).r1) (own_seen1 (HT.out.1.more HV.out.2.2).r2) HS.out.2.2.2.2).mono ?_
  rintro e w3 ⟨rfl, hk3⟩
  rw [← HV.out.1, ← HV.out.2.1]
  have H3 : Hid (Keeps None wc w3) := HV.out.2.2.trans hk3 (fun _ f _ => f)
  clear hk3 z0 z1 z2
  go_upto_region 4 with fail
  have HX : Hid (∀ wx, Keeps None wc wx → (wx.cell? ⟨p1, 0, none⟩ = some (.slice b0 n0 d0) ∧ wx.cell? ⟨p1, 1, none⟩ = some (.slice b1 n1 d1) ∧ wx.cell? ⟨p1, 2, none⟩ = some (.slice b2 n2 d2)) ∧ (wx.cell? ⟨p0, 0, none⟩ = some (.slice a0 n0 c0) ∧ wx.cell? ⟨p0, 1, none⟩ = some (.slice a1 n1 c1) ∧ wx.cell? ⟨p0, 2, none⟩ = some (.slice a2 n2 c2))) := fun wx hx => by
    have ec := blk_kept HC.out hx (fun f => f)
    have ey := HY.out wx (HT.out.2.1.trans hx (fun _ f _ => f))
    exact ⟨⟨(blk_cell ec 0).trans rfl, (blk_cell ec 1).trans rfl, (blk_cell ec 2).trans rfl⟩, ⟨ey.1, ey.2.1, ey.2.2.1⟩⟩
  obtain ⟨⟨x0, x1, x2⟩, x3, x4, x5⟩ := HX.out w3 H3.out
  go_wp2_with fail
  clear x0 x1 x2 x3 x4 x5
  refine (same_ok a0 a1 a2 b0 b1 b2 n0 c0 n1 c1 n2 c2 d0 d1 d2 l st pk w3 (HY.out w3 (HT.out.2.1.trans H3.out (fun _ f _ => f))).2.2.2.1 (HY.out w3 (HT.out.2.1.trans H3.out (fun _ f _ => f))).2.2.2.2.1 (HY.out w3 (HT.out.2.1.trans H3.out (fun _ f _ => f))).2.2.2.2.2 ((HT.out.1.more H3.out).seen HL.out) (own_seen1 (HT.out.1.more H3.out).r1) (own_seen1 (HT.out.1.more H3.out).r2) s0 s1 s2).mono ?_
  rintro e w4 ⟨rfl, hk4⟩
  have H4 : Hid (Keeps None wc w4) := H3.out.trans hk4 (fun _ f _ => f)
  obtain ⟨⟨x0, x1, x2⟩, x3, x4, x5⟩ := HX.out w4 H4.out
  clear hk4 x3 x4 x5
  go_wp2_with fail
  clear x0 x1 x2
  refine (Nm.Fold_ok op b0 n0 d0 l b1 n1 d1 st b2 n2 d2 pk w4 ((HT.out.1.more H4.out).seen HL.out) (own_seen1 (HT.out.1.more H4.out).r1) (own_seen1 (HT.out.1.more H4.out).r2) HT.out.2.2 (fits_putsD HS.out.2.2.2.2)).mono ?_
  rintro e w5 ⟨rfl, hk5⟩
  have H5 : Hid (Keeps None wc w5) := H4.out.trans hk5 (fun _ f _ => f)
  obtain ⟨⟨x0, x1, x2⟩, x3, x4, x5⟩ := HX.out w5 H5.out
  clear hk5 x3 x4 x5
  go_upto_region 7 with fail
  have HT5 : Hid (Tri w5 wb.heap.size (.slice b0 n0 d0) (.slice b1 n1 d1) (.slice b2 n2 d2) n0 n1 n2 l st pk ∧ Keeps None wb w5 ∧ w5.heap[p1]? = some (.cells #[.slice b0 n0 d0, .slice b1 n1 d1, .slice b2 n2 d2] 26 (0, 0)) ∧ n2 ≤ d2) := ⟨HT.out.1.more H5.out, HT.out.2.1.trans H5.out (fun _ f _ => f), blk_kept HC.out H5.out (fun f => f), HT.out.2.2⟩
  clear HV H3 H4 HX HC
  go_wp2_with fail
  refine (over_ok b0 b1 b2 n0 d0 n1 d1 n2 d2 wb.heap.size l st pk w5 HT5.out.1 HT5.out.2.1.size HL.out s0 s1 s2).mono ?_
  rintro e w7 ⟨⟨v7, rfl⟩, hT7, hk7⟩
  have HT7 : Hid (Tri w7 wb.heap.size (.slice b0 n0 d0) (.slice b1 n1 d1) (.slice b2 n2 d2) n0 n1 n2 (l.map flipD) (st.map not) (pk.map flipI) ∧ Keeps (fun i => wb.heap.size ≤ i) wb w7 ∧ n0 = (l.map flipD).length ∧ w7.heap[p1]? = some (.cells #[.slice b0 n0 d0, .slice b1 n1 d1, .slice b2 n2 d2] 26 (0, 0)) ∧ n2 ≤ d2 ∧ Fits ((l.map flipD).map Dd.loc)) :=
    ⟨hT7, (HT5.out.2.1.mono (T := fun i => wb.heap.size ≤ i) (fun _ f _ => f.elim)).trans hk7 (fun i e _ => HT5.out.1.lowF e), by rw [List.length_map]; exact HL.out, blk_kept HT5.out.2.2.1 hk7 (HT5.out.1.notBox HT5.out.2.2.1), HT5.out.2.2.2, flip_fits HS.out.2.2.2.2⟩
  clear hT7 hk7 HT5 x0 x1 x2 H5 HT
  generalize l.map flipD = l2 at *
  generalize st.map not = st2 at *
  generalize pk.map flipI = pk2 at *
  have HX : Hid (∀ wx, Keeps None w7 wx → wx.cell? ⟨p1, 0, none⟩ = some (.slice b0 n0 d0) ∧ wx.cell? ⟨p1, 1, none⟩ = some (.slice b1 n1 d1) ∧ wx.cell? ⟨p1, 2, none⟩ = some (.slice b2 n2 d2)) := fun wx hx => by
    have ec := blk_kept HT7.out.2.2.2.1 hx (fun f => f)
    exact ⟨(blk_cell ec 0).trans rfl, (blk_cell ec 1).trans rfl, (blk_cell ec 2).trans rfl⟩
  obtain ⟨x0, x1, x2⟩ := HX.out w7 (Keeps.refl _ _)
  go_upto_region 8 with fail
  go_wp2_with fail
  clear x0 x1 x2
  refine (Nm.Fold_ok op b0 n0 d0 l2 b1 n1 d1 st2 b2 n2 d2 pk2 w7 (HT7.out.1.seen HT7.out.2.2.1) (own_seen1 HT7.out.1.r1) (own_seen1 HT7.out.1.r2) HT7.out.2.2.2.2.1 (fits_putsD HT7.out.2.2.2.2.2)).mono ?_
  rintro e w8 ⟨rfl, hk8⟩
  obtain ⟨V2, hV⟩ : ∃ V, V = Nm.nmV op l2 st2 pk2 := ⟨_, rfl⟩
  obtain ⟨E2, hE⟩ : ∃ E, E = Nm.nmE op l2 st2 pk2 := ⟨_, rfl⟩
  have HV : Hid (V2 = Nm.nmV op l2 st2 pk2 ∧ E2 = Nm.nmE op l2 st2 pk2 ∧ Keeps None w7 w8) := ⟨hV, hE, hk8⟩
  rw [← hV, ← hE]
  obtain ⟨x0, x1, x2⟩ := HX.out w8 hk8
  clear hV hE hk8
  go_upto_region 9 with fail
  go_wp2_with fail
  clear x0 x1 x2
  refine (RFold_ok op b0 n0 d0 l2 b1 n1 d1 st2 b2 n2 d2 pk2 w8 ((HT7.out.1.more HV.out.2.2).seen HT7.out.2.2.1) (own_seen1 (HT7.out.1.more HV.out.2.2).r1) (own_seen1 (HT7.out.1.more HV.out.2.2).r2) HT7.out.2.2.2.2.2).mono ?_
  rintro e w9 ⟨rfl, hk9⟩
  rw [← HV.out.1, ← HV.out.2.1]
  have HE : Hid (Below w.heap.size w w9) := ((HK.out.1.mono (T := fun i => w.heap.size ≤ i) (fun _ f _ => f.elim)).trans (HT7.out.2.1.trans (HV.out.2.2.trans hk9 (fun _ f _ => f)) (fun _ f _ => f.elim)) (fun i e _ => Nat.le_trans HK.out.2.1 e)).below _ (Nat.le_refl _) (fun _ e => e)
  clear hk9
  go_wp2
  go_ret
  exact ⟨rfl, HE.out⟩
end Go.Proofs.Ytdiabpoafennlab.Rn
