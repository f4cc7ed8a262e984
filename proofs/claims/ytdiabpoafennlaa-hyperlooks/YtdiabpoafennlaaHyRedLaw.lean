import Derived.Test.YtdiabpoafennlaaHyRight
import Derived.Test.YtdiabpoafennlaaHySerLaw
/-! The walk of HyperReducer. -/
namespace Go.Proofs.Ytdiabpoafennlaa
set_option linter.unusedVariables false
set_option maxRecDepth 20000
set_option linter.unusedSimpArgs false
open Go.RowKit Go.HeapKit

theorem putsD_eq (l : List Dd) : putsL (l.map dp) = putsD l := by
  unfold putsL putsD
  rw [List.filter_map, List.map_map]
  rfl
/-- What comes out is what is put. -/
theorem fin_puts (l : List Dd) (st : List Bool) (pk : List Int) : (finPS l st pk).vs.getD 0 [] = putsD l := by
  rw [← putsD_eq]
  exact final_puts st (l.map dp) pk
theorem Fin.final {w : World} {B : Nat} {X : PX} {K : Ky → Value} {l : List Dd} {st : List Bool} {pk : List Int} (h : Fin w B X K (finPS l st pk)) : ∃ a c, K (.inl 0) = .slice a (putsD l).length c ∧ SeenV w a (putsD l).length (iv (putsD l)) := by
  have hr := h.vw.rows (.inl 0)
  have e : Lf (finPS l st pk).vs (finPS l st pk).lk (.inl 0) = putsD l := fin_puts l st pk
  rw [e] at hr
  obtain ⟨a, c, h2⟩ := row_shape hr
  rw [h2] at hr
  exact ⟨a, c, h2, own_seen1 hr⟩
theorem right_iff {l : List Dd} {st : List Bool} {pk : List Int} : (refE l st pk = 0 → rightB l st pk = true) ∧ (refE l st pk ≠ 0 → rightB l st pk = false) := by
  unfold rightB
  exact ⟨fun h => by simp [h], fun h => by simp [h]⟩
theorem refE_chk {l : List Dd} {st : List Bool} {pk : List Int} (h : refE l st pk = 0) : chkE l = 0 ∧ serL l = putsD l := by
  have : chkE l = 0 := by
    unfold refE at h
    split at h
    · omega
    · exact h
  exact ⟨this, by unfold serL; rw [if_pos this]⟩
set_option maxHeartbeats 3200000 in
theorem hyperReducer_walk (a0 a1 a2 : Option Addr) (n0 c0 n1 c1 n2 c2 : Nat) (l : List Dd) (st : List Bool) (pk : List Int) (w : World) (h0 : Seen w a0 n0 l) (h1 : SeenV w a1 n1 (bv' st)) (h2 : SeenV w a2 n2 (iv pk)) (hc : n2 ≤ c2) :
    Calls Try.prog 5 #[.agg #[.slice a0 n0 c0, .slice a1 n1 c1, .slice a2 n2 c2]] w fun e w' => e = .returned (.bool true) ∧ Below w.heap.size w w' := by
  have HS : Hid (Seen w a0 n0 l ∧ SeenV w a1 n1 (bv' st) ∧ SeenV w a2 n2 (iv pk) ∧ n2 ≤ c2) := ⟨h0, h1, h2, hc⟩
  have HL : Hid (n0 = l.length ∧ n1 = st.length ∧ n2 = pk.length) := ⟨h0.len, by have := h1.len; rwa [bv_len] at this, by have := h2.len; rwa [iv_len] at this⟩
  clear h0 h1 h2 hc
  obtain ⟨p0, hp0⟩ : ∃ p0, p0 = w.heap.size := ⟨_, rfl⟩
  have hb0 := blk_new w (.cells #[.slice a0 n0 c0, .slice a1 n1 c1, .slice a2 n2 c2] 26) p0 hp0.symm
  have hkb := (Keeps.alloc None w (.cells #[.slice a0 n0 c0, .slice a1 n1 c1, .slice a2 n2 c2] 26))
  go_enter Try.func5, Try.ntmps5
  go_upto_region 1 with fail
  rw [← hp0]
  clear hp0
  generalize (w.alloc (.cells #[.slice a0 n0 c0, .slice a1 n1 c1, .slice a2 n2 c2] 26)) = wb at *
  have HY : Hid (∀ wx, Keeps None w wx → Seen wx a0 n0 l ∧ SeenV wx a1 n1 (bv' st) ∧ SeenV wx a2 n2 (iv pk)) := fun wx hx => ⟨HS.out.1.more hx, HS.out.2.1.more hx, HS.out.2.2.1.more hx⟩
  have HB : Hid (wb.heap[p0]? = some (.cells #[.slice a0 n0 c0, .slice a1 n1 c1, .slice a2 n2 c2] 26 (0, 0)) ∧ Keeps None w wb) := ⟨hb0, hkb⟩
  have y0 : wb.cell? ⟨p0, 0, none⟩ = some (.slice a0 n0 c0) := blk_cell hb0 0
  have y1 : wb.cell? ⟨p0, 1, none⟩ = some (.slice a1 n1 c1) := blk_cell hb0 1
  have y2 : wb.cell? ⟨p0, 2, none⟩ = some (.slice a2 n2 c2) := blk_cell hb0 2
  clear hb0 hkb
  go_wp2_with fail
  refine (Play_ok a0 n0 c0 l a1 n1 c1 st a2 n2 c2 pk wb (HY.out wb HB.out.2).1 (HY.out wb HB.out.2).2.1 (HY.out wb HB.out.2).2.2 HS.out.2.2.2).mono ?_
  rintro e w1 ⟨hbad, hgood, hk1⟩
  clear y0 y1 y2
  have hkw := HB.out.2.trans hk1 (fun _ f _ => f)
  have hb1 := blk_kept HB.out.1 hk1 (fun f => f)
  by_cases hE : refE l st pk = 0
  · obtain ⟨B, X, K0, rfl, hBw, hF⟩ := hgood hE
    obtain ⟨fa, fc, hK0, hfs⟩ := hF.final
    rw [hK0]
    obtain ⟨N, hN⟩ : ∃ N, N = putsD l := ⟨_, rfl⟩
    rw [← hN] at hfs ⊢
    obtain ⟨V1, hV1⟩ : ∃ V, V = (finPS l st pk).vs.length := ⟨_, rfl⟩
    obtain ⟨V2, hV2⟩ : ∃ V, V = (finPS l st pk).mg.length := ⟨_, rfl⟩
    obtain ⟨V3, hV3⟩ : ∃ V, V = (finPS l st pk).lk.length := ⟨_, rfl⟩
    rw [← hV1, ← hV2, ← hV3]
    have hbv := blk_new w1 (.cells #[.slice fa N.length fc, .int .i64 V1, .slice X.ma V2 X.mc, .slice X.la V3 X.lc] 39) w1.heap.size rfl
    have hkv := Keeps.alloc None w1 (.cells #[.slice fa N.length fc, .int .i64 V1, .slice X.ma V2 X.mc, .slice X.la V3 X.lc] 39)
    obtain ⟨p1, hp1⟩ : ∃ p1, p1 = w1.heap.size := ⟨_, rfl⟩
    have HN : Hid (N = putsD l ∧ serL l = N ∧ chkE l = 0 ∧ rightB l st pk = true ∧ N.length ≤ 4096 ∧ l.length ≤ 4096) := ⟨hN, (refE_chk hE).2.trans hN.symm, (refE_chk hE).1, right_iff.1 hE, by rw [hN]; have := putsD_len l; have := (refE_ok hE).1; omega, (refE_ok hE).1⟩
    clear hV1 hV2 hV3 hN hbad hgood hK0 hF hBw
    go_upto_region 2 with fail
    rw [← hp1] at hbv ⊢
    clear hp1
    generalize (w1.alloc (.cells #[.slice fa N.length fc, .int .i64 V1, .slice X.ma V2 X.mc, .slice X.la V3 X.lc] 39)) = w2 at *
    have HW : Hid (Keeps None w w2 ∧ w2.heap[p0]? = some (.cells #[.slice a0 n0 c0, .slice a1 n1 c1, .slice a2 n2 c2] 26 (0, 0)) ∧ w2.heap[p1]? = some (.cells #[.slice fa N.length fc, .int .i64 V1, .slice X.ma V2 X.mc, .slice X.la V3 X.lc] 39 (0, 0)) ∧ SeenV w2 fa N.length (iv N)) := ⟨hkw.trans hkv (fun _ f _ => f), blk_kept hb1 hkv (fun f => f), hbv, hfs.more hkv⟩
    have y0 : w2.cell? ⟨p0, 0, none⟩ = some (.slice a0 n0 c0) := blk_cell HW.out.2.1 0
    have y1 : w2.cell? ⟨p0, 1, none⟩ = some (.slice a1 n1 c1) := blk_cell HW.out.2.1 1
    have y2 : w2.cell? ⟨p0, 2, none⟩ = some (.slice a2 n2 c2) := blk_cell HW.out.2.1 2
    clear hkv hbv hfs hkw hb1 hk1 hE
    go_wp2_with fail
    refine (right_ok a0 a1 a2 n0 c0 n1 c1 n2 c2 l st pk w2 (HY.out w2 HW.out.1).1 HL.out.2.1 HL.out.2.2).mono ?_
    rintro e w3 ⟨rfl, hk3⟩
    rw [HN.out.2.2.2.1]
    have y3 : w3.cell? ⟨p0, 0, none⟩ = some (.slice a0 n0 c0) := hk3.cell y0 (fun f => f)
    have HK3 : Hid (Keeps None w2 w3) := hk3
    clear y0 y1 y2 hk3
    go_wp2_with fail
    refine (serial_any a0 n0 c0 l w3 (HY.out w3 (HW.out.1.trans HK3.out (fun _ f _ => f))).1).mono ?_
    rintro e w4 ⟨sa, sc, rfl, hs4, hk4⟩
    rw [HN.out.2.1, HN.out.2.2.1]
    rw [HN.out.2.1] at hs4
    have HK4 : Hid (Keeps None w2 w4 ∧ SeenV w4 sa N.length (iv N)) := ⟨HK3.out.trans hk4 (fun _ f _ => f), hs4⟩
    have y4 : w4.cell? ⟨p0, 0, none⟩ = some (.slice a0 n0 c0) := hk4.cell y3 (fun f => f)
    clear y3 hk4 hs4 HK3
    go_wp2_with fail
    refine (puts_ok a0 n0 c0 n0 l w4 (HY.out w4 (HW.out.1.trans HK4.out.1 (fun _ f _ => f))).1 (by have := HN.out.2.2.2.2.2; have := HL.out.1; omega) (Nat.le_refl _)).mono ?_
    rintro e w5 ⟨ua, uc, rfl, hs5, hk5⟩
    have ht : putsD (l.take n0) = N := by rw [List.take_of_length_le (by have := HL.out.1; omega), HN.out.1]
    rw [ht] at hs5 ⊢
    have HK5 : Hid (Keeps None w2 w5 ∧ SeenV w5 sa N.length (iv N) ∧ SeenV w5 ua N.length (iv N) ∧ SeenV w5 fa N.length (iv N)) := ⟨HK4.out.1.trans hk5 (fun _ f _ => f), HK4.out.2.more hk5, hs5, HW.out.2.2.2.more (HK4.out.1.trans hk5 (fun _ f _ => f))⟩
    clear y4 hk5 hs5 HK4 ht
    have v5 : w5.cell? ⟨p1, 0, none⟩ = some (.slice fa N.length fc) := blk_cell (blk_kept HW.out.2.2.1 HK5.out.1 (fun f => f)) 0
    go_wp2_with fail
    refine (sameInts_ok sa ua N.length sc uc N w5 HK5.out.2.1 HK5.out.2.2.1 (by have := HN.out.2.2.2.2.1; omega)).mono ?_
    rintro e w6 ⟨rfl, hk6⟩
    have v6 : w6.cell? ⟨p1, 0, none⟩ = some (.slice fa N.length fc) := hk6.cell v5 (fun f => f)
    have HK6 : Hid (Keeps None w5 w6) := hk6
    clear v5 hk6
    go_wp2_with fail
    refine (sameInts_ok fa ua N.length fc uc N w6 (HK5.out.2.2.2.more HK6.out) (HK5.out.2.2.1.more HK6.out) (by have := HN.out.2.2.2.2.1; omega)).mono ?_
    rintro e w7 ⟨rfl, hk7⟩
    have HE : Hid (Below w.heap.size w w7) := ((HW.out.1.trans HK5.out.1 (fun _ f _ => f)).trans (HK6.out.trans hk7 (fun _ f _ => f)) (fun _ f _ => f)).below _ (Nat.le_refl _) (fun _ f => f.elim)
    clear hk7 v6
    go_wp2
    go_ret
    exact ⟨rfl, HE.out⟩
  · obtain rfl := hbad hE
    have hbv := blk_new w1 (.cells #[.slice none 0 0, .int .i64 0, .slice none 0 0, .slice none 0 0] 39) w1.heap.size rfl
    have hkv := Keeps.alloc None w1 (.cells #[.slice none 0 0, .int .i64 0, .slice none 0 0, .slice none 0 0] 39)
    obtain ⟨p1, hp1⟩ : ∃ p1, p1 = w1.heap.size := ⟨_, rfl⟩
    obtain ⟨E, hEE⟩ : ∃ E, E = refE l st pk := ⟨_, rfl⟩
    rw [← hEE]
    rw [← hEE] at hE
    have HN : Hid (rightB l st pk = false) := right_iff.2 (by rw [← hEE]; exact hE)
    clear hbad hgood hEE
    go_upto_region 2 with fail
    rw [← hp1] at hbv ⊢
    clear hp1
    generalize (w1.alloc (.cells #[.slice none 0 0, .int .i64 0, .slice none 0 0, .slice none 0 0] 39)) = w2 at *
    have HW : Hid (Keeps None w w2 ∧ w2.heap[p1]? = some (.cells #[.slice none 0 0, .int .i64 0, .slice none 0 0, .slice none 0 0] 39 (0, 0))) := ⟨hkw.trans hkv (fun _ f _ => f), hbv⟩
    have hb2 := blk_kept hb1 hkv (fun f => f)
    have y0 : w2.cell? ⟨p0, 0, none⟩ = some (.slice a0 n0 c0) := blk_cell hb2 0
    have y1 : w2.cell? ⟨p0, 1, none⟩ = some (.slice a1 n1 c1) := blk_cell hb2 1
    have y2 : w2.cell? ⟨p0, 2, none⟩ = some (.slice a2 n2 c2) := blk_cell hb2 2
    clear hkv hbv hkw hb1 hk1 hb2
    go_wp2_with fail
    refine (right_ok a0 a1 a2 n0 c0 n1 c1 n2 c2 l st pk w2 (HY.out w2 HW.out.1).1 HL.out.2.1 HL.out.2.2).mono ?_
    rintro e w3 ⟨rfl, hk3⟩
    rw [HN.out]
    have v0 : w3.cell? ⟨p1, 0, none⟩ = some (.slice none 0 0) := blk_cell (blk_kept HW.out.2 hk3 (fun f => f)) 0
    have v1 : w3.cell? ⟨p1, 1, none⟩ = some (.int .i64 0) := blk_cell (blk_kept HW.out.2 hk3 (fun f => f)) 1
    have HE : Hid (Below w.heap.size w w3) := (HW.out.1.trans hk3 (fun _ f _ => f)).below _ (Nat.le_refl _) (fun _ f => f.elim)
    have hE2 : (E != 0) = true := by simp [hE]
    clear y0 y1 y2 hk3
    go_wp2
    go_ret
    exact ⟨rfl, HE.out⟩
end Go.Proofs.Ytdiabpoafennlaa
