import Derived.Test.YtdiabpoafennlaaPkAQ
import Derived.Test.YtdiabpoafennlaaPkAS
import Derived.Test.YtdiabpoafennlaaPkAP
/-! The walk of HyperSerial. -/
namespace Go.Proofs.Ytdiabpoafennlaa
set_option linter.unusedVariables false
set_option maxRecDepth 20000
set_option linter.unusedSimpArgs false
open Go.RowKit Go.HeapKit

def serL (l : List Dd) : List Int := if chkE l = 0 then putsD l else []
theorem serL_len (l : List Dd) : (serL l).length ≤ 4096 := by
  unfold serL
  split
  · rename_i h
    have := putsD_len l
    have := chkE_ok h
    omega
  · simp
theorem ser_of {v : Value} {l : List Dd} {B : Nat} {w : World} (h0 : chkE l ≠ 0 → v = .slice none 0 0) (h1 : chkE l = 0 → w.ownsRow B 2 1 v (putsD l).length (iv (putsD l))) : ∃ a c, v = .slice a (serL l).length c ∧ SeenV w a (serL l).length (iv (serL l)) := by
  unfold serL
  by_cases h : chkE l = 0
  · rw [if_pos h]
    have hr := h1 h
    obtain ⟨a, c, rfl⟩ := row_shape hr
    exact ⟨a, c, rfl, own_seen1 hr⟩
  · rw [if_neg h]
    exact ⟨none, 0, h0 h, SeenV.nil _ _⟩
theorem serial_any (a : Option Addr) (n c : Nat) (l : List Dd) (w : World) (hS : Seen w a n l) :
    Calls Try.prog 10 #[.slice a n c] w fun e w' => ∃ a1 c1, e = .returned (.tuple #[.slice a1 (serL l).length c1, .int .i64 (chkE l)]) ∧ SeenV w' a1 (serL l).length (iv (serL l)) ∧ Keeps None w w' := by
  refine (serial_ok a n c l w hS).mono ?_
  rintro e w' ⟨v, rfl, h0, h1, hk⟩
  obtain ⟨a1, c1, rfl, h2⟩ := ser_of h0 h1
  exact ⟨a1, c1, rfl, h2, hk⟩
theorem rserial_any (a : Option Addr) (n c : Nat) (l : List Dd) (w : World) (hS : Seen w a n l) :
    Calls Try.prog 11 #[.slice a n c] w fun e w' => ∃ a1 c1, e = .returned (.tuple #[.slice a1 (serL l).length c1, .int .i64 (chkE l)]) ∧ SeenV w' a1 (serL l).length (iv (serL l)) ∧ Keeps None w w' := by
  refine (rserial_ok a n c l w hS).mono ?_
  rintro e w' ⟨v, rfl, h0, h1, hk⟩
  obtain ⟨a1, c1, rfl, h2⟩ := ser_of h0 h1
  exact ⟨a1, c1, rfl, h2, hk⟩
theorem Tri.seen {w : World} {B : Nat} {a : Option Addr} {c : Nat} {v1 v2 : Value} {n0 n1 n2 : Nat} {l : List Dd} {st : List Bool} {pk : List Int} (h : Tri w B (.slice a n0 c) v1 v2 n0 n1 n2 l st pk) (hl : n0 = l.length) : Seen w a n0 l := Seen.of_row hl h.r0
set_option maxHeartbeats 3200000 in
theorem hyperSerial_walk (a0 a1 a2 : Option Addr) (n0 c0 n1 c1 n2 c2 : Nat) (l : List Dd) (st : List Bool) (pk : List Int) (w : World) (h0 : Seen w a0 n0 l) (h1 : SeenV w a1 n1 (bv' st)) (h2 : SeenV w a2 n2 (iv pk)) (s0 : n0 * 16 ≤ 140737488351232) (s1 : n1 ≤ 140737488351232) (s2 : n2 * 8 ≤ 140737488351232) :
    Calls Try.prog 3 #[.agg #[.slice a0 n0 c0, .slice a1 n1 c1, .slice a2 n2 c2]] w fun e w' => e = .returned (.bool true) ∧ Below w.heap.size w w' := by
  have HS : Hid (Seen w a0 n0 l ∧ SeenV w a1 n1 (bv' st) ∧ SeenV w a2 n2 (iv pk)) := ⟨h0, h1, h2⟩
  have HL : Hid (n0 = l.length ∧ (serL l).length ≤ 4096 ∧ (serL (l.map flipD)).length ≤ 4096) := ⟨h0.len, serL_len _, serL_len _⟩
  clear h0 h1 h2
  obtain ⟨p0, hp0⟩ : ∃ p0, p0 = w.heap.size := ⟨_, rfl⟩
  have hb0 := blk_new w (.cells #[.slice a0 n0 c0, .slice a1 n1 c1, .slice a2 n2 c2] 26) p0 hp0.symm
  have hkb := (Keeps.alloc None w (.cells #[.slice a0 n0 c0, .slice a1 n1 c1, .slice a2 n2 c2] 26))
  go_enter Try.func3, Try.ntmps3
  go_upto_region 1 with fail
  rw [← hp0]
  generalize (w.alloc (.cells #[.slice a0 n0 c0, .slice a1 n1 c1, .slice a2 n2 c2] 26)) = wb at *
  have y0 : wb.cell? ⟨p0, 0, none⟩ = some (.slice a0 n0 c0) := (blk_cell hb0 0).trans rfl
  have y1 : wb.cell? ⟨p0, 1, none⟩ = some (.slice a1 n1 c1) := (blk_cell hb0 1).trans rfl
  have y2 : wb.cell? ⟨p0, 2, none⟩ = some (.slice a2 n2 c2) := (blk_cell hb0 2).trans rfl
  have HY : Hid (∀ wx, Keeps None wb wx → wx.cell? ⟨p0, 0, none⟩ = some (.slice a0 n0 c0) ∧ wx.cell? ⟨p0, 1, none⟩ = some (.slice a1 n1 c1) ∧ wx.cell? ⟨p0, 2, none⟩ = some (.slice a2 n2 c2) ∧ Seen wx a0 n0 l ∧ SeenV wx a1 n1 (bv' st) ∧ SeenV wx a2 n2 (iv pk)) := fun wx hx =>
    ⟨hx.cell y0 (fun f => f), hx.cell y1 (fun f => f), hx.cell y2 (fun f => f), (HS.out.1.more hkb).more hx, (HS.out.2.1.more hkb).more hx, (HS.out.2.2.more hkb).more hx⟩
  have HK : Hid (Keeps None w wb ∧ w.heap.size ≤ wb.heap.size ∧ p0 < wb.heap.size) := ⟨hkb, hkb.size, blk_lt hb0⟩
  clear hb0 hkb hp0
  go_wp2_with fail
  refine (copied_ok a0 a1 a2 n0 c0 n1 c1 n2 c2 l st pk wb (HY.out wb (Keeps.refl _ _)).2.2.2.1 (HY.out wb (Keeps.refl _ _)).2.2.2.2.1 (HY.out wb (Keeps.refl _ _)).2.2.2.2.2 s0 s1 s2).mono ?_
  rintro e w1 ⟨v0, v1, v2, rfl, hT, hk1⟩
  obtain ⟨b0, d0, rfl⟩ := row_shape hT.r0
  obtain ⟨b1, d1, rfl⟩ := row_shape hT.r1
  obtain ⟨b2, d2, rfl⟩ := row_shape hT.r2
  clear y0 y1 y2
  obtain ⟨p1, hp1⟩ : ∃ p1, p1 = w1.heap.size := ⟨_, rfl⟩
  have hc1 := blk_new w1 (.cells #[.slice b0 n0 d0, .slice b1 n1 d1, .slice b2 n2 d2] 26) p1 hp1.symm
  have hkc := (Keeps.alloc None w1 (.cells #[.slice b0 n0 d0, .slice b1 n1 d1, .slice b2 n2 d2] 26))
  go_upto_region 2 with fail
  rw [← hp1]
  generalize (w1.alloc (.cells #[.slice b0 n0 d0, .slice b1 n1 d1, .slice b2 n2 d2] 26)) = wc at *
  have hkq : Keeps None wb wc := hk1.trans hkc (fun _ f _ => f)
  have HC : Hid (wc.heap[p1]? = some (.cells #[.slice b0 n0 d0, .slice b1 n1 d1, .slice b2 n2 d2] 26 (0, 0))) := hc1
  have HT : Hid (Tri wc wb.heap.size (.slice b0 n0 d0) (.slice b1 n1 d1) (.slice b2 n2 d2) n0 n1 n2 l st pk ∧ Keeps None wb wc) := ⟨hT.more hkc, hkq⟩
  obtain ⟨y0, y1, y2, -, -, -⟩ := HY.out wc hkq
  clear hc1 hT hkc hk1 hkq hp1
  go_wp2_with fail
  refine (serial_any a0 n0 c0 l wc (HY.out wc HT.out.2).2.2.2.1).mono ?_
  rintro e w2 ⟨e1, x1, rfl, hs1, hk2⟩
  have HR1 : Hid (SeenV w2 e1 (serL l).length (iv (serL l)) ∧ Keeps None wc w2) := ⟨hs1, hk2⟩
  obtain ⟨L, hL⟩ : ∃ L, L = serL l := ⟨_, rfl⟩
  obtain ⟨E, hE⟩ : ∃ E, E = chkE l := ⟨_, rfl⟩
  have HLE : Hid (serL l = L ∧ chkE l = E) := ⟨hL.symm, hE.symm⟩
  rw [← hL, ← hE]
  rw [← hL] at HR1
  have z0 : w2.cell? ⟨p1, 0, none⟩ = some (.slice b0 n0 d0) := (blk_cell (blk_kept HC.out hk2 (fun f => f)) 0).trans rfl
  have x0 := (HY.out w2 (HT.out.2.trans hk2 (fun _ f _ => f))).1
  clear hs1 hk2 y0 y1 y2 hL hE
  go_upto_region 3 with fail
  go_wp2_with fail
  refine (rserial_any b0 n0 d0 l w2 (((HT.out.1.more HR1.out.2)).seen HL.out.1)).mono ?_
  rintro e w3 ⟨e2, x2, rfl, hs2, hk3⟩
  rw [HLE.out.1] at hs2
  rw [HLE.out.1, HLE.out.2]
  have HR2 : Hid (SeenV w3 e1 L.length (iv L) ∧ SeenV w3 e2 L.length (iv L) ∧ Keeps None wc w3 ∧ L.length ≤ 4096) := ⟨HR1.out.1.more hk3, hs2, HR1.out.2.trans hk3 (fun _ f _ => f), by have := HL.out.2.1; rwa [HLE.out.1] at this⟩
  clear hs2 hk3 z0 x0 HR1
  go_upto_region 4 with fail
  have HKC : Hid (∀ wx, Keeps None w3 wx → wx.cell? ⟨p1, 0, none⟩ = some (.slice b0 n0 d0) ∧ wx.cell? ⟨p1, 1, none⟩ = some (.slice b1 n1 d1) ∧ wx.cell? ⟨p1, 2, none⟩ = some (.slice b2 n2 d2)) := fun wx hx =>
    ⟨(blk_cell (blk_kept HC.out (HR2.out.2.2.1.trans hx (fun _ f _ => f)) (fun f => f)) 0).trans rfl, (blk_cell (blk_kept HC.out (HR2.out.2.2.1.trans hx (fun _ f _ => f)) (fun f => f)) 1).trans rfl, (blk_cell (blk_kept HC.out (HR2.out.2.2.1.trans hx (fun _ f _ => f)) (fun f => f)) 2).trans rfl⟩
  have HKB : Hid (∀ wx, Keeps None w3 wx → wx.cell? ⟨p0, 0, none⟩ = some (.slice a0 n0 c0) ∧ wx.cell? ⟨p0, 1, none⟩ = some (.slice a1 n1 c1) ∧ wx.cell? ⟨p0, 2, none⟩ = some (.slice a2 n2 c2)) := fun wx hx => by
    have := HY.out wx (HT.out.2.trans (HR2.out.2.2.1.trans hx (fun _ f _ => f)) (fun _ f _ => f))
    exact ⟨this.1, this.2.1, this.2.2.1⟩
  obtain ⟨q0, q1, q2⟩ := HKC.out w3 (Keeps.refl _ _)
  obtain ⟨q3, q4, q5⟩ := HKB.out w3 (Keeps.refl _ _)
  go_wp2_with fail
  refine (sameInts_ok e1 e2 L.length x1 x2 L w3 HR2.out.1 HR2.out.2.1 (by have := HR2.out.2.2.2; omega)).mono ?_
  rintro e w4 ⟨rfl, hk4⟩
  clear q0 q1 q2 q3 q4 q5
  obtain ⟨q0, q1, q2⟩ := HKC.out w4 hk4
  obtain ⟨q3, q4, q5⟩ := HKB.out w4 hk4
  have HW4 : Hid (Keeps None w3 w4) := hk4
  clear hk4
  go_wp2_with fail
  refine (same_ok a0 a1 a2 b0 b1 b2 n0 c0 n1 c1 n2 c2 d0 d1 d2 l st pk w4 ?_ ?_ ?_ ?_ ?_ ?_ s0 s1 s2).mono ?_
  · exact (HY.out w4 (HT.out.2.trans (HR2.out.2.2.1.trans HW4.out (fun _ f _ => f)) (fun _ f _ => f))).2.2.2.1
  · exact (HY.out w4 (HT.out.2.trans (HR2.out.2.2.1.trans HW4.out (fun _ f _ => f)) (fun _ f _ => f))).2.2.2.2.1
  · exact (HY.out w4 (HT.out.2.trans (HR2.out.2.2.1.trans HW4.out (fun _ f _ => f)) (fun _ f _ => f))).2.2.2.2.2
  · exact (HT.out.1.more (HR2.out.2.2.1.trans HW4.out (fun _ f _ => f))).seen HL.out.1
  · exact own_seen1 (HT.out.1.more (HR2.out.2.2.1.trans HW4.out (fun _ f _ => f))).r1
  · exact own_seen1 (HT.out.1.more (HR2.out.2.2.1.trans HW4.out (fun _ f _ => f))).r2
  rintro e w5 ⟨rfl, hk5⟩
  have HW5 : Hid (Keeps None w3 w5) := HW4.out.trans hk5 (fun _ f _ => f)
  clear hk5 HW4 q0 q1 q2 q3 q4 q5
  obtain ⟨q0, q1, q2⟩ := HKC.out w5 HW5.out
  have HT5 : Hid (Tri w5 wb.heap.size (.slice b0 n0 d0) (.slice b1 n1 d1) (.slice b2 n2 d2) n0 n1 n2 l st pk ∧ Keeps None wb w5 ∧ w5.heap[p1]? = some (.cells #[.slice b0 n0 d0, .slice b1 n1 d1, .slice b2 n2 d2] 26 (0, 0))) := ⟨HT.out.1.more (HR2.out.2.2.1.trans HW5.out (fun _ f _ => f)), HT.out.2.trans (HR2.out.2.2.1.trans HW5.out (fun _ f _ => f)) (fun _ f _ => f), blk_kept HC.out (HR2.out.2.2.1.trans HW5.out (fun _ f _ => f)) (fun f => f)⟩
  clear HKC HKB HR2 HW5 HC HT
  go_wp2_with fail
  refine (serial_any b0 n0 d0 l w5 (HT5.out.1.seen HL.out.1)).mono ?_
  rintro e w6 ⟨e3, x3, rfl, -, hk6⟩
  have HT6 : Hid (Tri w6 wb.heap.size (.slice b0 n0 d0) (.slice b1 n1 d1) (.slice b2 n2 d2) n0 n1 n2 l st pk ∧ Keeps None wb w6 ∧ w6.heap[p1]? = some (.cells #[.slice b0 n0 d0, .slice b1 n1 d1, .slice b2 n2 d2] 26 (0, 0))) := ⟨HT5.out.1.more hk6, HT5.out.2.1.trans hk6 (fun _ f _ => f), blk_kept HT5.out.2.2 hk6 (fun f => f)⟩
  clear hk6 HT5 q0 q1 q2
  have q0 : w6.cell? ⟨p1, 0, none⟩ = some (.slice b0 n0 d0) := (blk_cell HT6.out.2.2 0).trans rfl
  have q1 : w6.cell? ⟨p1, 1, none⟩ = some (.slice b1 n1 d1) := (blk_cell HT6.out.2.2 1).trans rfl
  have q2 : w6.cell? ⟨p1, 2, none⟩ = some (.slice b2 n2 d2) := (blk_cell HT6.out.2.2 2).trans rfl
  go_upto_region 7 with fail
  go_wp2_with fail
  refine (over_ok b0 b1 b2 n0 d0 n1 d1 n2 d2 wb.heap.size l st pk w6 HT6.out.1 HT6.out.2.1.size HL.out.1 s0 s1 s2).mono ?_
  rintro e w7 ⟨⟨v7, rfl⟩, hT7, hk7⟩
  have HT7 : Hid (Tri w7 wb.heap.size (.slice b0 n0 d0) (.slice b1 n1 d1) (.slice b2 n2 d2) n0 n1 n2 (l.map flipD) (st.map not) (pk.map flipI) ∧ Keeps (fun i => wb.heap.size ≤ i) wb w7 ∧ n0 = (l.map flipD).length ∧ w7.heap[p1]? = some (.cells #[.slice b0 n0 d0, .slice b1 n1 d1, .slice b2 n2 d2] 26 (0, 0))) :=
    ⟨hT7, (HT6.out.2.1.mono (T := fun i => wb.heap.size ≤ i) (fun _ f _ => f.elim)).trans hk7 (fun i e _ => HT6.out.1.lowF e), by rw [List.length_map]; exact HL.out.1, blk_kept HT6.out.2.2 hk7 (HT6.out.1.notBox HT6.out.2.2)⟩
  clear hT7 hk7 HT6 q0 q1 q2
  have q0 : w7.cell? ⟨p1, 0, none⟩ = some (.slice b0 n0 d0) := (blk_cell HT7.out.2.2.2 0).trans rfl
  go_upto_region 8 with fail
  go_wp2_with fail
  refine (serial_any b0 n0 d0 (l.map flipD) w7 (HT7.out.1.seen HT7.out.2.2.1)).mono ?_
  rintro e w8 ⟨e4, x4, rfl, hs4, hk8⟩
  obtain ⟨L2, hL⟩ : ∃ L, L = serL (l.map flipD) := ⟨_, rfl⟩
  obtain ⟨E2, hE⟩ : ∃ E, E = chkE (l.map flipD) := ⟨_, rfl⟩
  have HLE2 : Hid (serL (l.map flipD) = L2 ∧ chkE (l.map flipD) = E2) := ⟨hL.symm, hE.symm⟩
  rw [← hL, ← hE]
  rw [← hL] at hs4
  have HR4 : Hid (SeenV w8 e4 L2.length (iv L2) ∧ Keeps None w7 w8) := ⟨hs4, hk8⟩
  have q8 : w8.cell? ⟨p1, 0, none⟩ = some (.slice b0 n0 d0) := (blk_cell (blk_kept HT7.out.2.2.2 hk8 (fun f => f)) 0).trans rfl
  clear hs4 hk8 hL hE q0
  go_upto_region 9 with fail
  go_wp2_with fail
  refine (rserial_any b0 n0 d0 (l.map flipD) w8 ((HT7.out.1.more HR4.out.2).seen HT7.out.2.2.1)).mono ?_
  rintro e w9 ⟨e5, x5, rfl, hs5, hk9⟩
  rw [HLE2.out.1] at hs5
  rw [HLE2.out.1, HLE2.out.2]
  have HR5 : Hid (SeenV w9 e4 L2.length (iv L2) ∧ SeenV w9 e5 L2.length (iv L2) ∧ Keeps None w7 w9 ∧ L2.length ≤ 4096) := ⟨HR4.out.1.more hk9, hs5, HR4.out.2.trans hk9 (fun _ f _ => f), by have := HL.out.2.2; rwa [HLE2.out.1] at this⟩
  clear hs5 hk9 HR4 q8
  go_upto_region 10 with fail
  go_wp2_with fail
  refine (sameInts_ok e4 e5 L2.length x4 x5 L2 w9 HR5.out.1 HR5.out.2.1 (by have := HR5.out.2.2.2; omega)).mono ?_
  rintro e w10 ⟨rfl, hk10⟩
  have HE : Hid (Below w.heap.size w w10) := ((HK.out.1.mono (T := fun i => w.heap.size ≤ i) (fun _ f _ => f.elim)).trans (HT7.out.2.1.trans (HR5.out.2.2.1.trans hk10 (fun _ f _ => f)) (fun _ f _ => f.elim)) (fun i e _ => Nat.le_trans HK.out.2.1 e)).below _ (Nat.le_refl _) (fun _ e => e)
  clear hk10
  go_wp2
  go_ret
  exact ⟨rfl, HE.out⟩
end Go.Proofs.Ytdiabpoafennlaa
/-! The walk of HyperReducer. -/
namespace Go.Proofs.Ytdiabpoafennlaa
set_option linter.unusedVariables false
set_option maxRecDepth 20000
set_option linter.unusedSimpArgs false
open Go.RowKit Go.HeapKit

theorem putsD_eq (l : List Dd) : putsL (l.map dp) = putsD l := by
  unfold putsL putsD
  rw [List.filter_map, List.map_map]
  rfl
/-- What comes out is what is put. -/
theorem fin_puts (l : List Dd) (st : List Bool) (pk : List Int) : (finPS l st pk).vs.getD 0 [] = putsD l := by
  rw [← putsD_eq]
  exact final_puts st (l.map dp) pk
theorem Fin.final {w : World} {B : Nat} {X : PX} {K : Ky → Value} {l : List Dd} {st : List Bool} {pk : List Int} (h : Fin w B X K (finPS l st pk)) : ∃ a c, K (.inl 0) = .slice a (putsD l).length c ∧ SeenV w a (putsD l).length (iv (putsD l)) := by
  have hr := h.vw.rows (.inl 0)
  have e : Lf (finPS l st pk).vs (finPS l st pk).lk (.inl 0) = putsD l := fin_puts l st pk
  rw [e] at hr
  obtain ⟨a, c, h2⟩ := row_shape hr
  rw [h2] at hr
  exact ⟨a, c, h2, own_seen1 hr⟩
theorem right_iff {l : List Dd} {st : List Bool} {pk : List Int} : (refE l st pk = 0 → rightB l st pk = true) ∧ (refE l st pk ≠ 0 → rightB l st pk = false) := by
  unfold rightB
  exact ⟨fun h => by simp [h], fun h => by simp [h]⟩
theorem refE_chk {l : List Dd} {st : List Bool} {pk : List Int} (h : refE l st pk = 0) : chkE l = 0 ∧ serL l = putsD l := by
  have : chkE l = 0 := by
    unfold refE at h
    split at h
    · omega
    · exact h
  exact ⟨this, by unfold serL; rw [if_pos this]⟩
set_option maxHeartbeats 3200000 in
theorem hyperReducer_walk (a0 a1 a2 : Option Addr) (n0 c0 n1 c1 n2 c2 : Nat) (l : List Dd) (st : List Bool) (pk : List Int) (w : World) (h0 : Seen w a0 n0 l) (h1 : SeenV w a1 n1 (bv' st)) (h2 : SeenV w a2 n2 (iv pk)) (hc : n2 ≤ c2) :
    Calls Try.prog 5 #[.agg #[.slice a0 n0 c0, .slice a1 n1 c1, .slice a2 n2 c2]] w fun e w' => e = .returned (.bool true) ∧ Below w.heap.size w w' := by
  have HS : Hid (Seen w a0 n0 l ∧ SeenV w a1 n1 (bv' st) ∧ SeenV w a2 n2 (iv pk) ∧ n2 ≤ c2) := ⟨h0, h1, h2, hc⟩
  have HL : Hid (n0 = l.length ∧ n1 = st.length ∧ n2 = pk.length) := ⟨h0.len, by have := h1.len; rwa [bv_len] at this, by have := h2.len; rwa [iv_len] at this⟩
  clear h0 h1 h2 hc
  obtain ⟨p0, hp0⟩ : ∃ p0, p0 = w.heap.size := ⟨_, rfl⟩
  have hb0 := blk_new w (.cells #[.slice a0 n0 c0, .slice a1 n1 c1, .slice a2 n2 c2] 26) p0 hp0.symm
  have hkb := (Keeps.alloc None w (.cells #[.slice a0 n0 c0, .slice a1 n1 c1, .slice a2 n2 c2] 26))
  go_enter Try.func5, Try.ntmps5
  go_upto_region 1 with fail
  rw [← hp0]
  clear hp0
  generalize (w.alloc (.cells #[.slice a0 n0 c0, .slice a1 n1 c1, .slice a2 n2 c2] 26)) = wb at *
  have HY : Hid (∀ wx, Keeps None w wx → Seen wx a0 n0 l ∧ SeenV wx a1 n1 (bv' st) ∧ SeenV wx a2 n2 (iv pk)) := fun wx hx => ⟨HS.out.1.more hx, HS.out.2.1.more hx, HS.out.2.2.1.more hx⟩
  have HB : Hid (wb.heap[p0]? = some (.cells #[.slice a0 n0 c0, .slice a1 n1 c1, .slice a2 n2 c2] 26 (0, 0)) ∧ Keeps None w wb) := ⟨hb0, hkb⟩
  have y0 : wb.cell? ⟨p0, 0, none⟩ = some (.slice a0 n0 c0) := blk_cell hb0 0
  have y1 : wb.cell? ⟨p0, 1, none⟩ = some (.slice a1 n1 c1) := blk_cell hb0 1
  have y2 : wb.cell? ⟨p0, 2, none⟩ = some (.slice a2 n2 c2) := blk_cell hb0 2
  clear hb0 hkb
  go_wp2_with fail
  refine (Play_ok a0 n0 c0 l a1 n1 c1 st a2 n2 c2 pk wb (HY.out wb HB.out.2).1 (HY.out wb HB.out.2).2.1 (HY.out wb HB.out.2).2.2 HS.out.2.2.2).mono ?_
  rintro e w1 ⟨hbad, hgood, hk1⟩
  clear y0 y1 y2
  have hkw := HB.out.2.trans hk1 (fun _ f _ => f)
  have hb1 := blk_kept HB.out.1 hk1 (fun f => f)
  by_cases hE : refE l st pk = 0
  · obtain ⟨B, X, K0, rfl, hBw, hF⟩ := hgood hE
    obtain ⟨fa, fc, hK0, hfs⟩ := hF.final
    rw [hK0]
    obtain ⟨N, hN⟩ : ∃ N, N = putsD l := ⟨_, rfl⟩
    rw [← hN] at hfs ⊢
    obtain ⟨V1, hV1⟩ : ∃ V, V = (finPS l st pk).vs.length := ⟨_, rfl⟩
    obtain ⟨V2, hV2⟩ : ∃ V, V = (finPS l st pk).mg.length := ⟨_, rfl⟩
    obtain ⟨V3, hV3⟩ : ∃ V, V = (finPS l st pk).lk.length := ⟨_, rfl⟩
    rw [← hV1, ← hV2, ← hV3]
    have hbv := blk_new w1 (.cells #[.slice fa N.length fc, .int .i64 V1, .slice X.ma V2 X.mc, .slice X.la V3 X.lc] 39) w1.heap.size rfl
    have hkv := Keeps.alloc None w1 (.cells #[.slice fa N.length fc, .int .i64 V1, .slice X.ma V2 X.mc, .slice X.la V3 X.lc] 39)
    obtain ⟨p1, hp1⟩ : ∃ p1, p1 = w1.heap.size := ⟨_, rfl⟩
    have HN : Hid (N = putsD l ∧ serL l = N ∧ chkE l = 0 ∧ rightB l st pk = true ∧ N.length ≤ 4096 ∧ l.length ≤ 4096) := ⟨hN, (refE_chk hE).2.trans hN.symm, (refE_chk hE).1, right_iff.1 hE, by rw [hN]; have := putsD_len l; have := (refE_ok hE).1; omega, (refE_ok hE).1⟩
    clear hV1 hV2 hV3 hN hbad hgood hK0 hF hBw
    go_upto_region 2 with fail
    rw [← hp1] at hbv ⊢
    clear hp1
    generalize (w1.alloc (.cells #[.slice fa N.length fc, .int .i64 V1, .slice X.ma V2 X.mc, .slice X.la V3 X.lc] 39)) = w2 at *
    have HW : Hid (Keeps None w w2 ∧ w2.heap[p0]? = some (.cells #[.slice a0 n0 c0, .slice a1 n1 c1, .slice a2 n2 c2] 26 (0, 0)) ∧ w2.heap[p1]? = some (.cells #[.slice fa N.length fc, .int .i64 V1, .slice X.ma V2 X.mc, .slice X.la V3 X.lc] 39 (0, 0)) ∧ SeenV w2 fa N.length (iv N)) := ⟨hkw.trans hkv (fun _ f _ => f), blk_kept hb1 hkv (fun f => f), hbv, hfs.more hkv⟩
    have y0 : w2.cell? ⟨p0, 0, none⟩ = some (.slice a0 n0 c0) := blk_cell HW.out.2.1 0
    have y1 : w2.cell? ⟨p0, 1, none⟩ = some (.slice a1 n1 c1) := blk_cell HW.out.2.1 1
    have y2 : w2.cell? ⟨p0, 2, none⟩ = some (.slice a2 n2 c2) := blk_cell HW.out.2.1 2
    clear hkv hbv hfs hkw hb1 hk1 hE
    go_wp2_with fail
    refine (right_ok a0 a1 a2 n0 c0 n1 c1 n2 c2 l st pk w2 (HY.out w2 HW.out.1).1 HL.out.2.1 HL.out.2.2).mono ?_
    rintro e w3 ⟨rfl, hk3⟩
    rw [HN.out.2.2.2.1]
    have y3 : w3.cell? ⟨p0, 0, none⟩ = some (.slice a0 n0 c0) := hk3.cell y0 (fun f => f)
    have HK3 : Hid (Keeps None w2 w3) := hk3
    clear y0 y1 y2 hk3
    go_wp2_with fail
    refine (serial_any a0 n0 c0 l w3 (HY.out w3 (HW.out.1.trans HK3.out (fun _ f _ => f))).1).mono ?_
    rintro e w4 ⟨sa, sc, rfl, hs4, hk4⟩
    rw [HN.out.2.1, HN.out.2.2.1]
    rw [HN.out.2.1] at hs4
    have HK4 : Hid (Keeps None w2 w4 ∧ SeenV w4 sa N.length (iv N)) := ⟨HK3.out.trans hk4 (fun _ f _ => f), hs4⟩
    have y4 : w4.cell? ⟨p0, 0, none⟩ = some (.slice a0 n0 c0) := hk4.cell y3 (fun f => f)
    clear y3 hk4 hs4 HK3
    go_wp2_with fail
    refine (puts_ok a0 n0 c0 n0 l w4 (HY.out w4 (HW.out.1.trans HK4.out.1 (fun _ f _ => f))).1 (by have := HN.out.2.2.2.2.2; have := HL.out.1; omega) (Nat.le_refl _)).mono ?_
    rintro e w5 ⟨ua, uc, rfl, hs5, hk5⟩
    have ht : putsD (l.take n0) = N := by rw [List.take_of_length_le (by have := HL.out.1; omega), HN.out.1]
    rw [ht] at hs5 ⊢
    have HK5 : Hid (Keeps None w2 w5 ∧ SeenV w5 sa N.length (iv N) ∧ SeenV w5 ua N.length (iv N) ∧ SeenV w5 fa N.length (iv N)) := ⟨HK4.out.1.trans hk5 (fun _ f _ => f), HK4.out.2.more hk5, hs5, HW.out.2.2.2.more (HK4.out.1.trans hk5 (fun _ f _ => f))⟩
    clear y4 hk5 hs5 HK4 ht
    have v5 : w5.cell? ⟨p1, 0, none⟩ = some (.slice fa N.length fc) := blk_cell (blk_kept HW.out.2.2.1 HK5.out.1 (fun f => f)) 0
    go_wp2_with fail
    refine (sameInts_ok sa ua N.length sc uc N w5 HK5.out.2.1 HK5.out.2.2.1 (by have := HN.out.2.2.2.2.1; omega)).mono ?_
    rintro e w6 ⟨rfl, hk6⟩
    have v6 : w6.cell? ⟨p1, 0, none⟩ = some (.slice fa N.length fc) := hk6.cell v5 (fun f => f)
    have HK6 : Hid (Keeps None w5 w6) := hk6
    clear v5 hk6
    go_wp2_with fail
    refine (sameInts_ok fa ua N.length fc uc N w6 (HK5.out.2.2.2.more HK6.out) (HK5.out.2.2.1.more HK6.out) (by have := HN.out.2.2.2.2.1; omega)).mono ?_
    rintro e w7 ⟨rfl, hk7⟩
    have HE : Hid (Below w.heap.size w w7) := ((HW.out.1.trans HK5.out.1 (fun _ f _ => f)).trans (HK6.out.trans hk7 (fun _ f _ => f)) (fun _ f _ => f)).below _ (Nat.le_refl _) (fun _ f => f.elim)
    clear hk7 v6
    go_wp2
    go_ret
    exact ⟨rfl, HE.out⟩
  · obtain rfl := hbad hE
    have hbv := blk_new w1 (.cells #[.slice none 0 0, .int .i64 0, .slice none 0 0, .slice none 0 0] 39) w1.heap.size rfl
    have hkv := Keeps.alloc None w1 (.cells #[.slice none 0 0, .int .i64 0, .slice none 0 0, .slice none 0 0] 39)
    obtain ⟨p1, hp1⟩ : ∃ p1, p1 = w1.heap.size := ⟨_, rfl⟩
    obtain ⟨E, hEE⟩ : ∃ E, E = refE l st pk := ⟨_, rfl⟩
    rw [← hEE]
    rw [← hEE] at hE
    have HN : Hid (rightB l st pk = false) := right_iff.2 (by rw [← hEE]; exact hE)
    clear hbad hgood hEE
    go_upto_region 2 with fail
    rw [← hp1] at hbv ⊢
    clear hp1
    generalize (w1.alloc (.cells #[.slice none 0 0, .int .i64 0, .slice none 0 0, .slice none 0 0] 39)) = w2 at *
    have HW : Hid (Keeps None w w2 ∧ w2.heap[p1]? = some (.cells #[.slice none 0 0, .int .i64 0, .slice none 0 0, .slice none 0 0] 39 (0, 0))) := ⟨hkw.trans hkv (fun _ f _ => f), hbv⟩
    have hb2 := blk_kept hb1 hkv (fun f => f)
    have y0 : w2.cell? ⟨p0, 0, none⟩ = some (.slice a0 n0 c0) := blk_cell hb2 0
    have y1 : w2.cell? ⟨p0, 1, none⟩ = some (.slice a1 n1 c1) := blk_cell hb2 1
    have y2 : w2.cell? ⟨p0, 2, none⟩ = some (.slice a2 n2 c2) := blk_cell hb2 2
    clear hkv hbv hkw hb1 hk1 hb2
    go_wp2_with fail
    refine (right_ok a0 a1 a2 n0 c0 n1 c1 n2 c2 l st pk w2 (HY.out w2 HW.out.1).1 HL.out.2.1 HL.out.2.2).mono ?_
    rintro e w3 ⟨rfl, hk3⟩
    rw [HN.out]
    have v0 : w3.cell? ⟨p1, 0, none⟩ = some (.slice none 0 0) := blk_cell (blk_kept HW.out.2 hk3 (fun f => f)) 0
    have v1 : w3.cell? ⟨p1, 1, none⟩ = some (.int .i64 0) := blk_cell (blk_kept HW.out.2 hk3 (fun f => f)) 1
    have HE : Hid (Below w.heap.size w w3) := (HW.out.1.trans hk3 (fun _ f _ => f)).below _ (Nat.le_refl _) (fun _ f => f.elim)
    have hE2 : (E != 0) = true := by simp [hE]
    clear y0 y1 y2 hk3
    go_wp2
    go_ret
    exact ⟨rfl, HE.out⟩
end Go.Proofs.Ytdiabpoafennlaa
/-! A reducer's play, plainly: the order in which views are merged is not seen. -/
namespace Go.Proofs.Ytdiabpoafennlaa
set_option linter.unusedVariables false
set_option maxRecDepth 20000
set_option linter.unusedSimpArgs false

theorem getD_set_ne {V : Type} {vs : List V} {a u : Nat} (x d : V) (h : a ≠ u) : (vs.set a x).getD u d = vs.getD u d := by simp [List.getD, List.getElem?_set_ne h]
/-- What a row's merging leaves: its head's view holds all that the row held; what is not of the row stays. -/
theorem all_cat (n : Nat) (s : MS (List Int)) (h0 : 0 < s.row.length) (hnd : s.row.Nodup) (hlow : ∀ v ∈ s.row, v < s.vs.length) : catL (s.all listK n).vs (s.all listK n).row = catL s.vs s.row ∧ ∀ u, u ∉ s.row → (s.all listK n).vs.getD u [] = s.vs.getD u [] := by
  have h := (MS.all_ind listK n (fun m => (∀ v ∈ m.row, v ∈ s.row) ∧ m.row.Nodup ∧ m.vs.length = s.vs.length ∧ catL m.vs m.row = catL s.vs s.row ∧ ∀ u, u ∉ s.row → m.vs.getD u [] = s.vs.getD u []) (fun m hm hp => by
    obtain ⟨p1, p2, p3, p4, p5⟩ := hp
    obtain ⟨A, a, b, B, e1, e2, e3, -, -⟩ := m.one_row listK n hm
    rw [e1] at p1 p2 p4
    have hs : List.Sublist (A ++ a :: B) (A ++ a :: b :: B) := (List.Sublist.refl A).append ((List.sublist_cons_self b B).cons_cons a)
    have n1 : a ∉ A := fun hm => (List.nodup_append.1 p2).2.2 a hm a (by simp) rfl
    have n2 : a ∉ b :: B := (List.nodup_cons.1 (List.nodup_append.1 p2).2.1).1
    have hal : a < m.vs.length := by rw [p3]; exact hlow a (p1 a (by simp))
    refine ⟨by rw [e2]; exact fun v hv => p1 v (hs.subset hv), by rw [e2]; exact p2.sublist hs, by rw [e3, List.length_set]; exact p3, ?_, fun u hu => ?_⟩
    · rw [e2, e3, ← p4, catL_app, catL_cons, catL_set _ n1, catL_set _ (fun hm => n2 (by simp [hm])), getD_set _ _ hal, catL_app, catL_cons, catL_cons]
      show _ ++ ((_ ++ _) ++ _) = _
      simp [listK]
    · rw [e3, getD_set_ne _ _ (by intro e; subst e; exact hu (p1 _ (by simp)))]
      exact p5 u hu) s h0 ⟨fun v hv => hv, hnd, rfl, rfl, fun _ _ => rfl⟩).1
  exact ⟨h.2.2.2.1, h.2.2.2.2⟩
/-- Two plays that differ in their picks. -/
structure Sim (s t : HS (List Int)) : Prop where
  row : t.m.row = s.m.row
  ini : t.ini = s.ini
  sp : t.sp = s.sp
  spn : t.spn = s.spn
  lk : t.lk = s.lk
  len : t.m.vs.length = s.m.vs.length
  vs : ∀ v ∈ preL s.ini ++ s.m.row, t.m.vs.getD v [] = s.m.vs.getD v []
theorem Sim.hand {s t : HS (List Int)} (h : Sim s t) : t.hand = s.hand := by unfold HS.hand; rw [h.row]
theorem cat_of {vs vs' : List (List Int)} {l : List Nat} (h : ∀ v ∈ l, vs'.getD v [] = vs.getD v []) : catL vs' l = catL vs l := by
  unfold catL
  congr 1
  exact List.map_congr_left h
theorem hand_in {s : HS (List Int)} (h : s.m.row ≠ []) : s.hand ∈ s.m.row := by
  have hs := hand_split h
  rw [hs]
  exact List.mem_append_right _ (List.mem_singleton.2 rfl)
/-- Both rows merged. -/
theorem Sim.all {P P' : List Int} {s t : HS (List Int)} {n : Nat} (h : Sim s t) (hs : HInv P s) (ht : HInv P' t) : (t.m.all listK n).row = (s.m.all listK n).row ∧ (t.m.all listK n).vs.length = (s.m.all listK n).vs.length ∧ ∀ v ∈ preL s.ini ++ (s.m.all listK n).row, (t.m.all listK n).vs.getD v [] = (s.m.all listK n).vs.getD v [] := by
  have h0 : 0 < s.m.row.length := List.length_pos_iff.2 hs.lk.ne
  have h0' : 0 < t.m.row.length := List.length_pos_iff.2 ht.lk.ne
  obtain ⟨v, hv, hh⟩ := s.m.all_head listK n h0
  obtain ⟨v', hv', hh'⟩ := t.m.all_head listK n h0'
  rw [h.row, hh] at hh'
  injection hh' with hh'
  subst hh'
  have hnd := asc_nodup hs.line.asc
  have hnd2 := (List.nodup_append.1 hnd).2.1
  obtain ⟨c1, c2⟩ := all_cat n s.m h0 hnd2 (fun u hu => hs.line.low u (by simp [hu]))
  obtain ⟨d1, d2⟩ := all_cat n t.m h0' (by rw [h.row]; exact hnd2) (fun u hu => ht.line.low u (by simp [hu]))
  refine ⟨by rw [hv, hv'], by rw [vs_all, vs_all, h.len], fun u hu => ?_⟩
  rw [hv, List.mem_append] at hu
  rcases hu with hu | hu
  · have hnr : u ∉ s.m.row := fun hm => (List.nodup_append.1 hnd).2.2 u hu u hm rfl
    rw [c2 u hnr, d2 u (by rw [h.row]; exact hnr)]
    exact h.vs u (by simp [hu])
  · simp at hu
    subst hu
    rw [hv] at c1
    rw [hv'] at d1
    have hc : catL t.m.vs t.m.row = catL s.m.vs s.m.row := by rw [h.row]; exact cat_of (fun x hx => h.vs x (by simp [hx]))
    rw [hc] at d1
    have := d1.trans c1.symm
    simpa [catL] using this
theorem Sim.deed {P P' : List Int} {s t : HS (List Int)} {n : Nat} (h : Sim s t) (hs : HInv P s) (ht : HInv P' t) (st : List Bool) (k loc : Int) : Sim (s.deed listK st n k loc) (t.deed listK st n k loc) := by
  have hne := hs.lk.ne
  have hin : s.hand ∈ preL s.ini ++ s.m.row := List.mem_append_right _ (hand_in hne)
  have hh := h.hand
  have hal : s.hand < s.m.vs.length := hs.line.low _ hin
  obtain ⟨a1, a2, a3⟩ := h.all (n := n) hs ht
  unfold HS.deed
  split
  · refine ⟨h.row, h.ini, h.sp, h.spn, h.lk, by simp [h.len], fun v hv => ?_⟩
    show (t.m.vs.set t.hand _).getD v [] = (s.m.vs.set s.hand _).getD v []
    rw [hh]
    have e : t.m.vs.getD s.hand listK.fresh = s.m.vs.getD s.hand listK.fresh := h.vs _ hin
    rw [e]
    by_cases hv2 : s.hand = v
    · subst hv2
      rw [getD_set _ _ (by rw [h.len]; exact hal), getD_set _ _ hal]
    · rw [getD_set_ne _ _ hv2, getD_set_ne _ _ hv2]
      exact h.vs v hv
  · split
    · refine ⟨h.row, h.ini, h.sp, h.spn, ?_, h.len, h.vs⟩
      show t.lk ++ [t.m.vs.getD t.hand listK.fresh] = s.lk ++ [s.m.vs.getD s.hand listK.fresh]
      rw [hh, h.lk]
      have e : t.m.vs.getD s.hand listK.fresh = s.m.vs.getD s.hand listK.fresh := h.vs _ hin
      rw [e]
    · split
      · refine ⟨?_, ?_, h.spn, ?_, h.lk, h.len, ?_⟩
        · show [t.hand] = [s.hand]; rw [hh]
        · show (t.sp, t.m.row) :: t.ini = (s.sp, s.m.row) :: s.ini; rw [h.sp, h.row, h.ini]
        · show t.spn + 1 = s.spn + 1; rw [h.spn]
        · intro v hv
          refine h.vs v ?_
          have e : preL ((s.sp, s.m.row) :: s.ini) ++ [s.hand] = preL s.ini ++ s.m.row := by
            rw [preL, List.append_assoc]
            conv => rhs; rw [hand_split hne]
            rfl
          rw [← e]
          exact hv
      · split
        · exact ⟨a1, h.ini, h.sp, h.spn, h.lk, a2, a3⟩
        · unfold HS.back
          rw [h.ini]
          have hlk := hs.lk
          have h0 : 0 < s.m.row.length := List.length_pos_iff.2 hne
          obtain ⟨u, hu, huh⟩ := s.m.all_head listK n h0
          cases hi : s.ini with
          | nil =>
            rw [hi] at a3
            exact ⟨a1, rfl, h.sp, h.spn, h.lk, a2, a3⟩
          | cons p ini =>
            simp only
            rw [hi] at hlk a3
            have e : preL (p :: ini) ++ (s.m.all listK n).row = preL ini ++ p.2 := by
              rw [hu, preL, List.append_assoc, ← last_some (hlk.2.1.trans huh)]
            rw [e] at a3
            rw [h.sp]
            by_cases hst : st.getD s.sp false = true
            · rw [if_pos hst, if_pos hst]
              refine ⟨by show p.2 ++ [(t.m.all listK n).vs.length] = p.2 ++ [(s.m.all listK n).vs.length]; rw [a2], rfl, rfl, h.spn, h.lk, by simp [a2], fun v hv => ?_⟩
              show ((t.m.all listK n).vs ++ [listK.fresh]).getD v [] = ((s.m.all listK n).vs ++ [listK.fresh]).getD v []
              have hv2 : v ∈ (preL ini ++ p.2) ++ [(s.m.all listK n).vs.length] := by rw [List.append_assoc]; exact hv
              rw [List.mem_append] at hv2
              rcases hv2 with hv2 | hv2
              · have hlow : v < s.m.vs.length := by
                  have := (hs.line.all n h0).low v
                  rw [hi, e, vs_all] at this
                  exact this hv2
                rw [List.getD_eq_getElem?_getD, List.getD_eq_getElem?_getD, List.getElem?_append_left (by rw [a2, vs_all]; exact hlow), List.getElem?_append_left (by rw [vs_all]; exact hlow), ← List.getD_eq_getElem?_getD, ← List.getD_eq_getElem?_getD]
                exact a3 v hv2
              · simp at hv2
                subst hv2
                simp [List.getD_eq_getElem?_getD, ← a2]
            · rw [if_neg hst, if_neg hst]
              exact ⟨rfl, rfl, rfl, h.spn, h.lk, a2, a3⟩
theorem sim_run (st : List Bool) : ∀ (ds : List (Int × Int)) (n : Nat) (P : List Int) (s t : HS (List Int)), HInv P s → HInv P t → Sim s t → Sim (s.run listK st ds n) (t.run listK st ds n) := by
  intro ds
  induction ds with
  | nil => intro n P s t _ _ h; exact h
  | cons d ds ih =>
    intro n P s t hs ht h
    exact ih (n + 1) _ _ _ (hinv_deed st n d.1 d.2 hs) (hinv_deed st n d.1 d.2 ht) (h.deed hs ht st d.1 d.2)
/-- 23.11: looks do not hang on the picks. -/
theorem looks_same (st : List Bool) (ds : List (Int × Int)) (pk pk' : List Int) : (endHS listK st ds pk').lk = (endHS listK st ds pk).lk :=
  (sim_run st ds 0 [] _ _ (hinv_start pk) (hinv_start pk') ⟨rfl, rfl, rfl, rfl, rfl, rfl, fun _ _ => rfl⟩).lk
end Go.Proofs.Ytdiabpoafennlaa
/-! Looks compared. -/
namespace Go.Proofs.Ytdiabpoafennlaa
set_option linter.unusedVariables false
set_option maxRecDepth 20000
set_option linter.unusedSimpArgs false
open Go.RowKit Go.HeapKit

/-- A list of lists that can be read. -/
structure SeenL (w : World) (a : Option Addr) (n : Nat) (l : List (List Int)) : Prop where
  len : n = l.length
  ex : ∀ k x, l[k]? = some x → ∃ b off y c, a = some ⟨b, off, none⟩ ∧ w.cell? ⟨b, off + k, none⟩ = some (.slice y x.length c) ∧ SeenV w y x.length (iv x)
theorem SeenL.more {w w' : World} {a : Option Addr} {n : Nat} {l : List (List Int)} (h : SeenL w a n l) (hk : Keeps None w w') : SeenL w' a n l :=
  ⟨h.len, fun k x hx => by
    obtain ⟨b, off, y, c, e, h1, h2⟩ := h.ex k x hx
    exact ⟨b, off, y, c, e, hk.cell h1 (fun f => f), h2.more hk⟩⟩
theorem Fin.looks {w : World} {B : Nat} {X : PX} {K : Ky → Value} {s : PS} (h : Fin w B X K s) : SeenL w X.la s.lk.length s.lk := by
  refine ⟨rfl, fun k x hx => ?_⟩
  have hk := (List.getElem?_eq_some_iff.1 hx).1
  obtain ⟨g, e, _, _, _, hc, _⟩ := own_cellS h.vw.looks (k := k) (range_get _ hk)
  have hr := h.vw.rows (.inr k)
  have e2 : Lf s.vs s.lk (.inr k) = x := by simp [Lf, hx]
  rw [e2] at hr
  obtain ⟨y, c, h3⟩ := row_shape hr
  rw [h3] at hr hc
  exact ⟨g, 0, y, c, e, by rw [Nat.zero_add]; exact hc, own_seen1 hr⟩
set_option maxHeartbeats 1600000 in
theorem sameLooks_ok (a b : Option Addr) (n c d : Nat) (l : List (List Int)) (w : World) (ha : SeenL w a n l) (hb : SeenL w b n l) (hn : n ≤ 5000) (hz : ∀ x ∈ l, x.length ≤ 5000) :
    Calls Try.prog 19 #[.slice a n c, .slice b n d] w fun e w' => e = .returned (.bool true) ∧ Keeps None w w' := by
  have HH : Hid (SeenL w a n l ∧ SeenL w b n l ∧ ∀ x ∈ l, x.length ≤ 5000) := ⟨ha, hb, hz⟩
  have HLen : Hid (n = l.length) := ha.len
  clear ha hb hz
  go_enter Try.func19, Try.ntmps19
  go_wp2_with fail
  go_loopw [5] (fun i wr => ∃ k : Nat, k ≤ n ∧ i = .int .i64 k ∧ Keeps None w wr) (fun i _ => n - (intOf i).toNat)
  case atStart => exact ⟨0, Nat.zero_le _, rfl, Keeps.refl _ _⟩
  case round =>
    obtain ⟨k, hk, rfl, hkp⟩ := hrel
    by_cases hkn : k < n
    · obtain ⟨x, hx⟩ : ∃ x, l[k]? = some x := ⟨l[k]'(by have := HLen.out; omega), by simp⟩
      obtain ⟨ga, oa, ya, ca, rfl, u0, sa⟩ := (HH.out.1.more hkp).ex k x hx
      obtain ⟨gb, ob, yb, cb, rfl, u1, sb⟩ := (HH.out.2.1.more hkp).ex k x hx
      have hxl := HH.out.2.2 x (List.mem_of_getElem? hx)
      have i1 : (k : Int) < (n : Int) := by omega
      obtain ⟨N, hN⟩ : ∃ N, N = x.length := ⟨_, rfl⟩
      rw [← hN] at u0 u1
      have HS : Hid (∀ wx, Keeps None wr wx → SeenV wx ya N (iv x) ∧ SeenV wx yb N (iv x) ∧ N ≤ 5000 ∧ N = x.length) := fun wx hk => by
        rw [hN]
        exact ⟨sa.more hk, sb.more hk, hxl, rfl⟩
      have HK : Hid (Keeps None w wr) := hkp
      have v0 : wr.drew.cell? ⟨ga, oa + k, none⟩ = some (.slice ya N ca) := u0
      have v1 : wr.drew.cell? ⟨gb, ob + k, none⟩ = some (.slice yb N cb) := u1
      clear hx sa sb HH hkp hxl hN
      go_upto_region 6 with fail
      go_region_held3 (fun w' => w'.cell? ⟨ga, oa + k, none⟩ = some (.slice ya N ca) ∧ w'.cell? ⟨gb, ob + k, none⟩ = some (.slice yb N cb)) (first | with_reducible exact hs2 | exact ⟨v0, v1⟩ | go_keep) (first
        | (go_at_call 12; refine Calls.mono (sameInts_ok ya yb N ca cb x _ (HS.out _ (Keeps.drew None _)).1 (HS.out _ (Keeps.drew None _)).2.1 (by have := (HS.out _ (Keeps.drew None wr)).2.2.1; omega)) ?_; rintro _ w4 ⟨rfl, hk4⟩; have hkd := (Keeps.drew None wr).trans hk4 (fun _ f _ => f); have hs2 := (⟨hkd.cell u0 (fun f => f), hkd.cell u1 (fun f => f)⟩ : w4.cell? ⟨ga, oa + k, none⟩ = some (.slice ya N ca) ∧ w4.cell? ⟨gb, ob + k, none⟩ = some (.slice yb N cb))))
      all_goals (go_wp2_with fail; exact ⟨⟨k + 1, by omega, by go_num, HK.out.trans hkd (fun _ f _ => f)⟩, by simp [intOf]; omega⟩)
    · have HK : Hid (Keeps None w wr) := hkp
      have i1 : ¬ (k : Int) < (n : Int) := by omega
      clear HH hkp
      go_wp2
      go_ret
      exact ⟨rfl, HK.out⟩
end Go.Proofs.Ytdiabpoafennlaa
/-! What Play tells, refused or not. -/
namespace Go.Proofs.Ytdiabpoafennlaa
set_option linter.unusedVariables false
set_option maxRecDepth 20000
set_option linter.unusedSimpArgs false
open Go.RowKit Go.HeapKit

def finT (l : List Dd) (st : List Bool) (pk : List Int) : List Int := if refE l st pk = 0 then putsD l else []
def madeT (l : List Dd) (st : List Bool) (pk : List Int) : Nat := if refE l st pk = 0 then (finPS l st pk).vs.length else 0
def mgT (l : List Dd) (st : List Bool) (pk : List Int) : List (Nat × Nat × Nat) := if refE l st pk = 0 then (finPS l st pk).mg else []
def lkT (l : List Dd) (st : List Bool) (pk : List Int) : List (List Int) := if refE l st pk = 0 then (finPS l st pk).lk else []
/-- Merges that can be read. -/
def SeenM (w : World) (a : Option Addr) (mg : List (Nat × Nat × Nat)) : Prop := ∀ k x, mg[k]? = some x → ∃ g, a = some ⟨g, 0, none⟩ ∧ w.cell? ⟨g, k * 3, none⟩ = some (.int .i64 x.1) ∧ w.cell? ⟨g, k * 3 + 1, none⟩ = some (.int .i64 x.2.1) ∧ w.cell? ⟨g, k * 3 + 2, none⟩ = some (.int .i64 x.2.2)
theorem SeenM.more {w w' : World} {a : Option Addr} {mg : List (Nat × Nat × Nat)} (h : SeenM w a mg) (hk : Keeps None w w') : SeenM w' a mg := fun k x hx => by
  obtain ⟨g, e, h0, h1, h2⟩ := h k x hx
  exact ⟨g, e, hk.cell h0 (fun f => f), hk.cell h1 (fun f => f), hk.cell h2 (fun f => f)⟩
theorem mgV_at (mg : List (Nat × Nat × Nat)) (k : Nat) (x : Nat × Nat × Nat) (h : mg[k]? = some x) : (mgV mg)[k * 3]? = some (.int .i64 x.1) ∧ (mgV mg)[k * 3 + 1]? = some (.int .i64 x.2.1) ∧ (mgV mg)[k * 3 + 2]? = some (.int .i64 x.2.2) := by
  induction mg generalizing k with
  | nil => simp at h
  | cons y l ih =>
    have e : mgV (y :: l) = [.int .i64 y.1, .int .i64 y.2.1, .int .i64 y.2.2] ++ mgV l := rfl
    rw [e]
    cases k with
    | zero => simp at h; subst h; exact ⟨rfl, rfl, rfl⟩
    | succ k =>
      have := ih k (by simpa using h)
      rw [List.getElem?_append_right (by simp; omega), List.getElem?_append_right (by simp; omega), List.getElem?_append_right (by simp; omega)]
      refine ⟨?_, ?_, ?_⟩
      · rw [← this.1]; congr 1; simp; omega
      · rw [← this.2.1]; congr 1; simp; omega
      · rw [← this.2.2]; congr 1; simp; omega
theorem Fin.merges {w : World} {B : Nat} {X : PX} {K : Ky → Value} {s : PS} (h : Fin w B X K s) : SeenM w X.ma s.mg := fun k x hx => by
  obtain ⟨h0, h1, h2⟩ := mgV_at s.mg k x hx
  obtain ⟨g, e, _, _, _, c0, _⟩ := own_cellS h.mg h0
  obtain ⟨g1, e1, _, _, _, c1, _⟩ := own_cellS h.mg h1
  obtain ⟨g2, e2, _, _, _, c2, _⟩ := own_cellS h.mg h2
  rw [e] at e1 e2
  injection e1 with e1
  injection e1 with e1
  injection e2 with e2
  injection e2 with e2
  subst e1 e2
  exact ⟨_, e, c0, c1, c2⟩
theorem Play_told (a : Option Addr) (n c : Nat) (l : List Dd) (sa : Option Addr) (m sc : Nat) (st : List Bool) (pa : Option Addr) (k pc : Nat) (pk : List Int) (w : World) (hS : Seen w a n l) (hT : SeenV w sa m (bv' st)) (hP : SeenV w pa k (iv pk)) (hpc : k ≤ pc) :
    Calls Try.prog 16 #[.slice a n c, .slice sa m sc, .slice pa k pc] w fun e w' =>
      ∃ fa fc ma mc la lc, e = .returned (.tuple #[.agg #[.slice fa (finT l st pk).length fc, .int .i64 (madeT l st pk), .slice ma (mgT l st pk).length mc, .slice la (lkT l st pk).length lc], .int .i64 (refE l st pk)]) ∧
        SeenV w' fa (finT l st pk).length (iv (finT l st pk)) ∧ SeenL w' la (lkT l st pk).length (lkT l st pk) ∧ SeenM w' ma (mgT l st pk) ∧ Keeps None w w' := by
  refine (Play_ok a n c l sa m sc st pa k pc pk w hS hT hP hpc).mono ?_
  rintro e w' ⟨hbad, hgood, hk⟩
  unfold finT madeT mgT lkT
  by_cases hE : refE l st pk = 0
  · obtain ⟨B, X, K, h1, -, h2⟩ := hgood hE
    obtain ⟨fa, fc, h3, h4⟩ := h2.final
    rw [if_pos hE, if_pos hE, if_pos hE, if_pos hE, hE]
    rw [h3] at h1
    exact ⟨fa, fc, X.ma, X.mc, X.la, X.lc, h1, h4, h2.looks, h2.merges, hk⟩
  · rw [if_neg hE, if_neg hE, if_neg hE, if_neg hE]
    exact ⟨none, 0, none, 0, none, 0, hbad hE, SeenV.nil _ _, ⟨rfl, fun k x hx => by simp at hx⟩, fun k x hx => by simp at hx, hk⟩
end Go.Proofs.Ytdiabpoafennlaa
/-! How many views are made, as the law counts them. -/
namespace Go.Proofs.Ytdiabpoafennlaa
set_option linter.unusedVariables false
set_option maxRecDepth 20000
set_option linter.unusedSimpArgs false
open Go.RowKit Go.HeapKit

theorem bool_at {w : World} {a : Option Addr} {n : Nat} {st : List Bool} (h : SeenV w a n (bv' st)) {q : Nat} (hq : q < n) : ∃ b off, a = some ⟨b, off, none⟩ ∧ w.cell? ⟨b, off + q, none⟩ = some (.bool (st.getD q false)) := by
  obtain ⟨b, off, v, hsa, -, hv, hc⟩ := h.at hq
  refine ⟨b, off, hsa, ?_⟩
  rw [bv', List.getElem?_map] at hv
  cases hk : st[q]? with
  | none => rw [hk] at hv; cases hv
  | some x =>
    rw [hk] at hv
    rw [hc, ← hv, List.getD_eq_getElem?_getD, hk]
    rfl
set_option maxHeartbeats 800000 in
theorem stole_ok (a0 a1 a2 : Option Addr) (n0 c0 n1 c1 n2 c2 q : Nat) (st : List Bool) (w : World) (h1 : SeenV w a1 n1 (bv' st)) :
    Calls Try.prog 28 #[.agg #[.slice a0 n0 c0, .slice a1 n1 c1, .slice a2 n2 c2], .int .i64 q] w fun e w' => e = .returned (.bool (st.getD q false)) ∧ Keeps None w w' := by
  have hlen := h1.len
  rw [bv_len] at hlen
  obtain ⟨p0, hp0⟩ : ∃ p0, p0 = w.heap.size := ⟨_, rfl⟩
  have hb0 := blk_new w (.cells #[.slice a0 n0 c0, .slice a1 n1 c1, .slice a2 n2 c2] 26) p0 hp0.symm
  have hkb := (Keeps.alloc None w (.cells #[.slice a0 n0 c0, .slice a1 n1 c1, .slice a2 n2 c2] 26))
  have HK : Hid (Keeps None w (w.alloc (.cells #[.slice a0 n0 c0, .slice a1 n1 c1, .slice a2 n2 c2] 26))) := hkb
  have i0 : (0 : Int) ≤ (q : Int) := by omega
  by_cases hq : q < n1
  · obtain ⟨b, off, rfl, hc⟩ := bool_at (h1.more hkb) hq
    have i1 : (q : Int) < (n1 : Int) := by omega
    obtain ⟨x, hx⟩ : ∃ x, x = st.getD q false := ⟨_, rfl⟩
    rw [← hx] at hc ⊢
    clear h1 hlen hb0 hkb hp0 hx
    go_enter Try.func28, Try.ntmps28
    go_wp2
    go_ret
    exact ⟨rfl, HK.out⟩
  · have i1 : ¬ (q : Int) < (n1 : Int) := by omega
    have hx : st.getD q false = false := by rw [List.getD_eq_getElem?_getD, List.getElem?_eq_none (by omega)]; rfl
    rw [hx]
    clear h1 hlen hb0 hkb hp0 hx
    go_enter Try.func28, Try.ntmps28
    go_wp2
    go_ret
    exact ⟨rfl, HK.out⟩
theorem row_shrink {w : World} {base : Nat} {e : TypeId} {a : Option Addr} {n c : Nat} {vs : List Value} {x : Value} (h : w.ownsRow base e 1 (.slice a (n + 1) c) (n + 1) (vs ++ [x])) : w.ownsRow base e 1 (.slice a n c) n vs := by
  have hl := h.1
  rw [List.length_append, List.length_singleton] at hl
  refine ⟨by omega, ?_⟩
  rcases h.2 with ⟨_, h0⟩ | ⟨g, cap, cur, e1, hb, hg, hn, hm, hcs, ht⟩
  · omega
  · injection e1 with e1 e2 e3
    refine .inr ⟨g, cap, cur, by rw [e1, e3], hb, hg, by omega, hm, hcs, ?_⟩
    have : cur.toList.take (n * 1) = (cur.toList.take ((n + 1) * 1)).take (n * 1) := by rw [List.take_take]; congr 1; omega
    rw [this, ht, Nat.mul_one, List.take_append_of_le_length (by omega), List.take_of_length_le (by omega)]
theorem nv_snoc (l : List Nat) (x : Nat) : nv (l ++ [x]) = nv l ++ [.int .i64 x] := by simp [nv, iv, nI]
theorem madeL_0 (st : List Bool) (x : Dd) (ds : List (Int × Int)) (n : Nat) (op : List Nat) (h : x.k = 0) : madeL st (dp x :: ds) n op = madeL st ds (n + 1) (n :: op) := by
  rw [madeL_cons, if_pos (show (dp x).1 = 0 from h)]
theorem madeL_1n (st : List Bool) (x : Dd) (ds : List (Int × Int)) (n : Nat) (h : x.k = 1) : madeL st (dp x :: ds) n [] = madeL st ds n [] := by
  rw [madeL_cons, if_neg (show ¬ (dp x).1 = 0 by show ¬ x.k = 0; omega), if_pos (show (dp x).1 = 1 from h)]
theorem madeL_1 (st : List Bool) (x : Dd) (ds : List (Int × Int)) (n t : Nat) (op : List Nat) (h : x.k = 1) : madeL st (dp x :: ds) n (t :: op) = (if st.getD t false = true then 1 else 0) + madeL st ds n op := by
  rw [madeL_cons, if_neg (show ¬ (dp x).1 = 0 by show ¬ x.k = 0; omega), if_pos (show (dp x).1 = 1 from h)]
theorem madeL_2 (st : List Bool) (x : Dd) (ds : List (Int × Int)) (n : Nat) (op : List Nat) (h : ¬ x.k = 0) (h1 : ¬ x.k = 1) : madeL st (dp x :: ds) n op = madeL st ds n op := by
  rw [madeL_cons, if_neg (show ¬ (dp x).1 = 0 from h), if_neg (show ¬ (dp x).1 = 1 from h1)]
set_option maxHeartbeats 3200000 in
theorem made_ok (a0 a1 a2 : Option Addr) (n0 c0 n1 c1 n2 c2 : Nat) (l : List Dd) (st : List Bool) (w : World) (h0 : Seen w a0 n0 l) (h1 : SeenV w a1 n1 (bv' st)) (hn : n0 ≤ 4096) (M : Nat) (hM : 1 + madeL st (l.map dp) 0 [] = M) :
    Calls Try.prog 17 #[.agg #[.slice a0 n0 c0, .slice a1 n1 c1, .slice a2 n2 c2]] w fun e w' => e = .returned (.int .i64 M) ∧ Keeps None w w' := by
  have HL : Hid (n0 = l.length) := h0.len
  obtain ⟨p0, hp0⟩ : ∃ p0, p0 = w.heap.size := ⟨_, rfl⟩
  have hb0 := blk_new w (.cells #[.slice a0 n0 c0, .slice a1 n1 c1, .slice a2 n2 c2] 26) p0 hp0.symm
  have hkb := (Keeps.alloc None w (.cells #[.slice a0 n0 c0, .slice a1 n1 c1, .slice a2 n2 c2] 26))
  go_enter Try.func17, Try.ntmps17
  go_upto_region 1 with fail
  rw [← hp0]
  clear hp0
  generalize w.alloc (.cells #[.slice a0 n0 c0, .slice a1 n1 c1, .slice a2 n2 c2] 26) = wb at *
  have HB : Hid (∀ wx, Keeps None wb wx → (wx.cell? ⟨p0, 0, none⟩ = some (.slice a0 n0 c0) ∧ wx.cell? ⟨p0, 1, none⟩ = some (.slice a1 n1 c1) ∧ wx.cell? ⟨p0, 2, none⟩ = some (.slice a2 n2 c2)) ∧ Seen wx a0 n0 l ∧ SeenV wx a1 n1 (bv' st)) := fun wx hx => ⟨⟨blk_cell (blk_kept hb0 hx (fun f => f)) 0, blk_cell (blk_kept hb0 hx (fun f => f)) 1, blk_cell (blk_kept hb0 hx (fun f => f)) 2⟩, (h0.more hkb).more hx, (h1.more hkb).more hx⟩
  have HK : Hid (Keeps None w wb) := hkb
  clear h0 h1 hb0 hkb
  obtain ⟨⟨y0, y1, y2⟩, -⟩ := HB.out wb (Keeps.refl _ _)
  go_wp2_with fail
  clear y0 y1 y2
  go_loopw [3, 4, 5, 6] (fun n s o i wr => ∃ (k N sp : Nat) (op : List Nat), k ≤ n0 ∧ i = .int .i64 k ∧ n = .int .i64 N ∧ s = .int .i64 sp ∧ wr.ownsRow wb.heap.size 3 1 o op.length (nv op.reverse) ∧ N + madeL st ((l.drop k).map dp) sp op = M ∧ N ≤ k + 1 ∧ sp ≤ k ∧ op.length ≤ k ∧ Keeps None wb wr) (fun _ _ _ i _ => n0 - (intOf i).toNat)
  case atStart => exact ⟨0, 1, 0, [], Nat.zero_le _, rfl, rfl, rfl, row_nil _ _ _ _, hM, Nat.le_refl _, Nat.le_refl _, Nat.le_refl _, Keeps.refl _ _⟩
  case round =>
    obtain ⟨k, N, sp, op, hk, rfl, rfl, rfl, hrow, hmd, hN, hsp, hop, hkp⟩ := hrel
    obtain ⟨sa, cs, rfl⟩ := row_shape hrow
    obtain ⟨⟨y0, y1, y2⟩, hS, hT⟩ := HB.out wr hkp
    by_cases hkn : k < n0
    · obtain ⟨b, off, x, rfl, hb, hx, u0, u1⟩ := hS.elem hkn
      have i3 : (k : Int) < (n0 : Int) := by omega
      have hmd2 : (l.drop k).map dp = dp x :: (l.drop (k + 1)).map dp := by
        obtain ⟨h1, h2⟩ := List.getElem?_eq_some_iff.1 hx
        rw [List.drop_eq_getElem_cons h1, h2]
        rfl
      rw [hmd2] at hmd
      obtain ⟨xk, xl⟩ := x
      have HKP : Hid (Keeps None wb wr) := hkp
      simp only at u0
      by_cases e0 : xk = 0
      · subst e0
        rw [madeL_0 _ _ _ _ _ rfl] at hmd
        obtain ⟨g, cp, w2, hr, ho, hk3, hm3⟩ := row1_more wb.heap.size (.slice sa op.length cs) op.reverse sp 24 wr.heap.size (wr.alloc (.cells #[.int .i64 sp] 3)) (by rw [List.length_reverse]; exact hrow.alloc _) (by have := hkp.size; simp; omega) (by rw [List.length_reverse]; omega) (blk_new _ _ _ rfl)
        have hkw2 : Keeps None wb w2 := (hkp.andAlloc _).trans hk3 (fun i e hi => by have := row_low hrow e; omega)
        have HN : Hid (w2.ownsRow wb.heap.size 3 1 (.slice (some ⟨g, 0, none⟩) (op.length + 1) cp) (sp :: op).length (nv (sp :: op).reverse) ∧ Keeps None wb w2 ∧ N + madeL st ((l.drop (k + 1)).map dp) (sp + 1) (sp :: op) = M) := by
          refine ⟨?_, hkw2, hmd⟩
          rw [List.length_append, List.length_singleton, List.length_reverse] at ho
          rw [List.reverse_cons, List.length_cons]
          exact ho
        rw [List.length_reverse] at hr
        obtain ⟨⟨z0, z1, z2⟩, hS2, -⟩ := HB.out w2 hkw2
        obtain ⟨b', off', x', e', hb', hx', v0, v1⟩ := hS2.elem hkn
        injection e' with e'
        injection e' with e1 e2
        subst e1 e2
        rw [hx] at hx'
        obtain rfl := Option.some.inj hx'
        simp only at v0
        clear hrow hkp hx hx' hmd hmd2 ho hk3 hm3 hS hT hS2 hkw2
        go_wp2_with (at_builtin; refine wpList_append_run rfl (.tmp 21) (.tmp 23) 24 24 rfl rfl rfl hr ?_)
        go_roundw
        case rel => exact ⟨k + 1, N, sp + 1, sp :: op, by omega, by go_num, rfl, by go_num, HN.out.1, HN.out.2.2, by omega, by omega, by simp; omega, HN.out.2.1⟩
        case measure => simp [intOf]; omega
      · by_cases e1 : xk = 1
        · subst e1
          cases op with
          | nil =>
            rw [madeL_1n _ _ _ _ rfl] at hmd
            have HN : Hid (wr.ownsRow wb.heap.size 3 1 (.slice sa ([] : List Nat).length cs) ([] : List Nat).length (nv ([] : List Nat).reverse) ∧ N + madeL st ((l.drop (k + 1)).map dp) sp [] = M) := ⟨hrow, hmd⟩
            clear hrow hkp hx hmd hmd2 hS hT
            go_wp2
            go_roundw
            case rel => exact ⟨k + 1, N, sp, [], by omega, by go_num, rfl, rfl, HN.out.1, HN.out.2, by omega, by omega, by simp, HKP.out⟩
            case measure => simp [intOf]; omega
          | cons t op =>
            rw [madeL_1 _ _ _ _ _ _ rfl] at hmd
            have hr1 := hrow
            rw [List.reverse_cons, nv_snoc, List.length_cons] at hr1
            have hnl : (nv op.reverse).length = op.length := by rw [nv_len, List.length_reverse]
            obtain ⟨g, rfl, hg1, hg2, hg3, hc, -⟩ := own_cell1 hr1 (k := op.length) (x := .int .i64 t) (by rw [List.getElem?_append_right (by omega)]; simp [hnl])
            have hr2 := row_shrink hr1
            obtain ⟨v, hv⟩ : ∃ v, v = st.getD t false := ⟨_, rfl⟩
            have HT : Hid (∀ wx, Keeps None wr wx → SeenV wx a1 n1 (bv' st)) := fun wx hx => hT.more hx
            have HV : Hid (v = st.getD t false) := hv
            have HN : Hid (wr.ownsRow wb.heap.size 3 1 (.slice (some ⟨g, 0, none⟩) op.length cs) op.length (nv op.reverse) ∧ N + ((if v = true then 1 else 0) + madeL st ((l.drop (k + 1)).map dp) sp op) = M) := ⟨hr2, by rw [hv]; exact hmd⟩
            have hle : op.length + 1 ≤ cs := hg3
            simp only [List.length_cons] at hop ⊢
            obtain ⟨T, hTT⟩ : ∃ T, T = op.length + 1 := ⟨_, rfl⟩
            rw [← hTT]
            have hw1 : wrap64 ((T : Int) - 1) = (op.length : Int) := by unfold wrap64; omega
            have hw2 : IntKind.i64.wrap ((T : Int) - 1) = (op.length : Int) := by rw [IntKind.wrap_i64]; omega
            have i5 : (op.length : Int) < (T : Int) := by omega
            have i6 : (0 : Int) < (T : Int) := by omega
            have i7 : (0 : Int) ≤ (op.length : Int) := by omega
            have i8 : (op.length : Int) ≤ (cs : Int) := by omega
            clear hTT
            clear hrow hkp hx hmd hmd2 hS hT hr1 hr2 hnl hv
            go_upto_region 11 with fail
            have hkc : Keeps None wr wr.drew := Keeps.drew None wr
            have hs : wr.drew.cell? ⟨p0, 0, none⟩ = some (.slice (some ⟨b, off, none⟩) n0 c0) ∧ wr.drew.cell? ⟨p0, 1, none⟩ = some (.slice a1 n1 c1) ∧ wr.drew.cell? ⟨p0, 2, none⟩ = some (.slice a2 n2 c2) ∧ wr.drew.cell? ⟨g, op.length, none⟩ = some (.int .i64 t) := ⟨y0, y1, y2, hc⟩
            go_region_held3 (fun wx => wx.cell? ⟨p0, 0, none⟩ = some (.slice (some ⟨b, off, none⟩) n0 c0) ∧ wx.cell? ⟨p0, 1, none⟩ = some (.slice a1 n1 c1) ∧ wx.cell? ⟨p0, 2, none⟩ = some (.slice a2 n2 c2) ∧ wx.cell? ⟨g, op.length, none⟩ = some (.int .i64 t)) (first | exact hs | go_keep) (first
              | (go_at_call 28; refine Calls.mono (stole_ok (some ⟨b, off, none⟩) a1 a2 n0 c0 n1 c1 n2 c2 t st _ (HT.out _ hkc)) ?_; rintro _ wn ⟨rfl, hkn⟩; replace hkc := hkc.trans hkn (fun _ f _ => f); replace hs : wn.cell? ⟨p0, 0, none⟩ = some (.slice (some ⟨b, off, none⟩) n0 c0) ∧ wn.cell? ⟨p0, 1, none⟩ = some (.slice a1 n1 c1) ∧ wn.cell? ⟨p0, 2, none⟩ = some (.slice a2 n2 c2) ∧ wn.cell? ⟨g, op.length, none⟩ = some (.int .i64 t) := ⟨hkc.cell y0 (fun f => f), hkc.cell y1 (fun f => f), hkc.cell y2 (fun f => f), hkc.cell hc (fun f => f)⟩; rw [← HV.out]; clear hkn))
            all_goals
              have HK2 : Hid (Keeps None wb wn ∧ wn.ownsRow wb.heap.size 3 1 (.slice (some ⟨g, 0, none⟩) op.length cs) op.length (nv op.reverse)) := ⟨HKP.out.trans hkc (fun _ f _ => f), row_kept HN.out.1 hkc (fun _ _ f => f)⟩
              cases v with
              | true =>
                have HN3 := HN.out.2
                simp only [if_true] at HN3
                have HN4 : Hid (N + (1 + madeL st ((l.drop (k + 1)).map dp) sp op) = M) := HN3
                clear HN3 hkc
                go_wp2_with fail
                exact ⟨⟨k + 1, N + 1, sp, op, by omega, by go_num, by go_num, rfl, HK2.out.2, by have := HN4.out; omega, by omega, by omega, by omega, HK2.out.1⟩, by simp [intOf]; omega⟩
              | false =>
                have HN3 : N + madeL st ((l.drop (k + 1)).map dp) sp op = M := by
                  have h := HN.out.2
                  rw [if_neg (by simp), Nat.zero_add] at h
                  exact h
                have HN4 : Hid (N + (madeL st ((l.drop (k + 1)).map dp) sp op) = M) := HN3
                clear HN3 hkc
                go_wp2_with fail
                exact ⟨⟨k + 1, N, sp, op, by omega, by go_num, rfl, rfl, HK2.out.2, HN4.out, by omega, by omega, by omega, HK2.out.1⟩, by simp [intOf]; omega⟩
        · rw [madeL_2 _ _ _ _ _ e0 e1] at hmd
          have HN : Hid (wr.ownsRow wb.heap.size 3 1 (.slice sa op.length cs) op.length (nv op.reverse) ∧ N + madeL st ((l.drop (k + 1)).map dp) sp op = M) := ⟨hrow, hmd⟩
          clear hrow hkp hx hmd hmd2 hS hT
          go_wp2
          go_roundw
          case rel => exact ⟨k + 1, N, sp, op, by omega, by go_num, rfl, rfl, HN.out.1, HN.out.2, by omega, by omega, by omega, HKP.out⟩
          case measure => simp [intOf]; omega
    · have hkn2 : k = n0 := by omega
      have i3 : ¬ (k : Int) < (n0 : Int) := by omega
      rw [List.drop_eq_nil_of_le (by have := HL.out; omega)] at hmd
      have he : N = M := hmd
      have HE : Hid (N = M ∧ Keeps None w wr) := ⟨he, HK.out.trans hkp (fun _ f _ => f)⟩
      clear hrow hkp hmd he hS hT
      go_wp2
      go_ret
      exact ⟨by rw [HE.out.1]; rfl, HE.out.2⟩
end Go.Proofs.Ytdiabpoafennlaa
