import Derived.Test.YtdiabpoafennlaaHySer
import Derived.Test.YtdiabpoafennlaaHyOver
/-! The walk of HyperSerial. -/
namespace Go.Proofs.Ytdiabpoafennlaa
set_option linter.unusedVariables false
set_option maxRecDepth 20000
set_option linter.unusedSimpArgs false
open Go.RowKit Go.HeapKit

def serL (l : List Dd) : List Int := if chkE l = 0 then putsD l else []
theorem serL_len (l : List Dd) : (serL l).length ≤ 4096 := by
  unfold serL
  split
  · rename_i h
    have := putsD_len l
    have := chkE_ok h
    omega
  · simp
theorem ser_of {v : Value} {l : List Dd} {B : Nat} {w : World} (h0 : chkE l ≠ 0 → v = .slice none 0 0) (h1 : chkE l = 0 → w.ownsRow B 2 1 v (putsD l).length (iv (putsD l))) : ∃ a c, v = .slice a (serL l).length c ∧ SeenV w a (serL l).length (iv (serL l)) := by
  unfold serL
  by_cases h : chkE l = 0
  · rw [if_pos h]
    have hr := h1 h
    obtain ⟨a, c, rfl⟩ := row_shape hr
    exact ⟨a, c, rfl, own_seen1 hr⟩
  · rw [if_neg h]
    exact ⟨none, 0, h0 h, SeenV.nil _ _⟩
theorem serial_any (a : Option Addr) (n c : Nat) (l : List Dd) (w : World) (hS : Seen w a n l) :
    Calls Try.prog 10 #[.slice a n c] w fun e w' => ∃ a1 c1, e = .returned (.tuple #[.slice a1 (serL l).length c1, .int .i64 (chkE l)]) ∧ SeenV w' a1 (serL l).length (iv (serL l)) ∧ Keeps None w w' := by
  refine (serial_ok a n c l w hS).mono ?_
  rintro e w' ⟨v, rfl, h0, h1, hk⟩
  obtain ⟨a1, c1, rfl, h2⟩ := ser_of h0 h1
  exact ⟨a1, c1, rfl, h2, hk⟩
theorem rserial_any (a : Option Addr) (n c : Nat) (l : List Dd) (w : World) (hS : Seen w a n l) :
    Calls Try.prog 11 #[.slice a n c] w fun e w' => ∃ a1 c1, e = .returned (.tuple #[.slice a1 (serL l).length c1, .int .i64 (chkE l)]) ∧ SeenV w' a1 (serL l).length (iv (serL l)) ∧ Keeps None w w' := by
  refine (rserial_ok a n c l w hS).mono ?_
  rintro e w' ⟨v, rfl, h0, h1, hk⟩
  obtain ⟨a1, c1, rfl, h2⟩ := ser_of h0 h1
  exact ⟨a1, c1, rfl, h2, hk⟩
theorem Tri.seen {w : World} {B : Nat} {a : Option Addr} {c : Nat} {v1 v2 : Value} {n0 n1 n2 : Nat} {l : List Dd} {st : List Bool} {pk : List Int} (h : Tri w B (.slice a n0 c) v1 v2 n0 n1 n2 l st pk) (hl : n0 = l.length) : Seen w a n0 l := Seen.of_row hl h.r0
set_option maxHeartbeats 3200000 in
theorem hyperSerial_walk (a0 a1 a2 : Option Addr) (n0 c0 n1 c1 n2 c2 : Nat) (l : List Dd) (st : List Bool) (pk : List Int) (w : World) (h0 : Seen w a0 n0 l) (h1 : SeenV w a1 n1 (bv' st)) (h2 : SeenV w a2 n2 (iv pk)) (s0 : n0 * 16 ≤ 140737488351232) (s1 : n1 ≤ 140737488351232) (s2 : n2 * 8 ≤ 140737488351232) :
    Calls Try.prog 3 #[.agg #[.slice a0 n0 c0, .slice a1 n1 c1, .slice a2 n2 c2]] w fun e w' => e = .returned (.bool true) ∧ Below w.heap.size w w' := by
  have HS : Hid (Seen w a0 n0 l ∧ SeenV w a1 n1 (bv' st) ∧ SeenV w a2 n2 (iv pk)) := ⟨h0, h1, h2⟩
  have HL : Hid (n0 = l.length ∧ (serL l).length ≤ 4096 ∧ (serL (l.map flipD)).length ≤ 4096) := ⟨h0.len, serL_len _, serL_len _⟩
  clear h0 h1 h2
  obtain ⟨p0, hp0⟩ : ∃ p0, p0 = w.heap.size := ⟨_, rfl⟩
  have hb0 := blk_new w (.cells #[.slice a0 n0 c0, .slice a1 n1 c1, .slice a2 n2 c2] 26) p0 hp0.symm
  have hkb := (Keeps.alloc None w (.cells #[.slice a0 n0 c0, .slice a1 n1 c1, .slice a2 n2 c2] 26))
  go_enter Try.func3, Try.ntmps3
  go_upto_region 1 with fail
  rw [← hp0]
  generalize (w.alloc (.cells #[.slice a0 n0 c0, .slice a1 n1 c1, .slice a2 n2 c2] 26)) = wb at *
  have y0 : wb.cell? ⟨p0, 0, none⟩ = some (.slice a0 n0 c0) := (blk_cell hb0 0).trans rfl
  have y1 : wb.cell? ⟨p0, 1, none⟩ = some (.slice a1 n1 c1) := (blk_cell hb0 1).trans rfl
  have y2 : wb.cell? ⟨p0, 2, none⟩ = some (.slice a2 n2 c2) := (blk_cell hb0 2).trans rfl
  have HY : Hid (∀ wx, Keeps None wb wx → wx.cell? ⟨p0, 0, none⟩ = some (.slice a0 n0 c0) ∧ wx.cell? ⟨p0, 1, none⟩ = some (.slice a1 n1 c1) ∧ wx.cell? ⟨p0, 2, none⟩ = some (.slice a2 n2 c2) ∧ Seen wx a0 n0 l ∧ SeenV wx a1 n1 (bv' st) ∧ SeenV wx a2 n2 (iv pk)) := fun wx hx =>
    ⟨hx.cell y0 (fun f => f), hx.cell y1 (fun f => f), hx.cell y2 (fun f => f), (HS.out.1.more hkb).more hx, (HS.out.2.1.more hkb).more hx, (HS.out.2.2.more hkb).more hx⟩
  have HK : Hid (Keeps None w wb ∧ w.heap.size ≤ wb.heap.size ∧ p0 < wb.heap.size) := ⟨hkb, hkb.size, blk_lt hb0⟩
  clear hb0 hkb hp0
  go_wp2_with fail
  refine (copied_ok a0 a1 a2 n0 c0 n1 c1 n2 c2 l st pk wb (HY.out wb (Keeps.refl _ _)).2.2.2.1 (HY.out wb (Keeps.refl _ _)).2.2.2.2.1 (HY.out wb (Keeps.refl _ _)).2.2.2.2.2 s0 s1 s2).mono ?_
  rintro e w1 ⟨v0, v1, v2, rfl, hT, hk1⟩
  obtain ⟨b0, d0, rfl⟩ := row_shape hT.r0
  obtain ⟨b1, d1, rfl⟩ := row_shape hT.r1
  obtain ⟨b2, d2, rfl⟩ := row_shape hT.r2
  clear y0 y1 y2
  obtain ⟨p1, hp1⟩ : ∃ p1, p1 = w1.heap.size := ⟨_, rfl⟩
  have hc1 := blk_new w1 (.cells #[.slice b0 n0 d0, .slice b1 n1 d1, .slice b2 n2 d2] 26) p1 hp1.symm
  have hkc := (Keeps.alloc None w1 (.cells #[.slice b0 n0 d0, .slice b1 n1 d1, .slice b2 n2 d2] 26))
  go_upto_region 2 with fail
  rw [← hp1]
  generalize (w1.alloc (.cells #[.slice b0 n0 d0, .slice b1 n1 d1, .slice b2 n2 d2] 26)) = wc at *
  have hkq : Keeps None wb wc := hk1.trans hkc (fun _ f _ => f)
  have HC : Hid (wc.heap[p1]? = some (.cells #[.slice b0 n0 d0, .slice b1 n1 d1, .slice b2 n2 d2] 26 (0, 0))) := hc1
  have HT : Hid (Tri wc wb.heap.size (.slice b0 n0 d0) (.slice b1 n1 d1) (.slice b2 n2 d2) n0 n1 n2 l st pk ∧ Keeps None wb wc) := ⟨hT.more hkc, hkq⟩
  obtain ⟨y0, y1, y2, -, -, -⟩ := HY.out wc hkq
  clear hc1 hT hkc hk1 hkq hp1
  go_wp2_with fail
  refine (serial_any a0 n0 c0 l wc (HY.out wc HT.out.2).2.2.2.1).mono ?_
  rintro e w2 ⟨e1, x1, rfl, hs1, hk2⟩
  have HR1 : Hid (SeenV w2 e1 (serL l).length (iv (serL l)) ∧ Keeps None wc w2) := ⟨hs1, hk2⟩
  obtain ⟨L, hL⟩ : ∃ L, L = serL l := ⟨_, rfl⟩
  obtain ⟨E, hE⟩ : ∃ E, E = chkE l := ⟨_, rfl⟩
  have HLE : Hid (serL l = L ∧ chkE l = E) := ⟨hL.symm, hE.symm⟩
  rw [← hL, ← hE]
  rw [← hL] at HR1
  have z0 : w2.cell? ⟨p1, 0, none⟩ = some (.slice b0 n0 d0) := (blk_cell (blk_kept HC.out hk2 (fun f => f)) 0).trans rfl
  have x0 := (HY.out w2 (HT.out.2.trans hk2 (fun _ f _ => f))).1
  clear hs1 hk2 y0 y1 y2 hL hE
  go_upto_region 3 with fail
  go_wp2_with fail
  refine (rserial_any b0 n0 d0 l w2 (((HT.out.1.more HR1.out.2)).seen HL.out.1)).mono ?_
  rintro e w3 ⟨e2, x2, rfl, hs2, hk3⟩
  rw [HLE.out.1] at hs2
  rw [HLE.out.1, HLE.out.2]
  have HR2 : Hid (SeenV w3 e1 L.length (iv L) ∧ SeenV w3 e2 L.length (iv L) ∧ Keeps None wc w3 ∧ L.length ≤ 4096) := ⟨HR1.out.1.more hk3, hs2, HR1.out.2.trans hk3 (fun _ f _ => f), by have := HL.out.2.1; rwa [HLE.out.1] at this⟩
  clear hs2 hk3 z0 x0 HR1
  go_upto_region 4 with fail
  have HKC : Hid (∀ wx, Keeps None w3 wx → wx.cell? ⟨p1, 0, none⟩ = some (.slice b0 n0 d0) ∧ wx.cell? ⟨p1, 1, none⟩ = some (.slice b1 n1 d1) ∧ wx.cell? ⟨p1, 2, none⟩ = some (.slice b2 n2 d2)) := fun wx hx =>
    ⟨(blk_cell (blk_kept HC.out (HR2.out.2.2.1.trans hx (fun _ f _ => f)) (fun f => f)) 0).trans rfl, (blk_cell (blk_kept HC.out (HR2.out.2.2.1.trans hx (fun _ f _ => f)) (fun f => f)) 1).trans rfl, (blk_cell (blk_kept HC.out (HR2.out.2.2.1.trans hx (fun _ f _ => f)) (fun f => f)) 2).trans rfl⟩
  have HKB : Hid (∀ wx, Keeps None w3 wx → wx.cell? ⟨p0, 0, none⟩ = some (.slice a0 n0 c0) ∧ wx.cell? ⟨p0, 1, none⟩ = some (.slice a1 n1 c1) ∧ wx.cell? ⟨p0, 2, none⟩ = some (.slice a2 n2 c2)) := fun wx hx => by
    have := HY.out wx (HT.out.2.trans (HR2.out.2.2.1.trans hx (fun _ f _ => f)) (fun _ f _ => f))
    exact ⟨this.1, this.2.1, this.2.2.1⟩
  obtain ⟨q0, q1, q2⟩ := HKC.out w3 (Keeps.refl _ _)
  obtain ⟨q3, q4, q5⟩ := HKB.out w3 (Keeps.refl _ _)
  go_wp2_with fail
  refine (sameInts_ok e1 e2 L.length x1 x2 L w3 HR2.out.1 HR2.out.2.1 (by have := HR2.out.2.2.2; omega)).mono ?_
  rintro e w4 ⟨rfl, hk4⟩
  clear q0 q1 q2 q3 q4 q5
  obtain ⟨q0, q1, q2⟩ := HKC.out w4 hk4
  obtain ⟨q3, q4, q5⟩ := HKB.out w4 hk4
  have HW4 : Hid (Keeps None w3 w4) := hk4
  clear hk4
  go_wp2_with fail
  refine (same_ok a0 a1 a2 b0 b1 b2 n0 c0 n1 c1 n2 c2 d0 d1 d2 l st pk w4 ?_ ?_ ?_ ?_ ?_ ?_ s0 s1 s2).mono ?_
  · exact (HY.out w4 (HT.out.2.trans (HR2.out.2.2.1.trans HW4.out (fun _ f _ => f)) (fun _ f _ => f))).2.2.2.1
  · exact (HY.out w4 (HT.out.2.trans (HR2.out.2.2.1.trans HW4.out (fun _ f _ => f)) (fun _ f _ => f))).2.2.2.2.1
  · exact (HY.out w4 (HT.out.2.trans (HR2.out.2.2.1.trans HW4.out (fun _ f _ => f)) (fun _ f _ => f))).2.2.2.2.2
  · exact (HT.out.1.more (HR2.out.2.2.1.trans HW4.out (fun _ f _ => f))).seen HL.out.1
  · exact own_seen1 (HT.out.1.more (HR2.out.2.2.1.trans HW4.out (fun _ f _ => f))).r1
  · exact own_seen1 (HT.out.1.more (HR2.out.2.2.1.trans HW4.out (fun _ f _ => f))).r2
  rintro e w5 ⟨rfl, hk5⟩
  have HW5 : Hid (Keeps None w3 w5) := HW4.out.trans hk5 (fun _ f _ => f)
  clear hk5 HW4 q0 q1 q2 q3 q4 q5
  obtain ⟨q0, q1, q2⟩ := HKC.out w5 HW5.out
  have HT5 : Hid (Tri w5 wb.heap.size (.slice b0 n0 d0) (.slice b1 n1 d1) (.slice b2 n2 d2) n0 n1 n2 l st pk ∧ Keeps None wb w5 ∧ w5.heap[p1]? = some (.cells #[.slice b0 n0 d0, .slice b1 n1 d1, .slice b2 n2 d2] 26 (0, 0))) := ⟨HT.out.1.more (HR2.out.2.2.1.trans HW5.out (fun _ f _ => f)), HT.out.2.trans (HR2.out.2.2.1.trans HW5.out (fun _ f _ => f)) (fun _ f _ => f), blk_kept HC.out (HR2.out.2.2.1.trans HW5.out (fun _ f _ => f)) (fun f => f)⟩
  clear HKC HKB HR2 HW5 HC HT
  go_wp2_with fail
  refine (serial_any b0 n0 d0 l w5 (HT5.out.1.seen HL.out.1)).mono ?_
  rintro e w6 ⟨e3, x3, rfl, -, hk6⟩
  have HT6 : Hid (Tri w6 wb.heap.size (.slice b0 n0 d0) (.slice b1 n1 d1) (.slice b2 n2 d2) n0 n1 n2 l st pk ∧ Keeps None wb w6 ∧ w6.heap[p1]? = some (.cells #[.slice b0 n0 d0, .slice b1 n1 d1, .slice b2 n2 d2] 26 (0, 0))) := ⟨HT5.out.1.more hk6, HT5.out.2.1.trans hk6 (fun _ f _ => f), blk_kept HT5.out.2.2 hk6 (fun f => f)⟩
  clear hk6 HT5 q0 q1 q2
  have q0 : w6.cell? ⟨p1, 0, none⟩ = some (.slice b0 n0 d0) := (blk_cell HT6.out.2.2 0).trans rfl
  have q1 : w6.cell? ⟨p1, 1, none⟩ = some (.slice b1 n1 d1) := (blk_cell HT6.out.2.2 1).trans rfl
  have q2 : w6.cell? ⟨p1, 2, none⟩ = some (.slice b2 n2 d2) := (blk_cell HT6.out.2.2 2).trans rfl
  go_upto_region 7 with fail
  go_wp2_with fail
  refine (over_ok b0 b1 b2 n0 d0 n1 d1 n2 d2 wb.heap.size l st pk w6 HT6.out.1 HT6.out.2.1.size HL.out.1 s0 s1 s2).mono ?_
  rintro e w7 ⟨⟨v7, rfl⟩, hT7, hk7⟩
  have HT7 : Hid (Tri w7 wb.heap.size (.slice b0 n0 d0) (.slice b1 n1 d1) (.slice b2 n2 d2) n0 n1 n2 (l.map flipD) (st.map not) (pk.map flipI) ∧ Keeps (fun i => wb.heap.size ≤ i) wb w7 ∧ n0 = (l.map flipD).length ∧ w7.heap[p1]? = some (.cells #[.slice b0 n0 d0, .slice b1 n1 d1, .slice b2 n2 d2] 26 (0, 0))) :=
    ⟨hT7, (HT6.out.2.1.mono (T := fun i => wb.heap.size ≤ i) (fun _ f _ => f.elim)).trans hk7 (fun i e _ => HT6.out.1.lowF e), by rw [List.length_map]; exact HL.out.1, blk_kept HT6.out.2.2 hk7 (HT6.out.1.notBox HT6.out.2.2)⟩
  clear hT7 hk7 HT6 q0 q1 q2
  have q0 : w7.cell? ⟨p1, 0, none⟩ = some (.slice b0 n0 d0) := (blk_cell HT7.out.2.2.2 0).trans rfl
  go_upto_region 8 with fail
  go_wp2_with fail
  refine (serial_any b0 n0 d0 (l.map flipD) w7 (HT7.out.1.seen HT7.out.2.2.1)).mono ?_
  rintro e w8 ⟨e4, x4, rfl, hs4, hk8⟩
  obtain ⟨L2, hL⟩ : ∃ L, L = serL (l.map flipD) := ⟨_, rfl⟩
  obtain ⟨E2, hE⟩ : ∃ E, E = chkE (l.map flipD) := ⟨_, rfl⟩
  have HLE2 : Hid (serL (l.map flipD) = L2 ∧ chkE (l.map flipD) = E2) := ⟨hL.symm, hE.symm⟩
  rw [← hL, ← hE]
  rw [← hL] at hs4
  have HR4 : Hid (SeenV w8 e4 L2.length (iv L2) ∧ Keeps None w7 w8) := ⟨hs4, hk8⟩
  have q8 : w8.cell? ⟨p1, 0, none⟩ = some (.slice b0 n0 d0) := (blk_cell (blk_kept HT7.out.2.2.2 hk8 (fun f => f)) 0).trans rfl
  clear hs4 hk8 hL hE q0
  go_upto_region 9 with fail
  go_wp2_with fail
  refine (rserial_any b0 n0 d0 (l.map flipD) w8 ((HT7.out.1.more HR4.out.2).seen HT7.out.2.2.1)).mono ?_
  rintro e w9 ⟨e5, x5, rfl, hs5, hk9⟩
  rw [HLE2.out.1] at hs5
  rw [HLE2.out.1, HLE2.out.2]
  have HR5 : Hid (SeenV w9 e4 L2.length (iv L2) ∧ SeenV w9 e5 L2.length (iv L2) ∧ Keeps None w7 w9 ∧ L2.length ≤ 4096) := ⟨HR4.out.1.more hk9, hs5, HR4.out.2.trans hk9 (fun _ f _ => f), by have := HL.out.2.2; rwa [HLE2.out.1] at this⟩
  clear hs5 hk9 HR4 q8
  go_upto_region 10 with fail
  go_wp2_with fail
  refine (sameInts_ok e4 e5 L2.length x4 x5 L2 w9 HR5.out.1 HR5.out.2.1 (by have := HR5.out.2.2.2; omega)).mono ?_
  rintro e w10 ⟨rfl, hk10⟩
  have HE : Hid (Below w.heap.size w w10) := ((HK.out.1.mono (T := fun i => w.heap.size ≤ i) (fun _ f _ => f.elim)).trans (HT7.out.2.1.trans (HR5.out.2.2.1.trans hk10 (fun _ f _ => f)) (fun _ f _ => f.elim)) (fun i e _ => Nat.le_trans HK.out.2.1 e)).below _ (Nat.le_refl _) (fun _ e => e)
  clear hk10
  go_wp2
  go_ret
  exact ⟨rfl, HE.out⟩
end Go.Proofs.Ytdiabpoafennlaa
