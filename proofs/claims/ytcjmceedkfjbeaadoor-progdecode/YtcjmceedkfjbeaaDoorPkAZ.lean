import Derived.Test.YtcjmceedkfjbeaaDoorPkAY
import Derived.Deep.QuietTactic
import Derived.Deep.RegionHeld3
import Derived.BigQuiet
/-! The document's 'whole'. -/
namespace Go.Proofs.YtcjmceedkfjbeaaDoor
set_option linter.unusedVariables false
set_option maxRecDepth 20000
open Go.RowKit Go.HeapKit

def WholePost (w : World) (ys : List Int) (e : Ending) (w' : World) : Prop := ∃ xa k xc ok, e = .returned (.tuple #[.agg #[.slice xa k xc], .bool ok]) ∧ Keeps None w w' ∧ ((ok = true ∧ ∃ fs tv, wholeV ys = some fs ∧ RowsF w' (.slice xa k xc) fs tv) ∨ (ok = false ∧ wholeV ys = none))
set_option maxRecDepth 20000 in
set_option maxHeartbeats 4000000 in
theorem whole_any (b off n c : Nat) (ys : List Int) (w : World) (hS : SeenW w (some ⟨b, off, none⟩) n ys) (hn1 : 1 ≤ n) (hr : n * 8 ≤ 140737488351232) :
    Calls Tryd.prog 28 #[.slice (some ⟨b, off, none⟩) n c] w (WholePost w ys) := by
  have hlen := hS.len
  obtain ⟨b', off', e0, hlt, hcell⟩ := hS.ex (by omega)
  injection e0 with e0
  injection e0 with e1 e2 _
  subst e1 e2
  have hcw : ∀ wx, Keeps None w wx → ∀ j, j < n → wx.cell? ⟨b, off + j, none⟩ = some (.int .i64 (ys.getD j 0)) := fun wx hk j hj => hk.cell (hcell j _ (by rw [List.getD_eq_getElem?_getD, List.getElem?_eq_getElem (by omega)]; rfl)) (fun f => f)
  have HP : Hid (∀ e w', (∃ xa k xc ok, e = .returned (.tuple #[.agg #[.slice xa k xc], .bool ok]) ∧ Keeps None w w' ∧ ((ok = true ∧ ∃ fs tv, wholeV ys = some fs ∧ RowsF w' (.slice xa k xc) fs tv) ∨ (ok = false ∧ wholeV ys = none))) → WholePost w ys e w') := fun e w' h => h
  obtain ⟨B, hB⟩ : ∃ B, B = w.heap.size := ⟨_, rfl⟩
  obtain ⟨p1, p2⟩ := two_boxes w #[.slice none 0 0] #[.slice none 0 0] 25 25
  have hk2 := keeps2 w (.cells #[.slice none 0 0] 25) (.cells #[.slice none 0 0] 25)
  obtain ⟨w2, hw2⟩ : ∃ w2, w2 = (w.alloc (.cells #[.slice none 0 0] 25)).alloc (.cells #[.slice none 0 0] 25) := ⟨_, rfl⟩
  rw [← hw2] at p1 p2 hk2
  rw [← hB] at p1 p2
  have HS0 : Hid (Wm w w2 B [] (.slice none 0 0) []) := ⟨hk2, p1, p2, ⟨rfl, .inl ⟨rfl, rfl⟩⟩, fun i f t hf => by simp at hf, rfl, fun g e => by simp [Value.ownBlock] at e, by omega⟩
  obtain ⟨m0, hm0⟩ : ∃ m0, m0 = ys.getD 0 0 := ⟨_, rfl⟩
  have y0 := hcw w2 hk2 0 (by omega)
  rw [Nat.add_zero, ← hm0] at y0
  have hys : ys = m0 :: ys.drop 1 := by
    have := List.drop_eq_getElem_cons (l := ys) (i := 0) (by omega)
    rw [List.drop_zero] at this
    rw [hm0, List.getD_eq_getElem?_getD, List.getElem?_eq_getElem (by omega)]
    exact this
  have HC : Hid ((∀ wx, Keeps None w wx → ∀ j, j < n → wx.cell? ⟨b, off + j, none⟩ = some (.int .i64 (ys.getD j 0))) ∧ n = ys.length ∧ ys = m0 :: ys.drop 1 ∧ m0 = ys.getD 0 0) := ⟨hcw, hlen, hys, hm0⟩
  have hnb : (n : Int) ≤ 4611686018427387904 := by omega
  have q0 : w2.cell? ⟨B + 1, 0, none⟩ = some (.slice none 0 0) := (cell_of_heap p2 0).trans rfl
  have r0 : w2.cell? ⟨B, 0, none⟩ = some (.slice none 0 0) := (cell_of_heap p1 0).trans rfl
  have z0 := blk_free p1 0
  have i0 : (0 : Int) < (n : Int) := by omega
  clear hS hlen hcell hcw hk2 p1 p2 hm0 hys hlt
  go_enter Tryd.func28, Tryd.ntmps28
  go_upto_region 2 with fail
  rw [← hw2, ← hB]
  clear hw2 hB
  by_cases hm : 1 ≤ m0 ∧ m0 ≤ 32
  case neg =>
    have hnone : wholeV ys = none := by
      rw [HC.out.2.2.1, wholeV_cons, if_pos (by omega)]
    obtain ⟨xa, xc, e, hb, hse, hkk⟩ := HS0.out.out
    simp only [List.length_nil, Value.slice.injEq] at e
    obtain ⟨rfl, -, rfl⟩ := e
    have HQ : Hid ((w2.setCell ⟨B, 0, none⟩ (.slice none 0 0)).heap[B]? = some (.cells #[.slice none 0 0] 25 (0, 0)) ∧ Keeps None w (w2.setCell ⟨B, 0, none⟩ (.slice none 0 0)) ∧ wholeV ys = none) := ⟨hb, hkk, hnone⟩
    clear hb hse hkk hnone
    by_cases h1 : m0 < 1
    · go_wp2_with fail
      exact bodyPost_ret (results_cell_tmp (q := 2) (u := 3) (ty := 25) rfl rfl (load_prog _ _ _ (.slice none 0 0) HQ.out.1)) rfl (HP.out _ _ ⟨none, 0, 0, false, rfl, HQ.out.2.1, .inr ⟨rfl, HQ.out.2.2⟩⟩)
    · have h2 : 32 < m0 := by omega
      go_wp2_with fail
      exact bodyPost_ret (results_cell_tmp (q := 2) (u := 3) (ty := 25) rfl rfl (load_prog _ _ _ (.slice none 0 0) HQ.out.1)) rfl (HP.out _ _ ⟨none, 0, 0, false, rfl, HQ.out.2.1, .inr ⟨rfl, HQ.out.2.2⟩⟩)
  case pos =>
  obtain ⟨m, rfl⟩ := Int.eq_ofNat_of_zero_le (show 0 ≤ m0 by omega)
  have hm1 : 1 ≤ m := by omega
  have hm2 : m ≤ 32 := by omega
  have j1 : ¬ ((m : Int) < 1) := by omega
  have j2 : ¬ ((32 : Int) < (m : Int)) := by omega
  go_upto_region 4 with fail
  clear q0 r0 z0 hm j1 j2 y0
  go_wp2_with fail
  go_loopw [5, 6] (fun s5 s6 wr => ∃ (k p : Nat) (fs : List Fn) (qv : Value) (tv : List At), k ≤ m ∧ s6 = .int .i64 k ∧ s5 = .int .i64 p ∧ p ≤ n ∧ fs.length = k ∧ Inv m ys k p fs ∧ Wm w wr B fs qv tv) (fun _ i _ => m - (intOf i).toNat)
  case atStart => exact ⟨0, 1, [], .slice none 0 0, [], Nat.zero_le _, rfl, rfl, hn1, rfl, Inv.start m ys, HS0.out⟩
  case round =>
    obtain ⟨k, p, fs, qv, tv, hk, rfl, rfl, hpn, hfl, hinv, hW⟩ := hrel
    have y0 := HC.out.1 wr hW.keep 0 (by omega)
    rw [Nat.add_zero, ← HC.out.2.2.2] at y0
    obtain ⟨xa, xc, hqv, hb, hse, hkk⟩ := hW.out
    rw [hfl] at hqv hb hse hkk
    subst hqv
    have q0 : wr.cell? ⟨B + 1, 0, none⟩ = some (.slice xa k xc) := (cell_of_heap hW.qb 0).trans rfl
    have r0 : wr.cell? ⟨B, 0, none⟩ = some (.slice none 0 0) := (cell_of_heap hW.res 0).trans rfl
    have z0 := blk_free hW.res 0
    have HB : Hid ((wr.setCell ⟨B, 0, none⟩ (.slice xa k xc)).heap[B]? = some (.cells #[.slice xa k xc] 25 (0, 0)) ∧ RowsF (wr.setCell ⟨B, 0, none⟩ (.slice xa k xc)) (.slice xa k xc) fs tv ∧ Keeps None w (wr.setCell ⟨B, 0, none⟩ (.slice xa k xc))) := ⟨hb, hse, hkk⟩
    have HW : Hid (Wm w wr B fs (.slice xa k xc) tv ∧ fs.length = k ∧ Inv m ys k p fs) := ⟨hW, hfl, hinv⟩
    clear hb hse hkk hW hinv hfl
    by_cases hkm : k < m
    case neg =>
      have hkm2 : k = m := by omega
      subst hkm2
      have i1 : ¬ ((k : Int) < (k : Int)) := by omega
      have hfin := HW.out.2.2.fin (r := ys.drop 1) ⟨hm1, hm2⟩ HC.out.2.2.1
      by_cases hpe : p < n
      · have e5 : ((p : Int) == (n : Int)) = false := by simp; omega
        rw [if_pos (by have := HC.out.2.1; omega)] at hfin
        have HF : Hid _ := hfin
        clear hfin
        go_wp2_with fail
        exact bodyPost_ret (results_cell_tmp (q := 2) (u := 3) (ty := 25) rfl rfl (load_prog _ _ _ (.slice xa k xc) HB.out.1)) rfl (HP.out _ _ ⟨xa, k, xc, false, rfl, HB.out.2.2, .inr ⟨rfl, HF.out⟩⟩)
      · have e5 : ((p : Int) == (n : Int)) = true := by simp; omega
        rw [if_neg (by have := HC.out.2.1; omega)] at hfin
        have HF : Hid _ := hfin
        clear hfin
        go_wp2_with fail
        exact bodyPost_ret (results_cell_tmp (q := 2) (u := 3) (ty := 25) rfl rfl (load_prog _ _ _ (.slice xa k xc) HB.out.1)) rfl (HP.out _ _ ⟨xa, k, xc, true, rfl, HB.out.2.2, .inl ⟨rfl, fs, tv, HF.out, HB.out.2.1⟩⟩)
    case pos =>
    have i1 : (k : Int) < (m : Int) := by omega
    have HNO : Hid (readFn (ys.drop p) = none → wholeV ys = none) := fun h => HW.out.2.2.nothing hkm h HC.out.2.2.1
    by_cases h4 : p + 4 ≤ n
    case neg =>
      have i2 : (n : Int) < (p : Int) + 4 := by omega
      have hno : wholeV ys = none := HNO.out (fn_short _ (by rw [List.length_drop]; have := HC.out.2.1; omega))
      have HF : Hid _ := hno
      clear hno
      go_wp2_with fail
      exact bodyPost_ret (results_cell_tmp (q := 2) (u := 3) (ty := 25) rfl rfl (load_prog _ _ _ (.slice xa k xc) HB.out.1)) rfl (HP.out _ _ ⟨xa, k, xc, false, rfl, HB.out.2.2, .inr ⟨rfl, HF.out⟩⟩)
    case pos =>
    have i2 : ¬ ((n : Int) < (p : Int) + 4) := by omega
    have hd4 := drop4 ys p (by have := HC.out.2.1; omega)
    have y3 := HC.out.1 wr HW.out.1.keep (p + 3) (by omega)
    obtain ⟨x3, hx3⟩ : ∃ x3, x3 = ys.getD (p + 3) 0 := ⟨_, rfl⟩
    rw [← hx3] at y3 hd4
    obtain ⟨P3, hP3⟩ : ∃ P3, P3 = p + 3 := ⟨_, rfl⟩
    rw [← hP3] at y3
    have w3 : wrap64 ((p : Int) + 3) = (P3 : Int) := by unfold wrap64; omega
    have w3' : IntKind.i64.wrap ((p : Int) + 3) = (P3 : Int) := by rw [Go.IntWalk.i64_in _ (by omega)]; omega
    have i3 : (P3 : Int) < (n : Int) := by omega
    have i3' : P3 < n := by omega
    have HD : Hid _ := hd4
    clear hx3 hP3 hd4
    by_cases hx : 1 ≤ x3 ∧ x3 ≤ 512
    case neg =>
      have hno : wholeV ys = none := HNO.out (by rw [HD.out]; exact fn_count _ _ _ _ _ (by omega))
      have HF : Hid _ := hno
      clear hno
      by_cases h1 : x3 < 1
      · go_wp2_with fail
        exact bodyPost_ret (results_cell_tmp (q := 2) (u := 3) (ty := 25) rfl rfl (load_prog _ _ _ (.slice xa k xc) HB.out.1)) rfl (HP.out _ _ ⟨xa, k, xc, false, rfl, HB.out.2.2, .inr ⟨rfl, HF.out⟩⟩)
      · have h2 : 512 < x3 := by omega
        go_wp2_with fail
        exact bodyPost_ret (results_cell_tmp (q := 2) (u := 3) (ty := 25) rfl rfl (load_prog _ _ _ (.slice xa k xc) HB.out.1)) rfl (HP.out _ _ ⟨xa, k, xc, false, rfl, HB.out.2.2, .inr ⟨rfl, HF.out⟩⟩)
    case pos =>
    obtain ⟨q, rfl⟩ := Int.eq_ofNat_of_zero_le (show 0 ≤ x3 by omega)
    have hq1 : 1 ≤ q := by omega
    have hq2 : q ≤ 512 := by omega
    have j1 : ¬ ((q : Int) < 1) := by omega
    have j2 : ¬ ((512 : Int) < (q : Int)) := by omega
    go_upto_region 10 with fail
    clear y0 j1 j2 hx
    go_upto_region 11 with fail
    obtain ⟨x0, hx0⟩ : ∃ x0, x0 = ys.getD p 0 := ⟨_, rfl⟩
    obtain ⟨x1, hx1⟩ : ∃ x1, x1 = ys.getD (p + 1) 0 := ⟨_, rfl⟩
    obtain ⟨x2, hx2⟩ : ∃ x2, x2 = ys.getD (p + 2) 0 := ⟨_, rfl⟩
    have c0 := HC.out.1 wr HW.out.1.keep p (by omega)
    have c1 := HC.out.1 wr HW.out.1.keep (p + 1) (by omega)
    have c2 := HC.out.1 wr HW.out.1.keep (p + 2) (by omega)
    obtain ⟨P1, hP1⟩ : ∃ P1, P1 = p + 1 := ⟨_, rfl⟩
    obtain ⟨P2, hP2⟩ : ∃ P2, P2 = p + 2 := ⟨_, rfl⟩
    have HD2 : Hid (ys.drop p = x0 :: x1 :: x2 :: (q : Int) :: ys.drop (p + 4)) := by rw [hx0, hx1, hx2]; exact HD.out
    rw [← hx0] at c0
    rw [← hx1, ← hP1] at c1
    rw [← hx2, ← hP2] at c2
    have w1' : IntKind.i64.wrap ((p : Int) + 1) = (P1 : Int) := by rw [Go.IntWalk.i64_in _ (by omega)]; omega
    have w2' : IntKind.i64.wrap ((p : Int) + 2) = (P2 : Int) := by rw [Go.IntWalk.i64_in _ (by omega)]; omega
    have k0 : (p : Int) < (n : Int) := by omega
    have k0' : p < n := by omega
    have k1 : (P1 : Int) < (n : Int) := by omega
    have k1' : P1 < n := by omega
    have k2 : (P2 : Int) < (n : Int) := by omega
    have k2' : P2 < n := by omega
    obtain ⟨F, hF⟩ : ∃ F, F = wr.heap.size := ⟨_, rfl⟩
    have HF : Hid (F = wr.heap.size) := hF
    clear hx0 hx1 hx2 hP1 hP2 y3 w3 w3' i3 i3' HD hF
    go_cut [8] (fun s8 wx => s8 = .pointer (some ⟨F, 0, none⟩) ∧ wx.heap[F]? = some (.cells #[.int .i64 x0, .int .i64 x1, .int .i64 x2, .slice none 0 0] 40 (0, 0)) ∧ Keeps None wr wx)
    case first =>
      go_region_held3 (fun w' => w'.cell? ⟨b, off + p, none⟩ = some (.int .i64 x0) ∧ w'.cell? ⟨b, off + P1, none⟩ = some (.int .i64 x1) ∧ w'.cell? ⟨b, off + P2, none⟩ = some (.int .i64 x2)) (go_keep) (fail)
      all_goals (go_wp2_with fail; go_meet)
      all_goals
        rw [HF.out]
        exact ⟨rfl, heap_alloc_new wr _, (Keeps.alloc None wr _).andDrew⟩
    case rest =>
    obtain ⟨rfl, hFb, hkc⟩ := hcut
    have HV : Hid (Wm w wc B fs (.slice xa k xc) tv ∧ wc.heap[F]? = some (.cells #[.int .i64 x0, .int .i64 x1, .int .i64 x2, .slice none 0 0] 40 (0, 0)) ∧ Keeps None wr wc) := ⟨HW.out.1.more hkc, hFb, hkc⟩
    clear hFb hkc c0 c1 c2 w1' w2' k0 k0' k1 k1' k2 k2' q0 r0 z0
    obtain ⟨P4, hP4⟩ : ∃ P4, P4 = p + 4 := ⟨_, rfl⟩
    have w4 : (p : Int) + 4 = (P4 : Int) := by omega
    have HP4 : Hid (P4 = p + 4) := hP4
    clear hP4
    by_cases h5 : P4 + 5 * q ≤ n
    case neg =>
      have i5 : (n : Int) < (P4 : Int) + 5 * (q : Int) := by omega
      have hno : wholeV ys = none := HNO.out (by rw [HD2.out]; exact fn_codeS _ _ _ _ _ (by rw [List.length_drop]; have := HC.out.2.1; have := HP4.out; omega))
      obtain ⟨xa', xc', hqv, hb, hse, hkk⟩ := HV.out.1.out
      rw [HW.out.2.1] at hqv hb hse hkk
      simp only [Value.slice.injEq] at hqv
      obtain ⟨rfl, -, rfl⟩ := hqv
      have q0 : wc.cell? ⟨B + 1, 0, none⟩ = some (.slice xa k xc) := (cell_of_heap HV.out.1.qb 0).trans rfl
      have r0 : wc.cell? ⟨B, 0, none⟩ = some (.slice none 0 0) := (cell_of_heap HV.out.1.res 0).trans rfl
      have z0 := blk_free HV.out.1.res 0
      have HB2 : Hid ((wc.setCell ⟨B, 0, none⟩ (.slice xa k xc)).heap[B]? = some (.cells #[.slice xa k xc] 25 (0, 0)) ∧ Keeps None w (wc.setCell ⟨B, 0, none⟩ (.slice xa k xc)) ∧ wholeV ys = none) := ⟨hb, hkk, hno⟩
      clear hb hse hkk hno
      go_wp2_with fail
      exact bodyPost_ret (results_cell_tmp (q := 2) (u := 3) (ty := 25) rfl rfl (load_prog _ _ _ (.slice xa k xc) HB2.out.1)) rfl (HP.out _ _ ⟨xa, k, xc, false, rfl, HB2.out.2.1, .inr ⟨rfl, HB2.out.2.2⟩⟩)
    case pos =>
    have i5 : ¬ ((n : Int) < (P4 : Int) + 5 * (q : Int)) := by omega
    obtain ⟨cs, hrc, hcl, hcat⟩ := readCode_long q (ys.drop P4) (by rw [List.length_drop]; have := HC.out.2.1; omega)
    have HR : Hid (readFn (ys.drop p) = some (⟨x0, x1, x2, cs⟩, ys.drop (P4 + q * 5)) ∧ cs.length = q ∧ ∀ j, j < q → cs[j]? = some ⟨ys.getD (P4 + j * 5) 0, ys.getD (P4 + j * 5 + 1) 0, ys.getD (P4 + j * 5 + 2) 0, ys.getD (P4 + j * 5 + 3) 0, ys.getD (P4 + j * 5 + 4) 0⟩) := by
      refine ⟨?_, hcl, fun j hj => ?_⟩
      · rw [HD2.out, ← HP4.out, fn_codeL _ _ _ _ _ cs ⟨hq1, hq2⟩ hrc, List.drop_drop]
      · rw [hcat j hj]
        simp only [List.getD_eq_getElem?_getD, List.getElem?_drop]
        simp only [Nat.add_assoc]
    clear hrc hcl hcat
    obtain ⟨Wo, hWo⟩ : ∃ Wo, Wo = wr := ⟨_, rfl⟩
    have HO : Hid (Wm w Wo B fs (.slice xa k xc) tv ∧ F = Wo.heap.size ∧ Keeps None Wo wc) := by rw [hWo]; exact ⟨HW.out.1, HF.out, HV.out.2.2⟩
    clear hWo
    go_upto_region 13 with fail
    go_upto_region 15 with fail
    clear i5
    go_wp2_with fail
    go_loopw [5, 9] (fun s5 s9 wx => ∃ (j : Nat) (cv : Value), j ≤ q ∧ s9 = .int .i64 j ∧ s5 = .int .i64 ((P4 + j * 5 : Nat) : Int) ∧ wx.heap[F]? = some (.cells #[.int .i64 x0, .int .i64 x1, .int .i64 x2, cv] 40 (0, 0)) ∧ wx.ownsRow 0 42 5 cv j (insVals (cs.take j)) ∧ (∀ g, cv.ownBlock = some g → Wo.heap.size ≤ g) ∧ Keeps None Wo wx) (fun _ i _ => q - (intOf i).toNat)
    case atStart => exact ⟨0, .slice none 0 0, Nat.zero_le _, rfl, by simp, HV.out.2.1, ⟨by simp [insVals], .inl ⟨rfl, rfl⟩⟩, fun g e => by simp [Value.ownBlock] at e, HO.out.2.2⟩
    case round =>
      obtain ⟨j, cv, hj, rfl, rfl, hFb, hrow, hlow, hkx⟩ := hrel
      have hkw := HO.out.1.keep.trans hkx (fun _ f _ => f)
      obtain ⟨va, vc, hcv⟩ : ∃ va vc, cv = .slice va j vc := by
        rcases hrow.2 with ⟨rfl, h0⟩ | ⟨g, cap, cur, rfl, _⟩
        · exact ⟨none, 0, by rw [h0]⟩
        · exact ⟨_, cap, rfl⟩
      subst hcv
      have d3 : wr.cell? ⟨F, 3, none⟩ = some (.slice va j vc) := (cell_of_heap hFb 3).trans rfl
      by_cases hjq : j < q
      · obtain ⟨A0, hA0⟩ : ∃ A0, A0 = P4 + j * 5 := ⟨_, rfl⟩
        have e0 := HC.out.1 wr hkw A0 (by omega)
        have e1 := HC.out.1 wr hkw (A0 + 1) (by omega)
        have e2 := HC.out.1 wr hkw (A0 + 2) (by omega)
        have e3 := HC.out.1 wr hkw (A0 + 3) (by omega)
        have e4 := HC.out.1 wr hkw (A0 + 4) (by omega)
        have hcj := HR.out.2.2 j hjq
        rw [← hA0] at hcj
        obtain ⟨v0, hv0⟩ : ∃ v0, v0 = ys.getD A0 0 := ⟨_, rfl⟩
        obtain ⟨v1, hv1⟩ : ∃ v1, v1 = ys.getD (A0 + 1) 0 := ⟨_, rfl⟩
        obtain ⟨v2, hv2⟩ : ∃ v2, v2 = ys.getD (A0 + 2) 0 := ⟨_, rfl⟩
        obtain ⟨v3, hv3⟩ : ∃ v3, v3 = ys.getD (A0 + 3) 0 := ⟨_, rfl⟩
        obtain ⟨v4, hv4⟩ : ∃ v4, v4 = ys.getD (A0 + 4) 0 := ⟨_, rfl⟩
        rw [← hv0, ← hv1, ← hv2, ← hv3, ← hv4] at hcj
        obtain ⟨A1, hA1⟩ : ∃ A1, A1 = A0 + 1 := ⟨_, rfl⟩
        obtain ⟨A2, hA2⟩ : ∃ A2, A2 = A0 + 2 := ⟨_, rfl⟩
        obtain ⟨A3, hA3⟩ : ∃ A3, A3 = A0 + 3 := ⟨_, rfl⟩
        obtain ⟨A4, hA4⟩ : ∃ A4, A4 = A0 + 4 := ⟨_, rfl⟩
        have sf : ∀ wx, Keeps None w wx → (wx.cell? ⟨b, off + A0, none⟩ = some (.int .i64 v0) ∧ wx.cell? ⟨b, off + A1, none⟩ = some (.int .i64 v1) ∧ wx.cell? ⟨b, off + A2, none⟩ = some (.int .i64 v2) ∧ wx.cell? ⟨b, off + A3, none⟩ = some (.int .i64 v3) ∧ wx.cell? ⟨b, off + A4, none⟩ = some (.int .i64 v4)) := fun wx hk => by
          rw [hA1, hA2, hA3, hA4, hv0, hv1, hv2, hv3, hv4]
          exact ⟨HC.out.1 wx hk A0 (by omega), HC.out.1 wx hk (A0 + 1) (by omega), HC.out.1 wx hk (A0 + 2) (by omega), HC.out.1 wx hk (A0 + 3) (by omega), HC.out.1 wx hk (A0 + 4) (by omega)⟩
        have w1' : IntKind.i64.wrap ((A0 : Int) + 1) = (A1 : Int) := by rw [Go.IntWalk.i64_in _ (by omega)]; omega
        have w2' : IntKind.i64.wrap ((A0 : Int) + 2) = (A2 : Int) := by rw [Go.IntWalk.i64_in _ (by omega)]; omega
        have w3' : IntKind.i64.wrap ((A0 : Int) + 3) = (A3 : Int) := by rw [Go.IntWalk.i64_in _ (by omega)]; omega
        have w4' : IntKind.i64.wrap ((A0 : Int) + 4) = (A4 : Int) := by rw [Go.IntWalk.i64_in _ (by omega)]; omega
        have k0 : (A0 : Int) < (n : Int) := by omega
        have k1 : (A1 : Int) < (n : Int) := by omega
        have k2 : (A2 : Int) < (n : Int) := by omega
        have k3 : (A3 : Int) < (n : Int) := by omega
        have k4 : (A4 : Int) < (n : Int) := by omega
        have k0' : A0 < n := by omega
        have k1' : A1 < n := by omega
        have k2' : A2 < n := by omega
        have k3' : A3 < n := by omega
        have k4' : A4 < n := by omega
        have i7 : (j : Int) < (q : Int) := by omega
        have kD := Keeps.drew None wr
        have kA := (kD.trans (Keeps.alloc None wr.drew (.cells #[.int .i64 v0, .int .i64 v1, .int .i64 v2, .int .i64 v3, .int .i64 v4] 42)) (fun _ f _ => f))
        have hFA := blk_kept hFb kA (fun f => f)
        have hrowA := kA.own hrow (fun _ _ f => f)
        have htl : (cs.take j).length = j := by have := HR.out.2.1; simp; omega
        obtain ⟨b2, cap2, w9, hr9, ho9, hk9, hg9⟩ := ins_append (.slice va j vc) (cs.take j) ⟨v0, v1, v2, v3, v4⟩ j wr.heap.size 38 (wr.drew.alloc (.cells #[.int .i64 v0, .int .i64 v1, .int .i64 v2, .int .i64 v3, .int .i64 v4] 42)) htl.symm hrowA (by omega) (heap_alloc_new wr.drew _)
        have hF9 := blk_kept hFA hk9 (fun e => absurd (own_type hrowA e hFA) (by decide))
        have u3 : w9.cell? ⟨F, 3, none⟩ = some (.slice va j vc) := (cell_of_heap hF9 3).trans rfl
        have z3 := blk_free hF9 3
        have g3 : wr.drew.cell? ⟨F, 3, none⟩ = some (.slice va j vc) := d3
        have g3' : (wr.drew.alloc (.cells #[.int .i64 v0, .int .i64 v1, .int .i64 v2, .int .i64 v3, .int .i64 v4] 42)).cell? ⟨F, 3, none⟩ = some (.slice va j vc) := (cell_of_heap hFA 3).trans rfl
        have g3'' : (wr.alloc (.cells #[.int .i64 v0, .int .i64 v1, .int .i64 v2, .int .i64 v3, .int .i64 v4] 42)).cell? ⟨F, 3, none⟩ = some (.slice va j vc) := g3'
        have kS : Keeps (· = F) w9 (w9.setCell ⟨F, 3, none⟩ (.slice (some ⟨b2, 0, none⟩) (j + 1) cap2)) := Keeps.setCell (S := (· = F)) w9 rfl _
        have hbF : b2 ≠ F := by
          rintro rfl
          exact absurd (own_type ho9 (g := b2) rfl hF9) (by decide)
        have hFs := HO.out.2.1
        have hk0A := hkx.trans kA (fun _ f _ => f)
        have hk09 := hk0A.trans hk9 (fun i e hi => by have := hlow i e; omega)
        have hk0S := hk09.trans kS (fun i e hi => by omega)
        have htk : cs.take (j + 1) = cs.take j ++ [⟨v0, v1, v2, v3, v4⟩] := by rw [List.take_add_one, hcj]; rfl
        have HN : Hid ((w9.setCell ⟨F, 3, none⟩ (.slice (some ⟨b2, 0, none⟩) (j + 1) cap2)).heap[F]? = some (.cells #[.int .i64 x0, .int .i64 x1, .int .i64 x2, .slice (some ⟨b2, 0, none⟩) (j + 1) cap2] 40 (0, 0)) ∧ (w9.setCell ⟨F, 3, none⟩ (.slice (some ⟨b2, 0, none⟩) (j + 1) cap2)).ownsRow 0 42 5 (.slice (some ⟨b2, 0, none⟩) (j + 1) cap2) (j + 1) (insVals (cs.take (j + 1))) ∧ (∀ g, (Value.slice (some ⟨b2, 0, none⟩) (j + 1) cap2).ownBlock = some g → F ≤ g) ∧ Keeps None Wo (w9.setCell ⟨F, 3, none⟩ (.slice (some ⟨b2, 0, none⟩) (j + 1) cap2))) := by
          refine ⟨by rw [blk_set hF9]; rfl, by rw [htk]; exact kS.own ho9 (fun g e e2 => by simp [Value.ownBlock] at e; omega), fun g e => ?_, hk0S⟩
          simp [Value.ownBlock] at e
          subst e
          rcases hg9 with r | r
          · have := hlow _ r; omega
          · have := hk0A.size; omega
        have s0 := sf _ (hkw.trans kD (fun _ f _ => f))
        have s1 := sf _ (hkw.trans kA (fun _ f _ => f))
        have s2 := sf _ (HO.out.1.keep.trans hk09 (fun _ f _ => f))
        have s3 := sf _ (HO.out.1.keep.trans hk0S (fun _ f _ => f))
        have HA0 : Hid (A0 = P4 + j * 5) := hA0
        have HFs : Hid _ := hFs
        rw [← hA0]
        clear sf hFs hk0S hk09 hk0A kS hbF hF9 hFA hrowA htl ho9 hk9 hg9 kA kD hcj htk hFb hrow hlow hkx hkw e0 e1 e2 e3 e4 hv0 hv1 hv2 hv3 hv4 hA1 hA2 hA3 hA4 hA0 d3
        go_upto_region 18 with fail
        refine wp_region_held_drew (S := (fun w' => w'.cell? ⟨b, off + A0, none⟩ = some (.int .i64 v0) ∧ w'.cell? ⟨b, off + A1, none⟩ = some (.int .i64 v1) ∧ w'.cell? ⟨b, off + A2, none⟩ = some (.int .i64 v2) ∧ w'.cell? ⟨b, off + A3, none⟩ = some (.int .i64 v3) ∧ w'.cell? ⟨b, off + A4, none⟩ = some (.int .i64 v4))) (by kernel_rfl) ?_ (fun hHeld => ?_)
        · (try dsimp only); (first | with_reducible exact s0 | with_reducible exact s1 | with_reducible exact s2 | with_reducible exact s3 | exact s0 | exact s1 | exact s2 | exact s3 | go_keep)
        refine wpAnyH_take (i := 0) (oi := { dst := some 85, op := Op.fieldAddr 40 (Operand.tmp 8) 3, type := 0, pos := "prog.go:280", after := #[], guard := none }) (v := ?_) rfl (by kernel_rfl) (by kernel_rfl) (by kernel_rfl) (fun _ _ _ h => h) (Or.inl ⟨by rfl, ?_⟩) (by assumption) ?_
        rotate_left
        · (intro wz hSw; (try dsimp only at hSw); go_simp; try with_reducible rfl)
        simp only [Act.put, List.setIfInBounds_toArray, List.set_cons_zero, List.set_cons_succ]
        refine wpAnyH_take (i := 2) (oi := { dst := some 87, op := Op.move (Operand.tmp 0), type := 22, pos := "prog.go:280", after := #[], guard := none }) (v := ?_) rfl (by kernel_rfl) (by kernel_rfl) (by kernel_rfl) (fun _ _ _ h => h) (Or.inl ⟨by rfl, ?_⟩) (by assumption) ?_
        rotate_left
        · (intro wz hSw; (try dsimp only at hSw); go_simp; try with_reducible rfl)
        simp only [Act.put, List.setIfInBounds_toArray, List.set_cons_zero, List.set_cons_succ]
        refine wpAnyH_take (i := 3) (oi := { dst := some 88, op := Op.move (Operand.tmp 5), type := 3, pos := "prog.go:280", after := #[], guard := none }) (v := ?_) rfl (by kernel_rfl) (by kernel_rfl) (by kernel_rfl) (fun _ _ _ h => h) (Or.inl ⟨by rfl, ?_⟩) (by assumption) ?_
        rotate_left
        · (intro wz hSw; (try dsimp only at hSw); go_simp; try with_reducible rfl)
        simp only [Act.put, List.setIfInBounds_toArray, List.set_cons_zero, List.set_cons_succ]
        refine wpAnyH_take (i := 4) (oi := { dst := some 89, op := Op.indexAddr 22 (Operand.tmp 87) (Operand.tmp 88), type := 0, pos := "prog.go:280", after := #[{ on := 2, ground := Ground.data }, { on := 3, ground := Ground.data }], guard := none }) (v := ?_) rfl (by kernel_rfl) (by kernel_rfl) (by kernel_rfl) (fun _ _ _ h => h) (Or.inl ⟨by rfl, ?_⟩) (by assumption) ?_
        rotate_left
        · (intro wz hSw; (try dsimp only at hSw); go_simp; try with_reducible rfl)
        simp only [Act.put, List.setIfInBounds_toArray, List.set_cons_zero, List.set_cons_succ]
        refine wpAnyH_take (i := 5) (oi := { dst := some 90, op := Op.load 2 (Operand.tmp 89), type := 2, pos := "prog.go:280", after := #[{ on := 4, ground := Ground.data }], guard := none }) (v := ?_) rfl (by kernel_rfl) (by kernel_rfl) (by kernel_rfl) (fun _ _ _ h => h) (Or.inl ⟨by rfl, ?_⟩) (by assumption) ?_
        rotate_left
        · (intro wz hSw; (try dsimp only at hSw); go_simp; try with_reducible rfl)
        simp only [Act.put, List.setIfInBounds_toArray, List.set_cons_zero, List.set_cons_succ]
        refine wpAnyH_take (i := 6) (oi := { dst := some 91, op := Op.move (Operand.tmp 0), type := 22, pos := "prog.go:280", after := #[], guard := none }) (v := ?_) rfl (by kernel_rfl) (by kernel_rfl) (by kernel_rfl) (fun _ _ _ h => h) (Or.inl ⟨by rfl, ?_⟩) (by assumption) ?_
        rotate_left
        · (intro wz hSw; (try dsimp only at hSw); go_simp; try with_reducible rfl)
        simp only [Act.put, List.setIfInBounds_toArray, List.set_cons_zero, List.set_cons_succ]
        refine wpAnyH_take (i := 7) (oi := { dst := some 92, op := Op.move (Operand.tmp 5), type := 3, pos := "prog.go:280", after := #[], guard := none }) (v := ?_) rfl (by kernel_rfl) (by kernel_rfl) (by kernel_rfl) (fun _ _ _ h => h) (Or.inl ⟨by rfl, ?_⟩) (by assumption) ?_
        rotate_left
        · (intro wz hSw; (try dsimp only at hSw); go_simp; try with_reducible rfl)
        simp only [Act.put, List.setIfInBounds_toArray, List.set_cons_zero, List.set_cons_succ]
        refine wpAnyH_take (i := 8) (oi := { dst := some 93, op := Op.binOp BinOp.add 3 (Operand.tmp 92) (Operand.const (Value.int IntKind.i64 1)) 3, type := 3, pos := "prog.go:280", after := #[{ on := 7, ground := Ground.data }], guard := none }) (v := ?_) rfl (by kernel_rfl) (by kernel_rfl) (by kernel_rfl) (fun _ _ _ h => h) (Or.inl ⟨by rfl, ?_⟩) (by assumption) ?_
        rotate_left
        · (intro wz hSw; (try dsimp only at hSw); go_simp; try with_reducible rfl)
        simp only [Act.put, List.setIfInBounds_toArray, List.set_cons_zero, List.set_cons_succ]
        refine wpAnyH_take (i := 9) (oi := { dst := some 94, op := Op.indexAddr 22 (Operand.tmp 91) (Operand.tmp 93), type := 0, pos := "prog.go:280", after := #[{ on := 6, ground := Ground.data }, { on := 8, ground := Ground.data }], guard := none }) (v := ?_) rfl (by kernel_rfl) (by kernel_rfl) (by kernel_rfl) (fun _ _ _ h => h) (Or.inl ⟨by rfl, ?_⟩) (by assumption) ?_
        rotate_left
        · (intro wz hSw; (try dsimp only at hSw); go_simp; try with_reducible rfl)
        simp only [Act.put, List.setIfInBounds_toArray, List.set_cons_zero, List.set_cons_succ]
        refine wpAnyH_take (i := 10) (oi := { dst := some 95, op := Op.load 2 (Operand.tmp 94), type := 2, pos := "prog.go:280", after := #[{ on := 9, ground := Ground.data }], guard := none }) (v := ?_) rfl (by kernel_rfl) (by kernel_rfl) (by kernel_rfl) (fun _ _ _ h => h) (Or.inl ⟨by rfl, ?_⟩) (by assumption) ?_
        rotate_left
        · (intro wz hSw; (try dsimp only at hSw); go_simp; try with_reducible rfl)
        simp only [Act.put, List.setIfInBounds_toArray, List.set_cons_zero, List.set_cons_succ]
        refine wpAnyH_take (i := 11) (oi := { dst := some 96, op := Op.move (Operand.tmp 0), type := 22, pos := "prog.go:280", after := #[], guard := none }) (v := ?_) rfl (by kernel_rfl) (by kernel_rfl) (by kernel_rfl) (fun _ _ _ h => h) (Or.inl ⟨by rfl, ?_⟩) (by assumption) ?_
        rotate_left
        · (intro wz hSw; (try dsimp only at hSw); go_simp; try with_reducible rfl)
        simp only [Act.put, List.setIfInBounds_toArray, List.set_cons_zero, List.set_cons_succ]
        refine wpAnyH_take (i := 12) (oi := { dst := some 97, op := Op.move (Operand.tmp 5), type := 3, pos := "prog.go:280", after := #[], guard := none }) (v := ?_) rfl (by kernel_rfl) (by kernel_rfl) (by kernel_rfl) (fun _ _ _ h => h) (Or.inl ⟨by rfl, ?_⟩) (by assumption) ?_
        rotate_left
        · (intro wz hSw; (try dsimp only at hSw); go_simp; try with_reducible rfl)
        simp only [Act.put, List.setIfInBounds_toArray, List.set_cons_zero, List.set_cons_succ]
        refine wpAnyH_take (i := 13) (oi := { dst := some 98, op := Op.binOp BinOp.add 3 (Operand.tmp 97) (Operand.const (Value.int IntKind.i64 2)) 3, type := 3, pos := "prog.go:280", after := #[{ on := 12, ground := Ground.data }], guard := none }) (v := ?_) rfl (by kernel_rfl) (by kernel_rfl) (by kernel_rfl) (fun _ _ _ h => h) (Or.inl ⟨by rfl, ?_⟩) (by assumption) ?_
        rotate_left
        · (intro wz hSw; (try dsimp only at hSw); go_simp; try with_reducible rfl)
        simp only [Act.put, List.setIfInBounds_toArray, List.set_cons_zero, List.set_cons_succ]
        refine wpAnyH_take (i := 14) (oi := { dst := some 99, op := Op.indexAddr 22 (Operand.tmp 96) (Operand.tmp 98), type := 0, pos := "prog.go:280", after := #[{ on := 11, ground := Ground.data }, { on := 13, ground := Ground.data }], guard := none }) (v := ?_) rfl (by kernel_rfl) (by kernel_rfl) (by kernel_rfl) (fun _ _ _ h => h) (Or.inl ⟨by rfl, ?_⟩) (by assumption) ?_
        rotate_left
        · (intro wz hSw; (try dsimp only at hSw); go_simp; try with_reducible rfl)
        simp only [Act.put, List.setIfInBounds_toArray, List.set_cons_zero, List.set_cons_succ]
        refine wpAnyH_take (i := 15) (oi := { dst := some 100, op := Op.load 2 (Operand.tmp 99), type := 2, pos := "prog.go:280", after := #[{ on := 14, ground := Ground.data }], guard := none }) (v := ?_) rfl (by kernel_rfl) (by kernel_rfl) (by kernel_rfl) (fun _ _ _ h => h) (Or.inl ⟨by rfl, ?_⟩) (by assumption) ?_
        rotate_left
        · (intro wz hSw; (try dsimp only at hSw); go_simp; try with_reducible rfl)
        simp only [Act.put, List.setIfInBounds_toArray, List.set_cons_zero, List.set_cons_succ]
        refine wpAnyH_take (i := 16) (oi := { dst := some 101, op := Op.move (Operand.tmp 0), type := 22, pos := "prog.go:280", after := #[], guard := none }) (v := ?_) rfl (by kernel_rfl) (by kernel_rfl) (by kernel_rfl) (fun _ _ _ h => h) (Or.inl ⟨by rfl, ?_⟩) (by assumption) ?_
        rotate_left
        · (intro wz hSw; (try dsimp only at hSw); go_simp; try with_reducible rfl)
        simp only [Act.put, List.setIfInBounds_toArray, List.set_cons_zero, List.set_cons_succ]
        refine wpAnyH_take (i := 17) (oi := { dst := some 102, op := Op.move (Operand.tmp 5), type := 3, pos := "prog.go:280", after := #[], guard := none }) (v := ?_) rfl (by kernel_rfl) (by kernel_rfl) (by kernel_rfl) (fun _ _ _ h => h) (Or.inl ⟨by rfl, ?_⟩) (by assumption) ?_
        rotate_left
        · (intro wz hSw; (try dsimp only at hSw); go_simp; try with_reducible rfl)
        simp only [Act.put, List.setIfInBounds_toArray, List.set_cons_zero, List.set_cons_succ]
        refine wpAnyH_take (i := 18) (oi := { dst := some 103, op := Op.binOp BinOp.add 3 (Operand.tmp 102) (Operand.const (Value.int IntKind.i64 3)) 3, type := 3, pos := "prog.go:280", after := #[{ on := 17, ground := Ground.data }], guard := none }) (v := ?_) rfl (by kernel_rfl) (by kernel_rfl) (by kernel_rfl) (fun _ _ _ h => h) (Or.inl ⟨by rfl, ?_⟩) (by assumption) ?_
        rotate_left
        · (intro wz hSw; (try dsimp only at hSw); go_simp; try with_reducible rfl)
        simp only [Act.put, List.setIfInBounds_toArray, List.set_cons_zero, List.set_cons_succ]
        refine wpAnyH_take (i := 19) (oi := { dst := some 104, op := Op.indexAddr 22 (Operand.tmp 101) (Operand.tmp 103), type := 0, pos := "prog.go:280", after := #[{ on := 16, ground := Ground.data }, { on := 18, ground := Ground.data }], guard := none }) (v := ?_) rfl (by kernel_rfl) (by kernel_rfl) (by kernel_rfl) (fun _ _ _ h => h) (Or.inl ⟨by rfl, ?_⟩) (by assumption) ?_
        rotate_left
        · (intro wz hSw; (try dsimp only at hSw); go_simp; try with_reducible rfl)
        simp only [Act.put, List.setIfInBounds_toArray, List.set_cons_zero, List.set_cons_succ]
        refine wpAnyH_take (i := 20) (oi := { dst := some 105, op := Op.load 2 (Operand.tmp 104), type := 2, pos := "prog.go:280", after := #[{ on := 19, ground := Ground.data }], guard := none }) (v := ?_) rfl (by kernel_rfl) (by kernel_rfl) (by kernel_rfl) (fun _ _ _ h => h) (Or.inl ⟨by rfl, ?_⟩) (by assumption) ?_
        rotate_left
        · (intro wz hSw; (try dsimp only at hSw); go_simp; try with_reducible rfl)
        simp only [Act.put, List.setIfInBounds_toArray, List.set_cons_zero, List.set_cons_succ]
        refine wpAnyH_take (i := 21) (oi := { dst := some 106, op := Op.move (Operand.tmp 0), type := 22, pos := "prog.go:280", after := #[], guard := none }) (v := ?_) rfl (by kernel_rfl) (by kernel_rfl) (by kernel_rfl) (fun _ _ _ h => h) (Or.inl ⟨by rfl, ?_⟩) (by assumption) ?_
        rotate_left
        · (intro wz hSw; (try dsimp only at hSw); go_simp; try with_reducible rfl)
        simp only [Act.put, List.setIfInBounds_toArray, List.set_cons_zero, List.set_cons_succ]
        refine wpAnyH_take (i := 22) (oi := { dst := some 107, op := Op.move (Operand.tmp 5), type := 3, pos := "prog.go:280", after := #[], guard := none }) (v := ?_) rfl (by kernel_rfl) (by kernel_rfl) (by kernel_rfl) (fun _ _ _ h => h) (Or.inl ⟨by rfl, ?_⟩) (by assumption) ?_
        rotate_left
        · (intro wz hSw; (try dsimp only at hSw); go_simp; try with_reducible rfl)
        simp only [Act.put, List.setIfInBounds_toArray, List.set_cons_zero, List.set_cons_succ]
        refine wpAnyH_take (i := 23) (oi := { dst := some 108, op := Op.binOp BinOp.add 3 (Operand.tmp 107) (Operand.const (Value.int IntKind.i64 4)) 3, type := 3, pos := "prog.go:280", after := #[{ on := 22, ground := Ground.data }], guard := none }) (v := ?_) rfl (by kernel_rfl) (by kernel_rfl) (by kernel_rfl) (fun _ _ _ h => h) (Or.inl ⟨by rfl, ?_⟩) (by assumption) ?_
        rotate_left
        · (intro wz hSw; (try dsimp only at hSw); go_simp; try with_reducible rfl)
        simp only [Act.put, List.setIfInBounds_toArray, List.set_cons_zero, List.set_cons_succ]
        refine wpAnyH_take (i := 24) (oi := { dst := some 109, op := Op.indexAddr 22 (Operand.tmp 106) (Operand.tmp 108), type := 0, pos := "prog.go:280", after := #[{ on := 21, ground := Ground.data }, { on := 23, ground := Ground.data }], guard := none }) (v := ?_) rfl (by kernel_rfl) (by kernel_rfl) (by kernel_rfl) (fun _ _ _ h => h) (Or.inl ⟨by rfl, ?_⟩) (by assumption) ?_
        rotate_left
        · (intro wz hSw; (try dsimp only at hSw); go_simp; try with_reducible rfl)
        simp only [Act.put, List.setIfInBounds_toArray, List.set_cons_zero, List.set_cons_succ]
        refine wpAnyH_take (i := 25) (oi := { dst := some 110, op := Op.load 2 (Operand.tmp 109), type := 2, pos := "prog.go:280", after := #[{ on := 24, ground := Ground.data }], guard := none }) (v := ?_) rfl (by kernel_rfl) (by kernel_rfl) (by kernel_rfl) (fun _ _ _ h => h) (Or.inl ⟨by rfl, ?_⟩) (by assumption) ?_
        rotate_left
        · (intro wz hSw; (try dsimp only at hSw); go_simp; try with_reducible rfl)
        simp only [Act.put, List.setIfInBounds_toArray, List.set_cons_zero, List.set_cons_succ]
        refine wpAnyH_take (i := 26) (oi := { dst := some 111, op := Op.build 42 #[(0, Operand.tmp 90), (1, Operand.tmp 95), (2, Operand.tmp 100), (3, Operand.tmp 105), (4, Operand.tmp 110)], type := 42, pos := "prog.go:280", after := #[{ on := 5, ground := Ground.data }, { on := 10, ground := Ground.data }, { on := 15, ground := Ground.data }, { on := 20, ground := Ground.data }, { on := 25, ground := Ground.data }], guard := none }) (v := ?_) rfl (by kernel_rfl) (by kernel_rfl) (by kernel_rfl) (fun _ _ _ h => h) (Or.inl ⟨by rfl, ?_⟩) (by assumption) ?_
        rotate_left
        · (intro wz hSw; (try dsimp only at hSw); go_simp; try with_reducible rfl)
        simp only [Act.put, List.setIfInBounds_toArray, List.set_cons_zero, List.set_cons_succ]
        refine wpAnyH_ready (rs := [1, 27]) (by kernel_rfl) (by simp) ?_
        refine AllReadyH.cons (o := { dst := some 86, op := Op.load 38 (Operand.tmp 85), type := 38, pos := "prog.go:280", after := #[{ on := 0, ground := Ground.data }], guard := none }) rfl (fun K hK => ?_) ?_
        · go_simp
          refine hK.out _ _ ?_ (fun hHeld2 => ?_)
          · (try dsimp only); (first | with_reducible exact s0 | with_reducible exact s1 | with_reducible exact s2 | with_reducible exact s3 | exact s0 | exact s1 | exact s2 | exact s3 | go_keep)
          clear hK K
          try simp only [Act.put, List.setIfInBounds_toArray, List.set_cons_zero, List.set_cons_succ]
          refine wpAnyH_ready (rs := [27]) (by kernel_rfl) (by simp) ?_
          refine AllReadyH.cons (o := { dst := some 112, op := Op.buildSlice 38 1 #[(0, Operand.tmp 111)], type := 38, pos := "prog.go:280", after := #[{ on := 26, ground := Ground.data }], guard := none }) rfl (fun K hK => ?_) ?_
          · go_simp
            refine hK.out _ _ ?_ (fun hHeld2 => ?_)
            · (try dsimp only); (first | with_reducible exact s0 | with_reducible exact s1 | with_reducible exact s2 | with_reducible exact s3 | exact s0 | exact s1 | exact s2 | exact s3 | go_keep)
            clear hK K
            try simp only [Act.put, List.setIfInBounds_toArray, List.set_cons_zero, List.set_cons_succ]
            refine wpAnyH_ready (rs := [28]) (by kernel_rfl) (by simp) ?_
            refine AllReadyH.cons (o := { dst := some 113, op := Op.call { callee := Callee.builtin Builtin.append, args := #[Operand.tmp 86, Operand.tmp 112], argTypes := #[38, 38] }, type := 38, pos := "prog.go:280", after := #[{ on := 1, ground := Ground.data }, { on := 27, ground := Ground.data }], guard := none }) rfl (fun K hK => ?_) ?_
            · refine step_append_run rfl (.tmp 86) (.tmp 112) 38 38 rfl (by simp [Act.eval]) (by simp [Act.eval]) hr9 ?_
              refine hK.out _ _ ?_ (fun hHeld2 => ?_)
              · (try dsimp only); (first | with_reducible exact s0 | with_reducible exact s1 | with_reducible exact s2 | with_reducible exact s3 | exact s0 | exact s1 | exact s2 | exact s3 | go_keep)
              clear hK K
              try simp only [Act.put, List.setIfInBounds_toArray, List.set_cons_zero, List.set_cons_succ]
              refine wpAnyH_take (i := 29) (oi := { dst := some 114, op := Op.fieldAddr 40 (Operand.tmp 8) 3, type := 0, pos := "prog.go:280", after := #[{ on := 0, ground := Ground.phase }, { on := 1, ground := Ground.phase }, { on := 2, ground := Ground.phase }, { on := 3, ground := Ground.phase }, { on := 4, ground := Ground.phase }, { on := 5, ground := Ground.phase }, { on := 6, ground := Ground.phase }, { on := 7, ground := Ground.phase }, { on := 8, ground := Ground.phase }, { on := 9, ground := Ground.phase }, { on := 10, ground := Ground.phase }, { on := 11, ground := Ground.phase }, { on := 12, ground := Ground.phase }, { on := 13, ground := Ground.phase }, { on := 14, ground := Ground.phase }, { on := 15, ground := Ground.phase }, { on := 16, ground := Ground.phase }, { on := 17, ground := Ground.phase }, { on := 18, ground := Ground.phase }, { on := 19, ground := Ground.phase }, { on := 20, ground := Ground.phase }, { on := 21, ground := Ground.phase }, { on := 22, ground := Ground.phase }, { on := 23, ground := Ground.phase }, { on := 24, ground := Ground.phase }, { on := 25, ground := Ground.phase }, { on := 26, ground := Ground.phase }, { on := 27, ground := Ground.phase }, { on := 28, ground := Ground.phase }], guard := none }) (v := ?_) rfl (by kernel_rfl) (by kernel_rfl) (by kernel_rfl) (fun _ _ _ h => h) (Or.inl ⟨by rfl, ?_⟩) (by assumption) ?_
              rotate_left
              · (intro wz hSw; (try dsimp only at hSw); go_simp; try with_reducible rfl)
              simp only [Act.put, List.setIfInBounds_toArray, List.set_cons_zero, List.set_cons_succ]
              refine wpAnyH_ready (rs := [30]) (by kernel_rfl) (by simp) ?_
              refine AllReadyH.cons (o := { dst := none, op := Op.store 38 (Operand.tmp 114) (Operand.tmp 113), type := 0, pos := "prog.go:280", after := #[{ on := 29, ground := Ground.data }, { on := 28, ground := Ground.data }, { on := 28, ground := Ground.chain }, { on := 0, ground := Ground.phase }, { on := 1, ground := Ground.phase }, { on := 2, ground := Ground.phase }, { on := 3, ground := Ground.phase }, { on := 4, ground := Ground.phase }, { on := 5, ground := Ground.phase }, { on := 6, ground := Ground.phase }, { on := 7, ground := Ground.phase }, { on := 8, ground := Ground.phase }, { on := 9, ground := Ground.phase }, { on := 10, ground := Ground.phase }, { on := 11, ground := Ground.phase }, { on := 12, ground := Ground.phase }, { on := 13, ground := Ground.phase }, { on := 14, ground := Ground.phase }, { on := 15, ground := Ground.phase }, { on := 16, ground := Ground.phase }, { on := 17, ground := Ground.phase }, { on := 18, ground := Ground.phase }, { on := 19, ground := Ground.phase }, { on := 20, ground := Ground.phase }, { on := 21, ground := Ground.phase }, { on := 22, ground := Ground.phase }, { on := 23, ground := Ground.phase }, { on := 24, ground := Ground.phase }, { on := 25, ground := Ground.phase }, { on := 26, ground := Ground.phase }, { on := 27, ground := Ground.phase }, { on := 28, ground := Ground.phase }], guard := none }) rfl (fun K hK => ?_) ?_
              · go_simp
                refine hK.out _ _ ?_ (fun hHeld2 => ?_)
                · (try dsimp only); (first | with_reducible exact s0 | with_reducible exact s1 | with_reducible exact s2 | with_reducible exact s3 | exact s0 | exact s1 | exact s2 | exact s3 | go_keep)
                clear hK K
                try simp only [Act.put, List.setIfInBounds_toArray, List.set_cons_zero, List.set_cons_succ]
                refine wpAnyH_done (by kernel_rfl) ?_ _
                go_wp2_with fail
                exact ⟨⟨j + 1, _, by omega, by simp, by have := HA0.out; simp; omega, HN.out.1, HN.out.2.1, fun g e => by have := HN.out.2.2.1 g e; have := HFs.out; omega, HN.out.2.2.2⟩, by simp [intOf]; omega⟩
              exact AllReadyH.nil
            exact AllReadyH.nil
          exact AllReadyH.nil
        refine AllReadyH.cons (o := { dst := some 112, op := Op.buildSlice 38 1 #[(0, Operand.tmp 111)], type := 38, pos := "prog.go:280", after := #[{ on := 26, ground := Ground.data }], guard := none }) rfl (fun K hK => ?_) ?_
        · go_simp
          refine hK.out _ _ ?_ (fun hHeld2 => ?_)
          · (try dsimp only); (first | with_reducible exact s0 | with_reducible exact s1 | with_reducible exact s2 | with_reducible exact s3 | exact s0 | exact s1 | exact s2 | exact s3 | go_keep)
          clear hK K
          try simp only [Act.put, List.setIfInBounds_toArray, List.set_cons_zero, List.set_cons_succ]
          refine wpAnyH_ready (rs := [1]) (by kernel_rfl) (by simp) ?_
          refine AllReadyH.cons (o := { dst := some 86, op := Op.load 38 (Operand.tmp 85), type := 38, pos := "prog.go:280", after := #[{ on := 0, ground := Ground.data }], guard := none }) rfl (fun K hK => ?_) ?_
          · go_simp
            refine hK.out _ _ ?_ (fun hHeld2 => ?_)
            · (try dsimp only); (first | with_reducible exact s0 | with_reducible exact s1 | with_reducible exact s2 | with_reducible exact s3 | exact s0 | exact s1 | exact s2 | exact s3 | go_keep)
            clear hK K
            try simp only [Act.put, List.setIfInBounds_toArray, List.set_cons_zero, List.set_cons_succ]
            refine wpAnyH_ready (rs := [28]) (by kernel_rfl) (by simp) ?_
            refine AllReadyH.cons (o := { dst := some 113, op := Op.call { callee := Callee.builtin Builtin.append, args := #[Operand.tmp 86, Operand.tmp 112], argTypes := #[38, 38] }, type := 38, pos := "prog.go:280", after := #[{ on := 1, ground := Ground.data }, { on := 27, ground := Ground.data }], guard := none }) rfl (fun K hK => ?_) ?_
            · refine step_append_run rfl (.tmp 86) (.tmp 112) 38 38 rfl (by simp [Act.eval]) (by simp [Act.eval]) hr9 ?_
              refine hK.out _ _ ?_ (fun hHeld2 => ?_)
              · (try dsimp only); (first | with_reducible exact s0 | with_reducible exact s1 | with_reducible exact s2 | with_reducible exact s3 | exact s0 | exact s1 | exact s2 | exact s3 | go_keep)
              clear hK K
              try simp only [Act.put, List.setIfInBounds_toArray, List.set_cons_zero, List.set_cons_succ]
              refine wpAnyH_take (i := 29) (oi := { dst := some 114, op := Op.fieldAddr 40 (Operand.tmp 8) 3, type := 0, pos := "prog.go:280", after := #[{ on := 0, ground := Ground.phase }, { on := 1, ground := Ground.phase }, { on := 2, ground := Ground.phase }, { on := 3, ground := Ground.phase }, { on := 4, ground := Ground.phase }, { on := 5, ground := Ground.phase }, { on := 6, ground := Ground.phase }, { on := 7, ground := Ground.phase }, { on := 8, ground := Ground.phase }, { on := 9, ground := Ground.phase }, { on := 10, ground := Ground.phase }, { on := 11, ground := Ground.phase }, { on := 12, ground := Ground.phase }, { on := 13, ground := Ground.phase }, { on := 14, ground := Ground.phase }, { on := 15, ground := Ground.phase }, { on := 16, ground := Ground.phase }, { on := 17, ground := Ground.phase }, { on := 18, ground := Ground.phase }, { on := 19, ground := Ground.phase }, { on := 20, ground := Ground.phase }, { on := 21, ground := Ground.phase }, { on := 22, ground := Ground.phase }, { on := 23, ground := Ground.phase }, { on := 24, ground := Ground.phase }, { on := 25, ground := Ground.phase }, { on := 26, ground := Ground.phase }, { on := 27, ground := Ground.phase }, { on := 28, ground := Ground.phase }], guard := none }) (v := ?_) rfl (by kernel_rfl) (by kernel_rfl) (by kernel_rfl) (fun _ _ _ h => h) (Or.inl ⟨by rfl, ?_⟩) (by assumption) ?_
              rotate_left
              · (intro wz hSw; (try dsimp only at hSw); go_simp; try with_reducible rfl)
              simp only [Act.put, List.setIfInBounds_toArray, List.set_cons_zero, List.set_cons_succ]
              refine wpAnyH_ready (rs := [30]) (by kernel_rfl) (by simp) ?_
              refine AllReadyH.cons (o := { dst := none, op := Op.store 38 (Operand.tmp 114) (Operand.tmp 113), type := 0, pos := "prog.go:280", after := #[{ on := 29, ground := Ground.data }, { on := 28, ground := Ground.data }, { on := 28, ground := Ground.chain }, { on := 0, ground := Ground.phase }, { on := 1, ground := Ground.phase }, { on := 2, ground := Ground.phase }, { on := 3, ground := Ground.phase }, { on := 4, ground := Ground.phase }, { on := 5, ground := Ground.phase }, { on := 6, ground := Ground.phase }, { on := 7, ground := Ground.phase }, { on := 8, ground := Ground.phase }, { on := 9, ground := Ground.phase }, { on := 10, ground := Ground.phase }, { on := 11, ground := Ground.phase }, { on := 12, ground := Ground.phase }, { on := 13, ground := Ground.phase }, { on := 14, ground := Ground.phase }, { on := 15, ground := Ground.phase }, { on := 16, ground := Ground.phase }, { on := 17, ground := Ground.phase }, { on := 18, ground := Ground.phase }, { on := 19, ground := Ground.phase }, { on := 20, ground := Ground.phase }, { on := 21, ground := Ground.phase }, { on := 22, ground := Ground.phase }, { on := 23, ground := Ground.phase }, { on := 24, ground := Ground.phase }, { on := 25, ground := Ground.phase }, { on := 26, ground := Ground.phase }, { on := 27, ground := Ground.phase }, { on := 28, ground := Ground.phase }], guard := none }) rfl (fun K hK => ?_) ?_
              · go_simp
                refine hK.out _ _ ?_ (fun hHeld2 => ?_)
                · (try dsimp only); (first | with_reducible exact s0 | with_reducible exact s1 | with_reducible exact s2 | with_reducible exact s3 | exact s0 | exact s1 | exact s2 | exact s3 | go_keep)
                clear hK K
                try simp only [Act.put, List.setIfInBounds_toArray, List.set_cons_zero, List.set_cons_succ]
                refine wpAnyH_done (by kernel_rfl) ?_ _
                go_wp2_with fail
                exact ⟨⟨j + 1, _, by omega, by simp, by have := HA0.out; simp; omega, HN.out.1, HN.out.2.1, fun g e => by have := HN.out.2.2.1 g e; have := HFs.out; omega, HN.out.2.2.2⟩, by simp [intOf]; omega⟩
              exact AllReadyH.nil
            exact AllReadyH.nil
          exact AllReadyH.nil
        exact AllReadyH.nil
      · have hjq2 : j = q := by omega
        subst hjq2
        have i7 : ¬ ((j : Int) < (j : Int)) := by omega
        rw [List.take_of_length_le (by have := HR.out.2.1; omega)] at hrow
        have hW1 := HO.out.1.more hkx
        have f0 : wr.cell? ⟨F, 0, none⟩ = some (.int .i64 x0) := (cell_of_heap hFb 0).trans rfl
        have f1 : wr.cell? ⟨F, 1, none⟩ = some (.int .i64 x1) := (cell_of_heap hFb 1).trans rfl
        have f2 : wr.cell? ⟨F, 2, none⟩ = some (.int .i64 x2) := (cell_of_heap hFb 2).trans rfl
        have q0 : wr.cell? ⟨B + 1, 0, none⟩ = some (.slice xa k xc) := (cell_of_heap hW1.qb 0).trans rfl
        have hal2 := Keeps.alloc None wr (.cells #[.int .i64 x0, .int .i64 x1, .int .i64 x2, .slice va j vc] 40)
        have hW2 := hW1.more hal2
        have ho7 := hal2.own hrow (fun _ _ f => f)
        have hfl := HW.out.2.1
        have hrow2 := hW2.row
        rw [hfl] at hrow2
        obtain ⟨b2, cap2, w7, hrn, hoo, hkk, hgg⟩ := fn_append (.slice xa k xc) (List.zipWith tfCells fs tv) (.int .i64 x0) (.int .i64 x1) (.int .i64 x2) (.slice va j vc) k wr.heap.size 23 (wr.alloc (.cells #[.int .i64 x0, .int .i64 x1, .int .i64 x2, .slice va j vc] 40)) (by rw [List.length_zipWith, hW2.len]; omega) ⟨rfl, rfl, rfl, rfl⟩ hrow2 (by omega) (heap_alloc_new _ _)
        have hcl := HR.out.2.1
        obtain ⟨u1, u2, hnx⟩ := hW2.next (f := ⟨x0, x1, x2, cs⟩) (t := (va, vc)) (n1 := k + 1) (by omega) (by simp only; rw [hcl]; exact ho7) hkk (by unfold tfCells at *; simp only; rw [hcl]; exact hoo) hgg
        have hinv := HW.out.2.2.step hkm HR.out.1
        have HX : Hid (_ ∧ Inv m ys (k + 1) (P4 + j * 5) (fs ++ [⟨x0, x1, x2, cs⟩]) ∧ (fs ++ [(⟨x0, x1, x2, cs⟩ : Fn)]).length = k + 1 ∧ P4 + j * 5 ≤ n) := And.intro hnx ⟨hinv, by simp [hfl], by omega⟩
        clear hnx hW1 hW2 hal2 ho7 hoo hkk hgg hinv hrow hrow2 hlow hkx hkw hfl hFb hcl
        go_wp2_with (at_builtin; refine wpList_append_run rfl (.tmp 118) (.tmp 120) 23 23 rfl rfl rfl hrn ?_)
        exact ⟨⟨k + 1, P4 + j * 5, _, _, _, by omega, by simp, rfl, HX.out.2.2.2, HX.out.2.2.1, HX.out.2.1, HX.out.1⟩, by simp [intOf]; omega⟩
end Go.Proofs.YtcjmceedkfjbeaaDoor
