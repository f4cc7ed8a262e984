import Derived.Test.YtdiabpoafennlaaHyPutsOwn
/-! The walk of HyperLooks. -/
namespace Go.Proofs.Ytdiabpoafennlaa
set_option linter.unusedVariables false
set_option maxRecDepth 20000
set_option linter.unusedSimpArgs false
open Go.RowKit Go.HeapKit

set_option maxHeartbeats 6400000 in
theorem hyperLooks_walk (a0 a1 a2 : Option Addr) (n0 c0 n1 c1 n2 c2 : Nat) (l : List Dd) (st : List Bool) (pk : List Int) (w : World) (h0 : Seen w a0 n0 l) (h1 : SeenV w a1 n1 (bv' st)) (h2 : SeenV w a2 n2 (iv pk)) (hc : n2 ≤ c2) :
    Calls Try.prog 7 #[.agg #[.slice a0 n0 c0, .slice a1 n1 c1, .slice a2 n2 c2]] w fun e w' => e = .returned (.bool true) ∧ Below w.heap.size w w' := by
  have HS : Hid (Seen w a0 n0 l ∧ SeenV w a1 n1 (bv' st) ∧ SeenV w a2 n2 (iv pk) ∧ n2 ≤ c2) := ⟨h0, h1, h2, hc⟩
  have HL : Hid (n0 = l.length ∧ n1 = st.length ∧ n2 = pk.length) := ⟨h0.len, by have := h1.len; rwa [bv_len] at this, by have := h2.len; rwa [iv_len] at this⟩
  clear h0 h1 h2 hc
  obtain ⟨p0, hp0⟩ : ∃ p0, p0 = w.heap.size := ⟨_, rfl⟩
  have hb0 := blk_new w (.cells #[.slice a0 n0 c0, .slice a1 n1 c1, .slice a2 n2 c2] 26) p0 hp0.symm
  have hkb := (Keeps.alloc None w (.cells #[.slice a0 n0 c0, .slice a1 n1 c1, .slice a2 n2 c2] 26))
  go_enter Try.func7, Try.ntmps7
  go_upto_region 1 with fail
  rw [← hp0]
  clear hp0
  generalize (w.alloc (.cells #[.slice a0 n0 c0, .slice a1 n1 c1, .slice a2 n2 c2] 26)) = wb at *
  have HY : Hid (∀ wx, Keeps None w wx → Seen wx a0 n0 l ∧ SeenV wx a1 n1 (bv' st) ∧ SeenV wx a2 n2 (iv pk)) := fun wx hx => ⟨HS.out.1.more hx, HS.out.2.1.more hx, HS.out.2.2.1.more hx⟩
  have HB : Hid (wb.heap[p0]? = some (.cells #[.slice a0 n0 c0, .slice a1 n1 c1, .slice a2 n2 c2] 26 (0, 0)) ∧ Keeps None w wb) := ⟨hb0, hkb⟩
  have y0 : wb.cell? ⟨p0, 0, none⟩ = some (.slice a0 n0 c0) := blk_cell hb0 0
  have y1 : wb.cell? ⟨p0, 1, none⟩ = some (.slice a1 n1 c1) := blk_cell hb0 1
  have y2 : wb.cell? ⟨p0, 2, none⟩ = some (.slice a2 n2 c2) := blk_cell hb0 2
  clear hb0 hkb
  go_wp2_with fail
  refine (Play_told a0 n0 c0 l a1 n1 c1 st a2 n2 c2 pk wb (HY.out wb HB.out.2).1 (HY.out wb HB.out.2).2.1 (HY.out wb HB.out.2).2.2 HS.out.2.2.2).mono ?_
  rintro e w1 ⟨fa, fc, ma, mc, la, lc, rfl, hf1, hl1, -, hk1⟩
  clear y0 y1 y2
  obtain ⟨E, hE⟩ : ∃ E, E = refE l st pk := ⟨_, rfl⟩
  obtain ⟨F, hF⟩ : ∃ F, F = finT l st pk := ⟨_, rfl⟩
  obtain ⟨M, hM⟩ : ∃ M, M = madeT l st pk := ⟨_, rfl⟩
  obtain ⟨G, hG⟩ : ∃ G, G = (mgT l st pk).length := ⟨_, rfl⟩
  obtain ⟨L, hL⟩ : ∃ L, L = lkT l st pk := ⟨_, rfl⟩
  rw [← hF] at hf1
  rw [← hL] at hl1
  rw [← hE, ← hF, ← hM, ← hG, ← hL]
  have hbv := blk_new w1 (.cells #[.slice fa F.length fc, .int .i64 M, .slice ma G mc, .slice la L.length lc] 39) w1.heap.size rfl
  have hkv := Keeps.alloc None w1 (.cells #[.slice fa F.length fc, .int .i64 M, .slice ma G mc, .slice la L.length lc] 39)
  obtain ⟨p1, hp1⟩ : ∃ p1, p1 = w1.heap.size := ⟨_, rfl⟩
  have HN : Hid (E = refE l st pk ∧ F = finT l st pk ∧ M = madeT l st pk ∧ L = lkT l st pk) := ⟨hE, hF, hM, hL⟩
  have hkw := HB.out.2.trans hk1 (fun _ f _ => f)
  have hb1 := blk_kept HB.out.1 hk1 (fun f => f)
  clear hE hF hM hG hL
  go_upto_region 2 with fail
  rw [← hp1] at hbv ⊢
  clear hp1
  generalize (w1.alloc (.cells #[.slice fa F.length fc, .int .i64 M, .slice ma G mc, .slice la L.length lc] 39)) = w2 at *
  have HW : Hid (Keeps None w w2 ∧ w2.heap[p0]? = some (.cells #[.slice a0 n0 c0, .slice a1 n1 c1, .slice a2 n2 c2] 26 (0, 0)) ∧ w2.heap[p1]? = some (.cells #[.slice fa F.length fc, .int .i64 M, .slice ma G mc, .slice la L.length lc] 39 (0, 0)) ∧ SeenV w2 fa F.length (iv F) ∧ SeenL w2 la L.length L) := ⟨hkw.trans hkv (fun _ f _ => f), blk_kept hb1 hkv (fun f => f), hbv, hf1.more hkv, hl1.more hkv⟩
  have y0 : w2.cell? ⟨p0, 0, none⟩ = some (.slice a0 n0 c0) := blk_cell HW.out.2.1 0
  have y1 : w2.cell? ⟨p0, 1, none⟩ = some (.slice a1 n1 c1) := blk_cell HW.out.2.1 1
  have y2 : w2.cell? ⟨p0, 2, none⟩ = some (.slice a2 n2 c2) := blk_cell HW.out.2.1 2
  clear hkv hbv hf1 hl1 hkw hb1 hk1
  go_wp2_with fail
  refine (right_ok a0 a1 a2 n0 c0 n1 c1 n2 c2 l st pk w2 (HY.out w2 HW.out.1).1 HL.out.2.1 HL.out.2.2).mono ?_
  rintro e w5 ⟨rfl, hk5⟩
  have hR := right_iff (l := l) (st := st) (pk := pk)
  rw [← HN.out.1] at hR
  have hkw5 := HW.out.1.trans hk5 (fun _ f _ => f)
  clear y0 y1 y2
  have HZ : Hid (∀ wx, Keeps None w5 wx → (wx.cell? ⟨p0, 0, none⟩ = some (.slice a0 n0 c0) ∧ wx.cell? ⟨p0, 1, none⟩ = some (.slice a1 n1 c1) ∧ wx.cell? ⟨p0, 2, none⟩ = some (.slice a2 n2 c2) ∧ wx.cell? ⟨p1, 0, none⟩ = some (.slice fa F.length fc) ∧ wx.cell? ⟨p1, 3, none⟩ = some (.slice la L.length lc)) ∧ (SeenV wx fa F.length (iv F) ∧ SeenL wx la L.length L) ∧ (Seen wx a0 n0 l ∧ SeenV wx a1 n1 (bv' st) ∧ SeenV wx a2 n2 (iv pk)) ∧ Keeps None w wx) := fun wx hk => by
    have hkk := hk5.trans hk (fun _ f _ => f)
    exact ⟨⟨blk_cell (blk_kept HW.out.2.1 hkk (fun f => f)) 0, blk_cell (blk_kept HW.out.2.1 hkk (fun f => f)) 1, blk_cell (blk_kept HW.out.2.1 hkk (fun f => f)) 2, blk_cell (blk_kept HW.out.2.2.1 hkk (fun f => f)) 0, blk_cell (blk_kept HW.out.2.2.1 hkk (fun f => f)) 3⟩,
      ⟨HW.out.2.2.2.1.more hkk, HW.out.2.2.2.2.more hkk⟩, HY.out wx (HW.out.1.trans hkk (fun _ f _ => f)), HW.out.1.trans hkk (fun _ f _ => f)⟩
  clear hk5 hkw5
  by_cases hE : E = 0
  · have hEq := HN.out.1
    rw [hE] at hEq
    have hchk := (refE_ok hEq.symm).2.2.2
    have hll := (refE_ok hEq.symm).1
    have hFF : F = putsD l := by rw [HN.out.2.1]; unfold finT; rw [if_pos hEq.symm]
    have hL1 : L = (finPS l st pk).lk := by rw [HN.out.2.2.2]; unfold lkT; rw [if_pos hEq.symm]
    rw [hR.1 hE]
    subst hE
    have HQ : Hid (refE l st pk = 0 ∧ chkL l 0 0 = none ∧ F = putsD l ∧ L = (finPS l st pk).lk ∧ L.length = rdD l ∧ l.length ≤ 4096 ∧ L.length ≤ 5000 ∧ (∀ x ∈ L, x.length ≤ 5000)) := ⟨hEq.symm, hchk, hFF, hL1, by rw [hL1]; exact fin_lk_len l st pk, hll, by rw [hL1]; exact fin_look_n hchk hll st pk, by rw [hL1]; exact fin_look_le hll st pk⟩
    clear hR hEq hchk hll hFF hL1
    obtain ⟨⟨y0, y1, y2, y3, y4⟩, -⟩ := HZ.out w5 (Keeps.refl _ _)
    go_wp2_with fail
    go_loopw [5, 6, 7] (fun kv iv' av wr => ∃ i k : Nat, i ≤ n0 ∧ iv' = .int .i64 i ∧ kv = .int .i64 k ∧ k = rdD (l.take i) ∧ Keeps None w5 wr) (fun _ i _ _ => n0 - (intOf i).toNat)
    case atStart => exact ⟨0, 0, Nat.zero_le _, rfl, rfl, rfl, Keeps.refl _ _⟩
    case round =>
      obtain ⟨i, k, hi, rfl, rfl, hk, hkp⟩ := hrel
      obtain ⟨⟨z0, z1, z2, z3, z4⟩, ⟨hsF, hsL⟩, ⟨hS, hT, hP⟩, hkw⟩ := HZ.out wr hkp
      by_cases hin : i < n0
      · obtain ⟨b, off, x, rfl, hb, hx, u0, u1⟩ := hS.elem hin
        have i3 : (i : Int) < (n0 : Int) := by omega
        have hrd := rdD_more hx
        rw [← hk] at hrd
        have hi4 : n0 ≤ 4096 := by have := HQ.out.2.2.2.2.2.1; have := HL.out.1; omega
        have hk5 : k ≤ 5000 := by
          rw [hk]
          have h := List.length_filter_le (fun d : Dd => d.k == 3) (l.take i)
          have := HQ.out.2.2.2.2.2.1
          rw [List.length_take] at h
          show (List.filter _ _).length ≤ _
          omega
        by_cases h3 : x.k = 3
        · rw [if_pos h3] at hrd
          obtain ⟨z, A, hz, hzA, hzc⟩ := look_at HQ.out.2.1 st pk hx h3
          rw [← HQ.out.2.2.2.1, ← hk] at hz
          obtain ⟨bl, ol, zy, zc, rfl, v0, v1⟩ := hsL.ex k z hz
          have hzl := HQ.out.2.2.2.2.2.2.2 z (List.mem_of_getElem? hz)
          have hkL := (List.getElem?_eq_some_iff.1 hz).1
          obtain ⟨ZL, hZL⟩ : ∃ ZL, ZL = z.length := ⟨_, rfl⟩
          obtain ⟨AL, hAL⟩ : ∃ AL, AL = A.length := ⟨_, rfl⟩
          obtain ⟨PL, hPL⟩ : ∃ PL, PL = (putsD (l.take i)).length := ⟨_, rfl⟩
          have hPA : PL = AL + ZL := by rw [hPL, hzA, List.length_append, hAL, hZL]
          have hAl5 : AL + ZL ≤ 5000 := by
            have h := putsD_len (l.take i)
            have := HQ.out.2.2.2.2.2.1
            rw [List.length_take] at h
            omega
          obtain ⟨xk, xl⟩ := x
          simp only at u0 h3
          subst h3
          have HR : Hid (rdD (l.take (i + 1)) = k + 1 ∧ putsD (l.take i) = A ++ z ∧ (cmB st ((l.take i).map dp) [] 0 [] 0 = true → A = []) ∧ ZL = z.length ∧ AL = A.length ∧ PL = (putsD (l.take i)).length ∧ PL = AL + ZL ∧ Keeps None w5 wr) := ⟨hrd, hzA, hzc, hZL, hAL, hPL, hPA, hkp⟩
          have hkL2 : (k : Int) < (L.length : Int) := by omega
          have HPU : Hid (Seen wr (some ⟨b, off, none⟩) n0 l) := hS
          have hPL5 : PL ≤ 5000 := by omega
          have hZP : ZL ≤ PL := by omega
          clear hrd hk hzA hzc hZL hAL hPL hPA hkp hsF hsL hT hP hkw hx hz
          go_wp2_with fail
          refine (puts_own (some ⟨b, off, none⟩) n0 c0 i l wr HPU.out (by omega) (by omega)).mono ?_
          rintro e w6 ⟨ua, uc, rfl, hu, hk6⟩
          rw [← HR.out.2.2.2.2.2.1] at hu ⊢
          rw [HR.out.2.1] at hu
          have hcut := own_cut hu HR.out.2.2.2.2.1.symm HR.out.2.2.2.1.symm
          have hPA := HR.out.2.2.2.2.2.2.1
          have hPu : PL ≤ uc := by
            rcases hu.2 with ⟨e1, e2⟩ | ⟨g, cap, cur, e1, -, -, h4, -⟩
            · omega
            · injection e1 with _ _ e3; omega
          have HU : Hid (Keeps None w5 w6 ∧ (∀ wx, Keeps None w6 wx → SeenV wx (if uc = AL then ua else ua.map (·.add (AL * 1))) ZL (iv z) ∧ SeenV wx zy ZL (iv z))) := ⟨HR.out.2.2.2.2.2.2.2.trans hk6 (fun _ f _ => f), fun wx hx => ⟨hcut.more hx, by have := (v1.more hk6).more hx; rwa [← HR.out.2.2.2.1] at this⟩⟩
          have v0b := hk6.cell v0 (fun f => f)
          rw [← HR.out.2.2.2.1] at v0b
          obtain ⟨⟨x0, x1, x2, x3, x4⟩, -⟩ := HZ.out w6 HU.out.1
          have HK6 : Hid (Keeps None w5 w6) := HU.out.1
          have hwA : IntKind.i64.wrap ((PL : Int) - (ZL : Int)) = (AL : Int) := by rw [IntKind.wrap_i64]; omega
          have i4 : ¬ (L.length : Int) ≤ (k : Int) := by omega
          have i5 : ¬ (PL : Int) < (ZL : Int) := by omega
          have i6 : (0 : Int) ≤ (AL : Int) := by omega
          have i7 : (AL : Int) ≤ (PL : Int) := by omega
          have i8 : (0 : Int) ≤ (k : Int) := by omega
          have i9 : PL - AL = ZL := by omega
          clear z0 z1 z2 z3 z4 hk6 hu hcut v0 v1 u0 u1 hS hPA
          go_upto_region 12 with fail
          have i4 : ¬ (L.length : Int) ≤ (k : Int) := by omega
          have i5 : ¬ (PL : Int) < (ZL : Int) := by omega
          have d4 : decide ((L.length : Int) ≤ (k : Int)) = false := decide_eq_false i4
          have d5 : decide ((PL : Int) < (ZL : Int)) = false := decide_eq_false i5
          have d6 : decide (L.length ≤ k) = false := decide_eq_false (by omega)
          have d7 : decide (PL < ZL) = false := decide_eq_false (by omega)
          have hkc : Keeps None w6 w6.drew := Keeps.drew None w6
          by_cases hua : uc = AL
          all_goals
           have hs : w6.drew.cell? ⟨p1, 3, none⟩ = some (.slice (some ⟨bl, ol, none⟩) L.length lc) ∧ w6.drew.cell? ⟨bl, ol + k, none⟩ = some (.slice zy ZL zc) := ⟨x4, v0b⟩
           go_region_held3 (fun wx => wx.cell? ⟨p1, 3, none⟩ = some (.slice (some ⟨bl, ol, none⟩) L.length lc) ∧ wx.cell? ⟨bl, ol + k, none⟩ = some (.slice zy ZL zc)) (first | exact hs | go_keep) (first
            | (go_at_call 12; refine Calls.mono (sameInts_ok zy _ ZL zc _ z _ (HU.out.2 _ hkc).2 (by have h := (HU.out.2 _ hkc).1; simp only [hua, if_true, if_false] at h; first | exact h | simpa using h | (trace_state; sorry)) (by omega)) ?_; rintro _ wn ⟨rfl, hkn⟩; replace hkc := hkc.trans hkn (fun _ f _ => f); replace hs : wn.cell? ⟨p1, 3, none⟩ = some (.slice (some ⟨bl, ol, none⟩) L.length lc) ∧ wn.cell? ⟨bl, ol + k, none⟩ = some (.slice zy ZL zc) := ⟨hkc.cell x4 (fun f => f), hkc.cell v0b (fun f => f)⟩; clear hkn))
          all_goals
            have hkw6 := HK6.out.trans hkc (fun _ f _ => f)
            obtain ⟨⟨q0, q1, q2, q3, q4⟩, -, ⟨qS, qT, -⟩, -⟩ := HZ.out wn hkw6
            have HKn : Hid (Keeps None w5 wn) := hkw6
            have v0n := hs.2
            clear hkw6 hkc hs
            go_wp2_with fail
            obtain ⟨cb, hcb⟩ : ∃ cb, cmB st ((l.take i).map dp) [] 0 [] 0 = cb := ⟨_, rfl⟩
            refine (calm_ok (some ⟨b, off, none⟩) a1 a2 n0 c0 n1 c1 n2 c2 i l st wn qS qT (by omega) (by omega) cb hcb).mono ?_
            rintro e w7 ⟨rfl, hk7⟩
            have r4 := hk7.cell q4 (fun f => f)
            have r5 := hk7.cell v0n (fun f => f)
            have HR2 : Hid (k + 1 = rdD (l.take (i + 1)) ∧ Keeps None w5 w7 ∧ (cb = true → ZL = PL)) := ⟨HR.out.1.symm, HKn.out.trans hk7 (fun _ f _ => f), fun hc => by
              have := HR.out.2.2.1 (hcb.trans hc)
              have h2 := HR.out.2.2.2.2.1
              rw [this] at h2
              have h3 := HR.out.2.2.2.2.2.2.1
              simp at h2
              omega⟩
            clear hk7 hcb qS qT q0 q1 q2 q3 q4 v0n
            cases cb with
            | true =>
              have hZe := HR2.out.2.2 rfl
              subst hZe
              go_wp2
              go_roundw
              case rel => exact ⟨i + 1, k + 1, by omega, by go_num, by go_num, HR2.out.1, HR2.out.2.1⟩
              case measure => simp [intOf]; omega
            | false =>
              go_wp2
              go_roundw
              case rel => exact ⟨i + 1, k + 1, by omega, by go_num, by go_num, HR2.out.1, HR2.out.2.1⟩
              case measure => simp [intOf]; omega
        · rw [if_neg h3, Nat.add_zero] at hrd
          obtain ⟨xk, xl⟩ := x
          simp only at u0 h3
          have HR : Hid (rdD (l.take (i + 1)) = k ∧ Keeps None w5 wr) := ⟨hrd, hkp⟩
          have h3b : (xk != 3) = true := by simp [h3]
          clear hkp hsF hsL hS hT hP hkw hx hrd hk
          go_wp2
          go_roundw
          case rel => exact ⟨i + 1, k, by omega, by go_num, rfl, HR.out.1.symm, HR.out.2⟩
          case measure => simp [intOf]; omega
      · have hie : i = n0 := by omega
        have i3 : ¬ (i : Int) < (n0 : Int) := by omega
        have hke : k = L.length := by rw [hk, HQ.out.2.2.2.2.1, hie, List.take_of_length_le (by have := HL.out.1; omega)]
        subst hke
        clear hk
        obtain ⟨z5, hz5⟩ : ∃ z5, z5 = z0 := ⟨_, rfl⟩
        clear hz5 z5
        go_wp2_with fail
        refine (Play_told a0 n0 c0 l none 0 0 [] a2 n2 c2 pk wr hS (SeenV.nil _ _) hP HS.out.2.2.2).mono ?_
        rintro e w3 ⟨ga, gc, ma2, mc2, ka, kc, rfl, hf3, -, -, hk3⟩
        have hE2 := refE_none HQ.out.1
        obtain ⟨hm1, hm2⟩ := none_one HQ.out.2.1 pk
        have e1 : finT l [] pk = F := by unfold finT; rw [if_pos hE2, HQ.out.2.2.1]
        have e2 : madeT l [] pk = 1 := by unfold madeT; rw [if_pos hE2, hm1]
        have e3 : mgT l [] pk = [] := by unfold mgT; rw [if_pos hE2, hm2]
        have e4 : (lkT l [] pk).length = L.length := by unfold lkT; rw [if_pos hE2, fin_lk_len, HQ.out.2.2.2.2.1]
        rw [e1] at hf3
        rw [e1, e2, e3, e4, hE2]
        have hbv := blk_new w3 (.cells #[.slice ga F.length gc, .int .i64 1, .slice ma2 0 mc2, .slice ka L.length kc] 39) w3.heap.size rfl
        have hkv := Keeps.alloc None w3 (.cells #[.slice ga F.length gc, .int .i64 1, .slice ma2 0 mc2, .slice ka L.length kc] 39)
        obtain ⟨p2, hp2⟩ : ∃ p2, p2 = w3.heap.size := ⟨_, rfl⟩
        have hkw3 := hkw.trans hk3 (fun _ f _ => f)
        have HK3 : Hid (Keeps None w5 w3) := hkp.trans hk3 (fun _ f _ => f)
        have hF5 : F.length ≤ 17592186044416 := by rw [HQ.out.2.2.1]; have := putsD_len l; have := HQ.out.2.2.2.2.2.1; omega
        rw [List.length_nil, Int.natCast_one]
        clear e1 e2 e3 e4 hE2 hm1 hm2 hk3 hkw hkp hsF hsL hS hT hP z0 z1 z2 z3 z4
        go_upto_region 20 with fail
        rw [← hp2] at hbv ⊢
        clear hp2
        generalize (w3.alloc (.cells #[.slice ga F.length gc, .int .i64 1, .slice ma2 0 mc2, .slice ka L.length kc] 39)) = w4 at *
        have HX : Hid (Keeps None w5 w4) := HK3.out.trans hkv (fun _ f _ => f)
        obtain ⟨⟨z0, z1, z2, z3, z4⟩, ⟨hsF, -⟩, -, hkw⟩ := HZ.out w4 HX.out
        have t0 : w4.cell? ⟨p2, 0, none⟩ = some (.slice ga F.length gc) := blk_cell hbv 0
        have t1 : w4.cell? ⟨p2, 1, none⟩ = some (.int .i64 1) := blk_cell hbv 1
        have t2 : w4.cell? ⟨p2, 2, none⟩ = some (.slice ma2 0 mc2) := blk_cell hbv 2
        have t3 : w4.cell? ⟨p2, 3, none⟩ = some (.slice ka L.length kc) := blk_cell hbv 3
        have HF2 : Hid (SeenV w4 ga F.length (iv F) ∧ SeenV w4 fa F.length (iv F) ∧ Keeps None w w4) := ⟨hf3.more hkv, hsF, hkw⟩
        clear hbv hkv hf3 hsF hkw hkw3
        go_wp2_with fail
        refine (sameInts_ok ga fa F.length gc fc F w4 HF2.out.1 HF2.out.2.1 hF5).mono ?_
        rintro e w6 ⟨rfl, hk6⟩
        have s3 := hk6.cell t3 (fun f => f)
        have HE : Hid (Below w.heap.size w w6) := (HF2.out.2.2.trans hk6 (fun _ f _ => f)).below _ (Nat.le_refl _) (fun _ f => f.elim)
        clear hk6
        go_wp2
        go_ret
        exact ⟨rfl, HE.out⟩
  · have hne := HN.out.1
    have hL0 : L = [] := by rw [HN.out.2.2.2]; unfold lkT; rw [if_neg (by rw [← hne]; exact hE)]
    rw [hR.2 hE]
    subst hL0
    obtain ⟨⟨y0, y1, y2, y3, y4⟩, -, -, hkk⟩ := HZ.out w5 (Keeps.refl _ _)
    have HE : Hid (Below w.heap.size w w5) := hkk.below _ (Nat.le_refl _) (fun _ f => f.elim)
    have hE1 : (E != 0) = true := by simp [hE]
    clear hne hR hkk HN
    go_wp2
    go_ret
    exact ⟨rfl, HE.out⟩
end Go.Proofs.Ytdiabpoafennlaa
