import Derived.Test.YtkmopcongjifmaaDgGre
import Derived.Test.YtkmopcongjifmaaDgREar
/-! Greedy: the document's. -/
namespace Go.Proofs.Ytkmopcongjifmaa
set_option linter.unusedVariables false
set_option maxRecDepth 20000
open Go.RowKit Go.HeapKit

set_option maxHeartbeats 1600000 in
theorem ready_any (v : Value) (base k : Nat) (bs : List Int) (g n : Nat) (T : Nat → Int) (t : Int) (w : World) (h : w.ownsRow base 3 1 v k (iv bs)) (hb : ∀ x ∈ bs, 0 ≤ x ∧ x < (n : Int)) (hN : IsN w g n T) (hk : k ≤ 16384) (hn : n ≤ 4096) :
    Calls Try.prog 37 #[v, .slice (some ⟨g, 0, none⟩) n n, .int .i64 t] w fun e w' => e = .returned (.bool (readyV T t bs)) ∧ w' = w := by
  obtain ⟨a, c, rfl⟩ := row_shape h
  have HS : Hid (w.ownsRow base 3 1 (.slice a k c) k (iv bs) ∧ IsN w g n T ∧ ∀ x ∈ bs, 0 ≤ x ∧ x < (n : Int)) := ⟨h, hN, hb⟩
  have hl : Hid (bs.length = k) := by have := h.1; rw [iv_len] at this; show _ = _; omega
  clear h hb hN
  go_enter Try.func37, Try.ntmps37
  go_wp2_with fail
  go_loopw [7, 8] (fun s7 _ wr => ∃ j : Nat, s7 = .int .i64 j ∧ j ≤ k ∧ readyV T t (bs.take j) = true ∧ wr = w) (fun s7 _ _ => k - (intOf s7).toNat)
  case atStart => exact ⟨0, rfl, Nat.zero_le _, rfl, rfl⟩
  case round =>
    obtain ⟨j, rfl, hj, hall, hwr⟩ := hrel
    subst hwr
    have HA : Hid (readyV T t (bs.take j) = true) := hall
    clear hall
    by_cases hlt : j < k
    · have hjl : j < bs.length := by have := hl.out; omega
      have hx := List.getElem?_eq_getElem hjl
      obtain ⟨q, rfl, e0, _⟩ := row_at HS.out.1 hx
      have hrg := HS.out.2.2 _ (List.getElem_mem hjl)
      obtain ⟨x, hxe⟩ : ∃ x, x = bs[j] := ⟨_, rfl⟩
      rw [← hxe] at hx e0 hrg
      obtain ⟨y, rfl⟩ := Int.eq_ofNat_of_zero_le hrg.1
      have x1 := HS.out.2.1.at (show y < n by omega)
      have HX : Hid (bs[j]? = some (y : Int)) := hx
      obtain ⟨u, hu⟩ : ∃ u, u = T y := ⟨_, rfl⟩
      rw [← hu] at x1
      have HU : Hid (u = T y) := hu
      have j1 : (j : Int) < (k : Int) := by omega
      have k0 : ¬ k = 0 := by omega
      have n0 : ¬ n = 0 := by omega
      have y1 : (y : Int) < (n : Int) := by omega
      have hstep : readyV T t (bs.take (j + 1)) = (readyV T t (bs.take j) && (decide (u ≠ 0) && decide (u < t))) := by
        rw [List.take_add_one, hx]
        unfold readyV
        simp [List.all_append, hu]
      have hall : ∀ b, readyV T t (bs.take (j + 1)) = b → b = false → readyV T t bs = false := by
        intro b h1 h2
        subst h2
        rw [← List.take_append_drop (j + 1) bs]
        unfold readyV at h1 ⊢
        rw [List.all_append, h1]
        rfl
      have HT : Hid (readyV T t (bs.take (j + 1)) = (readyV T t (bs.take j) && (decide (u ≠ 0) && decide (u < t))) ∧ ∀ b, readyV T t (bs.take (j + 1)) = b → b = false → readyV T t bs = false) := ⟨hstep, hall⟩
      clear hx hrg hxe hu hjl hstep hall
      by_cases c1 : u = 0
      · have q1 : (u == 0) = true := by simpa using c1
        have C1 : Hid (u = 0) := c1
        clear c1
        go_wp2_with fail
        go_ret
        refine ⟨?_, rfl⟩
        rw [HT.out.2 _ (HT.out.1.trans (by rw [C1.out]; simp)) rfl]
        rfl
      · have q1 : (u == 0) = false := by simpa using c1
        have C1 : Hid (¬ u = 0) := c1
        by_cases c2 : t ≤ u
        · go_wp2_with fail
          go_ret
          refine ⟨?_, rfl⟩
          have c3 : ¬ u < t := by omega
          rw [HT.out.2 _ (HT.out.1.trans (by simp [c3])) rfl]
          rfl
        · go_wp2_with fail
          refine ⟨⟨j + 1, by go_num, by omega, ?_, trivial⟩, by simp [intOf]; omega⟩
          rw [HT.out.1, HA.out]
          have c3 : u < t := by omega
          simp [C1.out, c3]
    · have j1 : ¬ (j : Int) < (k : Int) := by omega
      have HE : Hid (readyV T t bs = true) := by
        have h1 := HA.out
        rw [List.take_of_length_le (by have := hl.out; omega)] at h1
        exact h1
      go_wp2_with fail
      go_ret
      exact ⟨by rw [HE.out]; rfl, rfl⟩
theorem bef_rng {n : Nat} {l : List Ed} (hd : Dag (n : Int) l) {i : Nat} (hi : i < n) : ∀ x ∈ bef l i, 0 ≤ x ∧ x < (n : Int) := by
  intro x hx
  obtain ⟨e, he, h1, h2⟩ := mem_bef.1 hx
  have := hd.ok e he
  omega
theorem cnt_lt_rds {m : Int} {l : List Ed} (h : Dag m l) (n : Nat) (T : Nat → Int) (hc : cntT n T < n) : rds n l T ≠ [] := fun e => by
  have := (rds_nil_iff h n T).1 e
  omega
set_option maxHeartbeats 3200000 in
theorem rgre_any (n : Int) (a : Option Addr) (m c : Nat) (l : List Ed) (p : Int) (w : World) (h : SeenE w a m l) (hs : m * 16 ≤ 140737488351232) :
    Calls Try.prog 26 #[dagV n a m c, .int .i64 p] w fun e w' => ∃ v, e = .returned (.tuple #[v, .int .i64 (greE n l p)]) ∧ w'.ownsRow w.heap.size 3 1 v (greV n l p).length (iv (greV n l p)) ∧ Keeps None w w' := by
  have HS : Hid (SeenE w a m l) := h
  clear h
  obtain ⟨s0, hs0⟩ : ∃ s0, s0 = w.heap.size := ⟨_, rfl⟩
  have HS0 : Hid (s0 = w.heap.size) := hs0
  unfold dagV
  go_enter Try.func26, Try.ntmps26
  go_wp2_with fail
  have hbox := blk_new w (.cells #[.int .i64 n, .slice a m c] 24) _ rfl
  have hk0 := keeps1 w (.cells #[.int .i64 n, .slice a m c] 24)
  refine (rcheck_any n a m c l _ (HS.out.more hk0) hs).mono ?_
  rintro e w2 ⟨rfl, hk⟩
  rw [← hs0] at hbox ⊢
  have H1 : Hid (w2.heap[s0]? = some (.cells #[.int .i64 n, .slice a m c] 24 (0, 0)) ∧ Keeps None w w2) := ⟨blk_kept hbox hk (fun f => f), hk0.trans hk (fun _ f _ => f)⟩
  have d0 : w2.cell? ⟨s0, 0, none⟩ = some (.int .i64 n) := (blk_cell H1.out.1 0).trans rfl
  have d1 : w2.cell? ⟨s0, 1, none⟩ = some (.slice a m c) := (blk_cell H1.out.1 1).trans rfl
  clear hk0 hbox hk hs0
  by_cases hc : checkV n l = 0
  · have HC : Hid (checkV n l = 0) := hc
    rw [hc]
    by_cases p1 : p < 1
    · have HE : Hid (greE n l p = 3) := by show _ = _; unfold greE; rw [if_pos hc, if_pos (.inl p1)]
      have HV : Hid (greV n l p = []) := gre_bad (by rw [HE.out]; decide)
      clear hc
      go_wp2_with fail
      go_ret2
      refine ⟨_, by rw [HE.out]; rfl, ?_, H1.out.2⟩
      rw [HV.out]
      exact row_nil _ _ _ _
    · by_cases p2 : 64 < p
      · have HE : Hid (greE n l p = 3) := by show _ = _; unfold greE; rw [if_pos hc, if_pos (.inr p2)]
        have HV : Hid (greV n l p = []) := gre_bad (by rw [HE.out]; decide)
        clear hc
        go_wp2_with fail
        go_ret2
        refine ⟨_, by rw [HE.out]; rfl, ?_, H1.out.2⟩
        rw [HV.out]
        exact row_nil _ _ _ _
      · have HE : Hid (greE n l p = 0) := by show _ = _; unfold greE; rw [if_pos hc, if_neg (by omega)]
        have hd := dag_of hc
        obtain ⟨N, rfl⟩ := Int.eq_ofNat_of_zero_le hd.lo
        obtain ⟨P, rfl⟩ := Int.eq_ofNat_of_zero_le (show 0 ≤ p by omega)
        have hN : N ≤ 4096 := by have := hd.hi; omega
        have hP1 : 1 ≤ P := by omega
        have HD : Hid (Dag (N : Int) l) := hd
        clear hc hd
        go_wp2_with fail
        refine (bef_any N a m c l _ (HS.out.more H1.out.2) HD.out).mono ?_
        rintro e w3 ⟨g, vs, rfl, hL, hk⟩
        have H2 : Hid (w3.heap[s0]? = some (.cells #[.int .i64 N, .slice a m c] 24 (0, 0)) ∧ Keeps None w w3 ∧ IsL w3 w2.heap.size g N vs (bef l)) := ⟨blk_kept H1.out.1 hk (fun f => f), H1.out.2.trans hk (fun _ f _ => f), hL⟩
        have d2 : w3.cell? ⟨s0, 0, none⟩ = some (.int .i64 N) := (blk_cell H2.out.1 0).trans rfl
        obtain ⟨base, hbase⟩ : ∃ base, base = w2.heap.size := ⟨_, rfl⟩
        rw [← hbase] at H2
        clear hL hk H1 hbase d0 d1
        have hmk := make_ints N w3 hN
        go_wp2_with (at_make; refine wpList_make_run rfl (.tmp 27) (.tmp 27) 33 rfl rfl rfl hmk ?_)
        obtain ⟨G, hG⟩ : ∃ G, G = w3.heap.size := ⟨_, rfl⟩
        have hnew := blk_new w3 (.cells ((List.range N).map (fun _ => Value.int .i64 0)).toArray 3) _ rfl
        have hk3 := Keeps.alloc None w3 (.cells ((List.range N).map (fun _ => Value.int .i64 0)).toArray 3)
        rw [← hG] at hnew ⊢
        have H3 : Hid ((w3.alloc (.cells ((List.range N).map (fun _ => Value.int .i64 0)).toArray 3)).heap[s0]? = some (.cells #[.int .i64 N, .slice a m c] 24 (0, 0)) ∧ Keeps None w (w3.alloc (.cells ((List.range N).map (fun _ => Value.int .i64 0)).toArray 3)) ∧ IsL (w3.alloc (.cells ((List.range N).map (fun _ => Value.int .i64 0)).toArray 3)) base g N vs (bef l) ∧
            IsN (w3.alloc (.cells ((List.range N).map (fun _ => Value.int .i64 0)).toArray 3)) G N (runT N P l 0)) := ⟨blk_kept H2.out.1 hk3 (fun f => f), H2.out.2.1.trans hk3 (fun _ f _ => f), H2.out.2.2.more hk3, hnew⟩
        have HG : Hid (w.heap.size ≤ G ∧ s0 < G ∧ g < G ∧ ∀ k b, k < N → (vs k).ownBlock = some b → b < G) := by
          have h1 := H2.out.2.1.size
          have h2 := blk_lt H2.out.1
          have h3 := blk_lt H2.out.2.2.outer
          exact ⟨by omega, by omega, by omega, fun k b hk e => by have := own_lt (H2.out.2.2.rows k hk) e; omega⟩
        clear hmk hnew hk3 hG H2 d2
        generalize (w3.alloc (.cells ((List.range N).map (fun _ => Value.int .i64 0)).toArray 3)) = w4 at *
        go_wp2_with fail
        go_loopw [9, 10, 11, 12] (fun s9 s10 _ _ wr => ∃ k : Nat, s10 = .int .i64 ((k : Int) + 1) ∧ s9 = .int .i64 (cntT N (runT N P l k) : Nat) ∧ k ≤ N ∧ wr.heap[s0]? = some (.cells #[.int .i64 N, .slice a m c] 24 (0, 0)) ∧ Keeps None w wr ∧ IsL wr base g N vs (bef l) ∧ IsN wr G N (runT N P l k)) (fun _ s10 _ _ _ => N + 1 - (intOf s10).toNat)
        case atStart => exact ⟨0, by simp, by rw [cnt_zero]; rfl, Nat.zero_le _, H3.out⟩
        case round =>
          obtain ⟨k, rfl, rfl, hkN, b0, hkp, hL, hF⟩ := hrel
          have d0 : wr.cell? ⟨s0, 0, none⟩ = some (.int .i64 N) := (blk_cell b0 0).trans rfl
          have HI : Hid (wr.heap[s0]? = some (.cells #[.int .i64 N, .slice a m c] 24 (0, 0)) ∧ Keeps None w wr ∧ IsL wr base g N vs (bef l) ∧ IsN wr G N (runT N P l k)) := ⟨b0, hkp, hL, hF⟩
          obtain ⟨C, hC⟩ : ∃ C, C = cntT N (runT N P l k) := ⟨_, rfl⟩
          have HC2 : Hid (C = cntT N (runT N P l k)) := hC
          have hcle : C ≤ N := by rw [hC]; exact cnt_le _ _
          rw [← hC]
          by_cases hlt : C < N
          · have c1 : (C : Int) < (N : Int) := by omega
            have hkN2 : k < N := k_le HD.out N P hP1 k (cnt_lt_rds HD.out N _ (by rw [← hC]; exact hlt))
            obtain ⟨T, hT⟩ : ∃ T, T = runT N P l k := ⟨_, rfl⟩
            have HT : Hid (T = runT N P l k ∧ ∀ i, 0 ≤ T i ∧ T i < (k : Int) + 1) := ⟨hT, fun i => by have := run_range N P l k i; rw [hT]; omega⟩
            clear b0 hkp hL hF hC hT
            go_wp2_with fail
            go_loopw [11, 12] (fun s11 s12 wx => ∃ i : Nat, s12 = .int .i64 i ∧ s11 = .int .i64 ((scn l T P i).length : Nat) ∧ i ≤ N ∧ wx.heap[s0]? = some (.cells #[.int .i64 N, .slice a m c] 24 (0, 0)) ∧ Keeps None w wx ∧ IsL wx base g N vs (bef l) ∧ IsN wx G N (scanT l T P (k + 1) i)) (fun _ s12 _ => N - (intOf s12).toNat)
            case atStart => exact ⟨0, rfl, by simp [scn], Nat.zero_le _, HI.out.1, HI.out.2.1, HI.out.2.2.1, by rw [scan_zero, HT.out.1]; exact HI.out.2.2.2⟩
            case round =>
              obtain ⟨i, rfl, rfl, hi, b0, hkp, hL, hF⟩ := hrel
              have d0 : wr.cell? ⟨s0, 0, none⟩ = some (.int .i64 N) := (blk_cell b0 0).trans rfl
              have HJ : Hid (wr.heap[s0]? = some (.cells #[.int .i64 N, .slice a m c] 24 (0, 0)) ∧ Keeps None w wr ∧ IsL wr base g N vs (bef l) ∧ IsN wr G N (scanT l T P (k + 1) i)) := ⟨b0, hkp, hL, hF⟩
              clear b0 hkp hL hF
              obtain ⟨M, hM⟩ : ∃ M, M = (scn l T P i).length := ⟨_, rfl⟩
              have HM : Hid (M = (scn l T P i).length) := hM
              have hMP : M ≤ P := by rw [hM]; exact scn_len _ _ _ _
              have hMi : M ≤ i := by rw [hM]; exact scn_le _ _ _ _
              rw [← hM]
              clear hM
              by_cases hiN : i < N ∧ M < P
              · have i1 : (i : Int) < (N : Int) := by omega
                have i2 : (M : Int) < (P : Int) := by omega
                have n0 : ¬ N = 0 := by omega
                have hiN1 : i < N := hiN.1
                have hx : scanT l T P (k + 1) i i = T i := by
                  unfold scanT
                  rw [if_neg (fun h => by have := (scn_lt h).1; omega)]
                have x0 := HJ.out.2.2.2.at hiN1
                have z0 := HJ.out.2.2.2.free i
                have hrs := ready_scan (l := l) (T := T) (p := P) (t := (k : Int) + 1) (i := i) HT.out.2
                rw [hx] at x0 hrs
                have hstep := scan_step l T P i (k + 1) (by rw [← HM.out]; omega)
                have hsc := scn_step l T P i (by rw [← HM.out]; omega)
                have HR : Hid ((decide (T i = 0) && readyV (scanT l T P (k + 1) i) (k + 1) (bef l i)) = rdy l T i ∧ (∀ j, scanT l T P (k + 1) (i + 1) j = if rdy l T i = true ∧ j = i then (k : Int) + 1 else scanT l T P (k + 1) i j) ∧ scn l T P (i + 1) = if rdy l T i = true then scn l T P i ++ [i] else scn l T P i) := ⟨hrs, hstep, hsc⟩
                have y0 := HJ.out.2.2.1.at hiN1
                have hrow := HJ.out.2.2.1.rows i hiN1
                obtain ⟨sa, cs, hv⟩ := row_shape hrow
                rw [hv] at y0 hrow
                have hl16 : (bef l i).length ≤ 16384 := Nat.le_trans (bef_len l i) HD.out.len
                have hrd := ready_any _ _ _ _ G N _ ((k : Int) + 1) wr hrow (bef_rng HD.out hiN1) HJ.out.2.2.2 hl16 hN
                obtain ⟨rb, hrb⟩ : ∃ rb, rb = readyV (scanT l T P (k + 1) i) ((k : Int) + 1) (bef l i) := ⟨_, rfl⟩
                rw [← hrb] at hrd HR
                obtain ⟨u, hu⟩ : ∃ u, u = T i := ⟨_, rfl⟩
                rw [← hu] at x0 HR
                obtain ⟨bl, hbl⟩ : ∃ bl, bl = (bef l i).length := ⟨_, rfl⟩
                rw [← hbl] at y0 hrd
                have HRD : Hid (Calls Try.prog 37 #[.slice sa bl cs, .slice (some ⟨G, 0, none⟩) N N, .int .i64 ((k : Int) + 1)] wr fun e w' => e = .returned (.bool rb) ∧ w' = wr) := hrd
                have hskip : Hid (∀ b, rdy l T i = b → b = false → (wr.heap[s0]? = some (.cells #[.int .i64 N, .slice a m c] 24 (0, 0)) ∧ Keeps None w wr ∧ IsL wr base g N vs (bef l) ∧ IsN wr G N (scanT l T P (k + 1) (i + 1))) ∧ M = (scn l T P (i + 1)).length) := by
                  intro b hb1 hb2
                  subst hb2
                  refine ⟨⟨HJ.out.1, HJ.out.2.1, HJ.out.2.2.1, HJ.out.2.2.2.congr (fun j _ => ?_)⟩, ?_⟩
                  · rw [HR.out.2.1 j, if_neg (fun h => by rw [hb1] at h; cases h.1)]
                  · rw [HR.out.2.2, hb1, if_neg (by decide)]; exact HM.out
                clear hx hrs hstep hsc hrow hv hrd hrb hu hbl hiN hl16
                by_cases c2 : u = 0
                · have q2 : (u == 0) = true := by simpa using c2
                  have C2 : Hid (u = 0) := c2
                  clear c2
                  cases rb with
                  | true =>
                    have hT2' : rdy l T i = true := by have := HR.out.1; rw [C2.out] at this; simpa using this.symm
                    have hT2 : Hid (rdy l T i = true) := hT2'
                    clear hT2'
                    have hkS : Keeps (· = G) wr (wr.setCell ⟨G, i, none⟩ (.int .i64 ((k : Int) + 1))) := Keeps.setCell (S := (· = G)) wr rfl _
                    have hg := HG.out
                    have HN : Hid ((wr.setCell ⟨G, i, none⟩ (.int .i64 ((k : Int) + 1))).heap[s0]? = some (.cells #[.int .i64 N, .slice a m c] 24 (0, 0)) ∧ Keeps None w (wr.setCell ⟨G, i, none⟩ (.int .i64 ((k : Int) + 1))) ∧ IsL (wr.setCell ⟨G, i, none⟩ (.int .i64 ((k : Int) + 1))) base g N vs (bef l) ∧ IsN (wr.setCell ⟨G, i, none⟩ (.int .i64 ((k : Int) + 1))) G N (scanT l T P (k + 1) (i + 1))) := by
                      refine ⟨blk_kept HJ.out.1 hkS (by omega), HJ.out.2.1.trans hkS (fun q e hq => by omega), HJ.out.2.2.1.kept hkS (by omega) (fun j b hj e e2 => by have := hg.2.2.2 j b hj e; omega), (HJ.out.2.2.2.set i _).congr (fun j _ => ?_)⟩
                      rw [HR.out.2.1 j]
                      unfold upd
                      by_cases e : j = i
                      · rw [if_pos e, if_pos ⟨hT2.out, e⟩]
                      · rw [if_neg e, if_neg (fun h => e h.2)]
                    have HM2 : Hid (M + 1 = (scn l T P (i + 1)).length) := by
                      show _ = _
                      rw [HR.out.2.2, hT2.out, if_pos rfl, List.length_append, ← HM.out]
                      rfl
                    clear hkS hg
                    go_wp2_with fail
                    refine HRD.out.mono ?_
                    rintro _ wz ⟨rfl, hw⟩
                    have hw2 := hw.symm
                    subst hw2
                    clear hw
                    go_wp2_with fail
                    exact ⟨⟨i + 1, by go_num, by rw [← HM2.out]; go_num, by omega, HN.out⟩, by simp [intOf]; omega⟩
                  | false =>
                    have hT2' : rdy l T i = false := by have := HR.out.1; rw [C2.out] at this; simpa using this.symm
                    have hT2 : Hid (rdy l T i = false) := hT2'
                    clear hT2'
                    go_wp2_with fail
                    refine HRD.out.mono ?_
                    rintro _ wz ⟨rfl, hw⟩
                    have hw2 := hw.symm
                    subst hw2
                    clear hw
                    go_wp2_with fail
                    obtain ⟨h1, h2⟩ := hskip.out _ hT2.out rfl
                    exact ⟨⟨i + 1, by go_num, by rw [← h2], by omega, h1⟩, by simp [intOf]; omega⟩
                · have q2 : (u == 0) = false := by simpa using c2
                  have hT2' : rdy l T i = false := by have := HR.out.1; rw [decide_eq_false c2] at this; simpa using this.symm
                  have hT2 : Hid (rdy l T i = false) := hT2'
                  clear hT2'
                  go_wp2_with fail
                  obtain ⟨h1, h2⟩ := hskip.out _ hT2.out rfl
                  exact ⟨⟨i + 1, by go_num, by rw [← h2], by omega, h1⟩, by simp [intOf]; omega⟩
              · have hend : i = N ∨ (scn l T P i).length = P := by
                  have := HM.out
                  omega
                obtain ⟨e1, e2⟩ := scan_end (t := (k : Int) + 1) hi hend
                have HN : Hid (wr.heap[s0]? = some (.cells #[.int .i64 N, .slice a m c] 24 (0, 0)) ∧ Keeps None w wr ∧ IsL wr base g N vs (bef l) ∧ IsN wr G N (runT N P l (k + 1))) := by
                  refine ⟨HJ.out.1, HJ.out.2.1, HJ.out.2.2.1, ?_⟩
                  have h1 := HJ.out.2.2.2
                  rw [e1, HT.out.1] at h1
                  exact h1
                have HCN : Hid (C + M = cntT N (runT N P l (k + 1))) := by
                  show _ = _
                  rw [cnt_succ, ← HT.out.1, ← e2, ← HM.out, HC2.out, HT.out.1]
                clear e1 e2 hend
                by_cases hi2 : i < N
                · have i1 : (i : Int) < (N : Int) := by omega
                  have i2 : ¬ (M : Int) < (P : Int) := by omega
                  go_wp2_with fail
                  exact ⟨⟨k + 1, by go_num, by rw [← HCN.out]; go_num, by omega, HN.out⟩, by simp [intOf]; omega⟩
                · have i1 : ¬ (i : Int) < (N : Int) := by omega
                  go_wp2_with fail
                  exact ⟨⟨k + 1, by go_num, by rw [← HCN.out]; go_num, by omega, HN.out⟩, by simp [intOf]; omega⟩
          · have c1 : ¬ (C : Int) < (N : Int) := by omega
            have HN : Hid (wr.ownsRow w.heap.size 3 1 (.slice (some ⟨G, 0, none⟩) N N) (greV N l P).length (iv (greV N l P)) ∧ Keeps None w wr) := by
              refine ⟨?_, hkp⟩
              have hte : runT N P l k = timesV N P l := times_eq HD.out N P hP1 k ((rds_nil_iff HD.out N _).2 (by rw [← hC]; omega))
              rw [hte] at hF
              have := hF.row w.heap.size HG.out.1 hN
              rw [gre_ok HE.out]
              simpa using this
            clear b0 hkp hL hF hC
            go_wp2_with fail
            go_ret2
            exact ⟨_, by rw [HE.out]; rfl, HN.out⟩
  · have HE : Hid (greE n l p = checkV n l) := by show _ = _; unfold greE; rw [if_neg hc]
    have HV : Hid (greV n l p = []) := gre_bad (by rw [HE.out]; exact hc)
    have hb : (checkV n l == 0) = false := by simpa using hc
    have q0 : ¬ checkV n l = 0 := hc
    clear hc
    go_wp2_with fail
    go_ret2
    refine ⟨_, by rw [HE.out]; rfl, ?_, H1.out.2⟩
    rw [HV.out]
    exact row_nil _ _ _ _
end Go.Proofs.Ytkmopcongjifmaa
