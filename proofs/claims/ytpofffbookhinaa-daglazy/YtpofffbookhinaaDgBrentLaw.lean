import Derived.Test.YtpofffbookhinaaDgListed
/-! DagBrent. -/
namespace Go.Proofs.Ytpofffbookhinaa
set_option linter.unusedVariables false
set_option maxRecDepth 20000
open Go.RowKit Go.HeapKit

theorem cnt_congr {n : Nat} {T T' : Nat → Int} (e : ∀ i, i < n → T' i = T i) (t : Int) : cntAt n T' t = cntAt n T t := by
  unfold cntAt
  congr 1
  apply List.filter_congr
  intro i hi
  rw [e i (List.mem_range.1 hi)]
theorem Grdy.congr {n P : Nat} {l : List Ed} {T T' : Nat → Int} {len : Nat} (h : Grdy n P l T len) (hd : Dag (n : Int) l) (e : ∀ i, i < n → T' i = T i) : Grdy n P l T' len := by
  refine ⟨⟨fun i hi => by rw [e i hi]; exact h.sch.one i hi, fun t => by rw [cnt_congr e]; exact h.sch.most t, fun d he => ?_⟩, fun i hi => by rw [e i hi]; exact h.top i hi, fun t h1 h2 => ?_⟩
  · have := hd.ok d he
    rw [e _ (by omega), e _ (by omega)]
    exact h.sch.edge d he
  · rw [cnt_congr e]
    rcases h.full t h1 h2 with h3 | h3
    · exact .inl h3
    · refine .inr (fun i hi h4 h5 => h3 i hi (by rw [← e i hi]; exact h4) (fun a ha => ?_))
      obtain ⟨d, hd1, e1, e2⟩ := mem_bef.1 ha
      have hok := hd.ok d hd1
      have := h5 a ha
      rw [e _ (by omega)] at this
      exact this
theorem brent_plain {n P : Nat} {l : List Ed} {T : Nat → Int} {t0 : Nat} (hd : Dag (n : Int) l) (h1 : 1 ≤ P) (hL : Lst n P l T t0 0) (hz0 : ∀ i, i < n → T i ≠ 0) (zs : List Int) (hz : zs = (List.range n).map T) (t S : Nat) (ht : grt zs = t) (hS : spanV n l = S) :
    isSched P zs l ∧ grOk P zs l zs.length ∧ S ≤ t ∧ n ≤ P * t ∧ P * t ≤ n + (P - 1) * S ∧ t ≤ n := by
  have hlen : zs.length = n := by rw [hz]; simp
  have hT : ∀ i, i < n → T i ≤ t := by
    intro i hi
    have := (grt_ge zs).2 (T i) (by rw [hz]; exact List.mem_map.2 ⟨i, List.mem_range.2 hi, rfl⟩)
    omega
  have hG := (hL.grdy hd hz0 t hT).congr (T' := tm zs) hd (fun i hi => by rw [hz]; exact tm_map n T i hi)
  have hg : isSched P zs l ∧ grOk P zs l zs.length := gr_of (len := t) h1 (by rw [hlen]; exact hd) (by rw [hlen]; exact hG)
  have h2 := judged_sched hd hlen h1 hg.1 t S ht hS
  have h3 := judged_gr hd hlen h1 hg.1 hg.2 t S ht hS
  exact ⟨hg.1, hg.2, h2.1, h2.2.1, h3.2, h3.1⟩
set_option maxHeartbeats 1600000 in
theorem length_same (a : Option Addr) (n c : Nat) (zs : List Int) (w : World) (h : SeenZ w a n zs) (hn : n ≤ 4096) (t : Nat) (ht : grt zs = t) : Calls Try.prog 14 #[.slice a n c] w fun e w' => e = .returned (.int .i64 t) ∧ w' = w := by
  have HS : Hid (SeenZ w a n zs) := h
  have HL : Hid (n = zs.length) := h.len
  have HT : Hid (grt zs = t) := ht
  clear h ht
  go_enter Try.func14, Try.ntmps14
  go_wp2_with fail
  go_loopw [4, 3] (fun s4 s3 wr => ∃ (k : Nat) (y : Int), s4 = .int .i64 k ∧ s3 = .int .i64 y ∧ k ≤ n ∧ y = grt (zs.take k) ∧ wr = w) (fun s4 _ _ => n - (intOf s4).toNat)
  case atStart => exact ⟨0, 0, rfl, rfl, Nat.zero_le _, rfl, rfl⟩
  case round =>
    obtain ⟨k, y, rfl, rfl, hk, hy, hkp⟩ := hrel
    have hkp2 := hkp.symm
    subst hkp2
    clear hkp
    have HY : Hid (y = grt (zs.take k)) := hy
    clear hy
    by_cases hlt : k < n
    · have i1 : (k : Int) < (n : Int) := by omega
      have n0 : ¬ n = 0 := by omega
      obtain ⟨b, off, x, rfl, hx, _, e0⟩ := HS.out.at hlt
      have HX : Hid (grt (zs.take (k + 1)) = max y x) := by
        show _ = _
        rw [List.take_add_one, hx, HY.out]
        exact grt_snoc _ _
      clear hx
      go_wp2_with fail
      exact ⟨⟨k + 1, max y x, by go_num, rfl, by omega, HX.out.symm, trivial⟩, by simp [intOf]; omega⟩
    · have i1 : ¬ (k : Int) < (n : Int) := by omega
      have HX : Hid (y = grt zs) := by
        have h1 := HY.out
        rw [show k = zs.length by have := HL.out; omega, List.take_length] at h1
        exact h1
      go_wp2_with fail
      go_ret
      exact ⟨by rw [← HT.out, ← HX.out]; rfl, rfl⟩
set_option maxHeartbeats 3200000 in
theorem dagBrent_walk (n : Int) (a : Option Addr) (m c : Nat) (l : List Ed) (q : Int) (oa : Option Addr) (ol oc : Nat) (os : List Int) (w : World) (o : okI n) (oq : okI q) (h : SeenE w a m l) (hok : ∀ e ∈ l, okI e.f ∧ okI e.t) (hos : SeenZ w oa ol os) :
    Calls Try.prog 4 #[.int .i64 n, .slice a m c, .int .i64 q, .slice oa ol oc] w fun e w' => e = .returned (.bool true) ∧ Keeps None w w' := by
  have HS : Hid (SeenE w a m l ∧ (∀ e ∈ l, okI e.f ∧ okI e.t) ∧ okI q) := ⟨h, hok, oq⟩
  have HO : Hid (SeenZ w oa ol os) := hos
  clear h hok oq hos
  go_enter Try.func4, Try.ntmps4
  go_wp2_with fail
  refine (fit_any n a m c l _ o HS.out.1 HS.out.2.1).mono ?_
  rintro _ w2 ⟨sa, k, sc, rfl, hrow, hk⟩
  have hN := modN_lt n (n := 201) (by omega)
  obtain ⟨N, hNe⟩ : ∃ N, N = modN n 201 := ⟨_, rfl⟩
  rw [← hNe] at hN hrow ⊢
  have hD := fit_dag N l (by omega)
  obtain ⟨L, hL⟩ : ∃ L, L = fitL N l := ⟨_, rfl⟩
  rw [← hL] at hrow hD
  have HD : Hid (Dag (N : Int) L) := hD
  have hks : k * 16 ≤ 140737488351232 := by
    have h1 := hrow.1
    rw [edVals_length] at h1
    have h2 := hD.len
    omega
  obtain ⟨p, hp⟩ : ∃ p, p = w2.heap.size := ⟨_, rfl⟩
  have hkA := Keeps.alloc None w2 (.cells #[.int .i64 N, .slice sa k sc] 25)
  have H1 : Hid (SeenE (w2.alloc (.cells #[.int .i64 N, .slice sa k sc] 25)) sa k L ∧ (w2.alloc (.cells #[.int .i64 N, .slice sa k sc] 25)).heap[p]? = some (.cells #[.int .i64 N, .slice sa k sc] 25 (0, 0)) ∧ Keeps None w (w2.alloc (.cells #[.int .i64 N, .slice sa k sc] 25))) :=
    ⟨(row_seen hrow).more hkA, blk_new _ _ _ hp.symm, hk.trans hkA (fun _ f _ => f)⟩
  unfold dagV
  clear hrow hk hkA hL hD hNe o
  go_wp2_with fail
  refine (mod_any q 64 _ HS.out.2.2 (by omega) (by omega)).mono ?_
  rintro _ wz ⟨rfl, hw⟩
  have hw2 := hw.symm
  subst hw2
  clear hw
  have hM := modN_lt q (n := 64) (by omega)
  obtain ⟨M, hMe⟩ : ∃ M, M = modN q 64 := ⟨_, rfl⟩
  rw [← hMe] at hM ⊢
  obtain ⟨P, hPe⟩ : ∃ P, P = M + 1 := ⟨_, rfl⟩
  have HPE : Hid ((1 : Int) + (M : Int) = (P : Int)) := by show _ = _; omega
  have hP1 : 1 ≤ P := by omega
  have hP2 : P ≤ 64 := by omega
  rw [← hp]
  clear hMe HS hp
  generalize w2.alloc (.cells #[.int .i64 N, .slice sa k sc] 25) = wa at H1 ⊢
  have d0 : wa.cell? ⟨p, 0, none⟩ = some (.int .i64 N) := (blk_cell H1.out.2.1 0).trans rfl
  have d1 : wa.cell? ⟨p, 1, none⟩ = some (.slice sa k sc) := (blk_cell H1.out.2.1 1).trans rfl
  clear hPe
  go_wp2_with fail
  rw [HPE.out]
  clear HPE
  refine (listed_any N sa k sc L P oa ol oc os wa H1.out.1 (HO.out.more H1.out.2.2) HD.out hP1 hP2).mono ?_
  rintro _ w3 ⟨g, T, t0, rfl, hNT, hgw, hLst, hnz, hk3⟩
  obtain ⟨zs, hzs⟩ : ∃ zs, zs = (List.range N).map T := ⟨_, rfl⟩
  have hr := hNT.row 0 (Nat.zero_le _) (by omega)
  rw [← hzs] at hr
  have hoz : ∀ x ∈ zs, okI x := by
    intro x hx
    rw [hzs, List.mem_map] at hx
    obtain ⟨i, hi, rfl⟩ := hx
    obtain ⟨t9, ht9⟩ : ∃ t : Nat, grt zs = t := Int.eq_ofNat_of_zero_le (grt_ge zs).1
    obtain ⟨S9, hS9⟩ : ∃ S : Nat, spanV N L = S := Int.eq_ofNat_of_zero_le (crit_len N L).1
    have h2 := (brent_plain HD.out hP1 hLst hnz zs hzs t9 S9 ht9 hS9).2.2.2.2.2
    have h3 := (grt_ge zs).2 (T i) (by rw [hzs]; exact List.mem_map.2 ⟨i, hi, rfl⟩)
    have h4 := hLst.rng i (List.mem_range.1 hi)
    unfold okI
    omega
  have H2 : Hid (SeenE w3 sa k L ∧ w3.heap[p]? = some (.cells #[.int .i64 N, .slice sa k sc] 25 (0, 0)) ∧ Keeps None w w3 ∧ SeenZ w3 (some ⟨g, 0, none⟩) N zs) :=
    ⟨H1.out.1.more hk3, blk_kept H1.out.2.1 hk3 (fun f => f), H1.out.2.2.trans hk3 (fun _ f _ => f), row_seenZ hr hoz⟩
  obtain ⟨t, htt⟩ : ∃ t : Nat, grt zs = t := Int.eq_ofNat_of_zero_le (grt_ge zs).1
  obtain ⟨S, hSS⟩ : ∃ S : Nat, spanV N L = S := Int.eq_ofNat_of_zero_le (crit_len N L).1
  have hS4 : S ≤ 4096 := by have := (crit_len N L).2; unfold spanV at hSS; omega
  have hpl := brent_plain HD.out hP1 hLst hnz zs hzs t S htt hSS
  have HP : Hid ((isSched P zs L ∧ grOk P zs L zs.length ∧ S ≤ t ∧ N ≤ P * t ∧ P * t ≤ N + (P - 1) * S ∧ t ≤ N) ∧ grt zs = t ∧ spanV N L = S) := ⟨hpl, htt, hSS⟩
  have ht4 : t ≤ 4096 := by have := hpl.2.2.2.2.2; omega
  clear hr hk3 H1 d0 d1 hoz hzs hpl htt hSS hNT hgw hLst hnz
  have d0 : w3.cell? ⟨p, 0, none⟩ = some (.int .i64 N) := (blk_cell H2.out.2.1 0).trans rfl
  have d1 : w3.cell? ⟨p, 1, none⟩ = some (.slice sa k sc) := (blk_cell H2.out.2.1 1).trans rfl
  go_wp2_with fail
  refine (judge_any N sa k sc L P ⟨hP1, hP2⟩ (some ⟨g, 0, none⟩) N zs w3 H2.out.1 H2.out.2.2.2 (dag_check HD.out)).mono ?_
  rintro _ w4 ⟨jv, rfl, hj, hk4⟩
  have hj2 : jv = 2 := by
    rcases hj with h | h | h
    · exact absurd HP.out.1.1 h.2
    · exact absurd HP.out.1.2.1 h.2.2
    · exact h.1
  rw [hj2]
  have H3 : Hid (SeenE w4 sa k L ∧ w4.heap[p]? = some (.cells #[.int .i64 N, .slice sa k sc] 25 (0, 0)) ∧ Keeps None w w4 ∧ SeenZ w4 (some ⟨g, 0, none⟩) N zs) :=
    ⟨H2.out.1.more hk4, blk_kept H2.out.2.1 hk4 (fun f => f), H2.out.2.2.1.trans hk4 (fun _ f _ => f), H2.out.2.2.2.more hk4⟩
  clear hj hj2 hk4 H2 d0 d1
  have d0 : w4.cell? ⟨p, 0, none⟩ = some (.int .i64 N) := (blk_cell H3.out.2.1 0).trans rfl
  have d1 : w4.cell? ⟨p, 1, none⟩ = some (.slice sa k sc) := (blk_cell H3.out.2.1 1).trans rfl
  go_wp2_with fail
  refine (span_any (N : Int) sa k sc L w4 H3.out.1 hks).mono ?_
  rintro _ w5 ⟨rfl, hk5⟩
  rw [dag_check HD.out, HP.out.2.2]
  have H4 : Hid (w5.heap[p]? = some (.cells #[.int .i64 N, .slice sa k sc] 25 (0, 0)) ∧ Keeps None w w5 ∧ SeenZ w5 (some ⟨g, 0, none⟩) N zs) :=
    ⟨blk_kept H3.out.2.1 hk5 (fun f => f), H3.out.2.2.1.trans hk5 (fun _ f _ => f), H3.out.2.2.2.more hk5⟩
  clear hk5 H3 d0 d1
  have d0 : w5.cell? ⟨p, 0, none⟩ = some (.int .i64 N) := (blk_cell H4.out.1 0).trans rfl
  go_wp2_with fail
  have hln := fun wz (hk : Keeps None w5 wz) => length_same (some ⟨g, 0, none⟩) N N zs wz (H4.out.2.2.more hk) (by omega) t HP.out.2.1
  have hbd : ∀ wz, Calls Try.prog 13 #[.int .i64 N, .int .i64 S, .int .i64 P, .int .i64 t] wz fun e w' => e = .returned (.bool true) ∧ w' = wz := by
    intro wz
    refine bounds_any (N : Int) S P t wz (by omega) (by omega) (by omega) (by omega) (by have := HP.out.1.2.2.1; omega) ?_ ?_
    · have h1 := HP.out.1.2.2.2.1
      rw [← Int.natCast_mul]
      omega
    · have h1 := HP.out.1.2.2.2.2.1
      have e : (P : Int) - 1 = ((P - 1 : Nat) : Int) := by omega
      rw [e, ← Int.natCast_mul, ← Int.natCast_mul]
      omega
  have H5 : Hid (Keeps None w w5) := H4.out.2.1
  go_region_held3 (fun w' => w'.cell? ⟨p, 0, none⟩ = some (.int .i64 N)) (go_keep) (first
    | (go_at_call 14; refine (hln _ (Keeps.drew None w5)).mono ?_; rintro _ w9 ⟨rfl, hw⟩; have hw2 := hw.symm; subst hw2; clear hw)
    | (go_at_call 13; refine (hbd _).mono ?_; rintro _ w9 ⟨rfl, hw⟩; have hw2 := hw.symm; subst hw2; clear hw))
  all_goals go_wp2_with fail
  all_goals go_ret
  all_goals exact ⟨rfl, H5.out.andDrew⟩
end Go.Proofs.Ytpofffbookhinaa
