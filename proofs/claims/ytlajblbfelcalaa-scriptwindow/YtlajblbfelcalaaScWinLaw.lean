import Derived.Test.YtlajblbfelcalaaScFair
/-! ScriptWindow. -/
namespace Go.Proofs.Ytlajblbfelcalaa
set_option linter.unusedVariables false
set_option maxRecDepth 20000
open Go.RowKit Go.HeapKit Go.Sc

set_option maxHeartbeats 1600000 in
theorem named_any (a : Option Addr) (m c W v at' : Nat) (l : List Int) (w : World) (h : SeenN w a m l) (hok : ∀ x ∈ l, okI x) (h1 : 1 ≤ W) (h2 : W ≤ 64) (hat : at' ≤ m) (hm : m ≤ 400) :
    Calls Try.prog 21 #[.slice a m c, .int .i64 W, .int .i64 v, .int .i64 at'] w fun e w' => e = .returned (.int .i64 ((at' : Int) - 1 - (cur (fOf l W) v at' : Nat))) ∧ w' = w := by
  have HS : Hid (SeenN w a m l ∧ ∀ x ∈ l, okI x) := ⟨h, hok⟩
  clear h hok
  go_enter Try.func21, Try.ntmps21
  go_wp2_with fail
  go_loop [9] (fun s9 => ∃ k : Nat, s9 = .int .i64 ((k : Int) - 1) ∧ k ≤ at' ∧ cur (fOf l W) v at' = cur (fOf l W) v k + (at' - k)) (fun s9 => (intOf s9 + 1).toNat)
  case atStart => exact ⟨at', rfl, Nat.le_refl _, by omega⟩
  case round =>
    obtain ⟨k, rfl, hk, hc⟩ := hrel
    have HC : Hid (cur (fOf l W) v at' = cur (fOf l W) v k + (at' - k)) := hc
    clear hc
    by_cases h0 : 0 < k
    · obtain ⟨j, rfl⟩ : ∃ j, k = j + 1 := ⟨k - 1, by omega⟩
      obtain ⟨b, off, x, rfl, he, c1⟩ := HS.out.1.at (k := j) (by omega)
      have hxo := HS.out.2 x (List.mem_of_getElem? he)
      have hf : modN x W = fOf l W j := by
        have := fOf_mod l (show 0 < W by omega) he
        unfold Go.PlainOps.modV at this
        rw [if_neg (by omega)] at this
        unfold modN
        omega
      have HFj : Hid (fOf l W j = modN x W) := hf.symm
      have m0 : ¬ m = 0 := by omega
      have e1 : ((j + 1 : Nat) : Int) - 1 = (j : Int) := by omega
      have i1 : (j : Int) < (m : Int) := by omega
      rw [e1]
      clear he hf e1
      obtain ⟨q, hq⟩ : ∃ q, q = modN x W := ⟨_, rfl⟩
      have HQ : Hid (q = modN x W) := hq
      clear hq
      by_cases hqv : q = v
      · subst hqv
        go_wp2_with fail
        refine (lmod_any x W _ hxo (by omega) (by omega)).mono ?_
        rintro _ wz ⟨rfl, hw⟩
        have hw2 := hw.symm
        subst hw2
        clear hw
        rw [← HQ.out]
        go_wp2_with fail
        go_ret
        refine ⟨?_, rfl⟩
        have hz : cur (fOf l W) q (j + 1) = 0 := by simp only [cur]; rw [if_pos (by rw [HFj.out, HQ.out])]
        have := HC.out
        rw [hz] at this
        rw [this, show ((at' : Int) - 1 - ((0 + (at' - (j + 1)) : Nat) : Int)) = (j : Int) by omega]
        rfl
      · have i2 : ¬ (q : Int) = (v : Int) := by omega
        have i3 : ((q : Int) == (v : Int)) = false := by simpa using i2
        go_wp2_with fail
        refine (lmod_any x W _ hxo (by omega) (by omega)).mono ?_
        rintro _ wz ⟨rfl, hw⟩
        have hw2 := hw.symm
        subst hw2
        clear hw
        rw [← HQ.out]
        go_wp2_with fail
        have hz : cur (fOf l W) v (j + 1) = cur (fOf l W) v j + 1 := by simp only [cur]; rw [if_neg (by rw [HFj.out, ← HQ.out]; exact hqv)]
        exact ⟨⟨j, rfl, by omega, by rw [HC.out, hz]; omega⟩, by simp [intOf]⟩
    · obtain rfl : k = 0 := by omega
      have HE : Hid (cur (fOf l W) v at' = at') := by have := HC.out; simp only [cur] at this; show _ = _; omega
      go_wp2_with fail
      go_ret
      exact ⟨by rw [HE.out, show ((at' : Int) - 1 - (at' : Int)) = -1 by omega]; rfl, rfl⟩
theorem win_cases (l : List Int) (W : Nat) (k : Nat) (hW : 1 ≤ W) (hk : 1 ≤ k) :
    (winV l W = 0 ∧ l.length ≤ lwL l W ∧ (fairB l W k = decide (l.length < k))) ∨ (winV l W = 1 + lwL l W ∧ 1 + lwL l W ≤ l.length ∧ fairB l W k = (decide (l.length < k) || decide (1 + lwL l W ≤ k))) := by
  have hle := lwL_le l W
  unfold winV fairB
  by_cases c : l.length < 1 + lwL l W
  · refine .inl ⟨by rw [if_pos c], by omega, ?_⟩
    rw [Bool.eq_iff_iff]
    simp
    omega
  · refine .inr ⟨by rw [if_neg c], by omega, ?_⟩
    rw [Bool.eq_iff_iff]
    simp
    omega
theorem win_zero {l : List Int} {W v : Nat} (hv : v < W) (h : cur (fOf l W) v l.length = l.length) : winV l W = 0 := by
  have := lw_ge (fOf l W) hv (Nat.le_refl l.length)
  unfold winV
  rw [if_pos (by unfold lwL; omega)]
theorem win_some {l : List Int} {W : Nat} (hW : 0 < W) (h : ∀ v, v < W → cur (fOf l W) v l.length < l.length) : winV l W = 1 + lwL l W := by
  obtain ⟨v, j, hv, hj, e⟩ := lw_at (fOf l W) l.length hW
  have h1 := cur_le (fOf l W) v j
  have h2 := h v hv
  unfold winV
  rw [if_neg]
  unfold lwL
  rw [e]
  by_cases c : j = l.length
  · subst c; omega
  · omega
set_option maxHeartbeats 3200000 in
theorem scriptWindow_walk (a : Option Addr) (m0 c : Nat) (x y : Int) (l0 : List Int) (w : World) (h0 : SeenN w a m0 l0) (hmc : m0 ≤ c) (hok0 : ∀ x ∈ l0, okI x) (hs : m0 * 8 ≤ 140737488351232) (hx : okI x) (hy : okI y) :
    Calls Try.prog 6 #[.slice a m0 c, .int .i64 x, .int .i64 y] w fun e w' => e = .returned (.bool true) ∧ Below w.heap.size w w' := by
  obtain ⟨m, hme⟩ : ∃ m, m = min m0 400 := ⟨_, rfl⟩
  have HME : Hid (m = min m0 400) := hme
  have hm : m ≤ 400 := by omega
  have h := h0.take (m := m) (by omega)
  have hok : ∀ x ∈ l0.take m, okI x := fun x hx => hok0 x (List.mem_of_mem_take hx)
  generalize l0.take m = l at h hok
  clear h0 hok0 hme
  have HS : Hid (SeenN w a m l ∧ (∀ x ∈ l, okI x) ∧ okI x ∧ okI y) := ⟨h, hok, hx, hy⟩
  have hml := h.len
  clear h hok hx hy
  have hW := modN_lt x (n := 64) (by omega)
  obtain ⟨W, hWe⟩ : ∃ W, W = 1 + modN x 64 := ⟨_, rfl⟩
  have HW : Hid (W = 1 + modN x 64) := hWe
  have hK := modN_lt y (n := m + 1) (by omega)
  obtain ⟨K, hKe⟩ : ∃ K, K = 1 + modN y (m + 1) := ⟨_, rfl⟩
  have HK : Hid (K = 1 + modN y (m + 1)) := hKe
  have b1 : 1 ≤ W := by omega
  have b2 : W ≤ 64 := by omega
  have b3 : 1 ≤ K := by omega
  have b4 : K ≤ m + 1 := by omega
  have HC : Hid ((winV l W = 0 ∧ m ≤ lwL l W ∧ (fairB l W K = decide (m < K))) ∨ (winV l W = 1 + lwL l W ∧ 1 + lwL l W ≤ m ∧ fairB l W K = (decide (m < K) || decide (1 + lwL l W ≤ K)))) := by
    rw [hml]
    exact win_cases l W K b1 b3
  have hVle : winV l W ≤ m := by rcases HC.out with h | h <;> omega
  have HML : Hid (m = l.length) := hml
  clear hml hWe hKe hW hK
  have i0 : (m : Int) ≤ 400 := by omega
  go_enter Try.func6, Try.ntmps6
  go_upto_if 16 with fail
  go_cut [0] (fun s0 wx => s0 = .slice a m c ∧ wx = w)
  case first =>
    by_cases hbig : 400 < m0
    · have j1 : (400 : Int) < (m0 : Int) := by omega
      have j2 : (400 : Int) ≤ (c : Int) := by omega
      have hm4 : m = 400 := by have := HME.out; omega
      subst hm4
      clear b4 hVle HC
      go_wp2_with fail
      go_meet
      exact ⟨rfl, rfl⟩
    · have j1 : ¬ (400 : Int) < (m0 : Int) := by omega
      obtain rfl : m = m0 := by have := HME.out; omega
      go_wp2_with fail
      go_meet
      exact ⟨rfl, rfl⟩
  case rest =>
  obtain ⟨rfl, hwc⟩ := hcut
  have hwc2 := hwc.symm
  subst hwc2
  clear hwc
  go_wp2_with fail
  refine (lmod_any x 64 _ HS.out.2.2.1 (by omega) (by omega)).mono ?_
  rintro _ wz ⟨rfl, hw⟩
  have hw2 := hw.symm
  subst hw2
  clear hw
  have e1 : 1 + ((modN x 64 : Nat) : Int) = (W : Int) := by have := HW.out; omega
  have e1b := modN_lt x (n := 64) (by omega)
  generalize modN x 64 = M1 at *
  clear HW
  go_wp2_with fail
  refine (window_any a m c W l _ HS.out.1 b1 b2 (by omega)).mono ?_
  rintro _ w1 ⟨rfl, hk1⟩
  obtain ⟨V, hV⟩ : ∃ V, V = winV l W := ⟨_, rfl⟩
  have HV : Hid (V = winV l W) := hV
  rw [← hV] at hVle ⊢
  clear hV
  have HK1 : Hid (Keeps None w w1) := hk1
  clear hk1
  have i1 : ¬ (V : Int) < 0 := by omega
  have i2 : ¬ (m : Int) < (V : Int) := by omega
  go_wp2_with fail
  refine (lmod_any y (m + 1) _ HS.out.2.2.2 (by omega) (by omega)).mono ?_
  rintro _ wz ⟨rfl, hw⟩
  have hw2 := hw.symm
  subst hw2
  clear hw
  have e2 : 1 + ((modN y (m + 1) : Nat) : Int) = (K : Int) := by have := HK.out; omega
  have e2b := modN_lt y (n := m + 1) (by omega)
  generalize modN y (m + 1) = M2 at *
  clear HK
  have HF : Hid (fairB l W K = (decide (m < K) || (decide (0 < V) && decide (V ≤ K)))) := by
    have q : fairB l W K = (decide (m < K) || (decide (0 < V) && decide (V ≤ K))) := by
      rw [HV.out]
      rcases HC.out with ⟨h1, h2, h3⟩ | ⟨h1, h2, h3⟩
      · rw [h3, h1]; simp
      · have d : decide (0 < 1 + lwL l W) = true := by simp; omega
        rw [h3, h1, d, Bool.true_and]
    exact q
  have b5 : (K : Int) ≤ 401 := by omega
  go_upto_region 8 with fail
  go_cut [56] (fun s56 wx => s56 = .bool false ∧ Keeps None w wx)
  case first =>
    go_wp2_with fail
    refine (fair_any a m c W K l _ (HS.out.1.more HK1.out) b1 b2 (by omega)).mono ?_
    rintro _ w2 ⟨rfl, hk2⟩
    have HK2 : Hid (Keeps None w w2) := HK1.out.trans hk2 (fun _ f _ => f)
    clear hk2
    rw [HF.out]
    by_cases c1 : m < K
    · have j1 : (m : Int) < (K : Int) := by omega
      have d1 : decide (m < K) = true := by simpa using c1
      rw [d1, Bool.true_or]
      go_wp2_with fail
      go_meet
      exact ⟨rfl, HK2.out⟩
    · have j1 : ¬ (m : Int) < (K : Int) := by omega
      have d1 : decide (m < K) = false := by simpa using c1
      rw [d1, Bool.false_or]
      by_cases c2 : 0 < V
      · have j2 : (0 : Int) < (V : Int) := by omega
        have d2 : decide (0 < V) = true := by simpa using c2
        rw [d2, Bool.true_and]
        by_cases c3 : V ≤ K
        · have j3 : (V : Int) ≤ (K : Int) := by omega
          have d3 : decide (V ≤ K) = true := by simpa using c3
          rw [d3]
          go_wp2_with fail
          go_meet
          exact ⟨rfl, HK2.out⟩
        · have j3 : ¬ (V : Int) ≤ (K : Int) := by omega
          have d3 : decide (V ≤ K) = false := by simpa using c3
          rw [d3]
          go_wp2_with fail
          go_meet
          exact ⟨rfl, HK2.out⟩
      · have j2 : ¬ (0 : Int) < (V : Int) := by omega
        have d2 : decide (0 < V) = false := by simpa using c2
        rw [d2, Bool.false_and]
        go_wp2_with fail
        go_meet
        exact ⟨rfl, HK2.out⟩
  case rest =>
  obtain ⟨rfl, hkc⟩ := hcut
  have HS2 : Hid (SeenN wc a m l ∧ ∀ x ∈ l, okI x) := ⟨HS.out.1.more hkc, HS.out.2.1⟩
  have HB : Hid (Below w.heap.size w wc) := hkc.below _ (Nat.le_refl _) (fun _ f => f.elim)
  clear hkc HF e2 e2b e1 e1b HK1
  go_wp2_with fail
  go_loop [10, 11] (fun s10 _ => ∃ v : Nat, s10 = .int .i64 v ∧ v ≤ W ∧ ∀ u, u < v → cur (fOf l W) u m < m) (fun s10 _ => W - (intOf s10).toNat)
  case atStart => exact ⟨0, rfl, Nat.zero_le _, fun u hu => by omega⟩
  case round =>
    obtain ⟨v, rfl, hv, hall⟩ := hrel
    have HA : Hid (∀ u, u < v → cur (fOf l W) u m < m) := hall
    clear hall
    by_cases hvW : v < W
    · have j1 : (v : Int) < (W : Int) := by omega
      have hcm := cur_le (fOf l W) v m
      obtain ⟨C, hC⟩ : ∃ C, C = cur (fOf l W) v m := ⟨_, rfl⟩
      have HCm : Hid (C = cur (fOf l W) v m) := hC
      rw [← hC] at hcm
      clear hC
      go_wp2_with fail
      refine (named_any a m c W v m l _ HS2.out.1 HS2.out.2 b1 b2 (Nat.le_refl _) hm).mono ?_
      rintro _ wz ⟨rfl, hw⟩
      have hw2 := hw.symm
      subst hw2
      clear hw
      rw [← HCm.out]
      by_cases c1 : C = m
      · have j2 : (m : Int) - 1 - (C : Int) < 0 := by omega
        have hV0 : V = 0 := by
          rw [HV.out]
          refine win_zero hvW ?_
          rw [← HML.out, ← HCm.out]
          exact c1
        subst hV0
        clear c1
        go_wp2_with fail
        go_ret
        exact ⟨rfl, HB.out⟩
      · have j2 : ¬ (m : Int) - 1 - (C : Int) < 0 := by omega
        go_wp2_with fail
        exact ⟨⟨v + 1, by go_num, by omega, fun u hu => by
          by_cases e : u = v
          · subst e; rw [← HCm.out]; omega
          · exact HA.out u (by omega)⟩, by simp [intOf]; omega⟩
    · have j1 : ¬ (v : Int) < (W : Int) := by omega
      obtain rfl : v = W := by omega
      have HV2 : Hid (V = 1 + lwL l v) := by
        have := win_some (l := l) (W := v) (by omega) (by rw [← HML.out]; exact HA.out)
        rw [HV.out, this]
        exact rfl
      have hV1 : 1 ≤ V := by rw [HV2.out]; omega
      have j2 : ((V : Int) == 0) = false := by simp; omega
      have j3 : ¬ (V : Int) = 0 := by omega
      go_wp2_with fail
      go_loop [12, 13] (fun s12 _ => ∃ u : Nat, s12 = .int .i64 u ∧ u ≤ v) (fun s12 _ => v - (intOf s12).toNat)
      case atStart => exact ⟨0, rfl, Nat.zero_le _⟩
      case round =>
        obtain ⟨u, rfl, hu⟩ := hrel
        by_cases huW : u < v
        · have k1 : (u : Int) < (v : Int) := by omega
          go_wp2_with fail
          go_loop [13] (fun s13 => ∃ t : Nat, s13 = .int .i64 t ∧ V ≤ t ∧ t ≤ m + 1) (fun s13 => m + 1 - (intOf s13).toNat)
          case atStart => exact ⟨V, rfl, Nat.le_refl _, by omega⟩
          case round =>
            obtain ⟨t, rfl, ht1, ht2⟩ := hrel
            by_cases htm : t ≤ m
            · have k2 : (t : Int) ≤ (m : Int) := by omega
              have hct := lw_ge (fOf l v) huW (k := m) (j := t) htm
              have hV3 : V = 1 + lw (fOf l v) v m := by rw [HV2.out]; unfold lwL; rw [← HML.out]
              obtain ⟨C, hC⟩ : ∃ C, C = cur (fOf l v) u t := ⟨_, rfl⟩
              have HCm : Hid (C = cur (fOf l v) u t) := hC
              have k3 : C + 1 ≤ V := by omega
              have k4 : ¬ (t : Int) - 1 - (C : Int) < (t : Int) - (V : Int) := by omega
              have k5 := cur_le (fOf l v) u t
              rw [← hC] at k5
              clear hC hV3 hct
              go_wp2_with fail
              refine (named_any a m c v u t l _ HS2.out.1 HS2.out.2 b1 b2 htm hm).mono ?_
              rintro _ wz ⟨rfl, hw⟩
              have hw2 := hw.symm
              subst hw2
              clear hw
              rw [← HCm.out]
              go_wp2_with fail
              exact ⟨⟨t + 1, by go_num, by omega, by omega⟩, by simp [intOf]; omega⟩
            · have k2 : ¬ (t : Int) ≤ (m : Int) := by omega
              go_wp2_with fail
              exact ⟨⟨u + 1, by go_num, by omega⟩, by simp [intOf]; omega⟩
        · have k1 : ¬ (u : Int) < (v : Int) := by omega
          go_wp2_with fail
          go_ret
          exact ⟨rfl, HB.out⟩
end Go.Proofs.Ytlajblbfelcalaa
