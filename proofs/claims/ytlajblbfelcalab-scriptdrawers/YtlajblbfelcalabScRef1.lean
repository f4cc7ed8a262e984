import Derived.Test.YtlajblbfelcalabScFair
import Derived.Test.YtlajblbfelcalabRefWorkWalks
import Derived.Test.YtlajblbfelcalabRefModWalks
/-! The document's seeded row, Fair and Window. -/
namespace Go.Proofs.Ytlajblbfelcalab
set_option linter.unusedVariables false
set_option maxRecDepth 20000
open Go.RowKit Go.HeapKit Go.Sc

theorem wrap_ok (x : Int) : -9223372036854775808 ≤ wrap64 x ∧ wrap64 x ≤ 9223372036854775807 := by unfold wrap64; omega
theorem nx_ok (x : Int) : -9223372036854775808 ≤ nx x ∧ nx x ≤ 9223372036854775807 := wrap_ok _
theorem seedK_ok (s : Int) (h : okI s) (k : Nat) : okI (seedK s k) := by
  cases k with
  | zero => exact h
  | succ k => exact nx_ok _
theorem rnext_any (x : Int) (w : World) : Calls Try.prog 41 #[.int .i64 x] w fun e w' => e = .returned (.int .i64 (nx x)) ∧ w' = w := by
  go_enter Try.func41, Try.ntmps41
  go_wp2
  go_ret
  exact ⟨rfl, rfl⟩
theorem refApply9 (a : Int) (w : World) (h : okI a) : Calls Try.prog 49 #[.int .i64 9, .int .i64 a, .int .i64 33] w fun e w' => e = .returned (.tuple #[.int .i64 (num a), .int .i64 0]) ∧ w' = w := by
  have hw := refWork9 a 33 w h.1 h.2
  have e : Go.PlainOps.shrV a 33 = num a := by unfold Go.PlainOps.shrV num; rfl
  rw [e] at hw
  have HW : Hid (Calls Try.prog 50 #[.int .i64 9, .int .i64 a, .int .i64 33] w fun e w' => e = .returned (.int .i64 (num a)) ∧ w' = w) := hw
  clear hw e
  go_enter Try.func49, Try.ntmps49
  go_wp2_with fail
  refine HW.out.mono ?_
  rintro _ wz ⟨rfl, hw⟩
  have hw2 := hw.symm
  subst hw2
  clear hw
  go_wp2_with fail
  go_ret2
  exact ⟨rfl, rfl⟩
theorem rnumber_any (x : Int) (w : World) (h : okI x) : Calls Try.prog 42 #[.int .i64 x] w fun e w' => e = .returned (.int .i64 (num x)) ∧ w' = w := by
  have HA : Hid (okI x) := h
  have hn := num_range x h.1 h.2
  go_enter Try.func42, Try.ntmps42
  go_wp2_with fail
  refine (refApply9 x _ HA.out).mono ?_
  rintro _ wz ⟨rfl, hw⟩
  have hw2 := hw.symm
  subst hw2
  clear hw
  obtain ⟨y, hy⟩ : ∃ y, y = num x := ⟨_, rfl⟩
  have HY : Hid (y = num x) := hy
  rw [← hy] at hn ⊢
  clear hy
  go_wp2_with fail
  go_ret
  exact ⟨by rw [← HY.out]; rfl, rfl⟩
theorem rfair_bad (a : Option Addr) (m c : Nat) (x win : Int) (w : World) (hg : goodB x = false) :
    Calls Try.prog 17 #[.slice a m c, .int .i64 x, .int .i64 win] w fun e w' => e = .returned (.bool false) ∧ w' = w := by
  go_enter Try.func17, Try.ntmps17
  go_wp2_with (go_at_call 39; refine (rgood_any _ _).mono ?_; rintro _ wz ⟨rfl, hw⟩; have hw2 := hw.symm; subst hw2; clear hw; rw [hg])
  go_ret
  exact ⟨rfl, rfl⟩
set_option maxHeartbeats 1600000 in
theorem rfair_any (a : Option Addr) (m c W : Nat) (win : Int) (l : List Int) (w : World) (h : SeenN w a m l) (h1 : 1 ≤ W) (h2 : W ≤ 64) (hs : m * 8 ≤ 140737488351232) :
    Calls Try.prog 17 #[.slice a m c, .int .i64 W, .int .i64 win] w fun e w' => e = .returned (.bool (fairB l W win)) ∧ w' = w := by
  have HS : Hid (SeenN w a m l) := h
  have hg := goodB_t (x := (W : Int)) (by omega) (by omega)
  have HL : Hid (lwL l W = lw (fOf l W) W m) := by rw [h.len]; exact rfl
  clear h
  by_cases hw1 : win < 1
  · have e : fairB l W win = false := by simp [fairB]; omega
    rw [e]
    clear e
    go_enter Try.func17, Try.ntmps17
    go_wp2_with (go_at_call 39; refine (rgood_any _ _).mono ?_; rintro _ wz ⟨rfl, hw⟩; have hw2 := hw.symm; subst hw2; clear hw; rw [hg])
    go_ret
    exact ⟨rfl, rfl⟩
  · by_cases hw2 : (m : Int) < win
    · have e : fairB l W win = true := by
        have := lw_le (fOf l W) W m
        simp [fairB]
        rw [HL.out]
        omega
      rw [e]
      clear e
      go_enter Try.func17, Try.ntmps17
      go_wp2_with (go_at_call 39; refine (rgood_any _ _).mono ?_; rintro _ wz ⟨rfl, hw⟩; have hw2 := hw.symm; subst hw2; clear hw; rw [hg])
      go_ret
      exact ⟨rfl, rfl⟩
    · obtain ⟨V, rfl⟩ := Int.eq_ofNat_of_zero_le (show 0 ≤ win by omega)
      have hV1 : 1 ≤ V := by omega
      have hVm : V ≤ m := by omega
      clear hw1 hw2
      have i0 : ¬ (V : Int) < 1 := by omega
      have i1 : ¬ (m : Int) < (V : Int) := by omega
      have HF : Hid (∀ v k, v < W → k ≤ m → V ≤ cur (fOf l W) v k → fairB l W V = false) := by
        intro v k hv hk hc
        have := lw_ge (fOf l W) hv hk
        simp [fairB]
        rw [HL.out]
        omega
      have HT : Hid ((∀ v, v < W → best (fOf l W) v m < V) → fairB l W V = true) := by
        intro hall
        obtain ⟨v, hv, e⟩ := top_at (fun v => best (fOf l W) v m) (show 0 < W by omega)
        have := hall v hv
        have e2 : lw (fOf l W) W m = best (fOf l W) v m := e
        simp [fairB]
        rw [HL.out, e2]
        omega
      go_enter Try.func17, Try.ntmps17
      go_wp2_with (go_at_call 39; refine (rgood_any _ _).mono ?_; rintro _ wz ⟨rfl, hw⟩; have hw2 := hw.symm; subst hw2; clear hw; rw [hg])
      go_loop [7, 8, 9] (fun s7 _ _ => ∃ v : Nat, s7 = .int .i64 v ∧ v ≤ W ∧ ∀ u, u < v → best (fOf l W) u m < V) (fun s7 _ _ => W - (intOf s7).toNat)
      case atStart => exact ⟨0, rfl, Nat.zero_le _, fun u hu => by omega⟩
      case round =>
        obtain ⟨v, rfl, hv, hall⟩ := hrel
        have HA : Hid (∀ u, u < v → best (fOf l W) u m < V) := hall
        clear hall
        by_cases hvW : v < W
        · have j1 : (v : Int) < (W : Int) := by omega
          go_wp2_with fail
          go_loop [9, 8] (fun s9 s8 => ∃ k : Nat, s9 = .int .i64 k ∧ k ≤ m ∧ s8 = .int .i64 (cur (fOf l W) v k : Nat) ∧ best (fOf l W) v k < V) (fun s9 _ => m - (intOf s9).toNat)
          case atStart => exact ⟨0, rfl, Nat.zero_le _, rfl, by simp [best]; omega⟩
          case round =>
            obtain ⟨k, rfl, hk, rfl, hbest⟩ := hrel
            have HB : Hid (best (fOf l W) v k < V) := hbest
            clear hbest
            by_cases hkm : k < m
            · obtain ⟨b, off, x, rfl, he, c1⟩ := HS.out.at hkm
              have HM : Hid (Go.PlainOps.modV x W = (fOf l W k : Int)) := fOf_mod l (by omega) he
              have m0 : ¬ m = 0 := by omega
              have j2 : (k : Int) < (m : Int) := by omega
              have hcl := cur_le (fOf l W) v k
              have HC : Hid (cur (fOf l W) v (k + 1) = if fOf l W k = v then 0 else cur (fOf l W) v k + 1) := rfl
              have HBB : Hid (best (fOf l W) v (k + 1) = max (best (fOf l W) v k) (cur (fOf l W) v (k + 1))) := rfl
              obtain ⟨p, hp⟩ : ∃ p, p = fOf l W k := ⟨_, rfl⟩
              rw [← hp] at HM HC
              obtain ⟨C, hC⟩ : ∃ C, C = cur (fOf l W) v k := ⟨_, rfl⟩
              rw [← hC] at HC hcl ⊢
              clear he hp hC
              by_cases hpv : p = v
              · subst hpv
                rw [if_pos rfl] at HC
                go_wp2_with fail
                refine (refMod_any x W _ (by omega)).mono ?_
                rintro _ wz ⟨rfl, hw⟩
                have hw2 := hw.symm
                subst hw2
                clear hw
                rw [HM.out]
                have j3 : ¬ (V : Int) ≤ 0 := by omega
                go_wp2_with fail
                exact ⟨⟨k + 1, by go_num, by omega, by rw [HC.out]; rfl, by rw [HBB.out, HC.out]; have := HB.out; omega⟩, by simp [intOf]; omega⟩
              · rw [if_neg hpv] at HC
                have j3 : ¬ (p : Int) = (v : Int) := by omega
                have j4 : ((p : Int) == (v : Int)) = false := by simpa using j3
                by_cases hq : V ≤ C + 1
                · have j5 : (V : Int) ≤ (C : Int) + 1 := by omega
                  have hf := HF.out v (k + 1) hvW (by omega) (by rw [HC.out]; exact hq)
                  have HFF : Hid (fairB l W V = false) := hf
                  clear hf
                  go_wp2_with fail
                  refine (refMod_any x W _ (by omega)).mono ?_
                  rintro _ wz ⟨rfl, hw⟩
                  have hw2 := hw.symm
                  subst hw2
                  clear hw
                  rw [HM.out]
                  go_wp2_with fail
                  go_ret
                  exact ⟨by rw [HFF.out]; rfl, rfl⟩
                · have j5 : ¬ (V : Int) ≤ (C : Int) + 1 := by omega
                  go_wp2_with fail
                  refine (refMod_any x W _ (by omega)).mono ?_
                  rintro _ wz ⟨rfl, hw⟩
                  have hw2 := hw.symm
                  subst hw2
                  clear hw
                  rw [HM.out]
                  go_wp2_with fail
                  exact ⟨⟨k + 1, by go_num, by omega, by rw [HC.out]; go_num, by rw [HBB.out, HC.out]; have := HB.out; omega⟩, by simp [intOf]; omega⟩
            · have j2 : ¬ (k : Int) < (m : Int) := by omega
              obtain rfl : k = m := by omega
              go_wp2_with fail
              exact ⟨⟨v + 1, by go_num, by omega, fun u hu => by
                by_cases e : u = v
                · subst e; exact HB.out
                · exact HA.out u (by omega)⟩, by simp [intOf]; omega⟩
        · have j1 : ¬ (v : Int) < (W : Int) := by omega
          obtain rfl : v = W := by omega
          go_wp2_with fail
          go_ret
          exact ⟨by rw [HT.out HA.out]; rfl, rfl⟩
theorem rwindow_bad (a : Option Addr) (m c : Nat) (x : Int) (w : World) (hg : goodB x = false) (hs : m * 8 ≤ 140737488351232) :
    Calls Try.prog 18 #[.slice a m c, .int .i64 x] w fun e w' => e = .returned (.int .i64 0) ∧ w' = w := by
  by_cases h0 : m = 0
  · subst h0
    go_enter Try.func18, Try.ntmps18
    go_wp2_with fail
    go_ret
    exact ⟨rfl, rfl⟩
  · have j0 : ((m : Int) == 0) = false := by simp; omega
    have j1 : ¬ (m : Int) = 0 := by omega
    go_enter Try.func18, Try.ntmps18
    go_wp2_with fail
    refine (rfair_bad a m c x m _ hg).mono ?_
    rintro _ wz ⟨rfl, hw⟩
    have hw2 := hw.symm
    subst hw2
    clear hw
    go_wp2_with fail
    go_ret
    exact ⟨rfl, rfl⟩
set_option maxHeartbeats 1600000 in
theorem rwindow_any (a : Option Addr) (m c W : Nat) (l : List Int) (w : World) (h : SeenN w a m l) (h1 : 1 ≤ W) (h2 : W ≤ 64) (hs : m * 8 ≤ 140737488351232) :
    Calls Try.prog 18 #[.slice a m c, .int .i64 W] w fun e w' => e = .returned (.int .i64 (winV l W : Nat)) ∧ w' = w := by
  have HS : Hid (SeenN w a m l) := h
  have hle := lwL_le l W
  have HV : Hid (winV l W = if m < 1 + lwL l W then 0 else 1 + lwL l W) := by rw [h.len]; exact rfl
  rw [← h.len] at hle
  clear h
  by_cases h0 : m = 0
  · subst h0
    have HV0 : Hid (winV l W = 0) := by rw [HV.out, if_pos (by omega)]; exact rfl
    go_enter Try.func18, Try.ntmps18
    go_wp2_with fail
    go_ret
    exact ⟨by rw [HV0.out]; rfl, rfl⟩
  · have j0 : ((m : Int) == 0) = false := by simp; omega
    have j1 : ¬ (m : Int) = 0 := by omega
    have HFm : Hid (∀ V : Nat, fairB l W V = decide (lwL l W < V)) := by intro V; unfold fairB; rw [Bool.eq_iff_iff]; simp
    by_cases hf : lwL l W < m
    · have hfm : fairB l W (m : Nat) = true := by rw [HFm.out]; simpa using hf
      have HFM : Hid (fairB l W (m : Nat) = true) := hfm
      have HV0 : Hid (winV l W = lwL l W + 1) := by rw [HV.out, if_neg (by omega), Nat.add_comm]; exact rfl
      clear hfm HV
      obtain ⟨L, hL⟩ : ∃ L, L = lwL l W := ⟨_, rfl⟩
      rw [← hL] at HFm HV0 hf hle
      clear hL
      go_enter Try.func18, Try.ntmps18
      go_wp2_with fail
      refine (rfair_any a m c W m l _ HS.out h1 h2 hs).mono ?_
      rintro _ wz ⟨rfl, hw⟩
      have hw2 := hw.symm
      subst hw2
      clear hw
      rw [HFM.out]
      go_wp2_with fail
      go_loop [6, 7, 8] (fun s6 s7 _ => ∃ lo hi : Nat, s6 = .int .i64 lo ∧ s7 = .int .i64 hi ∧ lo ≤ L ∧ L < hi ∧ hi ≤ m) (fun s6 s7 _ => (intOf s7).toNat - (intOf s6).toNat)
      case atStart => exact ⟨0, m, rfl, rfl, Nat.zero_le _, hf, Nat.le_refl _⟩
      case round =>
        obtain ⟨lo, hi, rfl, rfl, q1, q2, q3⟩ := hrel
        by_cases hgo : 1 < hi - lo
        · have k1 : (1 : Int) < (hi : Int) - (lo : Int) := by omega
          obtain ⟨M, hM⟩ : ∃ M, M = lo + (hi - lo) / 2 := ⟨_, rfl⟩
          have k2 : (lo : Int) + ((hi : Int) - (lo : Int)) / 2 = (M : Int) := by omega
          have k3 : lo < M ∧ M < hi := by omega
          have k4 : 0 ≤ ((hi : Int) - (lo : Int)) / 2 := by omega
          have k5 : ((hi : Int) - (lo : Int)) / 2 ≤ m := by omega
          have HFM2 : Hid (fairB l W (M : Nat) = decide (L < M)) := HFm.out M
          clear hM
          by_cases hLM : L < M
          · have d1 : decide (L < M) = true := by simpa using hLM
            go_wp2_with fail
            refine (rfair_any a m c W M l _ HS.out h1 h2 hs).mono ?_
            rintro _ wz ⟨rfl, hw⟩
            have hw2 := hw.symm
            subst hw2
            clear hw
            rw [HFM2.out, d1]
            go_wp2_with fail
            exact ⟨⟨lo, M, rfl, rfl, by omega, by omega, by omega⟩, by simp [intOf]; omega⟩
          · have d1 : decide (L < M) = false := by simpa using hLM
            go_wp2_with fail
            refine (rfair_any a m c W M l _ HS.out h1 h2 hs).mono ?_
            rintro _ wz ⟨rfl, hw⟩
            have hw2 := hw.symm
            subst hw2
            clear hw
            rw [HFM2.out, d1]
            go_wp2_with fail
            exact ⟨⟨M, hi, rfl, rfl, by omega, by omega, by omega⟩, by simp [intOf]; omega⟩
        · have k1 : ¬ (1 : Int) < (hi : Int) - (lo : Int) := by omega
          have k2 : hi = L + 1 := by omega
          have HK2 : Hid (hi = L + 1) := k2
          clear k2
          go_wp2_with fail
          go_ret
          exact ⟨by rw [HV0.out, HK2.out]; rfl, rfl⟩
    · have hfm : fairB l W (m : Nat) = false := by rw [HFm.out]; simpa using hf
      have HFM : Hid (fairB l W (m : Nat) = false) := hfm
      have HV0 : Hid (winV l W = 0) := by rw [HV.out, if_pos (by omega)]; exact rfl
      clear hfm HV
      go_enter Try.func18, Try.ntmps18
      go_wp2_with fail
      refine (rfair_any a m c W m l _ HS.out h1 h2 hs).mono ?_
      rintro _ wz ⟨rfl, hw⟩
      have hw2 := hw.symm
      subst hw2
      clear hw
      rw [HFM.out]
      go_wp2_with fail
      go_ret
      exact ⟨by rw [HV0.out]; rfl, rfl⟩
end Go.Proofs.Ytlajblbfelcalab
