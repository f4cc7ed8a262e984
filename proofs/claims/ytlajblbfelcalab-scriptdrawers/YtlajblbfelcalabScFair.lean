import Derived.Test.YtlajblbfelcalabScWait2
/-! Fair and Window; the laws' mod. -/
namespace Go.Proofs.Ytlajblbfelcalab
set_option linter.unusedVariables false
set_option maxRecDepth 20000
open Go.RowKit Go.HeapKit Go.Sc

def lwL (l : List Int) (W : Nat) : Nat := lw (fOf l W) W l.length
def winV (l : List Int) (W : Nat) : Nat := if l.length < 1 + lwL l W then 0 else 1 + lwL l W
theorem lwL_le (l : List Int) (W : Nat) : lwL l W ≤ l.length := lw_le _ _ _
def fairB (l : List Int) (W : Nat) (win : Int) : Bool := decide ((lwL l W : Int) < win)
set_option maxHeartbeats 800000 in
theorem fair_any (a : Option Addr) (m c W : Nat) (win : Int) (l : List Int) (w : World) (h : SeenN w a m l) (h1 : 1 ≤ W) (h2 : W ≤ 64) (hs : m * 8 ≤ 140737488351232) :
    Calls Try.prog 12 #[.slice a m c, .int .i64 W, .int .i64 win] w fun e w' => e = .returned (.bool (fairB l W win)) ∧ Keeps None w w' := by
  have HS : Hid (SeenN w a m l) := h
  have hg := goodB_t (x := (W : Int)) (by omega) (by omega)
  have HL : Hid (lw (fOf l W) W m = lwL l W) := by rw [h.len]; exact rfl
  clear h
  by_cases hq : (lwL l W : Int) < win
  · have e : fairB l W win = true := by simp [fairB, hq]
    rw [e]
    clear e
    obtain ⟨L, hL⟩ : ∃ L, L = lwL l W := ⟨_, rfl⟩
    rw [← hL] at HL hq
    clear hL
    go_enter Try.func12, Try.ntmps12
    go_wp2_with (go_at_call 37; refine (good_any _ _).mono ?_; rintro _ wz ⟨rfl, hw⟩; have hw2 := hw.symm; subst hw2; clear hw; rw [hg])
    refine (longestWait_any a m c W l _ HS.out h1 h2 hs).mono ?_
    rintro _ w1 ⟨rfl, hk⟩
    rw [HL.out]
    have HK : Hid (Keeps None w w1) := hk
    clear hk
    go_wp2_with fail
    go_ret
    exact ⟨rfl, HK.out⟩
  · have e : fairB l W win = false := by simp [fairB, hq]
    rw [e]
    clear e
    obtain ⟨L, hL⟩ : ∃ L, L = lwL l W := ⟨_, rfl⟩
    rw [← hL] at HL hq
    have hd : decide ((L : Int) < win) = false := by simpa using hq
    clear hL
    go_enter Try.func12, Try.ntmps12
    go_wp2_with (go_at_call 37; refine (good_any _ _).mono ?_; rintro _ wz ⟨rfl, hw⟩; have hw2 := hw.symm; subst hw2; clear hw; rw [hg])
    refine (longestWait_any a m c W l _ HS.out h1 h2 hs).mono ?_
    rintro _ w1 ⟨rfl, hk⟩
    rw [HL.out]
    have HK : Hid (Keeps None w w1) := hk
    clear hk
    go_wp2_with fail
    go_ret
    exact ⟨rfl, HK.out⟩
theorem fair_bad (a : Option Addr) (m c : Nat) (x win : Int) (w : World) (hg : goodB x = false) :
    Calls Try.prog 12 #[.slice a m c, .int .i64 x, .int .i64 win] w fun e w' => e = .returned (.bool false) ∧ w' = w := by
  go_enter Try.func12, Try.ntmps12
  go_wp2_with (go_at_call 37; refine (good_any _ _).mono ?_; rintro _ wz ⟨rfl, hw⟩; have hw2 := hw.symm; subst hw2; clear hw; rw [hg])
  go_ret
  exact ⟨rfl, rfl⟩
set_option maxHeartbeats 800000 in
theorem window_any (a : Option Addr) (m c W : Nat) (l : List Int) (w : World) (h : SeenN w a m l) (h1 : 1 ≤ W) (h2 : W ≤ 64) (hs : m * 8 ≤ 140737488351232) :
    Calls Try.prog 14 #[.slice a m c, .int .i64 W] w fun e w' => e = .returned (.int .i64 (winV l W : Nat)) ∧ Keeps None w w' := by
  have HS : Hid (SeenN w a m l) := h
  have hg := goodB_t (x := (W : Int)) (by omega) (by omega)
  have HL : Hid (lw (fOf l W) W m = lwL l W) := by rw [h.len]; exact rfl
  have hle := lwL_le l W
  have HV : Hid (winV l W = if m < 1 + lwL l W then 0 else 1 + lwL l W) := by rw [h.len]; exact rfl
  rw [← h.len] at hle
  clear h
  obtain ⟨L, hL⟩ : ∃ L, L = lwL l W := ⟨_, rfl⟩
  rw [← hL] at HL hle HV
  clear hL
  by_cases hq : m < 1 + L
  · have i1 : (m : Int) < 1 + (L : Int) := by omega
    go_enter Try.func14, Try.ntmps14
    go_wp2_with (go_at_call 37; refine (good_any _ _).mono ?_; rintro _ wz ⟨rfl, hw⟩; have hw2 := hw.symm; subst hw2; clear hw; rw [hg])
    refine (longestWait_any a m c W l _ HS.out h1 h2 hs).mono ?_
    rintro _ w1 ⟨rfl, hk⟩
    rw [HL.out]
    have HK : Hid (Keeps None w w1) := hk
    clear hk
    go_wp2_with fail
    go_ret
    exact ⟨by rw [HV.out, if_pos hq]; rfl, HK.out⟩
  · have i1 : ¬ (m : Int) < 1 + (L : Int) := by omega
    go_enter Try.func14, Try.ntmps14
    go_wp2_with (go_at_call 37; refine (good_any _ _).mono ?_; rintro _ wz ⟨rfl, hw⟩; have hw2 := hw.symm; subst hw2; clear hw; rw [hg])
    refine (longestWait_any a m c W l _ HS.out h1 h2 hs).mono ?_
    rintro _ w1 ⟨rfl, hk⟩
    rw [HL.out]
    have HK : Hid (Keeps None w w1) := hk
    clear hk
    go_wp2_with fail
    go_ret
    exact ⟨by rw [HV.out, if_neg hq]; rfl, HK.out⟩
theorem window_bad (a : Option Addr) (m c : Nat) (x : Int) (w : World) (hg : goodB x = false) :
    Calls Try.prog 14 #[.slice a m c, .int .i64 x] w fun e w' => e = .returned (.int .i64 0) ∧ w' = w := by
  go_enter Try.func14, Try.ntmps14
  go_wp2_with (go_at_call 37; refine (good_any _ _).mono ?_; rintro _ wz ⟨rfl, hw⟩; have hw2 := hw.symm; subst hw2; clear hw; rw [hg])
  go_ret
  exact ⟨rfl, rfl⟩
def modN (x : Int) (n : Nat) : Nat := (x % (n : Int)).toNat
theorem modN_lt (x : Int) {n : Nat} (h : 0 < n) : modN x n < n := by
  unfold modN
  have h1 := Int.emod_nonneg x (b := (n : Int)) (by omega)
  have h2 := Int.emod_lt_of_pos x (b := (n : Int)) (by omega)
  omega
theorem lmod_any (x : Int) (n : Nat) (w : World) (hx : okI x) (h0 : 0 < n) (h1 : n ≤ 1099511627776) : Calls Try.prog 8 #[.int .i64 x, .int .i64 n] w fun e w' => e = .returned (.int .i64 (modN x n : Nat)) ∧ w' = w := by
  have hm : (modN x n : Int) = x % (n : Int) := by
    unfold modN
    have h2 := Int.emod_nonneg x (show (n : Int) ≠ 0 by omega)
    omega
  have h2 := Go.PlainOps.tmod_mod x n (by omega)
  obtain ⟨b0, b1⟩ := Go.PlainOps.tmod_bounds x n (by omega)
  have E : Hid ((modN x n : Int) = (if x.tmod n < 0 then x.tmod n + n else x.tmod n)) := by unfold Hid; rw [hm, h2]
  have hn : ¬ (n : Int) = 0 := by omega
  have hn2 : (n : Int) ≤ 1099511627776 := by omega
  have b2 : -1099511627777 ≤ x.tmod n := by omega
  clear hm h2
  unfold okI at hx
  obtain ⟨R, hR⟩ : ∃ R, R = modN x n := ⟨_, rfl⟩
  rw [← hR] at E ⊢
  clear hR
  by_cases hr : x.tmod n < 0
  · go_enter Try.func8, Try.ntmps8
    go_wp2
    go_ret
    exact ⟨by rw [E.out, if_pos hr]; rfl, rfl⟩
  · go_enter Try.func8, Try.ntmps8
    go_wp2
    go_ret
    exact ⟨by rw [E.out, if_neg (by omega)]; rfl, rfl⟩
end Go.Proofs.Ytlajblbfelcalab
