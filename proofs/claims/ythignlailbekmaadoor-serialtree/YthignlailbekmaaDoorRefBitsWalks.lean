import Derived.Test.YthignlailbekmaaDoorRefHalfWalks
/-! The document's own bits, doublings, halvings, quotient, comparisons; its work and Apply. -/
namespace Go.Proofs.YthignlailbekmaaDoor
open Go.RowKit Go.PlainOps
section
set_option maxHeartbeats 800000
theorem refBits_any (a b : Int) (both one : Bool) (X : BitVec 64) (w : World) (h0 : -9223372036854775808 ≤ a) (h1 : a ≤ 9223372036854775807) (hb0 : -9223372036854775808 ≤ b) (hb1 : b ≤ 9223372036854775807)
    (hX : ∀ i, i < 64 → X.getLsbD i = combV both one ((bv a).getLsbD i) ((bv b).getLsbD i)) :
    Calls Tryd.prog 76 #[.int .i64 a, .int .i64 b, .bool both, .bool one] w fun e w' => e = .returned (.int .i64 (bitsR X)) ∧ w' = w := by
  have HX : Hid (∀ i, i < 64 → X.getLsbD i = combV both one ((bv a).getLsbD i) ((bv b).getLsbD i)) := hX
  clear hX
  go_enter Tryd.func76, Tryd.ntmps76
  go_wp2
  go_loop [0, 1, 9, 10, 11] (fun x y v u i => ∃ k : Nat, k ≤ 64 ∧ i = .int .i64 k ∧ v = .int .i64 (accV X k) ∧ u = .int .i64 (unitP k) ∧ x = .int .i64 (shrN a k) ∧ y = .int .i64 (shrN b k)) (fun _ _ _ _ i => 64 - (intOf i).toNat)
  case atStart => exact ⟨0, by omega, rfl, by rw [acc_zero], by rw [unit_zero], by rw [shr_zero], by rw [shr_zero]⟩
  case round =>
    obtain ⟨k, hk, rfl, rfl, rfl, rfl, rfl⟩ := hrel
    by_cases hlt : k < 64
    · have hb := HX.out k hlt
      rw [bit_odd a k hlt, bit_odd b k hlt] at hb
      obtain ⟨fa0, fa1⟩ := shr_fits a k h0 h1
      obtain ⟨fb0, fb1⟩ := shr_fits b k hb0 hb1
      have U : Hid (wrap64 (unitP k + unitP k) = unitP (k + 1)) := unit_succ k
      have SA : Hid (halfV (shrN a k) = shrN a (k + 1)) := shr_succ a k
      have SB : Hid (halfV (shrN b k) = shrN b (k + 1)) := shr_succ b k
      cases hx : oddV (shrN a k) <;> cases hy : oddV (shrN b k) <;> cases both <;> cases one
      all_goals
        rw [hx, hy] at hb
        first
        | (have V : Hid (accV X k = accV X (k + 1)) := acc_clear X k (by rw [hb]; rfl)
           have HB : Hid True := trivial
           clear hb
           go_wp2_with (first | (go_at_call 80; refine (refOdd_any _ _).mono ?_; rintro e w' ⟨rfl, rfl⟩) | (go_at_call 81; refine (refHalf_any _ _ (by assumption) (by assumption)).mono ?_; rintro e w' ⟨rfl, rfl⟩))
           go_round
           case rel => exact ⟨k + 1, by omega, by go_num, by rw [← V.out], by rw [← U.out], by rw [← SA.out], by rw [← SB.out]⟩
           case measure => simp [intOf]; omega)
        | (have V : Hid (wrap64 (accV X k + unitP k) = accV X (k + 1)) := acc_set X k (by rw [hb]; rfl)
           clear hb
           go_wp2_with (first | (go_at_call 80; refine (refOdd_any _ _).mono ?_; rintro e w' ⟨rfl, rfl⟩) | (go_at_call 81; refine (refHalf_any _ _ (by assumption) (by assumption)).mono ?_; rintro e w' ⟨rfl, rfl⟩))
           go_round
           case rel => exact ⟨k + 1, by omega, by go_num, by rw [← V.out], by rw [← U.out], by rw [← SA.out], by rw [← SB.out]⟩
           case measure => simp [intOf]; omega)
    · have E : Hid (accV X k = bitsR X) := by
        have : k = 64 := by omega
        subst this
        exact acc_end X
      go_wp2
      go_ret
      exact ⟨by rw [← E.out]; rfl, rfl⟩
theorem refShl_any (a : Int) (s : Nat) (w : World) (h0 : -9223372036854775808 ≤ a) (h1 : a ≤ 9223372036854775807) (hs : s < 64) :
    Calls Tryd.prog 77 #[.int .i64 a, .int .i64 s, .bool true] w fun e w' => e = .returned (.int .i64 (shlN a s)) ∧ w' = w := by
  go_enter Tryd.func77, Tryd.ntmps77
  go_wp2
  go_loop [0, 7] (fun x i => ∃ k : Nat, k ≤ s ∧ i = .int .i64 k ∧ x = .int .i64 (shlN a k)) (fun _ i => s - (intOf i).toNat)
  case atStart => exact ⟨0, by omega, rfl, by rw [shl_zero a h0 h1]⟩
  case round =>
    obtain ⟨k, hk, rfl, rfl⟩ := hrel
    by_cases hlt : k < s
    · have U : Hid (wrap64 (shlN a k + shlN a k) = shlN a (k + 1)) := shl_succ a k
      go_wp2
      go_round
      case rel => exact ⟨k + 1, by omega, by go_num, by rw [← U.out]⟩
      case measure => simp [intOf]; omega
    · obtain rfl : k = s := by omega
      go_wp2
      go_ret
      exact ⟨rfl, rfl⟩
theorem refShr_any (a : Int) (s : Nat) (w : World) (h0 : -9223372036854775808 ≤ a) (h1 : a ≤ 9223372036854775807) (hs : s < 64) :
    Calls Tryd.prog 77 #[.int .i64 a, .int .i64 s, .bool false] w fun e w' => e = .returned (.int .i64 (shrN a s)) ∧ w' = w := by
  go_enter Tryd.func77, Tryd.ntmps77
  go_wp2
  go_loop [0, 7] (fun x i => ∃ k : Nat, k ≤ s ∧ i = .int .i64 k ∧ x = .int .i64 (shrN a k)) (fun _ i => s - (intOf i).toNat)
  case atStart => exact ⟨0, by omega, rfl, by rw [shr_zero]⟩
  case round =>
    obtain ⟨k, hk, rfl, rfl⟩ := hrel
    by_cases hlt : k < s
    · obtain ⟨fa0, fa1⟩ := shr_fits a k h0 h1
      have U : Hid (halfV (shrN a k) = shrN a (k + 1)) := shr_succ a k
      go_wp2_with (go_at_call 81; refine (refHalf_any _ _ (by assumption) (by assumption)).mono ?_; rintro e w' ⟨rfl, rfl⟩)
      go_round
      case rel => exact ⟨k + 1, by omega, by go_num, by rw [← U.out]⟩
      case measure => simp [intOf]; omega
    · obtain rfl : k = s := by omega
      go_wp2
      go_ret
      exact ⟨rfl, rfl⟩
end
end Go.Proofs.YthignlailbekmaaDoor
