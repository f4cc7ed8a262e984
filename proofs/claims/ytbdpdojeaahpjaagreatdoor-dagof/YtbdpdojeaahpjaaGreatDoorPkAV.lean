import Derived.Test.YtbdpdojeaahpjaaGreatDoorPkAB
import Derived.Test.YtbdpdojeaahpjaaGreatDoorProg
import Derived.WalkKit
import Derived.WalkSpells
import Derived.WalkLawsBesides
/-! Bits one at a time, doublings and halvings: the document's own ways, as plain functions. -/
namespace Go.PlainOps
open Go.RowKit

def oddV (a : Int) : Bool := decide (a % 2 = 1)
def halfV (a : Int) : Int := a / 2
def shrN (a : Int) (k : Nat) : Int := a / 2 ^ k
def shlN (a : Int) (k : Nat) : Int := wrap64 (a * 2 ^ k)
def unitP (k : Nat) : Int := wrap64 (2 ^ k)
def accV (X : BitVec 64) (k : Nat) : Int := wrap64 ((X.toNat % 2 ^ k : Nat) : Int)
def combV (both one x y : Bool) : Bool := (x && y && both) || ((x != y) && one)

theorem odd_tmod (a : Int) : (a.tmod 2 != 0) = oddV a := by
  unfold oddV
  rw [Int.tmod_eq_emod]
  rw [Bool.eq_iff_iff]
  simp only [bne_iff_ne, decide_eq_true_eq]
  split <;> omega
theorem half_neg (a : Int) (h : a < 0) (ho : oddV a = true) : a.tdiv 2 - 1 = halfV a := by
  unfold halfV
  simp only [oddV, decide_eq_true_eq] at ho
  have h1 := Int.tdiv_mul_add_tmod a 2
  have h2 := Int.tmod_eq_emod (a := a) (b := 2)
  split at h2 <;> omega
theorem half_pos (a : Int) (h : ¬ (a < 0 ∧ oddV a = true)) : a.tdiv 2 = halfV a := by
  unfold halfV
  simp only [oddV, decide_eq_true_eq] at h
  have h1 := Int.tdiv_mul_add_tmod a 2
  have h2 := Int.tmod_eq_emod (a := a) (b := 2)
  split at h2 <;> omega
theorem half_bounds (a : Int) (h0 : -9223372036854775808 ≤ a) (h1 : a ≤ 9223372036854775807) : -4611686018427387904 ≤ halfV a ∧ halfV a ≤ 4611686018427387903 := by
  unfold halfV; omega
theorem tdiv_two_bounds (a : Int) (h0 : -9223372036854775808 ≤ a) (h1 : a ≤ 9223372036854775807) : -4611686018427387904 ≤ a.tdiv 2 ∧ a.tdiv 2 ≤ 4611686018427387904 := by
  have h1 := Int.tdiv_mul_add_tmod a 2
  have h2 := Int.tmod_eq_emod (a := a) (b := 2)
  split at h2 <;> omega
theorem shr_zero (a : Int) : shrN a 0 = a := by simp [shrN]
theorem shr_succ (a : Int) (k : Nat) : halfV (shrN a k) = shrN a (k + 1) := by
  unfold halfV shrN
  rw [Int.ediv_ediv_of_nonneg (Int.le_of_lt (Int.pow_pos (by decide))), Int.pow_succ]
theorem shr_fits (a : Int) (k : Nat) (h0 : -9223372036854775808 ≤ a) (h1 : a ≤ 9223372036854775807) : -9223372036854775808 ≤ shrN a k ∧ shrN a k ≤ 9223372036854775807 := by
  induction k with
  | zero => rw [shr_zero]; exact ⟨h0, h1⟩
  | succ k ih => rw [← shr_succ]; have := half_bounds _ ih.1 ih.2; omega
theorem shl_zero (a : Int) (h0 : -9223372036854775808 ≤ a) (h1 : a ≤ 9223372036854775807) : shlN a 0 = a := by
  unfold shlN wrap64; rw [Int.pow_zero]; omega
theorem shl_succ (a : Int) (k : Nat) : wrap64 (shlN a k + shlN a k) = shlN a (k + 1) := by
  unfold shlN
  rw [Int.pow_succ, ← Int.mul_assoc]
  generalize a * 2 ^ k = p
  unfold wrap64; omega
theorem unit_zero : unitP 0 = 1 := by unfold unitP wrap64; rw [Int.pow_zero]; omega
theorem unit_succ (k : Nat) : wrap64 (unitP k + unitP k) = unitP (k + 1) := by
  unfold unitP
  rw [Int.pow_succ]
  generalize (2 : Int) ^ k = p
  unfold wrap64; omega
theorem acc_zero (X : BitVec 64) : accV X 0 = 0 := by
  unfold accV; rw [Nat.pow_zero, Nat.mod_one]; unfold wrap64; omega
theorem acc_set (X : BitVec 64) (k : Nat) (h : X.getLsbD k = true) : wrap64 (accV X k + unitP k) = accV X (k + 1) := by
  have e : X.toNat % 2 ^ (k + 1) = X.toNat % 2 ^ k + 2 ^ k := by
    rw [Nat.mod_pow_succ]
    have : X.toNat.testBit k = true := h
    rw [Nat.testBit_eq_decide_div_mod_eq, decide_eq_true_eq] at this
    rw [this, Nat.mul_one]
  unfold accV unitP
  rw [e]
  have e2 : ((X.toNat % 2 ^ k + 2 ^ k : Nat) : Int) = ((X.toNat % 2 ^ k : Nat) : Int) + 2 ^ k := by simp
  rw [e2]
  generalize ((X.toNat % 2 ^ k : Nat) : Int) = p
  generalize (2 : Int) ^ k = q
  unfold wrap64; omega
theorem acc_clear (X : BitVec 64) (k : Nat) (h : X.getLsbD k = false) : accV X k = accV X (k + 1) := by
  have e : X.toNat % 2 ^ (k + 1) = X.toNat % 2 ^ k := by
    rw [Nat.mod_pow_succ]
    have : X.toNat.testBit k = false := h
    rw [Nat.testBit_eq_decide_div_mod_eq, decide_eq_false_iff_not] at this
    have h0 : X.toNat / 2 ^ k % 2 = 0 := by omega
    rw [h0, Nat.mul_zero, Nat.add_zero]
  unfold accV
  rw [e]
theorem acc_end (X : BitVec 64) : accV X 64 = X.toInt := by
  unfold accV
  rw [Nat.mod_eq_of_lt X.isLt, wrap64_bv, bv_toNat]
theorem bit_odd (a : Int) (k : Nat) (hk : k < 64) : (bv a).getLsbD k = oddV (shrN a k) := by
  have h1 : (bv a).getLsbD k = (bv a).toNat.testBit k := rfl
  rw [h1, Nat.testBit_eq_decide_div_mod_eq]
  unfold oddV shrN
  have hn : ((bv a).toNat : Int) = a % 2 ^ 64 := by simp [bv]; omega
  have e : (((bv a).toNat / 2 ^ k % 2 : Nat) : Int) = a / 2 ^ k % 2 := by
    rw [Int.natCast_emod, Int.natCast_ediv, hn, Int.natCast_pow]
    have hs : (2 : Int) ^ 64 = 2 ^ k * (2 * 2 ^ (63 - k)) := by
      rw [← Int.pow_succ', ← Int.pow_add]; congr 1; omega
    have hp : (0 : Int) < 2 ^ k := Int.pow_pos (by decide)
    have hd := Int.mul_ediv_add_emod a (2 ^ 64)
    have h2 : a / 2 ^ k = a % 2 ^ 64 / 2 ^ k + (2 * 2 ^ (63 - k)) * (a / 2 ^ 64) := by
      conv => lhs; rw [← hd, Int.add_comm]
      rw [hs, Int.mul_assoc, Int.add_mul_ediv_left _ _ (by omega)]
    rw [h2, Int.mul_assoc]
    exact (Int.add_mul_emod_self_left _ 2 _).symm
  rw [Bool.eq_iff_iff]
  simp only [decide_eq_true_eq]
  omega
/-- A word read as a signed number: shut, so that no simp lays it open. -/
def bitsR (X : BitVec 64) : Int := X.toInt
theorem and_R (a b : Int) : bits .and .i64 a b = bitsR (bv a &&& bv b) := bits_and a b
theorem or_R (a b : Int) : bits .or .i64 a b = bitsR (bv a ||| bv b) := bits_or a b
theorem xor_R (a b : Int) : bits .xor .i64 a b = bitsR (bv a ^^^ bv b) := bits_xor a b
/-- The document's quotient and rest are the operations'. -/
theorem quot_one (a : Int) : wrap64 (0 - a) = quotV a (-1) := by
  unfold quotV
  rw [if_neg (by decide), Int.tdiv_neg, Int.tdiv_one]
  congr 1
  omega
theorem rem_doc (a b : Int) (h0 : -9223372036854775808 ≤ a) (h1 : a ≤ 9223372036854775807) (hb0 : -9223372036854775808 ≤ b) (hb1 : b ≤ 9223372036854775807) : wrap64 (a - wrap64 (quotV a b * b)) = remV a b := by
  unfold quotV remV
  by_cases hb : b = 0
  · subst hb; simp [wrap64]; omega
  · rw [if_neg hb, if_neg hb]
    have e := Int.tdiv_mul_add_tmod a b
    have hr : -9223372036854775808 ≤ a.tmod b ∧ a.tmod b ≤ 9223372036854775807 := by
      rcases Int.lt_or_gt_of_ne hb with h | h
      · have := tmod_bounds a (-b) (by omega)
        rw [Int.tmod_neg] at this; omega
      · have := tmod_bounds a b (by omega); omega
    rw [← toInt_bv hr.1 hr.2]
    have e2 : a.tmod b = a - a.tdiv b * b := by omega
    rw [e2]
    simp only [wrap64_bv, bv_mul, bv_sub, bv_toInt]
end Go.PlainOps
/-! The contracts of the document's own operations. -/
namespace Go.Proofs.YtbdpdojeaahpjaaGreatDoor
open Go.RowKit Go.PlainOps
section
set_option maxHeartbeats 400000
theorem refOdd_any (a : Int) (w : World) : Calls Tryz.prog 92 #[.int .i64 a] w fun e w' => e = .returned (.bool (oddV a)) ∧ w' = w := by
  have h := odd_tmod a
  go_enter Tryz.func92, Tryz.ntmps92
  go_wp2
  go_ret
  exact ⟨rfl, rfl⟩
theorem refHalf_any (a : Int) (w : World) (h0 : -9223372036854775808 ≤ a) (h1 : a ≤ 9223372036854775807) : Calls Tryz.prog 93 #[.int .i64 a] w fun e w' => e = .returned (.int .i64 (halfV a)) ∧ w' = w := by
  have hb := tdiv_two_bounds a h0 h1
  obtain ⟨hb0, hb1⟩ := hb
  have ho := odd_tmod a
  by_cases hn : a < 0
  · cases hd : oddV a
    · rw [hd] at ho
      have E : Hid (halfV a = a.tdiv 2) := (half_pos a (by rw [hd]; simp)).symm
      clear hd
      go_enter Tryz.func93, Tryz.ntmps93
      go_wp2
      go_ret
      exact ⟨by rw [E.out]; rfl, rfl⟩
    · rw [hd] at ho
      have E : Hid (halfV a = a.tdiv 2 - 1) := (half_neg a hn hd).symm
      clear hd
      go_enter Tryz.func93, Tryz.ntmps93
      go_wp2
      go_ret
      exact ⟨by rw [E.out]; rfl, rfl⟩
  · have E : Hid (halfV a = a.tdiv 2) := (half_pos a (by omega)).symm
    clear ho
    go_enter Tryz.func93, Tryz.ntmps93
    go_wp2
    go_ret
    exact ⟨by rw [E.out]; rfl, rfl⟩
end
end Go.Proofs.YtbdpdojeaahpjaaGreatDoor
/-! The document's own bits, doublings, halvings, quotient, comparisons; its work and Apply. -/
namespace Go.Proofs.YtbdpdojeaahpjaaGreatDoor
open Go.RowKit Go.PlainOps
section
set_option maxHeartbeats 800000
theorem refBits_any (a b : Int) (both one : Bool) (X : BitVec 64) (w : World) (h0 : -9223372036854775808 ≤ a) (h1 : a ≤ 9223372036854775807) (hb0 : -9223372036854775808 ≤ b) (hb1 : b ≤ 9223372036854775807)
    (hX : ∀ i, i < 64 → X.getLsbD i = combV both one ((bv a).getLsbD i) ((bv b).getLsbD i)) :
    Calls Tryz.prog 67 #[.int .i64 a, .int .i64 b, .bool both, .bool one] w fun e w' => e = .returned (.int .i64 (bitsR X)) ∧ w' = w := by
  have HX : Hid (∀ i, i < 64 → X.getLsbD i = combV both one ((bv a).getLsbD i) ((bv b).getLsbD i)) := hX
  clear hX
  go_enter Tryz.func67, Tryz.ntmps67
  go_wp2
  go_loop [0, 1, 9, 10, 11] (fun x y v u i => ∃ k : Nat, k ≤ 64 ∧ i = .int .i64 k ∧ v = .int .i64 (accV X k) ∧ u = .int .i64 (unitP k) ∧ x = .int .i64 (shrN a k) ∧ y = .int .i64 (shrN b k)) (fun _ _ _ _ i => 64 - (intOf i).toNat)
  case atStart => exact ⟨0, by omega, rfl, by rw [acc_zero], by rw [unit_zero], by rw [shr_zero], by rw [shr_zero]⟩
  case round =>
    obtain ⟨k, hk, rfl, rfl, rfl, rfl, rfl⟩ := hrel
    by_cases hlt : k < 64
    · have hb := HX.out k hlt
      rw [bit_odd a k hlt, bit_odd b k hlt] at hb
      obtain ⟨fa0, fa1⟩ := shr_fits a k h0 h1
      obtain ⟨fb0, fb1⟩ := shr_fits b k hb0 hb1
      have U : Hid (wrap64 (unitP k + unitP k) = unitP (k + 1)) := unit_succ k
      have SA : Hid (halfV (shrN a k) = shrN a (k + 1)) := shr_succ a k
      have SB : Hid (halfV (shrN b k) = shrN b (k + 1)) := shr_succ b k
      cases hx : oddV (shrN a k) <;> cases hy : oddV (shrN b k) <;> cases both <;> cases one
      all_goals
        rw [hx, hy] at hb
        first
        | (have V : Hid (accV X k = accV X (k + 1)) := acc_clear X k (by rw [hb]; rfl)
           have HB : Hid True := trivial
           clear hb
           go_wp2_with (first | (go_at_call 92; refine (refOdd_any _ _).mono ?_; rintro e w' ⟨rfl, rfl⟩) | (go_at_call 93; refine (refHalf_any _ _ (by assumption) (by assumption)).mono ?_; rintro e w' ⟨rfl, rfl⟩))
           go_round
           case rel => exact ⟨k + 1, by omega, by go_num, by rw [← V.out], by rw [← U.out], by rw [← SA.out], by rw [← SB.out]⟩
           case measure => simp [intOf]; omega)
        | (have V : Hid (wrap64 (accV X k + unitP k) = accV X (k + 1)) := acc_set X k (by rw [hb]; rfl)
           clear hb
           go_wp2_with (first | (go_at_call 92; refine (refOdd_any _ _).mono ?_; rintro e w' ⟨rfl, rfl⟩) | (go_at_call 93; refine (refHalf_any _ _ (by assumption) (by assumption)).mono ?_; rintro e w' ⟨rfl, rfl⟩))
           go_round
           case rel => exact ⟨k + 1, by omega, by go_num, by rw [← V.out], by rw [← U.out], by rw [← SA.out], by rw [← SB.out]⟩
           case measure => simp [intOf]; omega)
    · have E : Hid (accV X k = bitsR X) := by
        have : k = 64 := by omega
        subst this
        exact acc_end X
      go_wp2
      go_ret
      exact ⟨by rw [← E.out]; rfl, rfl⟩
theorem refShl_any (a : Int) (s : Nat) (w : World) (h0 : -9223372036854775808 ≤ a) (h1 : a ≤ 9223372036854775807) (hs : s < 64) :
    Calls Tryz.prog 68 #[.int .i64 a, .int .i64 s, .bool true] w fun e w' => e = .returned (.int .i64 (shlN a s)) ∧ w' = w := by
  go_enter Tryz.func68, Tryz.ntmps68
  go_wp2
  go_loop [0, 7] (fun x i => ∃ k : Nat, k ≤ s ∧ i = .int .i64 k ∧ x = .int .i64 (shlN a k)) (fun _ i => s - (intOf i).toNat)
  case atStart => exact ⟨0, by omega, rfl, by rw [shl_zero a h0 h1]⟩
  case round =>
    obtain ⟨k, hk, rfl, rfl⟩ := hrel
    by_cases hlt : k < s
    · have U : Hid (wrap64 (shlN a k + shlN a k) = shlN a (k + 1)) := shl_succ a k
      go_wp2
      go_round
      case rel => exact ⟨k + 1, by omega, by go_num, by rw [← U.out]⟩
      case measure => simp [intOf]; omega
    · obtain rfl : k = s := by omega
      go_wp2
      go_ret
      exact ⟨rfl, rfl⟩
theorem refShr_any (a : Int) (s : Nat) (w : World) (h0 : -9223372036854775808 ≤ a) (h1 : a ≤ 9223372036854775807) (hs : s < 64) :
    Calls Tryz.prog 68 #[.int .i64 a, .int .i64 s, .bool false] w fun e w' => e = .returned (.int .i64 (shrN a s)) ∧ w' = w := by
  go_enter Tryz.func68, Tryz.ntmps68
  go_wp2
  go_loop [0, 7] (fun x i => ∃ k : Nat, k ≤ s ∧ i = .int .i64 k ∧ x = .int .i64 (shrN a k)) (fun _ i => s - (intOf i).toNat)
  case atStart => exact ⟨0, by omega, rfl, by rw [shr_zero]⟩
  case round =>
    obtain ⟨k, hk, rfl, rfl⟩ := hrel
    by_cases hlt : k < s
    · obtain ⟨fa0, fa1⟩ := shr_fits a k h0 h1
      have U : Hid (halfV (shrN a k) = shrN a (k + 1)) := shr_succ a k
      go_wp2_with (go_at_call 93; refine (refHalf_any _ _ (by assumption) (by assumption)).mono ?_; rintro e w' ⟨rfl, rfl⟩)
      go_round
      case rel => exact ⟨k + 1, by omega, by go_num, by rw [← U.out]⟩
      case measure => simp [intOf]; omega
    · obtain rfl : k = s := by omega
      go_wp2
      go_ret
      exact ⟨rfl, rfl⟩
end
end Go.Proofs.YtbdpdojeaahpjaaGreatDoor
/-! The document's own quotient, comparisons; its work and Apply. -/
namespace Go.Proofs.YtbdpdojeaahpjaaGreatDoor
open Go.RowKit Go.PlainOps
section
set_option maxHeartbeats 800000
set_option maxRecDepth 100000
theorem shift_doc (b : Int) : (if b.tmod 64 < 0 then b.tmod 64 + 64 else b.tmod 64) = b % 64 := tmod_mod b 64 (by decide)
theorem refShift_any (b : Int) (w : World) : Calls Tryz.prog 69 #[.int .i64 b] w fun e w' => e = .returned (.int .i64 (b % 64)) ∧ w' = w := by
  have E : Hid ((if b.tmod 64 < 0 then b.tmod 64 + 64 else b.tmod 64) = b % 64) := shift_doc b
  obtain ⟨t0, t1⟩ := tmod_bounds b 64 (by decide)
  by_cases h : b.tmod 64 < 0
  · have E2 : Hid (b.tmod 64 + 64 = b % 64) := by have := E.out; rw [if_pos h] at this; exact this
    go_enter Tryz.func69, Tryz.ntmps69
    go_wp2
    go_ret
    exact ⟨by rw [← E2.out]; rfl, rfl⟩
  · have E2 : Hid (b.tmod 64 = b % 64) := by have := E.out; rw [if_neg h] at this; exact this
    go_enter Tryz.func69, Tryz.ntmps69
    go_wp2
    go_ret
    exact ⟨by rw [← E2.out]; rfl, rfl⟩
theorem refQuot_any (a b : Int) (w : World) : Calls Tryz.prog 66 #[.int .i64 a, .int .i64 b] w fun e w' => e = .returned (.int .i64 (quotV a b)) ∧ w' = w := by
  by_cases hz : b = 0
  · subst hz
    go_enter Tryz.func66, Tryz.ntmps66
    go_wp2
    go_ret
    exact ⟨rfl, rfl⟩
  · by_cases ho : b = -1
    · have e1 : (b == 0) = false := beq_eq_false_iff_ne.2 hz
      have e2 : (b == -1) = true := beq_iff_eq.2 ho
      have E : Hid (wrap64 (0 - a) = quotV a b) := by rw [ho]; exact quot_one a
      clear hz ho
      go_enter Tryz.func66, Tryz.ntmps66
      go_wp2
      go_ret
      exact ⟨by rw [← E.out]; first | rfl | simp, rfl⟩
    · have e1 : (b == 0) = false := beq_eq_false_iff_ne.2 hz
      have e2 : (b == -1) = false := beq_eq_false_iff_ne.2 ho
      have E : Hid (wrap64 (a.tdiv b) = quotV a b) := by unfold quotV; rw [if_neg hz]; exact rfl
      clear ho
      go_enter Tryz.func66, Tryz.ntmps66
      go_wp2
      go_ret
      exact ⟨by rw [← E.out]; rfl, rfl⟩
theorem refTruth_any (x : Bool) (w : World) : Calls Tryz.prog 94 #[.bool x] w fun e w' => e = .returned (.int .i64 (truthV x)) ∧ w' = w := by
  cases x
  all_goals
    go_enter Tryz.func94, Tryz.ntmps94
    go_wp2
    go_ret
    exact ⟨rfl, rfl⟩
theorem refCompare12 (a b : Int) (w : World) : Calls Tryz.prog 70 #[.int .i64 12, .int .i64 a, .int .i64 b] w fun e w' => e = .returned (.int .i64 (truthV (decide (a < b)))) ∧ w' = w := by
  go_enter Tryz.func70, Tryz.ntmps70
  go_wp2_with (go_at_call 94; refine (refTruth_any _ _).mono ?_; rintro e w' ⟨rfl, rfl⟩)
  go_ret
  exact ⟨rfl, rfl⟩
theorem refCompare13 (a b : Int) (w : World) : Calls Tryz.prog 70 #[.int .i64 13, .int .i64 a, .int .i64 b] w fun e w' => e = .returned (.int .i64 (truthV (decide (a ≤ b)))) ∧ w' = w := by
  go_enter Tryz.func70, Tryz.ntmps70
  go_wp2_with (go_at_call 94; refine (refTruth_any _ _).mono ?_; rintro e w' ⟨rfl, rfl⟩)
  go_ret
  exact ⟨rfl, rfl⟩
theorem refCompare14 (a b : Int) (w : World) : Calls Tryz.prog 70 #[.int .i64 14, .int .i64 a, .int .i64 b] w fun e w' => e = .returned (.int .i64 (truthV (a == b))) ∧ w' = w := by
  go_enter Tryz.func70, Tryz.ntmps70
  go_wp2_with (go_at_call 94; refine (refTruth_any _ _).mono ?_; rintro e w' ⟨rfl, rfl⟩)
  go_ret
  exact ⟨rfl, rfl⟩
theorem refCompare15 (a b : Int) (w : World) : Calls Tryz.prog 70 #[.int .i64 15, .int .i64 a, .int .i64 b] w fun e w' => e = .returned (.int .i64 (truthV (a != b))) ∧ w' = w := by
  go_enter Tryz.func70, Tryz.ntmps70
  go_wp2_with (go_at_call 94; refine (refTruth_any _ _).mono ?_; rintro e w' ⟨rfl, rfl⟩)
  go_ret
  exact ⟨rfl, rfl⟩
theorem refCompare10 (a b : Int) (w : World) : Calls Tryz.prog 70 #[.int .i64 10, .int .i64 a, .int .i64 b] w fun e w' => e = .returned (.int .i64 (minV a b)) ∧ w' = w := by
  by_cases h : a < b
  · have e : minV a b = a := by unfold minV; split <;> omega
    rw [e]
    go_enter Tryz.func70, Tryz.ntmps70
    go_wp2
    go_ret
    exact ⟨rfl, rfl⟩
  · have e : minV a b = b := by unfold minV; split <;> omega
    rw [e]
    go_enter Tryz.func70, Tryz.ntmps70
    go_wp2
    go_ret
    exact ⟨rfl, rfl⟩
theorem refCompare11 (a b : Int) (w : World) : Calls Tryz.prog 70 #[.int .i64 11, .int .i64 a, .int .i64 b] w fun e w' => e = .returned (.int .i64 (maxV a b)) ∧ w' = w := by
  by_cases h : b < a
  · have e : maxV a b = a := by unfold maxV; split <;> omega
    rw [e]
    go_enter Tryz.func70, Tryz.ntmps70
    go_wp2
    go_ret
    exact ⟨rfl, rfl⟩
  · have e : maxV a b = b := by unfold maxV; split <;> omega
    rw [e]
    go_enter Tryz.func70, Tryz.ntmps70
    go_wp2
    go_ret
    exact ⟨rfl, rfl⟩
theorem refWork0 (a b : Int) (w : World) : Calls Tryz.prog 49 #[.int .i64 0, .int .i64 a, .int .i64 b] w fun e w' => e = .returned (.int .i64 (wrap64 (a + b))) ∧ w' = w := by
  go_enter Tryz.func49, Tryz.ntmps49
  go_wp2
  go_ret
  exact ⟨rfl, rfl⟩
theorem refWork1 (a b : Int) (w : World) : Calls Tryz.prog 49 #[.int .i64 1, .int .i64 a, .int .i64 b] w fun e w' => e = .returned (.int .i64 (wrap64 (a - b))) ∧ w' = w := by
  go_enter Tryz.func49, Tryz.ntmps49
  go_wp2
  go_ret
  exact ⟨rfl, rfl⟩
theorem refWork2 (a b : Int) (w : World) : Calls Tryz.prog 49 #[.int .i64 2, .int .i64 a, .int .i64 b] w fun e w' => e = .returned (.int .i64 (wrap64 (a * b))) ∧ w' = w := by
  go_enter Tryz.func49, Tryz.ntmps49
  go_wp2
  go_ret
  exact ⟨rfl, rfl⟩
theorem refWork3 (a b : Int) (w : World) : Calls Tryz.prog 49 #[.int .i64 3, .int .i64 a, .int .i64 b] w fun e w' => e = .returned (.int .i64 (quotV a b)) ∧ w' = w := by
  go_enter Tryz.func49, Tryz.ntmps49
  go_wp2_with (go_at_call 66; refine (refQuot_any _ _ _).mono ?_; rintro e w' ⟨rfl, rfl⟩)
  go_ret
  exact ⟨rfl, rfl⟩
theorem refWork4 (a b : Int) (w : World) (h0 : -9223372036854775808 ≤ a) (h1 : a ≤ 9223372036854775807) (hb0 : -9223372036854775808 ≤ b) (hb1 : b ≤ 9223372036854775807) : Calls Tryz.prog 49 #[.int .i64 4, .int .i64 a, .int .i64 b] w fun e w' => e = .returned (.int .i64 (remV a b)) ∧ w' = w := by
  have E : Hid (wrap64 (a - wrap64 (quotV a b * b)) = remV a b) := rem_doc a b h0 h1 hb0 hb1
  clear h0 h1 hb0 hb1
  go_enter Tryz.func49, Tryz.ntmps49
  go_wp2_with (go_at_call 66; refine (refQuot_any _ _ _).mono ?_; rintro e w' ⟨rfl, rfl⟩)
  go_ret
  exact ⟨by rw [← E.out]; rfl, rfl⟩
theorem comb5 (a b : Int) : ∀ i, i < 64 → (bv a &&& bv b).getLsbD i = combV true false ((bv a).getLsbD i) ((bv b).getLsbD i) := by
  intro i _
  rw [BitVec.getLsbD_and]
  cases (bv a).getLsbD i <;> cases (bv b).getLsbD i <;> rfl
theorem refWork5 (a b : Int) (w : World) (h0 : -9223372036854775808 ≤ a) (h1 : a ≤ 9223372036854775807) (hb0 : -9223372036854775808 ≤ b) (hb1 : b ≤ 9223372036854775807) : Calls Tryz.prog 49 #[.int .i64 5, .int .i64 a, .int .i64 b] w fun e w' => e = .returned (.int .i64 (bits .and .i64 a b)) ∧ w' = w := by
  rw [and_R]
  go_enter Tryz.func49, Tryz.ntmps49
  go_wp2_with (go_at_call 67; refine (refBits_any a b _ _ (bv a &&& bv b) _ h0 h1 hb0 hb1 (comb5 a b)).mono ?_; rintro e w' ⟨rfl, rfl⟩)
  go_ret
  exact ⟨rfl, rfl⟩
theorem comb6 (a b : Int) : ∀ i, i < 64 → (bv a ||| bv b).getLsbD i = combV true true ((bv a).getLsbD i) ((bv b).getLsbD i) := by
  intro i _
  rw [BitVec.getLsbD_or]
  cases (bv a).getLsbD i <;> cases (bv b).getLsbD i <;> rfl
theorem refWork6 (a b : Int) (w : World) (h0 : -9223372036854775808 ≤ a) (h1 : a ≤ 9223372036854775807) (hb0 : -9223372036854775808 ≤ b) (hb1 : b ≤ 9223372036854775807) : Calls Tryz.prog 49 #[.int .i64 6, .int .i64 a, .int .i64 b] w fun e w' => e = .returned (.int .i64 (bits .or .i64 a b)) ∧ w' = w := by
  rw [or_R]
  go_enter Tryz.func49, Tryz.ntmps49
  go_wp2_with (go_at_call 67; refine (refBits_any a b _ _ (bv a ||| bv b) _ h0 h1 hb0 hb1 (comb6 a b)).mono ?_; rintro e w' ⟨rfl, rfl⟩)
  go_ret
  exact ⟨rfl, rfl⟩
theorem comb7 (a b : Int) : ∀ i, i < 64 → (bv a ^^^ bv b).getLsbD i = combV false true ((bv a).getLsbD i) ((bv b).getLsbD i) := by
  intro i _
  rw [BitVec.getLsbD_xor]
  cases (bv a).getLsbD i <;> cases (bv b).getLsbD i <;> rfl
theorem refWork7 (a b : Int) (w : World) (h0 : -9223372036854775808 ≤ a) (h1 : a ≤ 9223372036854775807) (hb0 : -9223372036854775808 ≤ b) (hb1 : b ≤ 9223372036854775807) : Calls Tryz.prog 49 #[.int .i64 7, .int .i64 a, .int .i64 b] w fun e w' => e = .returned (.int .i64 (bits .xor .i64 a b)) ∧ w' = w := by
  rw [xor_R]
  go_enter Tryz.func49, Tryz.ntmps49
  go_wp2_with (go_at_call 67; refine (refBits_any a b _ _ (bv a ^^^ bv b) _ h0 h1 hb0 hb1 (comb7 a b)).mono ?_; rintro e w' ⟨rfl, rfl⟩)
  go_ret
  exact ⟨rfl, rfl⟩
theorem shlN_work (a b : Int) : shlN a (b % 64).toNat = shlV a b := rfl
theorem refWork8 (a b : Int) (w : World) (h0 : -9223372036854775808 ≤ a) (h1 : a ≤ 9223372036854775807) : Calls Tryz.prog 49 #[.int .i64 8, .int .i64 a, .int .i64 b] w fun e w' => e = .returned (.int .i64 (shlV a b)) ∧ w' = w := by
  have E : Hid (shlN a (b % 64).toNat = shlV a b) := shlN_work a b
  have G : Hid (∃ n : Nat, b % 64 = n ∧ n < 64 ∧ n = (b % 64).toNat) := ⟨(b % 64).toNat, by omega, by omega, rfl⟩
  go_enter Tryz.func49, Tryz.ntmps49
  go_wp2_with fail
  refine (refShift_any _ _).mono ?_
  rintro e w' ⟨rfl, rfl⟩
  go_wp2_with fail
  obtain ⟨n, hn, hl, ht⟩ := G.out
  rw [← ht] at E
  rw [hn]
  clear hn ht
  refine (refShl_any a n _ h0 h1 hl).mono ?_
  rintro e w' ⟨rfl, rfl⟩
  go_wp2
  go_ret
  exact ⟨by rw [← E.out]; rfl, rfl⟩
theorem shrN_work (a b : Int) : shrN a (b % 64).toNat = shrV a b := rfl
theorem refWork9 (a b : Int) (w : World) (h0 : -9223372036854775808 ≤ a) (h1 : a ≤ 9223372036854775807) : Calls Tryz.prog 49 #[.int .i64 9, .int .i64 a, .int .i64 b] w fun e w' => e = .returned (.int .i64 (shrV a b)) ∧ w' = w := by
  have E : Hid (shrN a (b % 64).toNat = shrV a b) := shrN_work a b
  have G : Hid (∃ n : Nat, b % 64 = n ∧ n < 64 ∧ n = (b % 64).toNat) := ⟨(b % 64).toNat, by omega, by omega, rfl⟩
  go_enter Tryz.func49, Tryz.ntmps49
  go_wp2_with fail
  refine (refShift_any _ _).mono ?_
  rintro e w' ⟨rfl, rfl⟩
  go_wp2_with fail
  obtain ⟨n, hn, hl, ht⟩ := G.out
  rw [← ht] at E
  rw [hn]
  clear hn ht
  refine (refShr_any a n _ h0 h1 hl).mono ?_
  rintro e w' ⟨rfl, rfl⟩
  go_wp2
  go_ret
  exact ⟨by rw [← E.out]; rfl, rfl⟩
theorem refWork10 (a b : Int) (w : World) : Calls Tryz.prog 49 #[.int .i64 10, .int .i64 a, .int .i64 b] w fun e w' => e = .returned (.int .i64 (minV a b)) ∧ w' = w := by
  go_enter Tryz.func49, Tryz.ntmps49
  go_wp2_with (go_at_call 70; refine (refCompare10 _ _ _).mono ?_; rintro e w' ⟨rfl, rfl⟩)
  go_ret
  exact ⟨rfl, rfl⟩
theorem refWork11 (a b : Int) (w : World) : Calls Tryz.prog 49 #[.int .i64 11, .int .i64 a, .int .i64 b] w fun e w' => e = .returned (.int .i64 (maxV a b)) ∧ w' = w := by
  go_enter Tryz.func49, Tryz.ntmps49
  go_wp2_with (go_at_call 70; refine (refCompare11 _ _ _).mono ?_; rintro e w' ⟨rfl, rfl⟩)
  go_ret
  exact ⟨rfl, rfl⟩
theorem refWork12 (a b : Int) (w : World) : Calls Tryz.prog 49 #[.int .i64 12, .int .i64 a, .int .i64 b] w fun e w' => e = .returned (.int .i64 (truthV (decide (a < b)))) ∧ w' = w := by
  go_enter Tryz.func49, Tryz.ntmps49
  go_wp2_with (go_at_call 70; refine (refCompare12 _ _ _).mono ?_; rintro e w' ⟨rfl, rfl⟩)
  go_ret
  exact ⟨rfl, rfl⟩
theorem refWork13 (a b : Int) (w : World) : Calls Tryz.prog 49 #[.int .i64 13, .int .i64 a, .int .i64 b] w fun e w' => e = .returned (.int .i64 (truthV (decide (a ≤ b)))) ∧ w' = w := by
  go_enter Tryz.func49, Tryz.ntmps49
  go_wp2_with (go_at_call 70; refine (refCompare13 _ _ _).mono ?_; rintro e w' ⟨rfl, rfl⟩)
  go_ret
  exact ⟨rfl, rfl⟩
theorem refWork14 (a b : Int) (w : World) : Calls Tryz.prog 49 #[.int .i64 14, .int .i64 a, .int .i64 b] w fun e w' => e = .returned (.int .i64 (truthV (a == b))) ∧ w' = w := by
  go_enter Tryz.func49, Tryz.ntmps49
  go_wp2_with (go_at_call 70; refine (refCompare14 _ _ _).mono ?_; rintro e w' ⟨rfl, rfl⟩)
  go_ret
  exact ⟨rfl, rfl⟩
theorem refWork15 (a b : Int) (w : World) : Calls Tryz.prog 49 #[.int .i64 15, .int .i64 a, .int .i64 b] w fun e w' => e = .returned (.int .i64 (truthV (a != b))) ∧ w' = w := by
  go_enter Tryz.func49, Tryz.ntmps49
  go_wp2_with (go_at_call 70; refine (refCompare15 _ _ _).mono ?_; rintro e w' ⟨rfl, rfl⟩)
  go_ret
  exact ⟨rfl, rfl⟩
theorem refWork_any (op a b : Int) (w : World) (h : isOpV op = true) (h0 : -9223372036854775808 ≤ a) (h1 : a ≤ 9223372036854775807) (hb0 : -9223372036854775808 ≤ b) (hb1 : b ≤ 9223372036854775807) : Calls Tryz.prog 49 #[.int .i64 op, .int .i64 a, .int .i64 b] w fun e w' => e = .returned (.int .i64 (workV op a b)) ∧ w' = w := by
  have h : 0 ≤ op ∧ op < 16 := by simpa [isOpV] using h
  have hc : op = 0 ∨ op = 1 ∨ op = 2 ∨ op = 3 ∨ op = 4 ∨ op = 5 ∨ op = 6 ∨ op = 7 ∨ op = 8 ∨ op = 9 ∨ op = 10 ∨ op = 11 ∨ op = 12 ∨ op = 13 ∨ op = 14 ∨ op = 15 := by omega
  rcases hc with rfl | rfl | rfl | rfl | rfl | rfl | rfl | rfl | rfl | rfl | rfl | rfl | rfl | rfl | rfl | rfl
  · exact refWork0 a b w
  · exact refWork1 a b w
  · exact refWork2 a b w
  · exact refWork3 a b w
  · exact refWork4 a b w h0 h1 hb0 hb1
  · exact refWork5 a b w h0 h1 hb0 hb1
  · exact refWork6 a b w h0 h1 hb0 hb1
  · exact refWork7 a b w h0 h1 hb0 hb1
  · exact refWork8 a b w h0 h1
  · exact refWork9 a b w h0 h1
  · exact refWork10 a b w
  · exact refWork11 a b w
  · exact refWork12 a b w
  · exact refWork13 a b w
  · exact refWork14 a b w
  · exact refWork15 a b w
theorem refApply_any (op a b : Int) (w : World) (h : isOpV op = true) (h0 : -9223372036854775808 ≤ a) (h1 : a ≤ 9223372036854775807) (hb0 : -9223372036854775808 ≤ b) (hb1 : b ≤ 9223372036854775807) : Calls Tryz.prog 37 #[.int .i64 op, .int .i64 a, .int .i64 b] w fun e w' => e = .returned (.tuple #[.int .i64 (workV op a b), .int .i64 0]) ∧ w' = w := by
  have H : Hid (isOpV op = true) := h
  have hr : 0 ≤ op ∧ op < 16 := by simpa [isOpV] using h
  obtain ⟨r0, r1⟩ := hr
  clear h
  go_enter Tryz.func37, Tryz.ntmps37
  go_wp2_with (go_at_call 49; refine (refWork_any _ _ _ _ H.out h0 h1 hb0 hb1).mono ?_; rintro e w' ⟨rfl, rfl⟩)
  go_ret2
  exact ⟨rfl, rfl⟩
end
end Go.Proofs.YtbdpdojeaahpjaaGreatDoor
