import Derived.Test.YthignlailbekmaaDoorPlain
/-! Bits one at a time, doublings and halvings: the document's own ways, as plain functions. -/
namespace Go.PlainOps
open Go.RowKit

def oddV (a : Int) : Bool := decide (a % 2 = 1)
def halfV (a : Int) : Int := a / 2
def shrN (a : Int) (k : Nat) : Int := a / 2 ^ k
def shlN (a : Int) (k : Nat) : Int := wrap64 (a * 2 ^ k)
def unitP (k : Nat) : Int := wrap64 (2 ^ k)
def accV (X : BitVec 64) (k : Nat) : Int := wrap64 ((X.toNat % 2 ^ k : Nat) : Int)
def combV (both one x y : Bool) : Bool := (x && y && both) || ((x != y) && one)

theorem odd_tmod (a : Int) : (a.tmod 2 != 0) = oddV a := by
  unfold oddV
  rw [Int.tmod_eq_emod]
  rw [Bool.eq_iff_iff]
  simp only [bne_iff_ne, decide_eq_true_eq]
  split <;> omega
theorem half_neg (a : Int) (h : a < 0) (ho : oddV a = true) : a.tdiv 2 - 1 = halfV a := by
  unfold halfV
  simp only [oddV, decide_eq_true_eq] at ho
  have h1 := Int.tdiv_mul_add_tmod a 2
  have h2 := Int.tmod_eq_emod (a := a) (b := 2)
  split at h2 <;> omega
theorem half_pos (a : Int) (h : ¬ (a < 0 ∧ oddV a = true)) : a.tdiv 2 = halfV a := by
  unfold halfV
  simp only [oddV, decide_eq_true_eq] at h
  have h1 := Int.tdiv_mul_add_tmod a 2
  have h2 := Int.tmod_eq_emod (a := a) (b := 2)
  split at h2 <;> omega
theorem half_fits (a : Int) (h0 : -9223372036854775808 ≤ a) (h1 : a ≤ 9223372036854775807) : wrap64 (halfV a) = halfV a := by
  unfold wrap64 halfV; omega
theorem half_bounds (a : Int) (h0 : -9223372036854775808 ≤ a) (h1 : a ≤ 9223372036854775807) : -4611686018427387904 ≤ halfV a ∧ halfV a ≤ 4611686018427387903 := by
  unfold halfV; omega
theorem tdiv_two_bounds (a : Int) (h0 : -9223372036854775808 ≤ a) (h1 : a ≤ 9223372036854775807) : -4611686018427387904 ≤ a.tdiv 2 ∧ a.tdiv 2 ≤ 4611686018427387904 := by
  have h1 := Int.tdiv_mul_add_tmod a 2
  have h2 := Int.tmod_eq_emod (a := a) (b := 2)
  split at h2 <;> omega
theorem shr_zero (a : Int) : shrN a 0 = a := by simp [shrN]
theorem shr_succ (a : Int) (k : Nat) : halfV (shrN a k) = shrN a (k + 1) := by
  unfold halfV shrN
  rw [Int.ediv_ediv_of_nonneg (Int.le_of_lt (Int.pow_pos (by decide))), Int.pow_succ]
theorem shr_fits (a : Int) (k : Nat) (h0 : -9223372036854775808 ≤ a) (h1 : a ≤ 9223372036854775807) : -9223372036854775808 ≤ shrN a k ∧ shrN a k ≤ 9223372036854775807 := by
  induction k with
  | zero => rw [shr_zero]; exact ⟨h0, h1⟩
  | succ k ih => rw [← shr_succ]; have := half_bounds _ ih.1 ih.2; omega
theorem shl_zero (a : Int) (h0 : -9223372036854775808 ≤ a) (h1 : a ≤ 9223372036854775807) : shlN a 0 = a := by
  unfold shlN wrap64; rw [Int.pow_zero]; omega
theorem shl_succ (a : Int) (k : Nat) : wrap64 (shlN a k + shlN a k) = shlN a (k + 1) := by
  unfold shlN
  rw [Int.pow_succ, ← Int.mul_assoc]
  generalize a * 2 ^ k = p
  unfold wrap64; omega
theorem unit_zero : unitP 0 = 1 := by unfold unitP wrap64; rw [Int.pow_zero]; omega
theorem unit_succ (k : Nat) : wrap64 (unitP k + unitP k) = unitP (k + 1) := by
  unfold unitP
  rw [Int.pow_succ]
  generalize (2 : Int) ^ k = p
  unfold wrap64; omega
theorem acc_zero (X : BitVec 64) : accV X 0 = 0 := by
  unfold accV; rw [Nat.pow_zero, Nat.mod_one]; unfold wrap64; omega
theorem acc_set (X : BitVec 64) (k : Nat) (h : X.getLsbD k = true) : wrap64 (accV X k + unitP k) = accV X (k + 1) := by
  have e : X.toNat % 2 ^ (k + 1) = X.toNat % 2 ^ k + 2 ^ k := by
    rw [Nat.mod_pow_succ]
    have : X.toNat.testBit k = true := h
    rw [Nat.testBit_eq_decide_div_mod_eq, decide_eq_true_eq] at this
    rw [this, Nat.mul_one]
  unfold accV unitP
  rw [e]
  have e2 : ((X.toNat % 2 ^ k + 2 ^ k : Nat) : Int) = ((X.toNat % 2 ^ k : Nat) : Int) + 2 ^ k := by simp
  rw [e2]
  generalize ((X.toNat % 2 ^ k : Nat) : Int) = p
  generalize (2 : Int) ^ k = q
  unfold wrap64; omega
theorem acc_clear (X : BitVec 64) (k : Nat) (h : X.getLsbD k = false) : accV X k = accV X (k + 1) := by
  have e : X.toNat % 2 ^ (k + 1) = X.toNat % 2 ^ k := by
    rw [Nat.mod_pow_succ]
    have : X.toNat.testBit k = false := h
    rw [Nat.testBit_eq_decide_div_mod_eq, decide_eq_false_iff_not] at this
    have h0 : X.toNat / 2 ^ k % 2 = 0 := by omega
    rw [h0, Nat.mul_zero, Nat.add_zero]
  unfold accV
  rw [e]
theorem acc_end (X : BitVec 64) : accV X 64 = X.toInt := by
  unfold accV
  rw [Nat.mod_eq_of_lt X.isLt, wrap64_bv, bv_toNat]
theorem bit_odd (a : Int) (k : Nat) (hk : k < 64) : (bv a).getLsbD k = oddV (shrN a k) := by
  have h1 : (bv a).getLsbD k = (bv a).toNat.testBit k := rfl
  rw [h1, Nat.testBit_eq_decide_div_mod_eq]
  unfold oddV shrN
  have hn : ((bv a).toNat : Int) = a % 2 ^ 64 := by simp [bv]; omega
  have e : (((bv a).toNat / 2 ^ k % 2 : Nat) : Int) = a / 2 ^ k % 2 := by
    rw [Int.natCast_emod, Int.natCast_ediv, hn, Int.natCast_pow]
    have hs : (2 : Int) ^ 64 = 2 ^ k * (2 * 2 ^ (63 - k)) := by
      rw [← Int.pow_succ', ← Int.pow_add]; congr 1; omega
    have hp : (0 : Int) < 2 ^ k := Int.pow_pos (by decide)
    have hd := Int.mul_ediv_add_emod a (2 ^ 64)
    have h2 : a / 2 ^ k = a % 2 ^ 64 / 2 ^ k + (2 * 2 ^ (63 - k)) * (a / 2 ^ 64) := by
      conv => lhs; rw [← hd, Int.add_comm]
      rw [hs, Int.mul_assoc, Int.add_mul_ediv_left _ _ (by omega)]
    rw [h2, Int.mul_assoc]
    exact (Int.add_mul_emod_self_left _ 2 _).symm
  rw [Bool.eq_iff_iff]
  simp only [decide_eq_true_eq]
  omega
/-- A word read as a signed number: shut, so that no simp lays it open. -/
def bitsR (X : BitVec 64) : Int := X.toInt
theorem bitsR_eq (X : BitVec 64) : bitsR X = X.toInt := rfl
theorem and_R (a b : Int) : bits .and .i64 a b = bitsR (bv a &&& bv b) := bits_and a b
theorem or_R (a b : Int) : bits .or .i64 a b = bitsR (bv a ||| bv b) := bits_or a b
theorem xor_R (a b : Int) : bits .xor .i64 a b = bitsR (bv a ^^^ bv b) := bits_xor a b
/-- The document's quotient and rest are the operations'. -/
theorem quot_one (a : Int) : wrap64 (0 - a) = quotV a (-1) := by
  unfold quotV
  rw [if_neg (by decide), Int.tdiv_neg, Int.tdiv_one]
  congr 1
  omega
theorem rem_doc (a b : Int) (h0 : -9223372036854775808 ≤ a) (h1 : a ≤ 9223372036854775807) (hb0 : -9223372036854775808 ≤ b) (hb1 : b ≤ 9223372036854775807) : wrap64 (a - wrap64 (quotV a b * b)) = remV a b := by
  unfold quotV remV
  by_cases hb : b = 0
  · subst hb; simp [wrap64]; omega
  · rw [if_neg hb, if_neg hb]
    have e := Int.tdiv_mul_add_tmod a b
    have hr : -9223372036854775808 ≤ a.tmod b ∧ a.tmod b ≤ 9223372036854775807 := by
      rcases Int.lt_or_gt_of_ne hb with h | h
      · have := tmod_bounds a (-b) (by omega)
        rw [Int.tmod_neg] at this; omega
      · have := tmod_bounds a b (by omega); omega
    rw [← toInt_bv hr.1 hr.2]
    have e2 : a.tmod b = a - a.tdiv b * b := by omega
    rw [e2]
    simp only [wrap64_bv, bv_mul, bv_sub, bv_toInt]
end Go.PlainOps
