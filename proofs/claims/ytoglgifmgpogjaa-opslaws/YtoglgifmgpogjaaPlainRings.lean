import Derived.Test.YtoglgifmgpogjaaPlainLaws
/-! The plain laws that tie the operations to one another. -/
namespace Go.PlainOps
open Go.RowKit

theorem distrib (a b c : Int) : workV 2 a (workV 0 b c) = workV 0 (workV 2 a b) (workV 2 a c) := by
  show wrap64 (a * wrap64 (b + c)) = wrap64 (wrap64 (a * b) + wrap64 (a * c))
  simp only [wrap64_bv, bv_mul, bv_add, bv_toInt, BitVec.mul_add]
theorem less_back (a b : Int) (h0 : -9223372036854775808 ≤ a) (h1 : a ≤ 9223372036854775807) : workV 0 (workV 1 a b) b = a := by
  show wrap64 (wrap64 (a - b) + b) = a
  unfold wrap64; omega
theorem work8_eq (x c : Int) : workV 8 x c = wrap64 (x * 2 ^ (c % 64).toNat) := rfl
theorem work2_eq (x y : Int) : workV 2 x y = wrap64 (x * y) := rfl
theorem one_bv : bv 1 = 1#64 := by decide
theorem mul_one_wrap (a p : Int) : wrap64 (a * p) = wrap64 (a * wrap64 (1 * p)) := by
  simp only [wrap64_bv, bv_mul, bv_toInt, one_bv, BitVec.one_mul]
theorem shl_mul (a c : Int) : workV 8 a c = workV 2 a (workV 8 1 c) := by
  rw [work8_eq, work8_eq, work2_eq]
  exact mul_one_wrap a _
theorem sum_bits (a b : Int) : workV 0 (workV 5 a b) (workV 6 a b) = wrap64 (a + b) := by
  show wrap64 (bits .and .i64 a b + bits .or .i64 a b) = _
  rw [wrap64_bv, wrap64_bv, bv_add, bits_and, bits_or, bv_toInt, bv_toInt, and_add_or, bv_add]
theorem apart_bits (a b : Int) : workV 1 (workV 6 a b) (workV 5 a b) = workV 7 a b := by
  show wrap64 (bits .or .i64 a b - bits .and .i64 a b) = bits .xor .i64 a b
  rw [wrap64_bv, bv_sub, bits_and, bits_or, bits_xor, bv_toInt, bv_toInt, or_sub_and]
theorem whole_parts (a b : Int) (h0 : -9223372036854775808 ≤ a) (h1 : a ≤ 9223372036854775807) : workV 0 (workV 2 (workV 3 a b) b) (workV 4 a b) = a := by
  show wrap64 (wrap64 (quotV a b * b) + remV a b) = a
  unfold quotV remV
  by_cases hb : b = 0
  · subst hb; simp [wrap64]; omega
  · rw [if_neg hb, if_neg hb]
    have e := Int.tdiv_mul_add_tmod a b
    rw [← toInt_bv h0 h1]
    conv => rhs; rw [← e]
    simp only [wrap64_bv, bv_mul, bv_add, bv_toInt, toInt_bv h0 h1]
/-- The rest has the sign of a and is nearer to 0 than b. -/
theorem rem_pos (a b : Int) (ha : 0 ≤ a) : 0 ≤ workV 4 a b := by
  show 0 ≤ remV a b
  unfold remV; split
  · exact ha
  · exact Int.tmod_nonneg b ha
theorem rem_neg (a b : Int) (ha : a ≤ 0) : workV 4 a b ≤ 0 := by
  show remV a b ≤ 0
  unfold remV; split
  · exact ha
  · have := Int.tmod_nonneg b (a := -a) (by omega)
    rw [Int.neg_tmod] at this; omega
theorem rem_near (a b : Int) (hb : 0 < b) : workV 4 a b < b ∧ -b < workV 4 a b := by
  show remV a b < b ∧ -b < remV a b
  unfold remV; rw [if_neg (by omega)]
  have := tmod_bounds a b (by omega)
  omega
theorem rem_near' (a b : Int) (hb : b < 0) : b < workV 4 a b ∧ workV 4 a b < -b := by
  show b < remV a b ∧ remV a b < -b
  unfold remV; rw [if_neg (by omega)]
  have := tmod_bounds a (-b) (by omega)
  rw [Int.tmod_neg] at this
  omega
theorem rem_zero (a : Int) : workV 4 a 0 = a := by
  show remV a 0 = a
  simp [remV]
theorem lt1 {a b : Int} (h : a < b) : workV 12 a b = 1 := by show truthV (decide (a < b)) = 1; simp [truthV, h]
theorem lt0 {a b : Int} (h : ¬ a < b) : workV 12 a b = 0 := by show truthV (decide (a < b)) = 0; simp [truthV]; omega
theorem le1 {a b : Int} (h : a ≤ b) : workV 13 a b = 1 := by show truthV (decide (a ≤ b)) = 1; simp [truthV, h]
theorem le0 {a b : Int} (h : ¬ a ≤ b) : workV 13 a b = 0 := by show truthV (decide (a ≤ b)) = 0; simp [truthV]; omega
theorem eq1 {a b : Int} (h : a = b) : workV 14 a b = 1 := by show truthV (a == b) = 1; simp [truthV, h]
theorem eq0 {a b : Int} (h : ¬ a = b) : workV 14 a b = 0 := by show truthV (a == b) = 0; simp [truthV, h]
theorem ne1 {a b : Int} (h : ¬ a = b) : workV 15 a b = 1 := by show truthV (a != b) = 1; simp [truthV, h]
theorem ne0 {a b : Int} (h : a = b) : workV 15 a b = 0 := by show truthV (a != b) = 0; simp [truthV, h]
theorem min_left {a b : Int} (h : a ≤ b) : workV 10 a b = a := by show minV a b = a; unfold minV; split <;> omega
theorem min_right {a b : Int} (h : b ≤ a) : workV 10 a b = b := by show minV a b = b; unfold minV; split <;> omega
theorem max_left {a b : Int} (h : b ≤ a) : workV 11 a b = a := by show maxV a b = a; unfold maxV; split <;> omega
theorem max_right {a b : Int} (h : a ≤ b) : workV 11 a b = b := by show maxV a b = b; unfold maxV; split <;> omega
end Go.PlainOps
