import Derived.Test.YtoglgifmgpogjabPlain
/-! The plain laws of the operations that have a unit. -/
namespace Go.PlainOps
open Go.RowKit

def sevenV (i : Int) : Int :=
  if i = 0 then 0 else if i = 1 then 2 else if i = 2 then 5 else if i = 3 then 6 else if i = 4 then 7 else if i = 5 then 10 else 11
theorem sevenV_cases (i : Int) : sevenV i = 0 ∨ sevenV i = 2 ∨ sevenV i = 5 ∨ sevenV i = 6 ∨ sevenV i = 7 ∨ sevenV i = 10 ∨ sevenV i = 11 := by
  unfold sevenV; repeat' split
  all_goals simp
theorem hasU_cases {op : Int} (h : hasU op = true) : op = 0 ∨ op = 2 ∨ op = 5 ∨ op = 6 ∨ op = 7 ∨ op = 10 ∨ op = 11 := by
  simp only [hasU, Bool.or_eq_true, beq_iff_eq] at h
  omega
theorem hasU_seven (i : Int) : hasU (sevenV i) = true := by
  rcases sevenV_cases i with h | h | h | h | h | h | h <;> rw [h] <;> rfl
theorem isOp_hasU {op : Int} (h : hasU op = true) : isOpV op = true := by
  rcases hasU_cases h with h | h | h | h | h | h | h <;> rw [h] <;> rfl

theorem workV_fits (op a b : Int) (h : hasU op = true) (ha : -9223372036854775808 ≤ a ∧ a ≤ 9223372036854775807) (hb : -9223372036854775808 ≤ b ∧ b ≤ 9223372036854775807) :
    -9223372036854775808 ≤ workV op a b ∧ workV op a b ≤ 9223372036854775807 := by
  rcases hasU_cases h with rfl | rfl | rfl | rfl | rfl | rfl | rfl
  · show _ ≤ wrap64 (a + b) ∧ wrap64 (a + b) ≤ _; unfold wrap64; omega
  · show _ ≤ wrap64 (a * b) ∧ wrap64 (a * b) ≤ _; unfold wrap64; omega
  · show _ ≤ bits .and .i64 a b ∧ bits .and .i64 a b ≤ _; rw [bits_and]; exact bv_bounds _
  · show _ ≤ bits .or .i64 a b ∧ bits .or .i64 a b ≤ _; rw [bits_or]; exact bv_bounds _
  · show _ ≤ bits .xor .i64 a b ∧ bits .xor .i64 a b ≤ _; rw [bits_xor]; exact bv_bounds _
  · show _ ≤ minV a b ∧ minV a b ≤ _; unfold minV; split <;> omega
  · show _ ≤ maxV a b ∧ maxV a b ≤ _; unfold maxV; split <;> omega
theorem workV_comm (op a b : Int) (h : hasU op = true) : workV op a b = workV op b a := by
  rcases hasU_cases h with rfl | rfl | rfl | rfl | rfl | rfl | rfl
  · show wrap64 (a + b) = wrap64 (b + a); rw [Int.add_comm]
  · show wrap64 (a * b) = wrap64 (b * a); rw [Int.mul_comm]
  · show bits .and .i64 a b = bits .and .i64 b a; rw [bits_and, bits_and, BitVec.and_comm]
  · show bits .or .i64 a b = bits .or .i64 b a; rw [bits_or, bits_or, BitVec.or_comm]
  · show bits .xor .i64 a b = bits .xor .i64 b a; rw [bits_xor, bits_xor, BitVec.xor_comm]
  · show minV a b = minV b a; unfold minV; split <;> split <;> omega
  · show maxV a b = maxV b a; unfold maxV; split <;> split <;> omega
theorem workV_assoc (op a b c : Int) (h : hasU op = true) : workV op (workV op a b) c = workV op a (workV op b c) := by
  rcases hasU_cases h with rfl | rfl | rfl | rfl | rfl | rfl | rfl
  · show wrap64 (wrap64 (a + b) + c) = wrap64 (a + wrap64 (b + c)); unfold wrap64; omega
  · show wrap64 (wrap64 (a * b) * c) = wrap64 (a * wrap64 (b * c))
    simp only [wrap64_bv, bv_mul, bv_toInt, BitVec.mul_assoc]
  · show bits .and .i64 (bits .and .i64 a b) c = bits .and .i64 a (bits .and .i64 b c)
    simp only [bits_and, bv_toInt, BitVec.and_assoc]
  · show bits .or .i64 (bits .or .i64 a b) c = bits .or .i64 a (bits .or .i64 b c)
    simp only [bits_or, bv_toInt, BitVec.or_assoc]
  · show bits .xor .i64 (bits .xor .i64 a b) c = bits .xor .i64 a (bits .xor .i64 b c)
    simp only [bits_xor, bv_toInt, BitVec.xor_assoc]
  · show minV (minV a b) c = minV a (minV b c)
    unfold minV; repeat' split
    all_goals omega
  · show maxV (maxV a b) c = maxV a (maxV b c)
    unfold maxV; repeat' split
    all_goals omega
theorem workV_unit (op a : Int) (h : hasU op = true) (h0 : -9223372036854775808 ≤ a) (h1 : a ≤ 9223372036854775807) : workV op (unitV op) a = a := by
  rcases hasU_cases h with rfl | rfl | rfl | rfl | rfl | rfl | rfl
  · show wrap64 (0 + a) = a; unfold wrap64; omega
  · show wrap64 (1 * a) = a; unfold wrap64; omega
  · show bits .and .i64 (-1) a = a
    rw [bits_and]
    have e : bv (-1) = BitVec.allOnes 64 := by decide
    rw [e, BitVec.allOnes_and, toInt_bv h0 h1]
  · show bits .or .i64 0 a = a
    rw [bits_or]
    have e : bv 0 = 0#64 := by decide
    rw [e, BitVec.zero_or, toInt_bv h0 h1]
  · show bits .xor .i64 0 a = a
    rw [bits_xor]
    have e : bv 0 = 0#64 := by decide
    rw [e, BitVec.zero_xor, toInt_bv h0 h1]
  · show minV 9223372036854775807 a = a; unfold minV; split <;> omega
  · show maxV (-9223372036854775808) a = a; unfold maxV; split <;> omega
theorem workV_unit' (op a : Int) (h : hasU op = true) (h0 : -9223372036854775808 ≤ a) (h1 : a ≤ 9223372036854775807) : workV op a (unitV op) = a := by
  rw [workV_comm op _ _ h]; exact workV_unit op a h h0 h1
theorem unitV_fits (op : Int) : -9223372036854775808 ≤ unitV op ∧ unitV op ≤ 9223372036854775807 := by
  unfold unitV; repeat' split
  all_goals omega
end Go.PlainOps
