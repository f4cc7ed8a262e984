import Derived.Test.YtdiabpoafennlaaProg
import Derived.WalkKit
import Derived.WalkSpells
import Derived.WalkLawsBesides
import Derived.Test.YtdiabpoafennlaaPkAC
import Derived.Deep.QuietTactic
import Derived.BigQuiet
import Derived.WalkMore
import Derived.Deep.RegionHeld3
import Derived.Deep.DeepCutAuto
/-! The contracts of package ops' functions without memory: each returns what its plain function says, and the world stands. -/
namespace Go.Proofs.Ytdiabpoafennlaa
open Go.RowKit Go.PlainOps

set_option maxHeartbeats 400000 in
theorem isOp_any (op : Int) (w : World) : Calls Try.prog 50 #[.int .i64 op] w fun e w' => e = .returned (.bool (isOpV op)) ∧ w' = w := by
  by_cases h1 : 0 ≤ op
  · by_cases h2 : op < 16
    · go_enter Try.func50, Try.ntmps50
      go_wp2
      go_ret
      exact ⟨by simp [isOpV, h1, h2], rfl⟩
    · go_enter Try.func50, Try.ntmps50
      go_wp2
      go_ret
      exact ⟨by simp [isOpV, h2], rfl⟩
  · go_enter Try.func50, Try.ntmps50
    go_wp2
    go_ret
    exact ⟨by simp [isOpV]; omega, rfl⟩

theorem shift_any (x : Int) (w : World) : Calls Try.prog 54 #[.int .i64 x] w fun e w' => e = .returned (.int .u64 (x % 64)) ∧ w' = w := by
  have h0 : 0 ≤ x % 64 := by omega
  have h1 : x % 64 < 64 := by omega
  have hb := and63 x
  go_enter Try.func54, Try.ntmps54
  go_wp2
  go_ret
  exact ⟨rfl, rfl⟩

set_option maxHeartbeats 400000 in
theorem number_any (x : Bool) (w : World) : Calls Try.prog 55 #[.bool x] w fun e w' => e = .returned (.int .i64 (truthV x)) ∧ w' = w := by
  cases x
  all_goals
    go_enter Try.func55, Try.ntmps55
    go_wp2
    go_ret
    exact ⟨rfl, rfl⟩
set_option maxHeartbeats 400000 in
theorem quotient_any (a b : Int) (w : World) : Calls Try.prog 52 #[.int .i64 a, .int .i64 b] w fun e w' => e = .returned (.int .i64 (quotV a b)) ∧ w' = w := by
  by_cases h : b = 0
  · subst h
    go_enter Try.func52, Try.ntmps52
    go_wp2
    go_ret
    exact ⟨rfl, rfl⟩
  · have h' : (b == 0) = false := by simpa using h
    have H : Hid (¬ b = 0) := h; clear h
    go_enter Try.func52, Try.ntmps52
    go_wp2
    go_ret
    exact ⟨by simp [quotV, H.out], rfl⟩
set_option maxHeartbeats 400000 in
theorem remainder_any (a b : Int) (w : World) : Calls Try.prog 53 #[.int .i64 a, .int .i64 b] w fun e w' => e = .returned (.int .i64 (remV a b)) ∧ w' = w := by
  by_cases h : b = 0
  · subst h
    go_enter Try.func53, Try.ntmps53
    go_wp2
    go_ret
    exact ⟨rfl, rfl⟩
  · have h' : (b == 0) = false := by simpa using h
    have H : Hid (¬ b = 0) := h; clear h
    go_enter Try.func53, Try.ntmps53
    go_wp2
    go_ret
    exact ⟨by simp [remV, H.out], rfl⟩

section
set_option maxHeartbeats 400000
theorem work0 (a b : Int) (w : World) : Calls Try.prog 32 #[.int .i64 0, .int .i64 a, .int .i64 b] w fun e w' => e = .returned (.int .i64 (wrap64 (a + b))) ∧ w' = w := by
  go_enter Try.func32, Try.ntmps32
  go_wp2
  go_ret
  exact ⟨rfl, rfl⟩
theorem work1 (a b : Int) (w : World) : Calls Try.prog 32 #[.int .i64 1, .int .i64 a, .int .i64 b] w fun e w' => e = .returned (.int .i64 (wrap64 (a - b))) ∧ w' = w := by
  go_enter Try.func32, Try.ntmps32
  go_wp2
  go_ret
  exact ⟨rfl, rfl⟩
theorem work2 (a b : Int) (w : World) : Calls Try.prog 32 #[.int .i64 2, .int .i64 a, .int .i64 b] w fun e w' => e = .returned (.int .i64 (wrap64 (a * b))) ∧ w' = w := by
  go_enter Try.func32, Try.ntmps32
  go_wp2
  go_ret
  exact ⟨rfl, rfl⟩
theorem work3 (a b : Int) (w : World) : Calls Try.prog 32 #[.int .i64 3, .int .i64 a, .int .i64 b] w fun e w' => e = .returned (.int .i64 (quotV a b)) ∧ w' = w := by
  go_enter Try.func32, Try.ntmps32
  go_wp2_with (go_at_call 52; refine (quotient_any _ _ _).mono ?_; rintro e w' ⟨rfl, rfl⟩)
  go_ret
  exact ⟨rfl, rfl⟩
theorem work4 (a b : Int) (w : World) : Calls Try.prog 32 #[.int .i64 4, .int .i64 a, .int .i64 b] w fun e w' => e = .returned (.int .i64 (remV a b)) ∧ w' = w := by
  go_enter Try.func32, Try.ntmps32
  go_wp2_with (go_at_call 53; refine (remainder_any _ _ _).mono ?_; rintro e w' ⟨rfl, rfl⟩)
  go_ret
  exact ⟨rfl, rfl⟩
theorem work5 (a b : Int) (w : World) : Calls Try.prog 32 #[.int .i64 5, .int .i64 a, .int .i64 b] w fun e w' => e = .returned (.int .i64 (bits .and .i64 a b)) ∧ w' = w := by
  go_enter Try.func32, Try.ntmps32
  go_wp2
  go_ret
  exact ⟨rfl, rfl⟩
theorem work6 (a b : Int) (w : World) : Calls Try.prog 32 #[.int .i64 6, .int .i64 a, .int .i64 b] w fun e w' => e = .returned (.int .i64 (bits .or .i64 a b)) ∧ w' = w := by
  go_enter Try.func32, Try.ntmps32
  go_wp2
  go_ret
  exact ⟨rfl, rfl⟩
theorem work7 (a b : Int) (w : World) : Calls Try.prog 32 #[.int .i64 7, .int .i64 a, .int .i64 b] w fun e w' => e = .returned (.int .i64 (bits .xor .i64 a b)) ∧ w' = w := by
  go_enter Try.func32, Try.ntmps32
  go_wp2
  go_ret
  exact ⟨rfl, rfl⟩
theorem work8 (a b : Int) (w : World) : Calls Try.prog 32 #[.int .i64 8, .int .i64 a, .int .i64 b] w fun e w' => e = .returned (.int .i64 (shlV a b)) ∧ w' = w := by
  have h0 : 0 ≤ b % 64 := by omega
  have h1 : b % 64 < 64 := by omega
  go_enter Try.func32, Try.ntmps32
  go_wp2_with (go_at_call 54; refine (shift_any _ _).mono ?_; rintro e w' ⟨rfl, rfl⟩)
  go_ret
  exact ⟨rfl, rfl⟩
theorem work9 (a b : Int) (w : World) : Calls Try.prog 32 #[.int .i64 9, .int .i64 a, .int .i64 b] w fun e w' => e = .returned (.int .i64 (shrV a b)) ∧ w' = w := by
  have h0 : 0 ≤ b % 64 := by omega
  have h1 : b % 64 < 64 := by omega
  go_enter Try.func32, Try.ntmps32
  go_wp2_with (go_at_call 54; refine (shift_any _ _).mono ?_; rintro e w' ⟨rfl, rfl⟩)
  go_ret
  exact ⟨rfl, rfl⟩
theorem work10 (a b : Int) (w : World) : Calls Try.prog 32 #[.int .i64 10, .int .i64 a, .int .i64 b] w fun e w' => e = .returned (.int .i64 (minV a b)) ∧ w' = w := by
  unfold minV
  by_cases h : b < a
  · rw [if_pos h]
    go_enter Try.func32, Try.ntmps32
    go_wp2
    go_ret
    exact ⟨rfl, rfl⟩
  · rw [if_neg h]
    go_enter Try.func32, Try.ntmps32
    go_wp2
    go_ret
    exact ⟨rfl, rfl⟩
theorem work11 (a b : Int) (w : World) : Calls Try.prog 32 #[.int .i64 11, .int .i64 a, .int .i64 b] w fun e w' => e = .returned (.int .i64 (maxV a b)) ∧ w' = w := by
  unfold maxV
  by_cases h : a < b
  · rw [if_pos h]
    go_enter Try.func32, Try.ntmps32
    go_wp2
    go_ret
    exact ⟨rfl, rfl⟩
  · rw [if_neg h]
    go_enter Try.func32, Try.ntmps32
    go_wp2
    go_ret
    exact ⟨rfl, rfl⟩
theorem work12 (a b : Int) (w : World) : Calls Try.prog 32 #[.int .i64 12, .int .i64 a, .int .i64 b] w fun e w' => e = .returned (.int .i64 (truthV (decide (a < b)))) ∧ w' = w := by
  go_enter Try.func32, Try.ntmps32
  go_wp2_with (go_at_call 55; refine (number_any _ _).mono ?_; rintro e w' ⟨rfl, rfl⟩)
  go_ret
  exact ⟨rfl, rfl⟩
theorem work13 (a b : Int) (w : World) : Calls Try.prog 32 #[.int .i64 13, .int .i64 a, .int .i64 b] w fun e w' => e = .returned (.int .i64 (truthV (decide (a ≤ b)))) ∧ w' = w := by
  go_enter Try.func32, Try.ntmps32
  go_wp2_with (go_at_call 55; refine (number_any _ _).mono ?_; rintro e w' ⟨rfl, rfl⟩)
  go_ret
  exact ⟨rfl, rfl⟩
theorem work14 (a b : Int) (w : World) : Calls Try.prog 32 #[.int .i64 14, .int .i64 a, .int .i64 b] w fun e w' => e = .returned (.int .i64 (truthV (a == b))) ∧ w' = w := by
  go_enter Try.func32, Try.ntmps32
  go_wp2_with (go_at_call 55; refine (number_any _ _).mono ?_; rintro e w' ⟨rfl, rfl⟩)
  go_ret
  exact ⟨rfl, rfl⟩
theorem work15 (a b : Int) (w : World) : Calls Try.prog 32 #[.int .i64 15, .int .i64 a, .int .i64 b] w fun e w' => e = .returned (.int .i64 (truthV (a != b))) ∧ w' = w := by
  go_enter Try.func32, Try.ntmps32
  go_wp2_with (go_at_call 55; refine (number_any _ _).mono ?_; rintro e w' ⟨rfl, rfl⟩)
  go_ret
  exact ⟨rfl, rfl⟩
theorem work_any (op a b : Int) (w : World) (h : isOpV op = true) : Calls Try.prog 32 #[.int .i64 op, .int .i64 a, .int .i64 b] w fun e w' => e = .returned (.int .i64 (workV op a b)) ∧ w' = w := by
  have h : 0 ≤ op ∧ op < 16 := by simpa [isOpV] using h
  have hc : op = 0 ∨ op = 1 ∨ op = 2 ∨ op = 3 ∨ op = 4 ∨ op = 5 ∨ op = 6 ∨ op = 7 ∨ op = 8 ∨ op = 9 ∨ op = 10 ∨ op = 11 ∨ op = 12 ∨ op = 13 ∨ op = 14 ∨ op = 15 := by omega
  rcases hc with rfl | rfl | rfl | rfl | rfl | rfl | rfl | rfl | rfl | rfl | rfl | rfl | rfl | rfl | rfl | rfl
  · exact work0 a b w
  · exact work1 a b w
  · exact work2 a b w
  · exact work3 a b w
  · exact work4 a b w
  · exact work5 a b w
  · exact work6 a b w
  · exact work7 a b w
  · exact work8 a b w
  · exact work9 a b w
  · exact work10 a b w
  · exact work11 a b w
  · exact work12 a b w
  · exact work13 a b w
  · exact work14 a b w
  · exact work15 a b w

/-- Apply: an operation's value and OK; else 0 and ErrOp (10). -/
theorem apply_any (op a b : Int) (w : World) (h : isOpV op = true) : Calls Try.prog 47 #[.int .i64 op, .int .i64 a, .int .i64 b] w fun e w' => e = .returned (.tuple #[.int .i64 (workV op a b), .int .i64 0]) ∧ w' = w := by
  have H : Hid (isOpV op = true) := h
  go_enter Try.func47, Try.ntmps47
  go_wp2_with (first | (go_at_call 50; refine (isOp_any _ _).mono ?_; rintro e w' ⟨rfl, rfl⟩) | (go_at_call 32; refine (work_any _ _ _ _ H.out).mono ?_; rintro e w' ⟨rfl, rfl⟩))
  go_ret2
  exact ⟨rfl, rfl⟩
theorem apply_not (op a b : Int) (w : World) (h : isOpV op = false) : Calls Try.prog 47 #[.int .i64 op, .int .i64 a, .int .i64 b] w fun e w' => e = .returned (.tuple #[.int .i64 0, .int .i64 10]) ∧ w' = w := by
  go_enter Try.func47, Try.ntmps47
  go_wp2_with (go_at_call 50; refine (isOp_any _ _).mono ?_; rintro e w' ⟨rfl, rfl⟩)
  go_ret2
  exact ⟨rfl, rfl⟩
end
end Go.Proofs.Ytdiabpoafennlaa
/-! The contract of ops.Unit. -/
namespace Go.Proofs.Ytdiabpoafennlaa
open Go.RowKit Go.PlainOps

section
set_option maxHeartbeats 400000
theorem unit0 (w : World) : Calls Try.prog 51 #[.int .i64 0] w fun e w' => e = .returned (.tuple #[.int .i64 (0), .bool true]) ∧ w' = w := by
  go_enter Try.func51, Try.ntmps51
  go_wp2
  go_ret2
  exact ⟨rfl, rfl⟩
theorem unit2 (w : World) : Calls Try.prog 51 #[.int .i64 2] w fun e w' => e = .returned (.tuple #[.int .i64 (1), .bool true]) ∧ w' = w := by
  go_enter Try.func51, Try.ntmps51
  go_wp2
  go_ret2
  exact ⟨rfl, rfl⟩
theorem unit5 (w : World) : Calls Try.prog 51 #[.int .i64 5] w fun e w' => e = .returned (.tuple #[.int .i64 (-1), .bool true]) ∧ w' = w := by
  go_enter Try.func51, Try.ntmps51
  go_wp2
  go_ret2
  exact ⟨rfl, rfl⟩
theorem unit6 (w : World) : Calls Try.prog 51 #[.int .i64 6] w fun e w' => e = .returned (.tuple #[.int .i64 (0), .bool true]) ∧ w' = w := by
  go_enter Try.func51, Try.ntmps51
  go_wp2
  go_ret2
  exact ⟨rfl, rfl⟩
theorem unit7 (w : World) : Calls Try.prog 51 #[.int .i64 7] w fun e w' => e = .returned (.tuple #[.int .i64 (0), .bool true]) ∧ w' = w := by
  go_enter Try.func51, Try.ntmps51
  go_wp2
  go_ret2
  exact ⟨rfl, rfl⟩
theorem unit10 (w : World) : Calls Try.prog 51 #[.int .i64 10] w fun e w' => e = .returned (.tuple #[.int .i64 (9223372036854775807), .bool true]) ∧ w' = w := by
  go_enter Try.func51, Try.ntmps51
  go_wp2
  go_ret2
  exact ⟨rfl, rfl⟩
theorem unit11 (w : World) : Calls Try.prog 51 #[.int .i64 11] w fun e w' => e = .returned (.tuple #[.int .i64 (-9223372036854775808), .bool true]) ∧ w' = w := by
  go_enter Try.func51, Try.ntmps51
  go_wp2
  go_ret2
  exact ⟨rfl, rfl⟩
theorem unit_not (op : Int) (w : World) (h : hasU op = false) : Calls Try.prog 51 #[.int .i64 op] w fun e w' => e = .returned (.tuple #[.int .i64 0, .bool false]) ∧ w' = w := by
  simp only [hasU, Bool.or_eq_false_iff] at h
  obtain ⟨⟨⟨⟨⟨⟨h0, h2⟩, h5⟩, h6⟩, h7⟩, h10⟩, h11⟩ := h
  go_enter Try.func51, Try.ntmps51
  go_wp2
  go_ret2
  exact ⟨rfl, rfl⟩
theorem unit_any (op : Int) (w : World) (h : hasU op = true) : Calls Try.prog 51 #[.int .i64 op] w fun e w' => e = .returned (.tuple #[.int .i64 (unitV op), .bool true]) ∧ w' = w := by
  have hc : op = 0 ∨ op = 2 ∨ op = 5 ∨ op = 6 ∨ op = 7 ∨ op = 10 ∨ op = 11 := by
    simp only [hasU, Bool.or_eq_true, beq_iff_eq] at h
    omega
  rcases hc with rfl | rfl | rfl | rfl | rfl | rfl | rfl
  · exact unit0 w
  · exact unit2 w
  · exact unit5 w
  · exact unit6 w
  · exact unit7 w
  · exact unit10 w
  · exact unit11 w
end
end Go.Proofs.Ytdiabpoafennlaa
/-! The contracts of foldUnit, Fold, halves, Tree. -/
namespace Go.Proofs.Ytdiabpoafennlaa
open Go.RowKit Go.PlainOps

/-- A list of numbers that lies in memory (a nil one is empty): the value's length is the list's. -/
def Seg (w : World) (a : Option Addr) (cap : Nat) (zs : List Int) : Prop :=
  zs.length ≤ cap ∧ cap ≤ maxLen ∧ (zs = [] ∨ ∃ b off, a = some ⟨b, off, none⟩ ∧ ∀ i, i < zs.length → w.cell? ⟨b, off + i, none⟩ = some (.int .i64 (zs.getD i 0)))

section
set_option maxHeartbeats 400000
theorem foldUnit_ok (op n : Int) (w : World) (h : hasU op = true) (hn : n ≤ 65536) : Calls Try.prog 31 #[.int .i64 op, .int .i64 n] w fun e w' => e = .returned (.tuple #[.int .i64 (unitV op), .int .i64 0]) ∧ w' = w := by
  have hi := isOp_hasU h
  have H : Hid (hasU op = true) := h
  clear h
  go_enter Try.func31, Try.ntmps31
  go_wp2_with (first | (go_at_call 50; refine (isOp_any _ _).mono ?_; rintro e w' ⟨rfl, rfl⟩) | (go_at_call 51; refine (unit_any _ _ H.out).mono ?_; rintro e w' ⟨rfl, rfl⟩))
  go_ret2
  exact ⟨rfl, rfl⟩
theorem foldUnit_long (op n : Int) (w : World) (h : hasU op = true) (hn : 65536 < n) : Calls Try.prog 31 #[.int .i64 op, .int .i64 n] w fun e w' => e = .returned (.tuple #[.int .i64 0, .int .i64 2]) ∧ w' = w := by
  have hi := isOp_hasU h
  have H : Hid (hasU op = true) := h
  clear h
  go_enter Try.func31, Try.ntmps31
  go_wp2_with (first | (go_at_call 50; refine (isOp_any _ _).mono ?_; rintro e w' ⟨rfl, rfl⟩) | (go_at_call 51; refine (unit_any _ _ H.out).mono ?_; rintro e w' ⟨rfl, rfl⟩))
  go_ret2
  exact ⟨rfl, rfl⟩
theorem foldUnit_unit (op n : Int) (w : World) (hi : isOpV op = true) (h : hasU op = false) : Calls Try.prog 31 #[.int .i64 op, .int .i64 n] w fun e w' => e = .returned (.tuple #[.int .i64 0, .int .i64 11]) ∧ w' = w := by
  have H : Hid (hasU op = false) := h
  clear h
  go_enter Try.func31, Try.ntmps31
  go_wp2_with (first | (go_at_call 50; refine (isOp_any _ _).mono ?_; rintro e w' ⟨rfl, rfl⟩) | (go_at_call 51; refine (unit_not _ _ H.out).mono ?_; rintro e w' ⟨rfl, rfl⟩))
  go_ret2
  exact ⟨rfl, rfl⟩
theorem foldUnit_op (op n : Int) (w : World) (hi : isOpV op = false) : Calls Try.prog 31 #[.int .i64 op, .int .i64 n] w fun e w' => e = .returned (.tuple #[.int .i64 0, .int .i64 10]) ∧ w' = w := by
  go_enter Try.func31, Try.ntmps31
  go_wp2_with (first | (go_at_call 50; refine (isOp_any _ _).mono ?_; rintro e w' ⟨rfl, rfl⟩))
  go_ret2
  exact ⟨rfl, rfl⟩
theorem foldErr_ok {op n : Int} (h : foldErr op n = 0) : hasU op = true ∧ n ≤ 65536 := by
  unfold foldErr at h
  split at h
  · omega
  split at h
  · omega
  split at h
  · omega
  · rename_i h1 _; exact ⟨by simpa using h1, by omega⟩
theorem foldUnit_err (op n : Int) (w : World) (h : foldErr op n ≠ 0) : Calls Try.prog 31 #[.int .i64 op, .int .i64 n] w fun e w' => e = .returned (.tuple #[.int .i64 0, .int .i64 (foldErr op n)]) ∧ w' = w := by
  unfold foldErr at h ⊢
  split
  · rename_i h1; exact foldUnit_op op n w h1
  · rename_i h1
    split
    · rename_i h2; exact foldUnit_unit op n w (by simpa using h1) h2
    · rename_i h2
      split
      · rename_i h3; exact foldUnit_long op n w (by simpa using h2) h3
      · rename_i h3; rw [if_neg h1, if_neg h2, if_neg h3] at h; exact absurd rfl h

theorem fold_err (op : Int) (a : Option Addr) (n cap : Nat) (w : World) (h : foldErr op n ≠ 0) : Calls Try.prog 22 #[.int .i64 op, .slice a n cap] w fun e w' => e = .returned (.tuple #[.int .i64 0, .int .i64 (foldErr op n)]) ∧ w' = w := by
  have hb : (foldErr op n != 0) = true := by rw [bne_iff_ne]; exact h
  have H : Hid (foldErr op n ≠ 0) := h
  clear h
  go_enter Try.func22, Try.ntmps22
  go_wp2_with (go_at_call 31; refine (foldUnit_err _ _ _ H.out).mono ?_; rintro e w' ⟨rfl, rfl⟩)
  go_ret2
  exact ⟨rfl, rfl⟩
theorem fold_ok (op : Int) (a : Option Addr) (n cap : Nat) (zs : List Int) (w : World) (h : foldErr op n = 0) (hn : zs.length = n) (hs : Seg w a cap zs) : Calls Try.prog 22 #[.int .i64 op, .slice a n cap] w fun e w' => e = .returned (.tuple #[.int .i64 (foldV op zs), .int .i64 0]) ∧ w' = w := by
  subst hn
  obtain ⟨hU, hle⟩ := foldErr_ok h
  obtain ⟨hc, hm, hcell⟩ := hs
  unfold maxLen at hm
  have HI : Hid (isOpV op = true) := isOp_hasU hU
  have HU : Hid (hasU op = true) := hU
  clear h hU
  rcases hcell with rfl | ⟨b, off, rfl, hcell⟩
  · have E : Hid (foldV op [] = unitV op) := rfl
    go_enter Try.func22, Try.ntmps22
    go_wp2_with (go_at_call 31; refine (foldUnit_ok _ _ _ HU.out (by omega)).mono ?_; rintro e w' ⟨rfl, rfl⟩)
    go_loop [6, 22] (fun v i => i = .int .i64 0 ∧ v = .int .i64 (unitV op)) (fun _ _ => 0)
    case atStart => exact ⟨rfl, rfl⟩
    case round =>
      obtain ⟨rfl, rfl⟩ := hrel
      go_wp2
      go_ret2
      exact ⟨by rw [E.out]; rfl, rfl⟩
  · go_enter Try.func22, Try.ntmps22
    go_wp2_with (go_at_call 31; refine (foldUnit_ok _ _ _ HU.out (by omega)).mono ?_; rintro e w' ⟨rfl, rfl⟩)
    go_loop [6, 22] (fun v i => ∃ k : Nat, k ≤ zs.length ∧ i = .int .i64 k ∧ v = .int .i64 (foldK op zs k)) (fun _ i => zs.length - (intOf i).toNat)
    case atStart => exact ⟨0, by omega, rfl, by rw [foldK_zero]⟩
    case round =>
      obtain ⟨k, hk, rfl, rfl⟩ := hrel
      by_cases hlt : k < zs.length
      · have hck := hcell k hlt
        have E : Hid (workV op (foldK op zs k) (zs.getD k 0) = foldK op zs (k + 1)) := foldK_succ op zs k hlt
        clear hcell
        generalize zs.getD k 0 = z at hck E
        go_wp2_with (go_at_call 32; refine (work_any _ _ _ _ HI.out).mono ?_; rintro e w' ⟨rfl, rfl⟩)
        exact ⟨⟨k + 1, by omega, by go_num, by rw [← E.out]⟩, by simp [intOf]; omega⟩
      · have E : Hid (foldK op zs k = foldV op zs) := foldK_end op zs k (by omega)
        go_wp2
        go_ret2
        exact ⟨by rw [← E.out]; rfl, rfl⟩
end
end Go.Proofs.Ytdiabpoafennlaa
/-! Views that hold numbers: a new one, how one is put into, how two are joined, how one is told. -/
namespace Go.Proofs.Ytdiabpoafennlaa.Nm
set_option linter.unusedVariables false
set_option maxRecDepth 20000
set_option linter.unusedSimpArgs false
open Go.RowKit Go.HeapKit Go.PlainOps

theorem fresh_ok (p : Nat) (u : Int) (w : World) (h : w.cell? ⟨p, 0, none⟩ = some (.int .i64 u)) : Calls Try.prog 48 #[.pointer (some ⟨p, 0, none⟩)] w fun e w' => e = .returned (.int .i64 u) ∧ w' = w := by
  go_enter Try.func48, Try.ntmps48
  go_wp2
  go_ret
  exact ⟨rfl, rfl⟩
theorem hasU_op {op : Int} (h : hasU op = true) : isOpV op = true := by
  unfold hasU at h
  unfold isOpV
  simp at h
  simp
  omega
theorem app_ok (p : Nat) (op a b : Int) (w : World) (h : w.cell? ⟨p, 0, none⟩ = some (.int .i64 op)) (ho : hasU op = true) : Calls Try.prog 46 #[.int .i64 a, .int .i64 b, .pointer (some ⟨p, 0, none⟩)] w fun e w' => e = .returned (.int .i64 (workV op a b)) ∧ w' = w := by
  have HO : Hid (isOpV op = true) := hasU_op ho
  go_enter Try.func46, Try.ntmps46
  go_wp2_with fail
  refine (apply_any op a b w HO.out).mono ?_
  rintro e w1 ⟨rfl, rfl⟩
  go_wp2
  go_ret
  exact ⟨rfl, rfl⟩
theorem tell_ok (v : Int) (w : World) : Calls Try.prog 49 #[.int .i64 v] w fun e w' => e = .returned (.int .i64 v) ∧ w' = w := by
  go_enter Try.func49, Try.ntmps49
  go_wp2
  go_ret
  exact ⟨rfl, rfl⟩
theorem fV_put (K : NP) (l : List Int) (x : Int) : workV K.op (fV K l) x = fV K (l ++ [x]) := by simp [fV, foldV]
theorem fV_join (K : NP) (h : hasU K.op = true) (l r : List Int) (hl : Fits l) (hr : Fits r) : workV K.op (fV K l) (fV K r) = fV K (l ++ r) := (foldV_append K.op h l r hl hr).symm
/-- 'append(numbers, number)'. -/
theorem fvs_more (K : NP) (base : Nat) (a : Option Addr) (c : Nat) (vs : List (List Int)) (x : Int) (ty g0 : Nat) (w : World) (h : w.ownsRow base 2 1 (.slice a vs.length c) vs.length (fvs K vs)) (hb : base ≤ w.heap.size) (hlen : vs.length ≤ 100000)
    (hg0 : w.heap[g0]? = some (.cells #[.int .i64 x] 2 (0, 0))) :
    ∃ g cap w', (Builtin.append_ #[28, 28] ty #[.slice a vs.length c, .slice (some ⟨g0, 0, none⟩) 1 1]).run Try.prog w = .ok (.slice (some ⟨g, 0, none⟩) (vs.length + 1) cap) w' ∧
      w'.ownsRow base 2 1 (.slice (some ⟨g, 0, none⟩) (vs.length + 1) cap) (vs.length + 1) (fvs K vs ++ [.int .i64 x]) ∧ Keeps (fun k => (Value.slice a vs.length c).ownBlock = some k) w w' ∧ ((Value.slice a vs.length c).ownBlock = some g ∨ w.heap.size ≤ g) := by
  have hl : (vs.map (fV K)).length = vs.length := List.length_map _
  have := i64_more base (.slice a vs.length c) (vs.map (fV K)) x ty g0 w (by rw [hl]; exact h) hb (by rw [hl]; omega) hg0
  rw [hl] at this
  obtain ⟨g, cap, w', h1, h2, h3⟩ := this
  exact ⟨g, cap, w', h1, by simpa [fvs, iv] using h2, h3⟩
end Go.Proofs.Ytdiabpoafennlaa.Nm
/-! The player's small calls: a new view, which is in hand, which task is there, its end, the next pick. -/
namespace Go.Proofs.Ytdiabpoafennlaa.Nm
set_option linter.unusedVariables false
set_option maxRecDepth 20000
set_option linter.unusedSimpArgs false
open Go.RowKit Go.HeapKit Go.PlainOps

theorem PM.c0 {w : World} {base pb : Nat} {st : List Bool} {X : PX} {K : NP} {H R : Nat → Value} {s : PS} (h : PM w base pb st X K H R s) : w.cell? ⟨pb, 0, none⟩ = some (.func (.func 48) #[] #[.pointer (some ⟨K.pu, 0, none⟩)]) ∧ w.cell? ⟨pb, 1, none⟩ = some (.func (.func 46) #[] #[.pointer (some ⟨K.pa, 0, none⟩)]) ∧ w.cell? ⟨pb, 2, none⟩ = some (.func (.func 46) #[] #[.pointer (some ⟨K.pa, 0, none⟩)]) ∧ w.cell? ⟨pb, 3, none⟩ = some (.func (.func 49) #[] #[]) ∧
    w.cell? ⟨pb, 4, none⟩ = some (.slice X.sa st.length X.sc) ∧ w.cell? ⟨pb, 5, none⟩ = some (.slice X.pa s.pk.length X.pc) ∧ w.cell? ⟨pb, 6, none⟩ = some (.slice X.va s.vs.length X.vc) ∧ w.cell? ⟨pb, 7, none⟩ = some (.slice X.ta s.tk.length X.tc) ∧ w.cell? ⟨pb, 8, none⟩ = some (.int .i64 s.spn) ∧ w.cell? ⟨pb, 9, none⟩ = some (.slice X.ma s.mg.length X.mc) ∧ w.cell? ⟨pb, 10, none⟩ = some (.slice X.la s.lk.length X.lc) :=
  ⟨h.cell 0, h.cell 1, h.cell 2, h.cell 3, h.cell 4, h.cell 5, h.cell 6, h.cell 7, h.cell 8, h.cell 9, h.cell 10⟩
set_option maxHeartbeats 1600000 in
theorem newView_ok (base pb : Nat) (st : List Bool) (X : PX) (K : NP) (H R : Nat → Value) (s : PS) (w : World) (h : PM w base pb st X K H R s) (hb : base ≤ w.heap.size) (hn : s.vs.length ≤ 100000) :
    Calls Try.prog 42 #[.pointer (some ⟨pb, 0, none⟩)] w fun e w' => e = .returned (.int .i64 s.vs.length) ∧ (∃ X', PM w' base pb st X' K H R { s with vs := s.vs ++ [[]] } ∧ X'.ta = X.ta) ∧ Keeps (fun i => base ≤ i) w w' := by
  obtain ⟨q0, -, -, -, -, -, q6, -, -, -, -⟩ := h.c0
  have hf6 := h.free 6
  have HK0 : Hid (Keeps (fun i => base ≤ i) w (w.drew)) := Keeps.drew _ w
  have hd : PM (w.drew.alloc (.cells #[.int .i64 (unitV K.op)] 2)) base pb st X K H R s := h.more ((Keeps.drew None w).andAlloc _)
  obtain ⟨g, cap, w1, hr, ho, hk, hm⟩ := fvs_more K base X.va X.vc s.vs (unitV K.op) 28 w.drew.heap.size (w.drew.alloc (.cells #[.int .i64 (unitV K.op)] 2)) hd.vw.views (by simp; show base ≤ w.heap.size + 1; omega) (by omega) (blk_new _ _ _ rfl)
  have hP := hd.newView ho hk hm
  have hb1 := blk_other hd.blk hk (onlyT_own hd.vw.views) (by decide)
  have q61 : w1.cell? ⟨pb, 6, none⟩ = some (.slice X.va s.vs.length X.vc) := blk_cell hb1 6
  have q01 : w1.cell? ⟨pb, 0, none⟩ = some (.func (.func 48) #[] #[.pointer (some ⟨K.pu, 0, none⟩)]) := blk_cell hb1 0
  have hf61 : w1.frozen? ⟨pb, 6, none⟩ = false := blk_free hb1 6
  have hlo := hd.vw.views
  have q0A : (w.drew.alloc (.cells #[.int .i64 (unitV K.op)] 2)).cell? ⟨pb, 0, none⟩ = some (.func (.func 48) #[] #[.pointer (some ⟨K.pu, 0, none⟩)]) := hd.c0.1
  have q0F := hP.c0.1
  have q6A : (w.alloc (.cells #[.int .i64 (unitV K.op)] 2)).cell? ⟨pb, 6, none⟩ = some (.slice X.va s.vs.length X.vc) := hd.c0.2.2.2.2.2.2.1
  have HF : Hid (PM (w1.setCell ⟨pb, 6, none⟩ (.slice (some ⟨g, 0, none⟩) (s.vs.length + 1) cap)) base pb st { X with va := some ⟨g, 0, none⟩, vc := cap } K H R { s with vs := s.vs ++ [[]] } ∧ Keeps (fun i => base ≤ i) w (w1.setCell ⟨pb, 6, none⟩ (.slice (some ⟨g, 0, none⟩) (s.vs.length + 1) cap))) :=
    ⟨hP, ((((Keeps.drew (fun i => base ≤ i) w).andAlloc _).trans hk (fun i e _ => row_low hlo e)).andSet (x := ⟨pb, 6, none⟩) (.inl h.low) _)⟩
  have q62 : (w1.setCell ⟨pb, 6, none⟩ (.slice (some ⟨g, 0, none⟩) (s.vs.length + 1) cap)).cell? ⟨pb, 6, none⟩ = some (.slice (some ⟨g, 0, none⟩) (s.vs ++ [[]]).length cap) := hP.c0.2.2.2.2.2.2.1
  rw [List.length_append, List.length_singleton] at q62
  have HN : Hid (s.vs.length ≤ 100000) := hn
  have HB2 : Hid (w.drew.cell? ⟨K.pu, 0, none⟩ = some (.int .i64 (unitV K.op))) := (Keeps.drew None w).cell h.ar.b2 (fun f => f)
  have hw : wrap64 (((s.vs.length + 1 : Nat) : Int) - 1) = ((s.vs.length : Nat) : Int) := by unfold wrap64; omega
  clear hP hd ho hk hm hb1 hlo h hb
  go_enter Try.func42, Try.ntmps42
  go_upto_region 1 with fail
  refine wp_region_held_drew (S := (fun w' => w'.cell? ⟨pb, 0, none⟩ = some (.func (.func 48) #[] #[.pointer (some ⟨K.pu, 0, none⟩)]))) (by kernel_rfl) ?_ (fun hHeld => ?_)
  · (try dsimp only); first | exact q0 | exact q0A | exact q01 | exact q0F
  refine wpAnyH_take (i := 0) (oi := { dst := some 3, op := Op.move (Operand.tmp 0), type := 77, pos := "play.go:66", after := #[], guard := none }) (v := ?_) rfl (by kernel_rfl) (by kernel_rfl) (by kernel_rfl) (fun _ _ _ h => h) (Or.inl ⟨by rfl, ?_⟩) (by assumption) ?_
  rotate_left
  · (intro wz hSw; (try dsimp only at hSw); go_simp; try with_reducible rfl)
  simp only [Act.put, List.setIfInBounds_toArray, List.set_cons_zero, List.set_cons_succ]
  refine wpAnyH_take (i := 1) (oi := { dst := some 4, op := Op.move (Operand.tmp 0), type := 77, pos := "play.go:66", after := #[], guard := none }) (v := ?_) rfl (by kernel_rfl) (by kernel_rfl) (by kernel_rfl) (fun _ _ _ h => h) (Or.inl ⟨by rfl, ?_⟩) (by assumption) ?_
  rotate_left
  · (intro wz hSw; (try dsimp only at hSw); go_simp; try with_reducible rfl)
  simp only [Act.put, List.setIfInBounds_toArray, List.set_cons_zero, List.set_cons_succ]
  refine wpAnyH_take (i := 2) (oi := { dst := some 5, op := Op.nilCheck (Operand.tmp 4), type := 0, pos := "play.go:66", after := #[{ on := 1, ground := Ground.data }], guard := none }) (v := ?_) rfl (by kernel_rfl) (by kernel_rfl) (by kernel_rfl) (fun _ _ _ h => h) (Or.inl ⟨by rfl, ?_⟩) (by assumption) ?_
  rotate_left
  · (intro wz hSw; (try dsimp only at hSw); go_simp; try with_reducible rfl)
  simp only [Act.put, List.setIfInBounds_toArray, List.set_cons_zero, List.set_cons_succ]
  refine wpAnyH_take (i := 3) (oi := { dst := some 6, op := Op.fieldAddr 76 (Operand.tmp 5) 3, type := 0, pos := "play.go:66", after := #[{ on := 2, ground := Ground.data }], guard := none }) (v := ?_) rfl (by kernel_rfl) (by kernel_rfl) (by kernel_rfl) (fun _ _ _ h => h) (Or.inl ⟨by rfl, ?_⟩) (by assumption) ?_
  rotate_left
  · (intro wz hSw; (try dsimp only at hSw); go_simp; try with_reducible rfl)
  simp only [Act.put, List.setIfInBounds_toArray, List.set_cons_zero, List.set_cons_succ]
  refine wpAnyH_take (i := 5) (oi := { dst := some 8, op := Op.move (Operand.tmp 0), type := 77, pos := "play.go:66", after := #[], guard := none }) (v := ?_) rfl (by kernel_rfl) (by kernel_rfl) (by kernel_rfl) (fun _ _ _ h => h) (Or.inl ⟨by rfl, ?_⟩) (by assumption) ?_
  rotate_left
  · (intro wz hSw; (try dsimp only at hSw); go_simp; try with_reducible rfl)
  simp only [Act.put, List.setIfInBounds_toArray, List.set_cons_zero, List.set_cons_succ]
  refine wpAnyH_take (i := 6) (oi := { dst := some 9, op := Op.nilCheck (Operand.tmp 8), type := 0, pos := "play.go:66", after := #[{ on := 5, ground := Ground.data }], guard := none }) (v := ?_) rfl (by kernel_rfl) (by kernel_rfl) (by kernel_rfl) (fun _ _ _ h => h) (Or.inl ⟨by rfl, ?_⟩) (by assumption) ?_
  rotate_left
  · (intro wz hSw; (try dsimp only at hSw); go_simp; try with_reducible rfl)
  simp only [Act.put, List.setIfInBounds_toArray, List.set_cons_zero, List.set_cons_succ]
  refine wpAnyH_take (i := 7) (oi := { dst := some 10, op := Op.fieldAddr 76 (Operand.tmp 9) 0, type := 0, pos := "play.go:66", after := #[{ on := 6, ground := Ground.data }], guard := none }) (v := ?_) rfl (by kernel_rfl) (by kernel_rfl) (by kernel_rfl) (fun _ _ _ h => h) (Or.inl ⟨by rfl, ?_⟩) (by assumption) ?_
  rotate_left
  · (intro wz hSw; (try dsimp only at hSw); go_simp; try with_reducible rfl)
  simp only [Act.put, List.setIfInBounds_toArray, List.set_cons_zero, List.set_cons_succ]
  refine wpAnyH_take (i := 8) (oi := { dst := some 11, op := Op.fieldAddr 74 (Operand.tmp 10) 0, type := 0, pos := "play.go:66", after := #[{ on := 7, ground := Ground.data }], guard := none }) (v := ?_) rfl (by kernel_rfl) (by kernel_rfl) (by kernel_rfl) (fun _ _ _ h => h) (Or.inl ⟨by rfl, ?_⟩) (by assumption) ?_
  rotate_left
  · (intro wz hSw; (try dsimp only at hSw); go_simp; try with_reducible rfl)
  simp only [Act.put, List.setIfInBounds_toArray, List.set_cons_zero, List.set_cons_succ]
  refine wpAnyH_take (i := 9) (oi := { dst := some 12, op := Op.load 70 (Operand.tmp 11), type := 70, pos := "play.go:66", after := #[{ on := 8, ground := Ground.data }], guard := none }) (v := ?_) rfl (by kernel_rfl) (by kernel_rfl) (by kernel_rfl) (fun _ _ _ h => h) (Or.inl ⟨by rfl, ?_⟩) (by assumption) ?_
  rotate_left
  · (intro wz hSw; (try dsimp only at hSw); go_simp; try with_reducible rfl)
  simp only [Act.put, List.setIfInBounds_toArray, List.set_cons_zero, List.set_cons_succ]
  refine wpAnyH_ready (rs := [4, 10]) (by kernel_rfl) (by simp) ?_
  refine AllReadyH.cons (o := { dst := some 7, op := Op.load 28 (Operand.tmp 6), type := 28, pos := "play.go:66", after := #[{ on := 3, ground := Ground.data }], guard := none }) rfl (fun K hK => ?_) ?_
  · go_simp
    refine hK.out _ _ ?_ (fun hHeld2 => ?_)
    · (try dsimp only); first | exact q0 | exact q0A | exact q01 | exact q0F
    clear hK K
    try simp only [Act.put, List.setIfInBounds_toArray, List.set_cons_zero, List.set_cons_succ]
    refine wpAnyH_ready (rs := [10]) (by kernel_rfl) (by simp) ?_
    refine AllReadyH.cons (o := { dst := some 13, op := Op.call { callee := Callee.value (Operand.tmp 12), args := #[], argTypes := #[] }, type := 2, pos := "play.go:66", after := #[{ on := 9, ground := Ground.data }], guard := none }) rfl (fun K hK => ?_) ?_
    · go_simp
      refine (fresh_ok _ _ _ HB2.out).mono ?_
      rintro _ _ ⟨rfl, rfl⟩
      refine hK.out _ _ ?_ (fun hHeld2 => ?_)
      · (try dsimp only); first | exact q0 | exact q0A | exact q01 | exact q0F
      clear hK K
      try simp only [Act.put, List.setIfInBounds_toArray, List.set_cons_zero, List.set_cons_succ]
      refine wpAnyH_ready (rs := [11]) (by kernel_rfl) (by simp) ?_
      refine AllReadyH.cons (o := { dst := some 14, op := Op.buildSlice 28 1 #[(0, Operand.tmp 13)], type := 28, pos := "play.go:66", after := #[{ on := 10, ground := Ground.data }], guard := none }) rfl (fun K hK => ?_) ?_
      · go_simp
        refine hK.out _ _ ?_ (fun hHeld2 => ?_)
        · (try dsimp only); first | exact q0 | exact q0A | exact q01 | exact q0F
        clear hK K
        try simp only [Act.put, List.setIfInBounds_toArray, List.set_cons_zero, List.set_cons_succ]
        refine wpAnyH_ready (rs := [12]) (by kernel_rfl) (by simp) ?_
        refine AllReadyH.cons (o := { dst := some 15, op := Op.call { callee := Callee.builtin Builtin.append, args := #[Operand.tmp 7, Operand.tmp 14], argTypes := #[28, 28] }, type := 28, pos := "play.go:66", after := #[{ on := 4, ground := Ground.data }, { on := 11, ground := Ground.data }, { on := 10, ground := Ground.chain }], guard := none }) rfl (fun K hK => ?_) ?_
        · refine step_append_run rfl (.tmp 7) (.tmp 14) 28 28 rfl (by first | rfl | simp [Act.eval]) (by first | rfl | simp [Act.eval]) hr ?_
          refine hK.out _ _ ?_ (fun hHeld2 => ?_)
          · (try dsimp only); first | exact q0 | exact q0A | exact q01 | exact q0F
          clear hK K
          try simp only [Act.put, List.setIfInBounds_toArray, List.set_cons_zero, List.set_cons_succ]
          refine wpAnyH_take (i := 13) (oi := { dst := some 16, op := Op.nilCheck (Operand.tmp 3), type := 0, pos := "play.go:66", after := #[{ on := 0, ground := Ground.data }, { on := 0, ground := Ground.phase }, { on := 1, ground := Ground.phase }, { on := 2, ground := Ground.phase }, { on := 3, ground := Ground.phase }, { on := 4, ground := Ground.phase }, { on := 5, ground := Ground.phase }, { on := 6, ground := Ground.phase }, { on := 7, ground := Ground.phase }, { on := 8, ground := Ground.phase }, { on := 9, ground := Ground.phase }, { on := 10, ground := Ground.phase }, { on := 11, ground := Ground.phase }, { on := 12, ground := Ground.phase }], guard := none }) (v := ?_) rfl (by kernel_rfl) (by kernel_rfl) (by kernel_rfl) (fun _ _ _ h => h) (Or.inl ⟨by rfl, ?_⟩) (by assumption) ?_
          rotate_left
          · (intro wz hSw; (try dsimp only at hSw); go_simp; try with_reducible rfl)
          simp only [Act.put, List.setIfInBounds_toArray, List.set_cons_zero, List.set_cons_succ]
          refine wpAnyH_take (i := 14) (oi := { dst := some 17, op := Op.fieldAddr 76 (Operand.tmp 16) 3, type := 0, pos := "play.go:66", after := #[{ on := 13, ground := Ground.data }, { on := 0, ground := Ground.phase }, { on := 1, ground := Ground.phase }, { on := 2, ground := Ground.phase }, { on := 3, ground := Ground.phase }, { on := 4, ground := Ground.phase }, { on := 5, ground := Ground.phase }, { on := 6, ground := Ground.phase }, { on := 7, ground := Ground.phase }, { on := 8, ground := Ground.phase }, { on := 9, ground := Ground.phase }, { on := 10, ground := Ground.phase }, { on := 11, ground := Ground.phase }, { on := 12, ground := Ground.phase }], guard := none }) (v := ?_) rfl (by kernel_rfl) (by kernel_rfl) (by kernel_rfl) (fun _ _ _ h => h) (Or.inl ⟨by rfl, ?_⟩) (by assumption) ?_
          rotate_left
          · (intro wz hSw; (try dsimp only at hSw); go_simp; try with_reducible rfl)
          simp only [Act.put, List.setIfInBounds_toArray, List.set_cons_zero, List.set_cons_succ]
          refine wpAnyH_ready (rs := [15]) (by kernel_rfl) (by simp) ?_
          refine AllReadyH.cons (o := { dst := none, op := Op.store 28 (Operand.tmp 17) (Operand.tmp 15), type := 0, pos := "play.go:66", after := #[{ on := 14, ground := Ground.data }, { on := 12, ground := Ground.data }, { on := 12, ground := Ground.chain }, { on := 0, ground := Ground.phase }, { on := 1, ground := Ground.phase }, { on := 2, ground := Ground.phase }, { on := 3, ground := Ground.phase }, { on := 4, ground := Ground.phase }, { on := 5, ground := Ground.phase }, { on := 6, ground := Ground.phase }, { on := 7, ground := Ground.phase }, { on := 8, ground := Ground.phase }, { on := 9, ground := Ground.phase }, { on := 10, ground := Ground.phase }, { on := 11, ground := Ground.phase }, { on := 12, ground := Ground.phase }], guard := none }) rfl (fun K hK => ?_) ?_
          · go_simp
            refine hK.out _ _ ?_ (fun hHeld2 => ?_)
            · (try dsimp only); first | exact q0 | exact q0A | exact q01 | exact q0F
            clear hK K
            try simp only [Act.put, List.setIfInBounds_toArray, List.set_cons_zero, List.set_cons_succ]
            refine wpAnyH_done (by kernel_rfl) ?_ _
            go_wp2_with fail
            go_ret
            exact ⟨rfl, ⟨_, HF.out.1, rfl⟩, HF.out.2⟩
          exact AllReadyH.nil
        exact AllReadyH.nil
      exact AllReadyH.nil
    exact AllReadyH.nil
  refine AllReadyH.cons (o := { dst := some 13, op := Op.call { callee := Callee.value (Operand.tmp 12), args := #[], argTypes := #[] }, type := 2, pos := "play.go:66", after := #[{ on := 9, ground := Ground.data }], guard := none }) rfl (fun K hK => ?_) ?_
  · go_simp
    refine (fresh_ok _ _ _ HB2.out).mono ?_
    rintro _ _ ⟨rfl, rfl⟩
    refine hK.out _ _ ?_ (fun hHeld2 => ?_)
    · (try dsimp only); first | exact q0 | exact q0A | exact q01 | exact q0F
    clear hK K
    try simp only [Act.put, List.setIfInBounds_toArray, List.set_cons_zero, List.set_cons_succ]
    refine wpAnyH_ready (rs := [4, 11]) (by kernel_rfl) (by simp) ?_
    refine AllReadyH.cons (o := { dst := some 7, op := Op.load 28 (Operand.tmp 6), type := 28, pos := "play.go:66", after := #[{ on := 3, ground := Ground.data }], guard := none }) rfl (fun K hK => ?_) ?_
    · go_simp
      refine hK.out _ _ ?_ (fun hHeld2 => ?_)
      · (try dsimp only); first | exact q0 | exact q0A | exact q01 | exact q0F
      clear hK K
      try simp only [Act.put, List.setIfInBounds_toArray, List.set_cons_zero, List.set_cons_succ]
      refine wpAnyH_ready (rs := [11]) (by kernel_rfl) (by simp) ?_
      refine AllReadyH.cons (o := { dst := some 14, op := Op.buildSlice 28 1 #[(0, Operand.tmp 13)], type := 28, pos := "play.go:66", after := #[{ on := 10, ground := Ground.data }], guard := none }) rfl (fun K hK => ?_) ?_
      · go_simp
        refine hK.out _ _ ?_ (fun hHeld2 => ?_)
        · (try dsimp only); first | exact q0 | exact q0A | exact q01 | exact q0F
        clear hK K
        try simp only [Act.put, List.setIfInBounds_toArray, List.set_cons_zero, List.set_cons_succ]
        refine wpAnyH_ready (rs := [12]) (by kernel_rfl) (by simp) ?_
        refine AllReadyH.cons (o := { dst := some 15, op := Op.call { callee := Callee.builtin Builtin.append, args := #[Operand.tmp 7, Operand.tmp 14], argTypes := #[28, 28] }, type := 28, pos := "play.go:66", after := #[{ on := 4, ground := Ground.data }, { on := 11, ground := Ground.data }, { on := 10, ground := Ground.chain }], guard := none }) rfl (fun K hK => ?_) ?_
        · refine step_append_run rfl (.tmp 7) (.tmp 14) 28 28 rfl (by first | rfl | simp [Act.eval]) (by first | rfl | simp [Act.eval]) hr ?_
          refine hK.out _ _ ?_ (fun hHeld2 => ?_)
          · (try dsimp only); first | exact q0 | exact q0A | exact q01 | exact q0F
          clear hK K
          try simp only [Act.put, List.setIfInBounds_toArray, List.set_cons_zero, List.set_cons_succ]
          refine wpAnyH_take (i := 13) (oi := { dst := some 16, op := Op.nilCheck (Operand.tmp 3), type := 0, pos := "play.go:66", after := #[{ on := 0, ground := Ground.data }, { on := 0, ground := Ground.phase }, { on := 1, ground := Ground.phase }, { on := 2, ground := Ground.phase }, { on := 3, ground := Ground.phase }, { on := 4, ground := Ground.phase }, { on := 5, ground := Ground.phase }, { on := 6, ground := Ground.phase }, { on := 7, ground := Ground.phase }, { on := 8, ground := Ground.phase }, { on := 9, ground := Ground.phase }, { on := 10, ground := Ground.phase }, { on := 11, ground := Ground.phase }, { on := 12, ground := Ground.phase }], guard := none }) (v := ?_) rfl (by kernel_rfl) (by kernel_rfl) (by kernel_rfl) (fun _ _ _ h => h) (Or.inl ⟨by rfl, ?_⟩) (by assumption) ?_
          rotate_left
          · (intro wz hSw; (try dsimp only at hSw); go_simp; try with_reducible rfl)
          simp only [Act.put, List.setIfInBounds_toArray, List.set_cons_zero, List.set_cons_succ]
          refine wpAnyH_take (i := 14) (oi := { dst := some 17, op := Op.fieldAddr 76 (Operand.tmp 16) 3, type := 0, pos := "play.go:66", after := #[{ on := 13, ground := Ground.data }, { on := 0, ground := Ground.phase }, { on := 1, ground := Ground.phase }, { on := 2, ground := Ground.phase }, { on := 3, ground := Ground.phase }, { on := 4, ground := Ground.phase }, { on := 5, ground := Ground.phase }, { on := 6, ground := Ground.phase }, { on := 7, ground := Ground.phase }, { on := 8, ground := Ground.phase }, { on := 9, ground := Ground.phase }, { on := 10, ground := Ground.phase }, { on := 11, ground := Ground.phase }, { on := 12, ground := Ground.phase }], guard := none }) (v := ?_) rfl (by kernel_rfl) (by kernel_rfl) (by kernel_rfl) (fun _ _ _ h => h) (Or.inl ⟨by rfl, ?_⟩) (by assumption) ?_
          rotate_left
          · (intro wz hSw; (try dsimp only at hSw); go_simp; try with_reducible rfl)
          simp only [Act.put, List.setIfInBounds_toArray, List.set_cons_zero, List.set_cons_succ]
          refine wpAnyH_ready (rs := [15]) (by kernel_rfl) (by simp) ?_
          refine AllReadyH.cons (o := { dst := none, op := Op.store 28 (Operand.tmp 17) (Operand.tmp 15), type := 0, pos := "play.go:66", after := #[{ on := 14, ground := Ground.data }, { on := 12, ground := Ground.data }, { on := 12, ground := Ground.chain }, { on := 0, ground := Ground.phase }, { on := 1, ground := Ground.phase }, { on := 2, ground := Ground.phase }, { on := 3, ground := Ground.phase }, { on := 4, ground := Ground.phase }, { on := 5, ground := Ground.phase }, { on := 6, ground := Ground.phase }, { on := 7, ground := Ground.phase }, { on := 8, ground := Ground.phase }, { on := 9, ground := Ground.phase }, { on := 10, ground := Ground.phase }, { on := 11, ground := Ground.phase }, { on := 12, ground := Ground.phase }], guard := none }) rfl (fun K hK => ?_) ?_
          · go_simp
            refine hK.out _ _ ?_ (fun hHeld2 => ?_)
            · (try dsimp only); first | exact q0 | exact q0A | exact q01 | exact q0F
            clear hK K
            try simp only [Act.put, List.setIfInBounds_toArray, List.set_cons_zero, List.set_cons_succ]
            refine wpAnyH_done (by kernel_rfl) ?_ _
            go_wp2_with fail
            go_ret
            exact ⟨rfl, ⟨_, HF.out.1, rfl⟩, HF.out.2⟩
          exact AllReadyH.nil
        exact AllReadyH.nil
      exact AllReadyH.nil
    refine AllReadyH.cons (o := { dst := some 14, op := Op.buildSlice 28 1 #[(0, Operand.tmp 13)], type := 28, pos := "play.go:66", after := #[{ on := 10, ground := Ground.data }], guard := none }) rfl (fun K hK => ?_) ?_
    · go_simp
      refine hK.out _ _ ?_ (fun hHeld2 => ?_)
      · (try dsimp only); first | exact q0 | exact q0A | exact q01 | exact q0F
      clear hK K
      try simp only [Act.put, List.setIfInBounds_toArray, List.set_cons_zero, List.set_cons_succ]
      refine wpAnyH_ready (rs := [4]) (by kernel_rfl) (by simp) ?_
      refine AllReadyH.cons (o := { dst := some 7, op := Op.load 28 (Operand.tmp 6), type := 28, pos := "play.go:66", after := #[{ on := 3, ground := Ground.data }], guard := none }) rfl (fun K hK => ?_) ?_
      · go_simp
        refine hK.out _ _ ?_ (fun hHeld2 => ?_)
        · (try dsimp only); first | exact q0 | exact q0A | exact q01 | exact q0F
        clear hK K
        try simp only [Act.put, List.setIfInBounds_toArray, List.set_cons_zero, List.set_cons_succ]
        refine wpAnyH_ready (rs := [12]) (by kernel_rfl) (by simp) ?_
        refine AllReadyH.cons (o := { dst := some 15, op := Op.call { callee := Callee.builtin Builtin.append, args := #[Operand.tmp 7, Operand.tmp 14], argTypes := #[28, 28] }, type := 28, pos := "play.go:66", after := #[{ on := 4, ground := Ground.data }, { on := 11, ground := Ground.data }, { on := 10, ground := Ground.chain }], guard := none }) rfl (fun K hK => ?_) ?_
        · refine step_append_run rfl (.tmp 7) (.tmp 14) 28 28 rfl (by first | rfl | simp [Act.eval]) (by first | rfl | simp [Act.eval]) hr ?_
          refine hK.out _ _ ?_ (fun hHeld2 => ?_)
          · (try dsimp only); first | exact q0 | exact q0A | exact q01 | exact q0F
          clear hK K
          try simp only [Act.put, List.setIfInBounds_toArray, List.set_cons_zero, List.set_cons_succ]
          refine wpAnyH_take (i := 13) (oi := { dst := some 16, op := Op.nilCheck (Operand.tmp 3), type := 0, pos := "play.go:66", after := #[{ on := 0, ground := Ground.data }, { on := 0, ground := Ground.phase }, { on := 1, ground := Ground.phase }, { on := 2, ground := Ground.phase }, { on := 3, ground := Ground.phase }, { on := 4, ground := Ground.phase }, { on := 5, ground := Ground.phase }, { on := 6, ground := Ground.phase }, { on := 7, ground := Ground.phase }, { on := 8, ground := Ground.phase }, { on := 9, ground := Ground.phase }, { on := 10, ground := Ground.phase }, { on := 11, ground := Ground.phase }, { on := 12, ground := Ground.phase }], guard := none }) (v := ?_) rfl (by kernel_rfl) (by kernel_rfl) (by kernel_rfl) (fun _ _ _ h => h) (Or.inl ⟨by rfl, ?_⟩) (by assumption) ?_
          rotate_left
          · (intro wz hSw; (try dsimp only at hSw); go_simp; try with_reducible rfl)
          simp only [Act.put, List.setIfInBounds_toArray, List.set_cons_zero, List.set_cons_succ]
          refine wpAnyH_take (i := 14) (oi := { dst := some 17, op := Op.fieldAddr 76 (Operand.tmp 16) 3, type := 0, pos := "play.go:66", after := #[{ on := 13, ground := Ground.data }, { on := 0, ground := Ground.phase }, { on := 1, ground := Ground.phase }, { on := 2, ground := Ground.phase }, { on := 3, ground := Ground.phase }, { on := 4, ground := Ground.phase }, { on := 5, ground := Ground.phase }, { on := 6, ground := Ground.phase }, { on := 7, ground := Ground.phase }, { on := 8, ground := Ground.phase }, { on := 9, ground := Ground.phase }, { on := 10, ground := Ground.phase }, { on := 11, ground := Ground.phase }, { on := 12, ground := Ground.phase }], guard := none }) (v := ?_) rfl (by kernel_rfl) (by kernel_rfl) (by kernel_rfl) (fun _ _ _ h => h) (Or.inl ⟨by rfl, ?_⟩) (by assumption) ?_
          rotate_left
          · (intro wz hSw; (try dsimp only at hSw); go_simp; try with_reducible rfl)
          simp only [Act.put, List.setIfInBounds_toArray, List.set_cons_zero, List.set_cons_succ]
          refine wpAnyH_ready (rs := [15]) (by kernel_rfl) (by simp) ?_
          refine AllReadyH.cons (o := { dst := none, op := Op.store 28 (Operand.tmp 17) (Operand.tmp 15), type := 0, pos := "play.go:66", after := #[{ on := 14, ground := Ground.data }, { on := 12, ground := Ground.data }, { on := 12, ground := Ground.chain }, { on := 0, ground := Ground.phase }, { on := 1, ground := Ground.phase }, { on := 2, ground := Ground.phase }, { on := 3, ground := Ground.phase }, { on := 4, ground := Ground.phase }, { on := 5, ground := Ground.phase }, { on := 6, ground := Ground.phase }, { on := 7, ground := Ground.phase }, { on := 8, ground := Ground.phase }, { on := 9, ground := Ground.phase }, { on := 10, ground := Ground.phase }, { on := 11, ground := Ground.phase }, { on := 12, ground := Ground.phase }], guard := none }) rfl (fun K hK => ?_) ?_
          · go_simp
            refine hK.out _ _ ?_ (fun hHeld2 => ?_)
            · (try dsimp only); first | exact q0 | exact q0A | exact q01 | exact q0F
            clear hK K
            try simp only [Act.put, List.setIfInBounds_toArray, List.set_cons_zero, List.set_cons_succ]
            refine wpAnyH_done (by kernel_rfl) ?_ _
            go_wp2_with fail
            go_ret
            exact ⟨rfl, ⟨_, HF.out.1, rfl⟩, HF.out.2⟩
          exact AllReadyH.nil
        exact AllReadyH.nil
      exact AllReadyH.nil
    exact AllReadyH.nil
  exact AllReadyH.nil
end Go.Proofs.Ytdiabpoafennlaa.Nm
