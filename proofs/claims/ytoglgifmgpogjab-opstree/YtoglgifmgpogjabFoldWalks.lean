import Derived.Test.YtoglgifmgpogjabOpsWalks
import Derived.Test.YtoglgifmgpogjabUnitWalks
import Derived.Test.YtoglgifmgpogjabPlainFold
import Derived.Deep.QuietTactic
import Derived.BigQuiet
/-! The contracts of foldUnit, Fold, halves, Tree. -/
namespace Go.Proofs.Ytoglgifmgpogjab
open Go.RowKit Go.PlainOps

/-- A list of numbers that lies in memory (a nil one is empty): the value's length is the list's. -/
def Seg (w : World) (a : Option Addr) (cap : Nat) (zs : List Int) : Prop :=
  zs.length ≤ cap ∧ cap ≤ maxLen ∧ (zs = [] ∨ ∃ b off, a = some ⟨b, off, none⟩ ∧ ∀ i, i < zs.length → w.cell? ⟨b, off + i, none⟩ = some (.int .i64 (zs.getD i 0)))

section
set_option maxHeartbeats 400000
theorem foldUnit_ok (op n : Int) (w : World) (h : hasU op = true) (hn : n ≤ 65536) : Calls Try.prog 19 #[.int .i64 op, .int .i64 n] w fun e w' => e = .returned (.tuple #[.int .i64 (unitV op), .int .i64 0]) ∧ w' = w := by
  have hi := isOp_hasU h
  have H : Hid (hasU op = true) := h
  clear h
  go_enter Try.func19, Try.ntmps19
  go_wp2_with (first | (go_at_call 22; refine (isOp_any _ _).mono ?_; rintro e w' ⟨rfl, rfl⟩) | (go_at_call 27; refine (unit_any _ _ H.out).mono ?_; rintro e w' ⟨rfl, rfl⟩))
  go_ret2
  exact ⟨rfl, rfl⟩
theorem foldUnit_long (op n : Int) (w : World) (h : hasU op = true) (hn : 65536 < n) : Calls Try.prog 19 #[.int .i64 op, .int .i64 n] w fun e w' => e = .returned (.tuple #[.int .i64 0, .int .i64 2]) ∧ w' = w := by
  have hi := isOp_hasU h
  have H : Hid (hasU op = true) := h
  clear h
  go_enter Try.func19, Try.ntmps19
  go_wp2_with (first | (go_at_call 22; refine (isOp_any _ _).mono ?_; rintro e w' ⟨rfl, rfl⟩) | (go_at_call 27; refine (unit_any _ _ H.out).mono ?_; rintro e w' ⟨rfl, rfl⟩))
  go_ret2
  exact ⟨rfl, rfl⟩
theorem foldUnit_unit (op n : Int) (w : World) (hi : isOpV op = true) (h : hasU op = false) : Calls Try.prog 19 #[.int .i64 op, .int .i64 n] w fun e w' => e = .returned (.tuple #[.int .i64 0, .int .i64 11]) ∧ w' = w := by
  have H : Hid (hasU op = false) := h
  clear h
  go_enter Try.func19, Try.ntmps19
  go_wp2_with (first | (go_at_call 22; refine (isOp_any _ _).mono ?_; rintro e w' ⟨rfl, rfl⟩) | (go_at_call 27; refine (unit_not _ _ H.out).mono ?_; rintro e w' ⟨rfl, rfl⟩))
  go_ret2
  exact ⟨rfl, rfl⟩
theorem foldUnit_op (op n : Int) (w : World) (hi : isOpV op = false) : Calls Try.prog 19 #[.int .i64 op, .int .i64 n] w fun e w' => e = .returned (.tuple #[.int .i64 0, .int .i64 10]) ∧ w' = w := by
  go_enter Try.func19, Try.ntmps19
  go_wp2_with (first | (go_at_call 22; refine (isOp_any _ _).mono ?_; rintro e w' ⟨rfl, rfl⟩))
  go_ret2
  exact ⟨rfl, rfl⟩
theorem foldErr_ok {op n : Int} (h : foldErr op n = 0) : hasU op = true ∧ n ≤ 65536 := by
  unfold foldErr at h
  split at h
  · omega
  split at h
  · omega
  split at h
  · omega
  · rename_i h1 _; exact ⟨by simpa using h1, by omega⟩
theorem foldUnit_err (op n : Int) (w : World) (h : foldErr op n ≠ 0) : Calls Try.prog 19 #[.int .i64 op, .int .i64 n] w fun e w' => e = .returned (.tuple #[.int .i64 0, .int .i64 (foldErr op n)]) ∧ w' = w := by
  unfold foldErr at h ⊢
  split
  · rename_i h1; exact foldUnit_op op n w h1
  · rename_i h1
    split
    · rename_i h2; exact foldUnit_unit op n w (by simpa using h1) h2
    · rename_i h2
      split
      · rename_i h3; exact foldUnit_long op n w (by simpa using h2) h3
      · rename_i h3; rw [if_neg h1, if_neg h2, if_neg h3] at h; exact absurd rfl h

theorem fold_err (op : Int) (a : Option Addr) (n cap : Nat) (w : World) (h : foldErr op n ≠ 0) : Calls Try.prog 9 #[.int .i64 op, .slice a n cap] w fun e w' => e = .returned (.tuple #[.int .i64 0, .int .i64 (foldErr op n)]) ∧ w' = w := by
  have hb : (foldErr op n != 0) = true := by rw [bne_iff_ne]; exact h
  have H : Hid (foldErr op n ≠ 0) := h
  clear h
  go_enter Try.func9, Try.ntmps9
  go_wp2_with (go_at_call 19; refine (foldUnit_err _ _ _ H.out).mono ?_; rintro e w' ⟨rfl, rfl⟩)
  go_ret2
  exact ⟨rfl, rfl⟩
theorem fold_ok (op : Int) (a : Option Addr) (n cap : Nat) (zs : List Int) (w : World) (h : foldErr op n = 0) (hn : zs.length = n) (hs : Seg w a cap zs) : Calls Try.prog 9 #[.int .i64 op, .slice a n cap] w fun e w' => e = .returned (.tuple #[.int .i64 (foldV op zs), .int .i64 0]) ∧ w' = w := by
  subst hn
  obtain ⟨hU, hle⟩ := foldErr_ok h
  obtain ⟨hc, hm, hcell⟩ := hs
  unfold maxLen at hm
  have HI : Hid (isOpV op = true) := isOp_hasU hU
  have HU : Hid (hasU op = true) := hU
  clear h hU
  rcases hcell with rfl | ⟨b, off, rfl, hcell⟩
  · have E : Hid (foldV op [] = unitV op) := rfl
    go_enter Try.func9, Try.ntmps9
    go_wp2_with (go_at_call 19; refine (foldUnit_ok _ _ _ HU.out (by omega)).mono ?_; rintro e w' ⟨rfl, rfl⟩)
    go_loop [6, 22] (fun v i => i = .int .i64 0 ∧ v = .int .i64 (unitV op)) (fun _ _ => 0)
    case atStart => exact ⟨rfl, rfl⟩
    case round =>
      obtain ⟨rfl, rfl⟩ := hrel
      go_wp2
      go_ret2
      exact ⟨by rw [E.out]; rfl, rfl⟩
  · go_enter Try.func9, Try.ntmps9
    go_wp2_with (go_at_call 19; refine (foldUnit_ok _ _ _ HU.out (by omega)).mono ?_; rintro e w' ⟨rfl, rfl⟩)
    go_loop [6, 22] (fun v i => ∃ k : Nat, k ≤ zs.length ∧ i = .int .i64 k ∧ v = .int .i64 (foldK op zs k)) (fun _ i => zs.length - (intOf i).toNat)
    case atStart => exact ⟨0, by omega, rfl, by rw [foldK_zero]⟩
    case round =>
      obtain ⟨k, hk, rfl, rfl⟩ := hrel
      by_cases hlt : k < zs.length
      · have hck := hcell k hlt
        have E : Hid (workV op (foldK op zs k) (zs.getD k 0) = foldK op zs (k + 1)) := foldK_succ op zs k hlt
        clear hcell
        generalize zs.getD k 0 = z at hck E
        go_wp2_with (go_at_call 20; refine (work_any _ _ _ _ HI.out).mono ?_; rintro e w' ⟨rfl, rfl⟩)
        exact ⟨⟨k + 1, by omega, by go_num, by rw [← E.out]⟩, by simp [intOf]; omega⟩
      · have E : Hid (foldK op zs k = foldV op zs) := foldK_end op zs k (by omega)
        go_wp2
        go_ret2
        exact ⟨by rw [← E.out]; rfl, rfl⟩
end
end Go.Proofs.Ytoglgifmgpogjab
