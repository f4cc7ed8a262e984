import Derived.Test.YtoglgifmgpogjabOpsWalks
import Derived.Test.YtoglgifmgpogjabUnitWalks
import Derived.Test.YtoglgifmgpogjabPlainLaws
/-! The contracts of the statement's own helpers: seven, of, monoid. -/
namespace Go.Proofs.Ytoglgifmgpogjab
open Go.RowKit Go.PlainOps
section
set_option maxHeartbeats 400000
theorem seven0 (w : World) : Calls Try.prog 7 #[.int .i64 0] w fun e w' => e = .returned (.int .i64 0) ∧ w' = w := by
  go_enter Try.func7, Try.ntmps7
  go_wp2
  go_ret
  exact ⟨rfl, rfl⟩
theorem seven1 (w : World) : Calls Try.prog 7 #[.int .i64 1] w fun e w' => e = .returned (.int .i64 2) ∧ w' = w := by
  go_enter Try.func7, Try.ntmps7
  go_wp2
  go_ret
  exact ⟨rfl, rfl⟩
theorem seven2 (w : World) : Calls Try.prog 7 #[.int .i64 2] w fun e w' => e = .returned (.int .i64 5) ∧ w' = w := by
  go_enter Try.func7, Try.ntmps7
  go_wp2
  go_ret
  exact ⟨rfl, rfl⟩
theorem seven3 (w : World) : Calls Try.prog 7 #[.int .i64 3] w fun e w' => e = .returned (.int .i64 6) ∧ w' = w := by
  go_enter Try.func7, Try.ntmps7
  go_wp2
  go_ret
  exact ⟨rfl, rfl⟩
theorem seven4 (w : World) : Calls Try.prog 7 #[.int .i64 4] w fun e w' => e = .returned (.int .i64 7) ∧ w' = w := by
  go_enter Try.func7, Try.ntmps7
  go_wp2
  go_ret
  exact ⟨rfl, rfl⟩
theorem seven5 (w : World) : Calls Try.prog 7 #[.int .i64 5] w fun e w' => e = .returned (.int .i64 10) ∧ w' = w := by
  go_enter Try.func7, Try.ntmps7
  go_wp2
  go_ret
  exact ⟨rfl, rfl⟩
theorem seven6 (w : World) : Calls Try.prog 7 #[.int .i64 6] w fun e w' => e = .returned (.int .i64 11) ∧ w' = w := by
  go_enter Try.func7, Try.ntmps7
  go_wp2
  go_ret
  exact ⟨rfl, rfl⟩
theorem seven_any (i : Int) (w : World) (h0 : 0 ≤ i) (h1 : i < 7) : Calls Try.prog 7 #[.int .i64 i] w fun e w' => e = .returned (.int .i64 (sevenV i)) ∧ w' = w := by
  have hc : i = 0 ∨ i = 1 ∨ i = 2 ∨ i = 3 ∨ i = 4 ∨ i = 5 ∨ i = 6 := by omega
  rcases hc with rfl | rfl | rfl | rfl | rfl | rfl | rfl
  · exact seven0 w
  · exact seven1 w
  · exact seven2 w
  · exact seven3 w
  · exact seven4 w
  · exact seven5 w
  · exact seven6 w
end
end Go.Proofs.Ytoglgifmgpogjab
