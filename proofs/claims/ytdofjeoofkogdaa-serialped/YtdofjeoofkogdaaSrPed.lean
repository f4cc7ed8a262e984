import Derived.Test.YtdofjeoofkogdaaProg
import Derived.WalkKit
/-! Ped: the program's, the document's. -/
namespace Go.Proofs.Ytdofjeoofkogdaa
set_option linter.unusedVariables false
open Go.RowKit
theorem ped_any (p k : Int) (w : World) : Calls Try.prog 4 #[.int .i64 p, .int .i64 k] w fun e w' => e = .returned (.int .i64 (wrap64 (wrap64 (wrap64 (p * 1000003) + k) + 1))) ∧ w' = w := by
  go_enter Try.func4, Try.ntmps4
  go_wp2
  go_ret
  exact ⟨rfl, rfl⟩
theorem rped_any (p k : Int) (w : World) : Calls Try.prog 5 #[.int .i64 p, .int .i64 k] w fun e w' => e = .returned (.int .i64 (wrap64 (wrap64 (wrap64 (p * 1000003) + k) + 1))) ∧ w' = w := by
  go_enter Try.func5, Try.ntmps5
  go_wp2
  go_ret
  exact ⟨rfl, rfl⟩
end Go.Proofs.Ytdofjeoofkogdaa
