import Derived.Test.YtfccnmgbdkideaaDoorProg
import Derived.WalkKit
/-! Ped: the program's, the document's. -/
namespace Go.Proofs.YtfccnmgbdkideaaDoor
set_option linter.unusedVariables false
set_option maxRecDepth 20000
open Go.RowKit
theorem tped_any (p k : Int) (w : World) : Calls Tryd.prog 31 #[.int .i64 p, .int .i64 k] w fun e w' => e = .returned (.int .i64 (wrap64 (wrap64 (wrap64 (p * 1000003) + k) + 1))) ∧ w' = w := by
  go_enter Tryd.func31, Tryd.ntmps31
  go_wp2
  go_ret
  exact ⟨rfl, rfl⟩
end Go.Proofs.YtfccnmgbdkideaaDoor
