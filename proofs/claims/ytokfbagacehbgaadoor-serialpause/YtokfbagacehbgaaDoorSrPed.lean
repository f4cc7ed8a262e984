import Derived.Test.YtokfbagacehbgaaDoorProg
import Derived.WalkKit
/-! Ped: the program's, the document's. -/
namespace Go.Proofs.YtokfbagacehbgaaDoor
set_option linter.unusedVariables false
set_option maxRecDepth 20000
open Go.RowKit
theorem tped_any (p k : Int) (w : World) : Calls Tryd.prog 34 #[.int .i64 p, .int .i64 k] w fun e w' => e = .returned (.int .i64 (wrap64 (wrap64 (wrap64 (p * 1000003) + k) + 1))) ∧ w' = w := by
  go_enter Tryd.func34, Tryd.ntmps34
  go_wp2
  go_ret
  exact ⟨rfl, rfl⟩
end Go.Proofs.YtokfbagacehbgaaDoor
