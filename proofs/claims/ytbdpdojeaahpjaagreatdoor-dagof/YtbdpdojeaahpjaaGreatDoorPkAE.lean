import Derived.Test.YtbdpdojeaahpjaaGreatDoorProg
import Derived.WalkKit
import Derived.Test.YtbdpdojeaahpjaaGreatDoorPkAA
import Derived.WalkSmall
/-! Ped: the program's, the document's. -/
namespace Go.Proofs.YtbdpdojeaahpjaaGreatDoor
set_option linter.unusedVariables false
set_option maxRecDepth 20000
open Go.RowKit
theorem tped_any (p k : Int) (w : World) : Calls Tryz.prog 55 #[.int .i64 p, .int .i64 k] w fun e w' => e = .returned (.int .i64 (wrap64 (wrap64 (wrap64 (p * 1000003) + k) + 1))) ∧ w' = w := by
  go_enter Tryz.func55, Tryz.ntmps55
  go_wp2
  go_ret
  exact ⟨rfl, rfl⟩
theorem rped_any (p k : Int) (w : World) : Calls Tryz.prog 22 #[.int .i64 p, .int .i64 k] w fun e w' => e = .returned (.int .i64 (wrap64 (wrap64 (wrap64 (p * 1000003) + k) + 1))) ∧ w' = w := by
  go_enter Tryz.func22, Tryz.ntmps22
  go_wp2
  go_ret
  exact ⟨rfl, rfl⟩
end Go.Proofs.YtbdpdojeaahpjaaGreatDoor
/-! The sizes of functions; the small tests. -/
namespace Go.Proofs.YtbdpdojeaahpjaaGreatDoor
set_option linter.unusedVariables false
set_option maxRecDepth 20000
open Go.RowKit Go.HeapKit

theorem giveUp_any (e n a : Int) (w : World) : Calls Tryz.prog 50 #[.int .i64 e, .int .i64 n, .int .i64 a] w fun x w' => x = .panicked (thrown e n a) ∧ w' = w := by
  go_enter Tryz.func50, Tryz.ntmps50
  go_wp2
  exact ⟨rfl, rfl, rfl⟩
theorem below_any (x n : Int) (w : World) : Calls Tryz.prog 71 #[.int .i64 x, .int .i64 n] w fun e w' => e = .returned (.bool (belowV x n)) ∧ w' = w := by
  go_enter Tryz.func71, Tryz.ntmps71
  go_wp2
  · go_ret
    refine ⟨?_, rfl⟩
    simp [belowV, *]
  · go_ret
    refine ⟨?_, rfl⟩
    simp [belowV]
    omega
def shapeE (f : Fn) (number : Int) : Ending := if shapeV f then .returned (.tuple #[]) else .panicked (thrown 51 number 0)
theorem shape_any (number : Int) (f : Fn) (ca : Option Addr) (cc : Nat) (w : World) :
    Calls Tryz.prog 51 #[.int .i64 number, fnV f ca cc] w fun e w' => e = shapeE f number ∧ Keeps None w w' := by
  unfold fnV
  go_enter Tryz.func51, Tryz.ntmps51
  go_wp2_with (go_at_call 50; refine (giveUp_any _ _ _ _).mono ?_; rintro e w' ⟨rfl, rfl⟩)
  all_goals first
    | (refine ⟨rfl, ?_, (Keeps.refl _ _).andAlloc _⟩; unfold shapeE; rw [if_neg]; simp only [shapeV, Bool.and_eq_true, decide_eq_true_eq]; omega)
    | (go_end0; refine ⟨?_, (Keeps.refl _ _).andAlloc _⟩; unfold shapeE; rw [if_pos]; simp only [shapeV, Bool.and_eq_true, decide_eq_true_eq]; omega)
end Go.Proofs.YtbdpdojeaahpjaaGreatDoor
