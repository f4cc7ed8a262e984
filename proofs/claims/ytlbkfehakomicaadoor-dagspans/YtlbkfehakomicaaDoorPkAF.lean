import Derived.Test.YtlbkfehakomicaaDoorProg
import Derived.WalkKit
import Derived.Test.YtlbkfehakomicaaDoorPkAA
import Derived.WalkSmall
/-! Ped: the program's, the document's. -/
namespace Go.Proofs.YtlbkfehakomicaaDoor
set_option linter.unusedVariables false
set_option maxRecDepth 20000
open Go.RowKit
theorem tped_any (p k : Int) (w : World) : Calls Tryd.prog 61 #[.int .i64 p, .int .i64 k] w fun e w' => e = .returned (.int .i64 (wrap64 (wrap64 (wrap64 (p * 1000003) + k) + 1))) ∧ w' = w := by
  go_enter Tryd.func61, Tryd.ntmps61
  go_wp2
  go_ret
  exact ⟨rfl, rfl⟩
--IF plunderref6.Ped
end Go.Proofs.YtlbkfehakomicaaDoor
/-! The sizes of functions; the small tests. -/
namespace Go.Proofs.YtlbkfehakomicaaDoor
set_option linter.unusedVariables false
set_option maxRecDepth 20000
open Go.RowKit Go.HeapKit

theorem giveUp_any (e n a : Int) (w : World) : Calls Tryd.prog 56 #[.int .i64 e, .int .i64 n, .int .i64 a] w fun x w' => x = .panicked (thrown e n a) ∧ w' = w := by
  go_enter Tryd.func56, Tryd.ntmps56
  go_wp2
  exact ⟨rfl, rfl, rfl⟩
theorem below_any (x n : Int) (w : World) : Calls Tryd.prog 67 #[.int .i64 x, .int .i64 n] w fun e w' => e = .returned (.bool (belowV x n)) ∧ w' = w := by
  go_enter Tryd.func67, Tryd.ntmps67
  go_wp2
  · go_ret
    refine ⟨?_, rfl⟩
    simp [belowV, *]
  · go_ret
    refine ⟨?_, rfl⟩
    simp [belowV]
    omega
def shapeE (f : Fn) (number : Int) : Ending := if shapeV f then .returned (.tuple #[]) else .panicked (thrown 51 number 0)
theorem shape_any (number : Int) (f : Fn) (ca : Option Addr) (cc : Nat) (w : World) :
    Calls Tryd.prog 57 #[.int .i64 number, fnV f ca cc] w fun e w' => e = shapeE f number ∧ Keeps None w w' := by
  unfold fnV
  go_enter Tryd.func57, Tryd.ntmps57
  go_wp2_with (go_at_call 56; refine (giveUp_any _ _ _ _).mono ?_; rintro e w' ⟨rfl, rfl⟩)
  all_goals first
    | (refine ⟨rfl, ?_, (Keeps.refl _ _).andAlloc _⟩; unfold shapeE; rw [if_neg]; simp only [shapeV, Bool.and_eq_true, decide_eq_true_eq]; omega)
    | (go_end0; refine ⟨?_, (Keeps.refl _ _).andAlloc _⟩; unfold shapeE; rw [if_pos]; simp only [shapeV, Bool.and_eq_true, decide_eq_true_eq]; omega)
end Go.Proofs.YtlbkfehakomicaaDoor
