import Derived.Test.YtheginjjncnheaaHiSerial
/-! The document's plain run. -/
namespace Go.Proofs.Ytheginjjncnheaa
set_option linter.unusedVariables false
set_option maxRecDepth 20000
open Go.RowKit Go.HeapKit

theorem errS_long {l : List (Int × Int)} {most : Int} (h : 40 < l.length) : errS l most = 2 := by unfold errS; rw [if_pos h]
theorem errS_arg {l : List (Int × Int)} {most : Int} (h : ¬ 40 < l.length) (hm : ¬ (1 ≤ most ∧ most ≤ 4096)) : errS l most = 3 := by unfold errS; rw [if_neg h, if_neg hm]
theorem errS_kind {l : List (Int × Int)} {most : Int} (h : ¬ 40 < l.length) (hm : 1 ≤ most ∧ most ≤ 4096) (hb : l.all todoOk = false) : errS l most = 31 := by unfold errS; rw [if_neg h, if_pos hm, kindErr_bad hb]
theorem errS_none {l : List (Int × Int)} {most : Int} (h : ¬ 40 < l.length) (hm : 1 ≤ most ∧ most ≤ 4096) (hb : l.all todoOk = true) : errS l most = 0 := by unfold errS; rw [if_neg h, if_pos hm, kindErr_ok hb]

end Go.Proofs.Ytheginjjncnheaa
