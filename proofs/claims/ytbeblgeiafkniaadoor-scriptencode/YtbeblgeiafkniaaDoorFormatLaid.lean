import Derived.Test.YtbeblgeiafkniaaDoorRows
import Derived.Test.YtbeblgeiafkniaaDoorShelf
import Derived.WalkKit
import Derived.WalkSpells
import Derived.WalkLawsBesides
import Derived.ProofKit
import Derived.LaidMore
import Derived.OpenShut
import Derived.Stop.Joined
import Derived.Stop.LaidErr
import Derived.Lib.LaidTab
/-! From the row's condition on the library's table to what strconv.FormatInt asks; the contract of ops.Format. -/
namespace Go.Proofs.YtbeblgeiafkniaaDoor
open Go.RowKit

abbrev laidL : List (String × DataW Unit) := [("math/bits.deBruijn32tab", Rows.laid_math_bits_deBruijn32tab), ("math/bits.deBruijn64tab", Rows.laid_math_bits_deBruijn64tab), ("internal/strconv.uint64pow10", Rows.laid_internal_strconv_uint64pow10)]
theorem door_met (os : Os) (args : Array Value) : laidMetH Tryd.prog laidL ((World.doorLaid Tryd.prog 400 os).forCall (fun _ _ => 0) ⟨#[], args, []⟩).memory :=
  laidMetH_of_parts3 (fuel := 8) (laidMet_of_run' 8 (by kernel_rfl) (by kernel_rfl)) (by kernel_rfl) (by kernel_rfl)
def PowIs (w : World) : Prop := Lib.TabIs Tryd.prog w "internal/strconv.uint64pow10" .u64 Lib.pow10Tab
theorem gPow : Tryd.prog.globalNamed "internal/strconv.uint64pow10" = some 0 := by kernel_rfl
theorem tPow : (Tryd.prog.globals[0]?).map (·.type) = some 89 := by kernel_rfl
theorem cElem : Tryd.prog.cellsOf 76 = 1 := by kernel_rfl
theorem cTab : Tryd.prog.cellsOf 89 = 20 := by kernel_rfl
theorem pow_data : (Rows.laid_internal_strconv_uint64pow10 : DataW Unit) = Lib.tabData .u64 Lib.pow10Tab := by
  have e : Lib.pow10Tab = [1, 10, 100, 1000, 10000, 100000, 1000000, 10000000, 100000000, 1000000000, 10000000000, 100000000000, 1000000000000, 10000000000000, 100000000000000, 1000000000000000, 10000000000000000, 100000000000000000, 1000000000000000000, 10000000000000000000] := by decide +kernel
  rw [e]
  rfl
theorem of_laid {W : World} (h : laidMetH Tryd.prog laidL W) : PowIs W := by
  rw [MakeChecks.laidMetH_plain _ _ _ (by kernel_rfl)] at h
  have h3 := h.tail.tail
  rw [pow_data] at h3
  exact Lib.tabIs_of_head gPow tPow Tryd.underlying89 Tryd.underlying76 cElem cTab h3
theorem PowIs.below {W W' : World} {B : Nat} (h : PowIs W) (hb : Below B W W') (hB : 0 < B) : PowIs W' := var?_below hb gPow hB h
theorem PowIs.pos {W : World} (h : PowIs W) : 0 < W.heap.size := by
  unfold PowIs Lib.TabIs World.var? at h
  rw [gPow] at h
  simp only [Option.bind_some] at h
  by_cases h0 : 0 < W.heap.size
  · exact h0
  · rw [Array.getElem?_eq_none (by omega)] at h
    cases h
theorem below_grow (w : World) (k : Nat) (os : Array Obj) : Below w.heap.size w (Sort.grow (w.drewN k) os) := by
  refine ⟨rfl, rfl, rfl, ?_, fun i hi => ?_⟩
  · show w.heap.size ≤ (w.heap ++ os).size
    rw [Array.size_append]; omega
  · show (w.heap ++ os)[i]? = w.heap[i]?
    rw [Array.getElem?_append_left hi]
set_option maxHeartbeats 800000 in
theorem format_any (v : Int) (w : World) (h0 : -9223372036854775808 ≤ v) (h1 : v ≤ 9223372036854775807) (hN : PowIs w) : Calls Tryd.prog 24 #[.int .i64 v] w fun e w' => e = .returned (.string ⟨(Lib.itoa v).toArray⟩) ∧ Below w.heap.size w w' := by
  have HN : Hid (PowIs w) := hN
  clear hN
  go_enter Tryd.func24, Tryd.ntmps24
  go_wp2_with fail
  refine (Tryd.strconv_FormatInt_10 v h0 h1 w HN.out).mono ?_
  rintro e w1 ⟨rfl, k, os, rfl⟩
  have B : Hid (Below w.heap.size w (Sort.grow (w.drewN k) os)) := below_grow w k os
  generalize Sort.grow (w.drewN k) os = w1 at *
  go_wp2
  go_ret
  exact ⟨rfl, B.out⟩
end Go.Proofs.YtbeblgeiafkniaaDoor
