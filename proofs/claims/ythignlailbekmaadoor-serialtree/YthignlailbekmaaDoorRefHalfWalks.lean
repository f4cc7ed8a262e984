import Derived.Test.YthignlailbekmaaDoorProg
import Derived.WalkKit
import Derived.WalkSpells
import Derived.WalkLawsBesides
import Derived.Test.YthignlailbekmaaDoorPlainBits
/-! The contracts of the document's own operations. -/
namespace Go.Proofs.YthignlailbekmaaDoor
open Go.RowKit Go.PlainOps
section
set_option maxHeartbeats 400000
theorem refOdd_any (a : Int) (w : World) : Calls Tryd.prog 80 #[.int .i64 a] w fun e w' => e = .returned (.bool (oddV a)) ∧ w' = w := by
  have h := odd_tmod a
  go_enter Tryd.func80, Tryd.ntmps80
  go_wp2
  go_ret
  exact ⟨rfl, rfl⟩
theorem refHalf_any (a : Int) (w : World) (h0 : -9223372036854775808 ≤ a) (h1 : a ≤ 9223372036854775807) : Calls Tryd.prog 81 #[.int .i64 a] w fun e w' => e = .returned (.int .i64 (halfV a)) ∧ w' = w := by
  have hb := tdiv_two_bounds a h0 h1
  obtain ⟨hb0, hb1⟩ := hb
  have ho := odd_tmod a
  by_cases hn : a < 0
  · cases hd : oddV a
    · rw [hd] at ho
      have E : Hid (halfV a = a.tdiv 2) := (half_pos a (by rw [hd]; simp)).symm
      clear hd
      go_enter Tryd.func81, Tryd.ntmps81
      go_wp2
      go_ret
      exact ⟨by rw [E.out]; rfl, rfl⟩
    · rw [hd] at ho
      have E : Hid (halfV a = a.tdiv 2 - 1) := (half_neg a hn hd).symm
      clear hd
      go_enter Tryd.func81, Tryd.ntmps81
      go_wp2
      go_ret
      exact ⟨by rw [E.out]; rfl, rfl⟩
  · have E : Hid (halfV a = a.tdiv 2) := (half_pos a (by omega)).symm
    clear ho
    go_enter Tryd.func81, Tryd.ntmps81
    go_wp2
    go_ret
    exact ⟨by rw [E.out]; rfl, rfl⟩
end
end Go.Proofs.YthignlailbekmaaDoor
