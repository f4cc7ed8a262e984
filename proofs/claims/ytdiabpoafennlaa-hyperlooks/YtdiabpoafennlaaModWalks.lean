import Derived.Test.YtdiabpoafennlaaProg
import Derived.WalkKit
import Derived.WalkSpells
import Derived.WalkLawsBesides
import Derived.Test.YtdiabpoafennlaaPlain
/-! The contract of ops.Mod. -/
namespace Go.Proofs.Ytdiabpoafennlaa
open Go.RowKit Go.PlainOps

set_option maxHeartbeats 400000 in
theorem mod_any (x n : Int) (w : World) (hn : n ≤ 9223372036854775807) : Calls Try.prog 58 #[.int .i64 x, .int .i64 n] w fun e w' => e = .returned (.int .i64 (modV x n)) ∧ w' = w := by
  by_cases h : n < 1
  · go_enter Try.func58, Try.ntmps58
    go_wp2
    go_ret
    exact ⟨by simp [modV, h], rfl⟩
  · have h1 := tmod_mod x n (by omega)
    obtain ⟨b0, b1⟩ := tmod_bounds x n (by omega)
    have e : modV x n = (if x.tmod n < 0 then x.tmod n + n else x.tmod n) := by rw [h1]; simp [modV, h]
    have E : Hid (modV x n = (if x.tmod n < 0 then x.tmod n + n else x.tmod n)) := e
    clear e h1
    by_cases hr : x.tmod n < 0
    · go_enter Try.func58, Try.ntmps58
      go_wp2
      go_ret
      exact ⟨by rw [E.out, if_pos hr]; rfl, rfl⟩
    · go_enter Try.func58, Try.ntmps58
      go_wp2
      go_ret
      exact ⟨by rw [E.out, if_neg (by omega)]; rfl, rfl⟩
end Go.Proofs.Ytdiabpoafennlaa
