import Derived.Test.YtahoodfdcpgikaaDoorPgLawFits
import Derived.Test.YtahoodfdcpgikaaDoorPgSound
/-! ProgPaths. -/
namespace Go.Proofs.YtahoodfdcpgikaaDoor
set_option linter.unusedVariables false
set_option maxRecDepth 20000
open Go.RowKit Go.HeapKit

theorem bits_any (s : Int) (w : World) : Calls Tryd.prog 15 #[.int .i64 s] w fun e w' => e = .returned (.int .i64 (bitV s)) ∧ w' = w := by
  by_cases h0 : s = 0
  · subst h0
    go_enter Tryd.func15, Tryd.ntmps15
    go_wp2
    go_ret
    exact ⟨rfl, rfl⟩
  · have q0 : (s == 0) = false := by simpa using h0
    by_cases h1 : s = 1
    · subst h1
      go_enter Tryd.func15, Tryd.ntmps15
      go_wp2
      go_ret
      exact ⟨rfl, rfl⟩
    · have q1 : (s == 1) = false := by simpa using h1
      have hv : bitV s = 4 := by simp [bitV, h0, h1]
      rw [hv]
      go_enter Tryd.func15, Tryd.ntmps15
      go_wp2_with fail
      go_ret
      exact ⟨rfl, rfl⟩
theorem and_bit {n : Nat} {fr : List Pt} (h : Bare n fr) (a : Nat) (ha : a < n) (x : Int) (hm : metV fr (a, bitV x) = true) : ¬ bits BinOp.and .i64 (sumAt fr a) (bitV x) = 0 := by
  rw [sum_at h a ha]
  rcases bit_st x with e | e | e
  · rw [e] at hm ⊢
    rw [hm]
    cases metV fr (a, 2) <;> cases metV fr (a, 4) <;> decide
  · rw [e] at hm ⊢
    rw [hm]
    cases metV fr (a, 1) <;> cases metV fr (a, 4) <;> decide
  · rw [e] at hm ⊢
    rw [hm]
    cases metV fr (a, 1) <;> cases metV fr (a, 2) <;> decide
end Go.Proofs.YtahoodfdcpgikaaDoor
