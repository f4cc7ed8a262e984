import Derived.Test.YtbeblgeiafkniaaDoorScBase
/-! The laws' own helpers: same, spoilt; who is good. -/
namespace Go.Proofs.YtbeblgeiafkniaaDoor
set_option linter.unusedVariables false
set_option maxRecDepth 20000
open Go.RowKit Go.HeapKit

set_option maxHeartbeats 1600000 in
theorem same_any (a a2 : Option Addr) (m c c2 : Nat) (l : List Int) (w : World) (h : SeenN w a m l) (h2 : SeenN w a2 m l) (hs : m * 8 ≤ 140737488351232) :
    Calls Tryd.prog 17 #[.slice a m c, .slice a2 m c2] w fun e w' => e = .returned (.bool true) ∧ ∃ k, w' = w.drewN k := by
  have HS : Hid (SeenN w a m l ∧ SeenN w a2 m l) := ⟨h, h2⟩
  clear h h2
  go_enter Tryd.func17, Tryd.ntmps17
  go_wp2_with fail
  go_loopw [5] (fun s5 wr => ∃ k : Nat, s5 = .int .i64 k ∧ k ≤ m ∧ ∃ d, wr = w.drewN d) (fun s5 _ => m - (intOf s5).toNat)
  case atStart => exact ⟨0, rfl, Nat.zero_le _, 0, rfl⟩
  case round =>
    obtain ⟨k, rfl, hk, d, rfl⟩ := hrel
    by_cases hkn : k < m
    · obtain ⟨b, off, x, rfl, he, c1⟩ := HS.out.1.at hkn
      obtain ⟨b2, off2, x2, rfl, he2, c2⟩ := HS.out.2.at hkn
      rw [he] at he2
      injection he2 with he2
      subst he2
      have m0 : ¬ m = 0 := by omega
      have i1 : (k : Int) < (m : Int) := by omega
      clear he HS
      go_wp2_with fail
      go_quiet (fail)
      all_goals go_wp2_with fail
      all_goals exact ⟨⟨k + 1, by go_num, by omega, _, rfl⟩, by simp [intOf]; omega⟩
    · have i1 : ¬ (k : Int) < (m : Int) := by omega
      go_wp2_with fail
      go_ret
      exact ⟨rfl, d, rfl⟩
def goodB (x : Int) : Bool := decide (1 ≤ x) && decide (x ≤ 64)
theorem goodB_t {x : Int} (h1 : 1 ≤ x) (h2 : x ≤ 64) : goodB x = true := by simp [goodB, h1, h2]
theorem goodB_of {x : Int} (h : goodB x = true) : ∃ W : Nat, x = W ∧ 1 ≤ W ∧ W ≤ 64 := by
  simp [goodB] at h
  exact ⟨x.toNat, by omega, by omega, by omega⟩
end Go.Proofs.YtbeblgeiafkniaaDoor
