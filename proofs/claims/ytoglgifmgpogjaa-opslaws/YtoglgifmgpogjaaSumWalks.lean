import Derived.Test.YtoglgifmgpogjaaSevenWalks
/-! The contracts of the statement's own helpers: of, monoid. -/
namespace Go.Proofs.Ytoglgifmgpogjaa
open Go.RowKit Go.PlainOps
section
set_option maxHeartbeats 400000
theorem of_any (s : Value) (op a b : Int) (w : World) (h : isOpV op = true) : Calls Try.prog 14 #[s, .int .i64 op, .int .i64 a, .int .i64 b] w fun e w' => e = .returned (.int .i64 (workV op a b)) ∧ w' = w := by
  have H : Hid (isOpV op = true) := h
  clear h
  go_enter Try.func14, Try.ntmps14
  go_wp2_with (go_at_call 15; refine (apply_any _ _ _ _ H.out).mono ?_; rintro e w' ⟨rfl, rfl⟩)
  go_ret
  exact ⟨rfl, rfl⟩
theorem monoid_any (s : Value) (op a b c : Int) (w : World) (h : hasU op = true) (ha : -9223372036854775808 ≤ a) (ha' : a ≤ 9223372036854775807) :
    Calls Try.prog 8 #[s, .int .i64 op, .int .i64 a, .int .i64 b, .int .i64 c] w fun e w' => e = .returned (.bool true) ∧ w' = w := by
  have H : Hid (isOpV op = true) := isOp_hasU h
  have HU : Hid (hasU op = true) := h
  have e1 : (workV op a b == workV op b a) = true := by rw [workV_comm op a b h]; simp
  have e2 : (workV op (workV op a b) c == workV op a (workV op b c)) = true := by rw [workV_assoc op a b c h]; simp
  have e3 : (workV op (unitV op) a == a) = true := by rw [workV_unit op a h ha ha']; simp
  have e4 : (workV op a (unitV op) == a) = true := by rw [workV_unit' op a h ha ha']; simp
  clear h
  go_enter Try.func8, Try.ntmps8
  go_wp2_with (first | (go_at_call 14; refine (of_any _ _ _ _ _ H.out).mono ?_; rintro e w' ⟨rfl, rfl⟩) | (go_at_call 13; refine (unit_any _ _ HU.out).mono ?_; rintro e w' ⟨rfl, rfl⟩))
  go_ret
  exact ⟨rfl, rfl⟩
end
end Go.Proofs.Ytoglgifmgpogjaa
