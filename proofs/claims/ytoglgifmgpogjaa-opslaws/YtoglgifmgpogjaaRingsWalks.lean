import Derived.Test.YtoglgifmgpogjaaSumWalks
import Derived.Test.YtoglgifmgpogjaaPlainRings
/-! The contracts of rings, parts, orders. -/
namespace Go.Proofs.Ytoglgifmgpogjaa
open Go.RowKit Go.PlainOps
section
set_option maxHeartbeats 800000
theorem rings_any (s : Value) (a b c : Int) (w : World) (ha : -9223372036854775808 ≤ a) (ha' : a ≤ 9223372036854775807) :
    Calls Try.prog 10 #[s, .int .i64 a, .int .i64 b, .int .i64 c] w fun e w' => e = .returned (.bool true) ∧ w' = w := by
  have e1 : (workV 2 a (workV 0 b c) == workV 0 (workV 2 a b) (workV 2 a c)) = true := by rw [distrib]; simp
  have e2 : (workV 0 (workV 1 a b) b == a) = true := by rw [less_back a b ha ha']; simp
  have e3 : (workV 8 a c == workV 2 a (workV 8 1 c)) = true := by rw [shl_mul a c]; simp
  go_enter Try.func10, Try.ntmps10
  go_wp2_with (go_at_call 14; refine (of_any _ _ _ _ _ rfl).mono ?_; rintro e w' ⟨rfl, rfl⟩)
  go_ret
  exact ⟨rfl, rfl⟩

theorem orders_any (s : Value) (a b : Int) (w : World) :
    Calls Try.prog 12 #[s, .int .i64 a, .int .i64 b] w fun e w' => e = .returned (.bool true) ∧ w' = w := by
  rcases Int.lt_trichotomy a b with h | h | h
  · have e1 := lt1 h
    have e2 := lt0 (a := b) (b := a) (by omega)
    have e3 := eq0 (a := a) (b := b) (by omega)
    have e4 := le1 (a := a) (b := b) (by omega)
    have e5 := ne1 (a := a) (b := b) (by omega)
    have e6 := min_left (a := a) (b := b) (by omega)
    have e7 := max_right (a := a) (b := b) (by omega)
    clear h
    go_enter Try.func12, Try.ntmps12
    go_wp2_with (go_at_call 14; refine (of_any _ _ _ _ _ rfl).mono ?_; rintro e w' ⟨rfl, rfl⟩)
    go_ret
    exact ⟨rfl, rfl⟩
  · subst h
    have e1 := lt0 (a := a) (b := a) (by omega)
    have e3 := eq1 (a := a) (b := a) rfl
    have e4 := le1 (a := a) (b := a) (by omega)
    have e5 := ne0 (a := a) (b := a) rfl
    have e6 := min_left (a := a) (b := a) (by omega)
    have e7 := max_right (a := a) (b := a) (by omega)
    go_enter Try.func12, Try.ntmps12
    go_wp2_with (go_at_call 14; refine (of_any _ _ _ _ _ rfl).mono ?_; rintro e w' ⟨rfl, rfl⟩)
    go_ret
    exact ⟨rfl, rfl⟩
  · have e1 := lt1 h
    have e2 := lt0 (a := a) (b := b) (by omega)
    have e3 := eq0 (a := a) (b := b) (by omega)
    have e4 := le0 (a := a) (b := b) (by omega)
    have e4' := le1 (a := b) (b := a) (by omega)
    have e5 := ne1 (a := a) (b := b) (by omega)
    have e6 := min_right (a := a) (b := b) (by omega)
    have e7 := max_left (a := a) (b := b) (by omega)
    clear h
    go_enter Try.func12, Try.ntmps12
    go_wp2_with (go_at_call 14; refine (of_any _ _ _ _ _ rfl).mono ?_; rintro e w' ⟨rfl, rfl⟩)
    go_ret
    exact ⟨rfl, rfl⟩

theorem parts_any (s : Value) (a b : Int) (w : World) (ha : -9223372036854775808 ≤ a) (ha' : a ≤ 9223372036854775807) (hb : -9223372036854775808 ≤ b) (hb' : b ≤ 9223372036854775807) :
    Calls Try.prog 11 #[s, .int .i64 a, .int .i64 b] w fun e w' => e = .returned (.bool true) ∧ w' = w := by
  have e1 : (workV 0 (workV 5 a b) (workV 6 a b) != wrap64 (a + b)) = false := by rw [sum_bits]; simp
  have e2 : (workV 1 (workV 6 a b) (workV 5 a b) != workV 7 a b) = false := by rw [apart_bits]; simp
  have e3 : (workV 0 (workV 2 (workV 3 a b) b) (workV 4 a b) != a) = false := by rw [whole_parts a b ha ha']; simp
  have hs : (0 < a ∧ 0 ≤ workV 4 a b) ∨ (0 ≤ a ∧ a ≤ 0 ∧ 0 ≤ workV 4 a b ∧ workV 4 a b ≤ 0) ∨ (a < 0 ∧ workV 4 a b ≤ 0) := by
    have p1 := rem_pos a b
    have p2 := rem_neg a b
    omega
  by_cases hov : -9223372036854775808 ≤ a + b ∧ a + b ≤ 9223372036854775807
  · have e1' : (workV 0 (workV 5 a b) (workV 6 a b) != a + b) = false := by
      have : wrap64 (a + b) = a + b := by unfold wrap64; omega
      rw [sum_bits, this]; simp
    obtain ⟨o1, o2⟩ := hov
    rcases Int.lt_trichotomy b 0 with h | h | h
    · obtain ⟨n1, n2⟩ := rem_near' a b h
      rcases hs with ⟨s1, s2⟩ | ⟨s1, s2, s3, s4⟩ | ⟨s1, s2⟩
      all_goals
        go_enter Try.func11, Try.ntmps11
        go_wp2_with (go_at_call 14; refine (of_any _ _ _ _ _ rfl).mono ?_; rintro e w' ⟨rfl, rfl⟩)
        go_ret
        exact ⟨congrArg (fun x => Ending.returned (Value.bool x)) (decide_eq_true (by omega)), rfl⟩
    · have z : (workV 4 a b == a) = true := by rw [h, rem_zero]; simp
      have hz0 : 0 ≤ b := by omega
      have hz1 : b ≤ 0 := by omega
      clear h
      rcases hs with ⟨s1, s2⟩ | ⟨s1, s2, s3, s4⟩ | ⟨s1, s2⟩
      all_goals
        go_enter Try.func11, Try.ntmps11
        go_wp2_with (go_at_call 14; refine (of_any _ _ _ _ _ rfl).mono ?_; rintro e w' ⟨rfl, rfl⟩)
        go_ret
        exact ⟨rfl, rfl⟩
    · obtain ⟨n1, n2⟩ := rem_near a b h
      rcases hs with ⟨s1, s2⟩ | ⟨s1, s2, s3, s4⟩ | ⟨s1, s2⟩
      all_goals
        go_enter Try.func11, Try.ntmps11
        go_wp2_with (go_at_call 14; refine (of_any _ _ _ _ _ rfl).mono ?_; rintro e w' ⟨rfl, rfl⟩)
        go_ret
        exact ⟨congrArg (fun x => Ending.returned (Value.bool x)) (decide_eq_true (by omega)), rfl⟩
  · have o := hov
    clear hov
    rcases Int.lt_trichotomy b 0 with h | h | h
    · obtain ⟨n1, n2⟩ := rem_near' a b h
      rcases hs with ⟨s1, s2⟩ | ⟨s1, s2, s3, s4⟩ | ⟨s1, s2⟩
      all_goals try (exfalso; omega)
      all_goals
        go_enter Try.func11, Try.ntmps11
        go_wp2_with (go_at_call 14; refine (of_any _ _ _ _ _ rfl).mono ?_; rintro e w' ⟨rfl, rfl⟩)
        go_ret
        exact ⟨congrArg (fun x => Ending.returned (Value.bool x)) (decide_eq_true (by omega)), rfl⟩
    · have z : (workV 4 a b == a) = true := by rw [h, rem_zero]; simp
      have hz0 : 0 ≤ b := by omega
      have hz1 : b ≤ 0 := by omega
      clear h
      rcases hs with ⟨s1, s2⟩ | ⟨s1, s2, s3, s4⟩ | ⟨s1, s2⟩
      all_goals try (exfalso; omega)
      all_goals
        go_enter Try.func11, Try.ntmps11
        go_wp2_with (go_at_call 14; refine (of_any _ _ _ _ _ rfl).mono ?_; rintro e w' ⟨rfl, rfl⟩)
        go_ret
        exact ⟨rfl, rfl⟩
    · obtain ⟨n1, n2⟩ := rem_near a b h
      rcases hs with ⟨s1, s2⟩ | ⟨s1, s2, s3, s4⟩ | ⟨s1, s2⟩
      all_goals try (exfalso; omega)
      all_goals
        go_enter Try.func11, Try.ntmps11
        go_wp2_with (go_at_call 14; refine (of_any _ _ _ _ _ rfl).mono ?_; rintro e w' ⟨rfl, rfl⟩)
        go_ret
        exact ⟨congrArg (fun x => Ending.returned (Value.bool x)) (decide_eq_true (by omega)), rfl⟩
end
end Go.Proofs.Ytoglgifmgpogjaa
