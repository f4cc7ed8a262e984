import Derived.Test.YtahpdbkpmmdigaaRows
import Derived.Test.YtahpdbkpmmdigaaHeap
import Derived.OwnWalk
import Derived.WalkMore
import Derived.Deep.RegionHeld3
import Derived.Deep.QuietTactic
import Derived.Deep.DeepCutAuto
import Derived.BigQuiet
/-! The bound of a run's picks. -/
namespace Go.Proofs.Ytahpdbkpmmdigaa
set_option linter.unusedVariables false
set_option maxRecDepth 20000
open Go.RowKit Go.HeapKit Go.IntWalk

def topI : Int := 9223372036854775807
def satI (x : Int) : Int := if x ≤ 9223372036854775807 then x else 9223372036854775807
theorem satI_le (x : Int) : satI x ≤ 9223372036854775807 := by unfold satI; split <;> omega
theorem satI_pos {x : Int} (h : 1 ≤ x) : 1 ≤ satI x := by unfold satI; split <;> omega
theorem satI_in {x : Int} (h : x ≤ 9223372036854775807) : satI x = x := if_pos h
theorem satI_out {x : Int} (h : ¬ x ≤ 9223372036854775807) : satI x = 9223372036854775807 := if_neg h
theorem quot_iff (x y : Int) (hx : 1 ≤ x) (hy : 1 ≤ y) : (x ≤ Int.tdiv 9223372036854775807 y ↔ x * y ≤ 9223372036854775807) ∧ 0 ≤ Int.tdiv 9223372036854775807 y ∧ Int.tdiv 9223372036854775807 y ≤ 9223372036854775807 := by
  rw [Int.tdiv_eq_ediv_of_nonneg (by omega)]
  refine ⟨Int.le_ediv_iff_mul_le (by omega), Int.ediv_nonneg (by omega) (by omega), ?_⟩
  exact Int.le_trans (Int.ediv_le_self y (by omega)) (Int.le_refl _)

theorem mplus_any (x y : Int) (w : World) (hx : 1 ≤ x) (hx2 : x ≤ 9223372036854775807) (hy : 1 ≤ y) (hy2 : y ≤ 9223372036854775807) : Calls Try.prog 6 #[.int .i64 x, .int .i64 y] w fun e w' => e = .returned (.int .i64 (satI (x + y))) ∧ w' = w := by
  by_cases h : x + y ≤ 9223372036854775807
  · rw [satI_in h]
    have i1 : ¬ 9223372036854775807 - x < y := by omega
    go_enter Try.func6, Try.ntmps6
    go_wp2
    go_ret
    exact ⟨rfl, rfl⟩
  · rw [satI_out h]
    have i1 : 9223372036854775807 - x < y := by omega
    have e1 : x + (9223372036854775807 - x) = 9223372036854775807 := by omega
    clear h
    go_enter Try.func6, Try.ntmps6
    go_wp2
    go_ret
    exact ⟨rfl, rfl⟩
theorem rplus_any (x y : Int) (w : World) (hx : 1 ≤ x) (hx2 : x ≤ 9223372036854775807) (hy : 1 ≤ y) (hy2 : y ≤ 9223372036854775807) : Calls Try.prog 8 #[.int .i64 x, .int .i64 y] w fun e w' => e = .returned (.int .i64 (satI (x + y))) ∧ w' = w := by
  by_cases h : x + y ≤ 9223372036854775807
  · rw [satI_in h]
    have i1 : ¬ 9223372036854775807 - y < x := by omega
    go_enter Try.func8, Try.ntmps8
    go_wp2
    go_ret
    exact ⟨rfl, rfl⟩
  · rw [satI_out h]
    have i1 : 9223372036854775807 - y < x := by omega
    clear h
    go_enter Try.func8, Try.ntmps8
    go_wp2
    go_ret
    exact ⟨rfl, rfl⟩
theorem mtimes_any (x y : Int) (w : World) (hx : 1 ≤ x) (hx2 : x ≤ 9223372036854775807) (hy : 1 ≤ y) (hy2 : y ≤ 9223372036854775807) : Calls Try.prog 7 #[.int .i64 x, .int .i64 y] w fun e w' => e = .returned (.int .i64 (satI (x * y))) ∧ w' = w := by
  obtain ⟨hq, q0, q1⟩ := quot_iff x y hx hy
  have y0 : ¬ y = 0 := by omega
  have p0 : 0 ≤ x * y := Int.mul_nonneg (by omega) (by omega)
  by_cases h : x * y ≤ 9223372036854775807
  · rw [satI_in h]
    have i1 : ¬ Int.tdiv 9223372036854775807 y < x := by have := hq.2 h; omega
    clear hq
    go_enter Try.func7, Try.ntmps7
    go_wp2
    go_ret
    exact ⟨rfl, rfl⟩
  · rw [satI_out h]
    have i1 : Int.tdiv 9223372036854775807 y < x := by
      have := mt hq.1 h
      omega
    clear hq h p0
    go_enter Try.func7, Try.ntmps7
    go_wp2
    go_ret
    exact ⟨rfl, rfl⟩
theorem rtimes_any (x y : Int) (w : World) (hx : 1 ≤ x) (hx2 : x ≤ 9223372036854775807) (hy : 1 ≤ y) (hy2 : y ≤ 9223372036854775807) : Calls Try.prog 9 #[.int .i64 x, .int .i64 y] w fun e w' => e = .returned (.int .i64 (satI (x * y))) ∧ w' = w := by
  obtain ⟨hq, q0, q1⟩ := quot_iff y x hy hx
  have y0 : ¬ x = 0 := by omega
  have x0 : 0 < x := by omega
  have p0 : 0 ≤ x * y := Int.mul_nonneg (by omega) (by omega)
  rw [Int.mul_comm y x] at hq
  by_cases h : x * y ≤ 9223372036854775807
  · rw [satI_in h]
    have i1 : ¬ Int.tdiv 9223372036854775807 x < y := by have := hq.2 h; omega
    clear hq
    go_enter Try.func9, Try.ntmps9
    go_wp2
    go_ret
    exact ⟨rfl, rfl⟩
  · rw [satI_out h]
    have i1 : Int.tdiv 9223372036854775807 x < y := by
      have := mt hq.1 h
      omega
    clear hq h p0
    go_enter Try.func9, Try.ntmps9
    go_wp2
    go_ret
    exact ⟨rfl, rfl⟩

theorem mul_up {a b c d : Int} (h1 : 1 ≤ a) (h2 : 1 ≤ b) : 1 ≤ a * b := by
  have := Int.mul_le_mul h1 h2 (by omega) (by omega : (0 : Int) ≤ a)
  omega
def boundIn (k t p n : Int) : Int := satI (n * satI (satI (satI (2 * k) + satI ((p + 32) * t)) + (4 * p + 32)))
def BoundOK (k t p n : Int) : Prop := 1 ≤ k ∧ 1 ≤ t ∧ 1 ≤ n ∧ 1 ≤ p ∧ p ≤ 64
structure Big (k t p n : Int) : Prop where
  k : k ≤ 9223372036854775807
  t : t ≤ 9223372036854775807
  n : n ≤ 9223372036854775807
set_option maxHeartbeats 1600000 in
theorem mbound_ok (k t p n : Int) (w : World) (h : BoundOK k t p n) (hb : Big k t p n) : Calls Try.prog 4 #[.int .i64 k, .int .i64 t, .int .i64 p, .int .i64 n] w fun e w' => e = .returned (.int .i64 (boundIn k t p n)) ∧ w' = w := by
  obtain ⟨h1, h2, h3, h4, h5⟩ := h
  obtain ⟨b1, b2, b3⟩ := hb
  have c1 : ∀ w, Calls Try.prog 7 #[.int .i64 2, .int .i64 k] w fun e w' => e = .returned (.int .i64 (satI (2 * k))) ∧ w' = w := fun w => mtimes_any 2 k w (by omega) (by omega) h1 b1
  have c2 : ∀ w, Calls Try.prog 7 #[.int .i64 (p + 32), .int .i64 t] w fun e w' => e = .returned (.int .i64 (satI ((p + 32) * t))) ∧ w' = w := fun w => mtimes_any (p + 32) t w (by omega) (by omega) h2 b2
  have c3 : ∀ w, Calls Try.prog 6 #[.int .i64 (satI (2 * k)), .int .i64 (satI ((p + 32) * t))] w fun e w' => e = .returned (.int .i64 (satI (satI (2 * k) + satI ((p + 32) * t)))) ∧ w' = w := fun w => mplus_any _ _ w (satI_pos (by omega)) (satI_le _) (satI_pos (mul_up (c := 1) (d := 1) (by omega) h2)) (satI_le _)
  have s1 : 1 ≤ satI (2 * k) := satI_pos (by omega)
  have s2 : 1 ≤ satI ((p + 32) * t) := satI_pos (mul_up (c := 1) (d := 1) (by omega) h2)
  have s3 : 1 ≤ satI (satI (2 * k) + satI ((p + 32) * t)) := satI_pos (by omega)
  have c4 : ∀ w, Calls Try.prog 6 #[.int .i64 (satI (satI (2 * k) + satI ((p + 32) * t))), .int .i64 (4 * p + 32)] w fun e w' => e = .returned (.int .i64 (satI (satI (satI (2 * k) + satI ((p + 32) * t)) + (4 * p + 32)))) ∧ w' = w := fun w => mplus_any _ _ w s3 (satI_le _) (by omega) (by omega)
  have c5 : ∀ w, Calls Try.prog 7 #[.int .i64 n, .int .i64 (satI (satI (satI (2 * k) + satI ((p + 32) * t)) + (4 * p + 32)))] w fun e w' => e = .returned (.int .i64 (boundIn k t p n)) ∧ w' = w := fun w => mtimes_any _ _ w h3 b3 (satI_pos (by omega)) (satI_le _)
  clear s1 s2 s3
  generalize boundIn k t p n = V at *
  generalize satI (satI (satI (2 * k) + satI ((p + 32) * t)) + (4 * p + 32)) = D at *
  generalize satI (satI (2 * k) + satI ((p + 32) * t)) = C at *
  generalize satI (2 * k) = A at *
  generalize satI ((p + 32) * t) = B at *
  have i1 : decide (k < 1) = false := by simp; omega
  have i2 : decide (t < 1) = false := by simp; omega
  have i3 : decide (n < 1) = false := by simp; omega
  have i4 : decide (p < 1) = false := by simp; omega
  have i5 : decide (64 < p) = false := by simp; omega
  go_enter Try.func4, Try.ntmps4
  go_wp2_with fail
  refine (c1 _).mono ?_
  rintro e wz ⟨rfl, hw⟩
  have hw2 := hw.symm
  subst hw2
  clear hw
  go_wp2_with fail
  refine (c2 _).mono ?_
  rintro e wz ⟨rfl, hw⟩
  have hw2 := hw.symm
  subst hw2
  clear hw
  go_wp2_with fail
  refine (c3 _).mono ?_
  rintro e wz ⟨rfl, hw⟩
  have hw2 := hw.symm
  subst hw2
  clear hw
  go_wp2_with fail
  refine (c4 _).mono ?_
  rintro e wz ⟨rfl, hw⟩
  have hw2 := hw.symm
  subst hw2
  clear hw
  go_wp2_with fail
  refine (c5 _).mono ?_
  rintro e wz ⟨rfl, hw⟩
  have hw2 := hw.symm
  subst hw2
  clear hw
  go_wp2_with fail
  go_ret
  exact ⟨rfl, rfl⟩
set_option maxHeartbeats 1600000 in
theorem rbound_ok (k t p n : Int) (w : World) (h : BoundOK k t p n) (hb : Big k t p n) : Calls Try.prog 5 #[.int .i64 k, .int .i64 t, .int .i64 p, .int .i64 n] w fun e w' => e = .returned (.int .i64 (boundIn k t p n)) ∧ w' = w := by
  obtain ⟨h1, h2, h3, h4, h5⟩ := h
  obtain ⟨b1, b2, b3⟩ := hb
  have c1 : ∀ w, Calls Try.prog 9 #[.int .i64 2, .int .i64 k] w fun e w' => e = .returned (.int .i64 (satI (2 * k))) ∧ w' = w := fun w => rtimes_any 2 k w (by omega) (by omega) h1 b1
  have c2 : ∀ w, Calls Try.prog 9 #[.int .i64 (p + 32), .int .i64 t] w fun e w' => e = .returned (.int .i64 (satI ((p + 32) * t))) ∧ w' = w := fun w => rtimes_any (p + 32) t w (by omega) (by omega) h2 b2
  have c3 : ∀ w, Calls Try.prog 8 #[.int .i64 (satI (2 * k)), .int .i64 (satI ((p + 32) * t))] w fun e w' => e = .returned (.int .i64 (satI (satI (2 * k) + satI ((p + 32) * t)))) ∧ w' = w := fun w => rplus_any _ _ w (satI_pos (by omega)) (satI_le _) (satI_pos (mul_up (c := 1) (d := 1) (by omega) h2)) (satI_le _)
  have s1 : 1 ≤ satI (2 * k) := satI_pos (by omega)
  have s2 : 1 ≤ satI ((p + 32) * t) := satI_pos (mul_up (c := 1) (d := 1) (by omega) h2)
  have s3 : 1 ≤ satI (satI (2 * k) + satI ((p + 32) * t)) := satI_pos (by omega)
  have c4 : ∀ w, Calls Try.prog 8 #[.int .i64 (satI (satI (2 * k) + satI ((p + 32) * t))), .int .i64 (4 * p + 32)] w fun e w' => e = .returned (.int .i64 (satI (satI (satI (2 * k) + satI ((p + 32) * t)) + (4 * p + 32)))) ∧ w' = w := fun w => rplus_any _ _ w s3 (satI_le _) (by omega) (by omega)
  have c5 : ∀ w, Calls Try.prog 9 #[.int .i64 n, .int .i64 (satI (satI (satI (2 * k) + satI ((p + 32) * t)) + (4 * p + 32)))] w fun e w' => e = .returned (.int .i64 (boundIn k t p n)) ∧ w' = w := fun w => rtimes_any _ _ w h3 b3 (satI_pos (by omega)) (satI_le _)
  clear s1 s2 s3
  generalize boundIn k t p n = V at *
  generalize satI (satI (satI (2 * k) + satI ((p + 32) * t)) + (4 * p + 32)) = D at *
  generalize satI (satI (2 * k) + satI ((p + 32) * t)) = C at *
  generalize satI (2 * k) = A at *
  generalize satI ((p + 32) * t) = B at *
  have i1 : decide (k < 1) = false := by simp; omega
  have i2 : decide (t < 1) = false := by simp; omega
  have i3 : decide (n < 1) = false := by simp; omega
  have i4 : decide (p < 1) = false := by simp; omega
  have i5 : decide (64 < p) = false := by simp; omega
  go_enter Try.func5, Try.ntmps5
  go_wp2_with fail
  refine (c1 _).mono ?_
  rintro e wz ⟨rfl, hw⟩
  have hw2 := hw.symm
  subst hw2
  clear hw
  go_wp2_with fail
  refine (c2 _).mono ?_
  rintro e wz ⟨rfl, hw⟩
  have hw2 := hw.symm
  subst hw2
  clear hw
  go_wp2_with fail
  refine (c3 _).mono ?_
  rintro e wz ⟨rfl, hw⟩
  have hw2 := hw.symm
  subst hw2
  clear hw
  go_wp2_with fail
  refine (c4 _).mono ?_
  rintro e wz ⟨rfl, hw⟩
  have hw2 := hw.symm
  subst hw2
  clear hw
  go_wp2_with fail
  refine (c5 _).mono ?_
  rintro e wz ⟨rfl, hw⟩
  have hw2 := hw.symm
  subst hw2
  clear hw
  go_wp2_with fail
  go_ret
  exact ⟨rfl, rfl⟩

theorem mbound_bad (k t p n : Int) (w : World) (h : ¬ BoundOK k t p n) : Calls Try.prog 4 #[.int .i64 k, .int .i64 t, .int .i64 p, .int .i64 n] w fun e w' => e = .returned (.int .i64 0) ∧ w' = w := by
  unfold BoundOK at h
  by_cases h1 : k < 1
  · clear h
    go_enter Try.func4, Try.ntmps4
    go_wp2
    go_ret
    exact ⟨rfl, rfl⟩
  · by_cases h2 : t < 1
    · clear h
      go_enter Try.func4, Try.ntmps4
      go_wp2
      go_ret
      exact ⟨rfl, rfl⟩
    · by_cases h3 : n < 1
      · clear h
        go_enter Try.func4, Try.ntmps4
        go_wp2
        go_ret
        exact ⟨rfl, rfl⟩
      · by_cases h4 : p < 1
        · clear h
          go_enter Try.func4, Try.ntmps4
          go_wp2
          go_ret
          exact ⟨rfl, rfl⟩
        · have h5 : 64 < p := by omega
          clear h
          go_enter Try.func4, Try.ntmps4
          go_wp2
          go_ret
          exact ⟨rfl, rfl⟩

theorem rbound_bad (k t p n : Int) (w : World) (h : ¬ BoundOK k t p n) : Calls Try.prog 5 #[.int .i64 k, .int .i64 t, .int .i64 p, .int .i64 n] w fun e w' => e = .returned (.int .i64 0) ∧ w' = w := by
  unfold BoundOK at h
  by_cases h1 : k < 1
  · clear h
    go_enter Try.func5, Try.ntmps5
    go_wp2
    go_ret
    exact ⟨rfl, rfl⟩
  · by_cases h2 : t < 1
    · clear h
      go_enter Try.func5, Try.ntmps5
      go_wp2
      go_ret
      exact ⟨rfl, rfl⟩
    · by_cases h3 : n < 1
      · clear h
        go_enter Try.func5, Try.ntmps5
        go_wp2
        go_ret
        exact ⟨rfl, rfl⟩
      · by_cases h4 : p < 1
        · clear h
          go_enter Try.func5, Try.ntmps5
          go_wp2
          go_ret
          exact ⟨rfl, rfl⟩
        · have h5 : 64 < p := by omega
          clear h
          go_enter Try.func5, Try.ntmps5
          go_wp2
          go_ret
          exact ⟨rfl, rfl⟩

theorem bound_same (k t p n : Int) (hb : Big k t p n) : ∃ V : Int, (∀ w, Calls Try.prog 4 #[.int .i64 k, .int .i64 t, .int .i64 p, .int .i64 n] w fun e w' => e = .returned (.int .i64 V) ∧ w' = w) ∧ (∀ w, Calls Try.prog 5 #[.int .i64 k, .int .i64 t, .int .i64 p, .int .i64 n] w fun e w' => e = .returned (.int .i64 V) ∧ w' = w) := by
  by_cases h : BoundOK k t p n
  · exact ⟨_, fun w => mbound_ok k t p n w h hb, fun w => rbound_ok k t p n w h hb⟩
  · exact ⟨0, fun w => mbound_bad k t p n w h, fun w => rbound_bad k t p n w h⟩
theorem machineBound_walk (k t p n : Int) (w : World) (hb : Big k t p n) : Calls Try.prog 3 #[.int .i64 k, .int .i64 t, .int .i64 p, .int .i64 n] w fun e w' => e = .returned (.bool true) ∧ Below w.heap.size w w' := by
  obtain ⟨V, hm, hr⟩ := bound_same k t p n hb
  clear hb
  have hq : (V == V) = true := by simp
  go_enter Try.func3, Try.ntmps3
  go_wp2_with fail
  refine (hm _).mono ?_
  rintro e wz ⟨rfl, hw⟩
  have hw2 := hw.symm
  subst hw2
  clear hw
  go_wp2_with fail
  refine (hr _).mono ?_
  rintro e wz ⟨rfl, hw⟩
  have hw2 := hw.symm
  subst hw2
  clear hw
  go_wp2_with fail
  go_ret
  exact ⟨rfl, Below.refl _ _⟩
end Go.Proofs.Ytahpdbkpmmdigaa
