import Derived.Test.YtnhoedodnbifdaaDgEar
import Derived.Test.YtnhoedodnbifdaaDgPathP
/-! A longest path: the program's. -/
namespace Go.Proofs.Ytnhoedodnbifdaa
set_option linter.unusedVariables false
set_option maxRecDepth 20000
open Go.RowKit Go.HeapKit

set_option maxHeartbeats 1600000 in
theorem max_any (g n cap : Nat) (F : Nat → Int) (w : World) (h : IsN w g n F) (h1 : 1 ≤ n) (hn : n ≤ 4096) :
    Calls Try.prog 52 #[.slice (some ⟨g, 0, none⟩) n cap] w fun e w' => ∃ x, e = .returned (.int .i64 x) ∧ (∃ j, j < n ∧ F j = x) ∧ (∀ i, i < n → F i ≤ x) ∧ w' = w := by
  have H : Hid (IsN w g n F) := h
  have c0 := h.at (show 0 < n by omega)
  have n0 : ¬ n = 0 := by omega
  have i0 : (0 : Int) < (n : Int) := by omega
  have i1 : ¬ (n : Int) < 1 := by omega
  clear h
  go_enter Try.func52, Try.ntmps52
  go_wp2_with fail
  go_loopw [3, 4] (fun s3 s4 wr => ∃ (k : Nat) (x : Int), s3 = .int .i64 x ∧ s4 = .int .i64 k ∧ 1 ≤ k ∧ k ≤ n ∧ (∃ j, j < n ∧ F j = x) ∧ (∀ i, i < k → F i ≤ x) ∧ wr = w) (fun _ s4 _ => n - (intOf s4).toNat)
  case atStart => exact ⟨1, F 0, rfl, rfl, Nat.le_refl _, h1, ⟨0, by omega, rfl⟩, (fun i hi => by rw [show i = 0 by omega]; exact Int.le_refl _), rfl⟩
  case round =>
    obtain ⟨k, x, rfl, rfl, hk1, hk, hex, hall, hwr⟩ := hrel
    subst hwr
    have HH : Hid ((∃ j, j < n ∧ F j = x) ∧ ∀ i, i < k → F i ≤ x) := ⟨hex, hall⟩
    clear hex hall
    by_cases hlt : k < n
    · have k1 : (k : Int) < (n : Int) := by omega
      have ck := H.out.at hlt
      generalize hy : F k = y at ck
      have HY : Hid (F k = y) := hy
      clear hy
      go_wp2_with fail
      refine ⟨⟨k + 1, _, rfl, by go_num, by omega, by omega, ?_, fun i hi => ?_, trivial⟩, by simp [intOf]; omega⟩
      · split
        · exact ⟨k, hlt, HY.out⟩
        · exact HH.out.1
      · by_cases e : i = k
        · subst e
          rw [HY.out]
          split <;> omega
        · have := HH.out.2 i (by omega)
          split <;> omega
    · have k1 : ¬ (k : Int) < (n : Int) := by omega
      obtain rfl : n = k := by omega
      go_wp2_with fail
      go_ret
      exact ⟨_, rfl, HH.out.1, HH.out.2, rfl⟩
set_option maxHeartbeats 1600000 in
theorem index_any (g n cap : Nat) (F : Nat → Int) (x : Int) (w : World) (h : IsN w g n F) (hx : ∃ j, j < n ∧ F j = x) (hn : n ≤ 4096) :
    Calls Try.prog 51 #[.slice (some ⟨g, 0, none⟩) n cap, .int .i64 x] w fun e w' => ∃ i : Nat, e = .returned (.int .i64 i) ∧ i < n ∧ F i = x ∧ w' = w := by
  have H : Hid (IsN w g n F ∧ ∃ j, j < n ∧ F j = x) := ⟨h, hx⟩
  clear h hx
  go_enter Try.func51, Try.ntmps51
  go_wp2_with fail
  go_loopw [8, 5] (fun s8 _ wr => ∃ k : Nat, s8 = .int .i64 k ∧ k ≤ n ∧ (∀ i, i < k → F i ≠ x) ∧ wr = w) (fun s8 _ _ => n - (intOf s8).toNat)
  case atStart => exact ⟨0, rfl, Nat.zero_le _, (fun i hi => by omega), rfl⟩
  case round =>
    obtain ⟨k, rfl, hk, hall, hwr⟩ := hrel
    subst hwr
    have HH : Hid (∀ i, i < k → F i ≠ x) := hall
    clear hall
    have hlt : k < n := by
      obtain ⟨j, hj, e⟩ := H.out.2
      have : ¬ j < k := fun hlt => HH.out j hlt e
      omega
    have k1 : (k : Int) < (n : Int) := by omega
    have n0 : ¬ n = 0 := by omega
    have ck := H.out.1.at hlt
    generalize hy : F k = y at ck
    have HY : Hid (F k = y) := hy
    clear hy
    by_cases e : x = y
    · have eb : (x == y) = true := by simpa using e
      have HE : Hid (x = y) := e
      clear e
      go_wp2_with fail
      go_ret
      exact ⟨_, rfl, hlt, by rw [HY.out, HE.out], rfl⟩
    · have eb : (x == y) = false := by simpa using e
      have HE : Hid (¬ x = y) := e
      go_wp2_with fail
      refine ⟨⟨k + 1, by go_num, by omega, fun i hi => ?_, trivial⟩, by simp [intOf]; omega⟩
      by_cases e2 : i = k
      · subst e2
        rw [HY.out]
        exact fun h => HE.out h.symm
      · exact HH.out i (by omega)
set_option maxHeartbeats 1600000 in
theorem grt_any (v : Value) (base n : Nat) (l : List Int) (w : World) (h : w.ownsRow base 3 1 v n (iv l)) (hn : n ≤ 4096) :
    Calls Try.prog 45 #[v] w fun e w' => e = .returned (.int .i64 (grt l)) ∧ w' = w := by
  obtain ⟨a, c, rfl⟩ := row_shape h
  have HS : Hid (w.ownsRow base 3 1 (.slice a n c) n (iv l)) := h
  have hl : Hid (l.length = n) := by have := h.1; rw [iv_len] at this; show _ = _; omega
  clear h
  go_enter Try.func45, Try.ntmps45
  go_wp2_with fail
  go_loopw [3, 4] (fun s3 s4 wr => ∃ (k : Nat) (x : Int), s3 = .int .i64 x ∧ s4 = .int .i64 k ∧ k ≤ n ∧ x = grt (l.take k) ∧ wr = w) (fun _ s4 _ => n - (intOf s4).toNat)
  case atStart => exact ⟨0, 0, rfl, rfl, Nat.zero_le _, by simp [grt], rfl⟩
  case round =>
    obtain ⟨k, x, rfl, rfl, hk, hx, hwr⟩ := hrel
    subst hwr
    have HX : Hid (x = grt (l.take k)) := hx
    clear hx
    by_cases hlt : k < n
    · have k1 : (k : Int) < (n : Int) := by omega
      have n0 : ¬ n = 0 := by omega
      have hy : l[k]? = some (l[k]'(by have := hl.out; omega)) := List.getElem?_eq_getElem _
      obtain ⟨g, rfl, e0, _⟩ := row_at HS.out hy
      generalize l[k]'(by have := hl.out; omega) = y at e0 hy
      have HY : Hid (l[k]? = some y) := hy
      clear hy HS
      go_wp2_with fail
      refine ⟨⟨k + 1, _, rfl, by go_num, by omega, ?_, trivial⟩, by simp [intOf]; omega⟩
      rw [List.take_add_one, HY.out]
      show _ = grt (l.take k ++ [y])
      rw [grt_snoc, ← HX.out]
      split <;> omega
    · have k1 : ¬ (k : Int) < (n : Int) := by omega
      have HE : Hid (x = grt l) := by
        have h1 := HX.out
        rw [List.take_of_length_le (by have := hl.out; omega)] at h1
        exact h1
      go_wp2_with fail
      go_ret
      exact ⟨by rw [← HE.out]; rfl, rfl⟩
end Go.Proofs.Ytnhoedodnbifdaa
