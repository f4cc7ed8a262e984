import Derived.Test.YtoglgifmgpogjabDoorMagWalks
/-! The contracts of strings.CutPrefix at the sign, and of ops.Parse. -/
namespace Go.Proofs.YtoglgifmgpogjabDoor
open Go.RowKit Go.PlainOps

theorem extract_tail (s : ByteArray) : s.extract 1 s.size = ⟨(s.data.toList.drop 1).toArray⟩ := by
  rw [Lib.extract_eq, List.take_of_length_le]
  rw [List.length_drop, Array.length_toList]
  exact Nat.le_refl _
theorem mag_at (s : ByteArray) (limit : Nat) (L : Int) (hL : L = (limit : Int)) (w : World) (hl : 9 ≤ limit) (hl2 : limit ≤ 9223372036854775808) (hs : s.size ≤ 20) :
    Calls Tryd.prog 10 #[.string s, .int .u64 L] w fun e w' => e = .returned (.tuple #[.int .u64 (magN1 limit s.data.toList), .bool (magB1 limit s.data.toList)]) ∧ Below w.heap.size w w' := by
  subst hL
  exact mag_any s limit w hl hl2 hs
theorem mag_le (limit : Nat) (hl : 9 ≤ limit) (l : List UInt8) : 0 ≤ magN1 limit l ∧ magN1 limit l ≤ limit := by
  unfold magN1
  cases h : magR limit l with
  | none => simp
  | some n => have := ((magR_iff limit hl l n).1 h).1; simp; omega
theorem mag_str (r : List UInt8) (limit : Nat) (L : Int) (hL : L = (limit : Int)) (w : World) (hl : 9 ≤ limit) (hl2 : limit ≤ 9223372036854775808) (hs : r.length ≤ 20) :
    Calls Tryd.prog 10 #[.string ⟨r.toArray⟩, .int .u64 L] w fun e w' => e = .returned (.tuple #[.int .u64 (magN1 limit r), .bool (magB1 limit r)]) ∧ Below w.heap.size w w' := by
  have := mag_at ⟨r.toArray⟩ limit L hL w hl hl2 (by simpa [ByteArray.size] using hs)
  simpa using this
theorem neg_wrap (n : Int) (h0 : 0 ≤ n) (h1 : n ≤ 9223372036854775808) : wrap64 (-wrap64 n) = -n := by unfold wrap64; omega
/-- Without a sign. -/
theorem parse_plain (l : List UInt8) (hp : Lib.hasPrefix l [45] = false) : (magB1 9223372036854775807 l = true → parseN l = magN1 9223372036854775807 l ∧ parseE l = 0) ∧ (magB1 9223372036854775807 l = false → parseN l = 0 ∧ parseE l = 4) := by
  unfold magB1 magN1 parseN parseE parseV
  rw [hp]
  cases h : magR 9223372036854775807 l with
  | none => simp
  | some n => simp
/-- With a sign. -/
theorem parse_sign (l : List UInt8) (hp : Lib.hasPrefix l [45] = true) :
    (magB1 9223372036854775808 (l.drop 1) = true → magN1 9223372036854775808 (l.drop 1) ≠ 0 → parseN l = -magN1 9223372036854775808 (l.drop 1) ∧ parseE l = 0) ∧ ((magB1 9223372036854775808 (l.drop 1) = false ∨ magN1 9223372036854775808 (l.drop 1) = 0) → parseN l = 0 ∧ parseE l = 4) := by
  unfold magB1 magN1 parseN parseE parseV
  rw [hp]
  cases h : magR 9223372036854775808 (l.drop 1) with
  | none => simp
  | some n =>
    by_cases h0 : n = 0
    · simp [h0]
    · simp [h0]
section
set_option maxHeartbeats 800000
theorem cut_yes (s : ByteArray) (w : World) (hp : Lib.hasPrefix s.data.toList [45] = true) (hs : s.size ≤ 20) :
    Calls Tryd.prog 9 #[.string s, .string ⟨#[45]⟩] w fun e w' => e = .returned (.tuple #[.string ⟨(s.data.toList.drop 1).toArray⟩, .bool true]) ∧ w' = w := by
  rw [← extract_tail]
  obtain ⟨r, hr⟩ := (prefix_iff _).1 hp
  have h1 : 1 ≤ s.size := by
    have := congrArg List.length hr
    rw [Array.length_toList] at this
    have h2 : s.size = s.data.size := rfl
    rw [h2, this]; simp
  have h1' : (1 : Int) ≤ (s.size : Int) := by omega
  have hx : ((s.extract 0 1).toList == [45]) = true := by
    rw [Lib.extract_toList, hr]; simp
  have hx2 : (!(s.extract 0 1).toList == [45]) = false := by rw [hx]; rfl
  clear hp hr r
  go_enter Tryd.func9, Tryd.ntmps9
  go_wp2
  go_ret2
  exact ⟨rfl, rfl⟩
theorem cut_no (s : ByteArray) (w : World) (hp : Lib.hasPrefix s.data.toList [45] = false) (hs : s.size ≤ 20) :
    Calls Tryd.prog 9 #[.string s, .string ⟨#[45]⟩] w fun e w' => e = .returned (.tuple #[.string s, .bool false]) ∧ w' = w := by
  by_cases h1 : s.size < 1
  · have h1' : (s.size : Int) < 1 := by omega
    clear hp
    go_enter Tryd.func9, Tryd.ntmps9
    go_wp2
    go_ret2
    exact ⟨rfl, rfl⟩
  · have h1' : (1 : Int) ≤ (s.size : Int) := by omega
    have hx : ((s.extract 0 1).toList == [45]) = false := by
      rw [Lib.extract_toList, List.drop_zero, Nat.sub_zero]
      rw [beq_eq_false_iff_ne]
      intro h
      have h3 := List.take_append_drop 1 s.data.toList
      rw [h] at h3
      have : Lib.hasPrefix s.data.toList [45] = true := (prefix_iff _).2 ⟨s.data.toList.drop 1, h3.symm⟩
      rw [hp] at this
      cases this
    have hx2 : (!(s.extract 0 1).toList == [45]) = true := by rw [hx]; rfl
    clear hp
    go_enter Tryd.func9, Tryd.ntmps9
    go_wp2
    go_ret2
    exact ⟨rfl, rfl⟩
theorem parse_long (s : ByteArray) (w : World) (hs : 20 < (s.size : Int)) :
    Calls Tryd.prog 6 #[.string s] w fun e w' => e = .returned (.tuple #[.int .i64 0, .int .i64 2]) ∧ Below w.heap.size w w' := by
  go_enter Tryd.func6, Tryd.ntmps6
  go_wp2
  go_ret2
  exact ⟨rfl, Below.refl _ _⟩
theorem parse_short (s : ByteArray) (w : World) (hs : s.size ≤ 20) :
    Calls Tryd.prog 6 #[.string s] w fun e w' => e = .returned (.tuple #[.int .i64 (parseN s.data.toList), .int .i64 (parseE s.data.toList)]) ∧ Below w.heap.size w w' := by
  have hs' : (s.size : Int) ≤ 20 := by omega
  cases hp : Lib.hasPrefix s.data.toList [45]
  · have P := parse_plain s.data.toList hp
    have HP : Hid (Lib.hasPrefix s.data.toList [45] = false) := hp
    have HB := mag_le 9223372036854775807 (by decide) s.data.toList
    obtain ⟨b0, b1⟩ := HB
    cases hb : magB1 9223372036854775807 s.data.toList
    · have E1 : Hid (parseN s.data.toList = 0) := (P.2 hb).1
      have E2 : Hid (parseE s.data.toList = 4) := (P.2 hb).2
      clear P hp
      go_enter Tryd.func6, Tryd.ntmps6
      go_wp2_with (first | (go_at_call 9; refine (cut_no s _ HP.out hs).mono ?_; rintro e w' ⟨rfl, rfl⟩) | (go_at_call 10; refine (mag_at s 9223372036854775807 _ rfl _ (by decide) (by decide) hs).mono ?_; rintro e w1 ⟨rfl, hb1⟩))
      go_ret2
      exact ⟨by rw [E1.out, E2.out]; rfl, by assumption⟩
    · have E1 : Hid (parseN s.data.toList = magN1 9223372036854775807 s.data.toList) := (P.1 hb).1
      have E2 : Hid (parseE s.data.toList = 0) := (P.1 hb).2
      have b1' : magN1 9223372036854775807 s.data.toList ≤ 9223372036854775807 := b1
      clear P hp b1
      go_enter Tryd.func6, Tryd.ntmps6
      go_wp2_with (first | (go_at_call 9; refine (cut_no s _ HP.out hs).mono ?_; rintro e w' ⟨rfl, rfl⟩) | (go_at_call 10; refine (mag_at s 9223372036854775807 _ rfl _ (by decide) (by decide) hs).mono ?_; rintro e w1 ⟨rfl, hb1⟩))
      go_ret2
      exact ⟨by rw [E1.out, E2.out]; rfl, by assumption⟩
  · have P := parse_sign s.data.toList hp
    have HP : Hid (Lib.hasPrefix s.data.toList [45] = true) := hp
    have HB := mag_le 9223372036854775808 (by decide) (s.data.toList.drop 1)
    have hl : (s.data.toList.drop 1).length ≤ 20 := by
      rw [List.length_drop, Array.length_toList]
      have h2 : s.size = s.data.size := rfl
      omega
    have HL : Hid ((s.data.toList.drop 1).length ≤ 20) := hl
    generalize hr : s.data.toList.drop 1 = r at *
    have HR : Hid (s.data.toList.drop 1 = r) := hr
    clear hr hl
    cases hb : magB1 9223372036854775808 r
    · have E1 : Hid (parseN s.data.toList = 0) := (P.2 (.inl hb)).1
      have E2 : Hid (parseE s.data.toList = 4) := (P.2 (.inl hb)).2
      clear P hp HB
      go_enter Tryd.func6, Tryd.ntmps6
      go_wp2_with (first | (go_at_call 9; refine (cut_yes s _ HP.out hs).mono ?_; rw [HR.out]; rintro e w' ⟨rfl, rfl⟩) | (go_at_call 10; refine (mag_str r 9223372036854775808 _ rfl _ (by decide) (by decide) HL.out).mono ?_; rintro e w1 ⟨rfl, hb1⟩))
      go_ret2
      exact ⟨by rw [E1.out, E2.out]; rfl, by assumption⟩
    · by_cases hn : magN1 9223372036854775808 r = 0
      · have E1 : Hid (parseN s.data.toList = 0) := (P.2 (.inr hn)).1
        have E2 : Hid (parseE s.data.toList = 4) := (P.2 (.inr hn)).2
        have hn' : (magN1 9223372036854775808 r == 0) = true := by rw [hn]; rfl
        clear P hp HB hn
        go_enter Tryd.func6, Tryd.ntmps6
        go_wp2_with (first | (go_at_call 9; refine (cut_yes s _ HP.out hs).mono ?_; rw [HR.out]; rintro e w' ⟨rfl, rfl⟩) | (go_at_call 10; refine (mag_str r 9223372036854775808 _ rfl _ (by decide) (by decide) HL.out).mono ?_; rintro e w1 ⟨rfl, hb1⟩))
        go_ret2
        exact ⟨by rw [E1.out, E2.out]; rfl, by assumption⟩
      · have E0 : Hid (wrap64 (-wrap64 (magN1 9223372036854775808 r)) = -magN1 9223372036854775808 r) := neg_wrap _ HB.1 HB.2
        have E1 : Hid (parseN s.data.toList = -magN1 9223372036854775808 r) := (P.1 hb hn).1
        have E2 : Hid (parseE s.data.toList = 0) := (P.1 hb hn).2
        have hn' : (magN1 9223372036854775808 r == 0) = false := beq_eq_false_iff_ne.2 hn
        clear P hp HB hn
        go_enter Tryd.func6, Tryd.ntmps6
        go_wp2_with (first | (go_at_call 9; refine (cut_yes s _ HP.out hs).mono ?_; rw [HR.out]; rintro e w' ⟨rfl, rfl⟩) | (go_at_call 10; refine (mag_str r 9223372036854775808 _ rfl _ (by decide) (by decide) HL.out).mono ?_; rintro e w1 ⟨rfl, hb1⟩))
        go_ret2
        exact ⟨by rw [E1.out, E2.out, ← E0.out]; rfl, by assumption⟩
end
end Go.Proofs.YtoglgifmgpogjabDoor
