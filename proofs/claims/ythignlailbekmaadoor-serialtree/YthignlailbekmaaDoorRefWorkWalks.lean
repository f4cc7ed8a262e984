import Derived.Test.YthignlailbekmaaDoorRefBitsWalks
/-! The document's own quotient, comparisons; its work and Apply. -/
namespace Go.Proofs.YthignlailbekmaaDoor
open Go.RowKit Go.PlainOps
section
set_option maxHeartbeats 800000
set_option maxRecDepth 100000
theorem shift_doc (b : Int) : (if b.tmod 64 < 0 then b.tmod 64 + 64 else b.tmod 64) = b % 64 := tmod_mod b 64 (by decide)
theorem refShift_any (b : Int) (w : World) : Calls Tryd.prog 78 #[.int .i64 b] w fun e w' => e = .returned (.int .i64 (b % 64)) ∧ w' = w := by
  have E : Hid ((if b.tmod 64 < 0 then b.tmod 64 + 64 else b.tmod 64) = b % 64) := shift_doc b
  obtain ⟨t0, t1⟩ := tmod_bounds b 64 (by decide)
  by_cases h : b.tmod 64 < 0
  · have E2 : Hid (b.tmod 64 + 64 = b % 64) := by have := E.out; rw [if_pos h] at this; exact this
    go_enter Tryd.func78, Tryd.ntmps78
    go_wp2
    go_ret
    exact ⟨by rw [← E2.out]; rfl, rfl⟩
  · have E2 : Hid (b.tmod 64 = b % 64) := by have := E.out; rw [if_neg h] at this; exact this
    go_enter Tryd.func78, Tryd.ntmps78
    go_wp2
    go_ret
    exact ⟨by rw [← E2.out]; rfl, rfl⟩
theorem refQuot_any (a b : Int) (w : World) : Calls Tryd.prog 75 #[.int .i64 a, .int .i64 b] w fun e w' => e = .returned (.int .i64 (quotV a b)) ∧ w' = w := by
  by_cases hz : b = 0
  · subst hz
    go_enter Tryd.func75, Tryd.ntmps75
    go_wp2
    go_ret
    exact ⟨rfl, rfl⟩
  · by_cases ho : b = -1
    · have e1 : (b == 0) = false := beq_eq_false_iff_ne.2 hz
      have e2 : (b == -1) = true := beq_iff_eq.2 ho
      have E : Hid (wrap64 (0 - a) = quotV a b) := by rw [ho]; exact quot_one a
      clear hz ho
      go_enter Tryd.func75, Tryd.ntmps75
      go_wp2
      go_ret
      exact ⟨by rw [← E.out]; first | rfl | simp, rfl⟩
    · have e1 : (b == 0) = false := beq_eq_false_iff_ne.2 hz
      have e2 : (b == -1) = false := beq_eq_false_iff_ne.2 ho
      have E : Hid (wrap64 (a.tdiv b) = quotV a b) := by unfold quotV; rw [if_neg hz]; exact rfl
      clear ho
      go_enter Tryd.func75, Tryd.ntmps75
      go_wp2
      go_ret
      exact ⟨by rw [← E.out]; rfl, rfl⟩
theorem refTruth_any (x : Bool) (w : World) : Calls Tryd.prog 82 #[.bool x] w fun e w' => e = .returned (.int .i64 (truthV x)) ∧ w' = w := by
  cases x
  all_goals
    go_enter Tryd.func82, Tryd.ntmps82
    go_wp2
    go_ret
    exact ⟨rfl, rfl⟩
theorem refCompare12 (a b : Int) (w : World) : Calls Tryd.prog 79 #[.int .i64 12, .int .i64 a, .int .i64 b] w fun e w' => e = .returned (.int .i64 (truthV (decide (a < b)))) ∧ w' = w := by
  go_enter Tryd.func79, Tryd.ntmps79
  go_wp2_with (go_at_call 82; refine (refTruth_any _ _).mono ?_; rintro e w' ⟨rfl, rfl⟩)
  go_ret
  exact ⟨rfl, rfl⟩
theorem refCompare13 (a b : Int) (w : World) : Calls Tryd.prog 79 #[.int .i64 13, .int .i64 a, .int .i64 b] w fun e w' => e = .returned (.int .i64 (truthV (decide (a ≤ b)))) ∧ w' = w := by
  go_enter Tryd.func79, Tryd.ntmps79
  go_wp2_with (go_at_call 82; refine (refTruth_any _ _).mono ?_; rintro e w' ⟨rfl, rfl⟩)
  go_ret
  exact ⟨rfl, rfl⟩
theorem refCompare14 (a b : Int) (w : World) : Calls Tryd.prog 79 #[.int .i64 14, .int .i64 a, .int .i64 b] w fun e w' => e = .returned (.int .i64 (truthV (a == b))) ∧ w' = w := by
  go_enter Tryd.func79, Tryd.ntmps79
  go_wp2_with (go_at_call 82; refine (refTruth_any _ _).mono ?_; rintro e w' ⟨rfl, rfl⟩)
  go_ret
  exact ⟨rfl, rfl⟩
theorem refCompare15 (a b : Int) (w : World) : Calls Tryd.prog 79 #[.int .i64 15, .int .i64 a, .int .i64 b] w fun e w' => e = .returned (.int .i64 (truthV (a != b))) ∧ w' = w := by
  go_enter Tryd.func79, Tryd.ntmps79
  go_wp2_with (go_at_call 82; refine (refTruth_any _ _).mono ?_; rintro e w' ⟨rfl, rfl⟩)
  go_ret
  exact ⟨rfl, rfl⟩
theorem refCompare10 (a b : Int) (w : World) : Calls Tryd.prog 79 #[.int .i64 10, .int .i64 a, .int .i64 b] w fun e w' => e = .returned (.int .i64 (minV a b)) ∧ w' = w := by
  by_cases h : a < b
  · have e : minV a b = a := by unfold minV; split <;> omega
    rw [e]
    go_enter Tryd.func79, Tryd.ntmps79
    go_wp2
    go_ret
    exact ⟨rfl, rfl⟩
  · have e : minV a b = b := by unfold minV; split <;> omega
    rw [e]
    go_enter Tryd.func79, Tryd.ntmps79
    go_wp2
    go_ret
    exact ⟨rfl, rfl⟩
theorem refCompare11 (a b : Int) (w : World) : Calls Tryd.prog 79 #[.int .i64 11, .int .i64 a, .int .i64 b] w fun e w' => e = .returned (.int .i64 (maxV a b)) ∧ w' = w := by
  by_cases h : b < a
  · have e : maxV a b = a := by unfold maxV; split <;> omega
    rw [e]
    go_enter Tryd.func79, Tryd.ntmps79
    go_wp2
    go_ret
    exact ⟨rfl, rfl⟩
  · have e : maxV a b = b := by unfold maxV; split <;> omega
    rw [e]
    go_enter Tryd.func79, Tryd.ntmps79
    go_wp2
    go_ret
    exact ⟨rfl, rfl⟩
theorem refWork0 (a b : Int) (w : World) : Calls Tryd.prog 68 #[.int .i64 0, .int .i64 a, .int .i64 b] w fun e w' => e = .returned (.int .i64 (wrap64 (a + b))) ∧ w' = w := by
  go_enter Tryd.func68, Tryd.ntmps68
  go_wp2
  go_ret
  exact ⟨rfl, rfl⟩
theorem refWork1 (a b : Int) (w : World) : Calls Tryd.prog 68 #[.int .i64 1, .int .i64 a, .int .i64 b] w fun e w' => e = .returned (.int .i64 (wrap64 (a - b))) ∧ w' = w := by
  go_enter Tryd.func68, Tryd.ntmps68
  go_wp2
  go_ret
  exact ⟨rfl, rfl⟩
theorem refWork2 (a b : Int) (w : World) : Calls Tryd.prog 68 #[.int .i64 2, .int .i64 a, .int .i64 b] w fun e w' => e = .returned (.int .i64 (wrap64 (a * b))) ∧ w' = w := by
  go_enter Tryd.func68, Tryd.ntmps68
  go_wp2
  go_ret
  exact ⟨rfl, rfl⟩
theorem refWork3 (a b : Int) (w : World) : Calls Tryd.prog 68 #[.int .i64 3, .int .i64 a, .int .i64 b] w fun e w' => e = .returned (.int .i64 (quotV a b)) ∧ w' = w := by
  go_enter Tryd.func68, Tryd.ntmps68
  go_wp2_with (go_at_call 75; refine (refQuot_any _ _ _).mono ?_; rintro e w' ⟨rfl, rfl⟩)
  go_ret
  exact ⟨rfl, rfl⟩
theorem refWork4 (a b : Int) (w : World) (h0 : -9223372036854775808 ≤ a) (h1 : a ≤ 9223372036854775807) (hb0 : -9223372036854775808 ≤ b) (hb1 : b ≤ 9223372036854775807) : Calls Tryd.prog 68 #[.int .i64 4, .int .i64 a, .int .i64 b] w fun e w' => e = .returned (.int .i64 (remV a b)) ∧ w' = w := by
  have E : Hid (wrap64 (a - wrap64 (quotV a b * b)) = remV a b) := rem_doc a b h0 h1 hb0 hb1
  clear h0 h1 hb0 hb1
  go_enter Tryd.func68, Tryd.ntmps68
  go_wp2_with (go_at_call 75; refine (refQuot_any _ _ _).mono ?_; rintro e w' ⟨rfl, rfl⟩)
  go_ret
  exact ⟨by rw [← E.out]; rfl, rfl⟩
theorem comb5 (a b : Int) : ∀ i, i < 64 → (bv a &&& bv b).getLsbD i = combV true false ((bv a).getLsbD i) ((bv b).getLsbD i) := by
  intro i _
  rw [BitVec.getLsbD_and]
  cases (bv a).getLsbD i <;> cases (bv b).getLsbD i <;> rfl
theorem refWork5 (a b : Int) (w : World) (h0 : -9223372036854775808 ≤ a) (h1 : a ≤ 9223372036854775807) (hb0 : -9223372036854775808 ≤ b) (hb1 : b ≤ 9223372036854775807) : Calls Tryd.prog 68 #[.int .i64 5, .int .i64 a, .int .i64 b] w fun e w' => e = .returned (.int .i64 (bits .and .i64 a b)) ∧ w' = w := by
  rw [and_R]
  go_enter Tryd.func68, Tryd.ntmps68
  go_wp2_with (go_at_call 76; refine (refBits_any a b _ _ (bv a &&& bv b) _ h0 h1 hb0 hb1 (comb5 a b)).mono ?_; rintro e w' ⟨rfl, rfl⟩)
  go_ret
  exact ⟨rfl, rfl⟩
theorem comb6 (a b : Int) : ∀ i, i < 64 → (bv a ||| bv b).getLsbD i = combV true true ((bv a).getLsbD i) ((bv b).getLsbD i) := by
  intro i _
  rw [BitVec.getLsbD_or]
  cases (bv a).getLsbD i <;> cases (bv b).getLsbD i <;> rfl
theorem refWork6 (a b : Int) (w : World) (h0 : -9223372036854775808 ≤ a) (h1 : a ≤ 9223372036854775807) (hb0 : -9223372036854775808 ≤ b) (hb1 : b ≤ 9223372036854775807) : Calls Tryd.prog 68 #[.int .i64 6, .int .i64 a, .int .i64 b] w fun e w' => e = .returned (.int .i64 (bits .or .i64 a b)) ∧ w' = w := by
  rw [or_R]
  go_enter Tryd.func68, Tryd.ntmps68
  go_wp2_with (go_at_call 76; refine (refBits_any a b _ _ (bv a ||| bv b) _ h0 h1 hb0 hb1 (comb6 a b)).mono ?_; rintro e w' ⟨rfl, rfl⟩)
  go_ret
  exact ⟨rfl, rfl⟩
theorem comb7 (a b : Int) : ∀ i, i < 64 → (bv a ^^^ bv b).getLsbD i = combV false true ((bv a).getLsbD i) ((bv b).getLsbD i) := by
  intro i _
  rw [BitVec.getLsbD_xor]
  cases (bv a).getLsbD i <;> cases (bv b).getLsbD i <;> rfl
theorem refWork7 (a b : Int) (w : World) (h0 : -9223372036854775808 ≤ a) (h1 : a ≤ 9223372036854775807) (hb0 : -9223372036854775808 ≤ b) (hb1 : b ≤ 9223372036854775807) : Calls Tryd.prog 68 #[.int .i64 7, .int .i64 a, .int .i64 b] w fun e w' => e = .returned (.int .i64 (bits .xor .i64 a b)) ∧ w' = w := by
  rw [xor_R]
  go_enter Tryd.func68, Tryd.ntmps68
  go_wp2_with (go_at_call 76; refine (refBits_any a b _ _ (bv a ^^^ bv b) _ h0 h1 hb0 hb1 (comb7 a b)).mono ?_; rintro e w' ⟨rfl, rfl⟩)
  go_ret
  exact ⟨rfl, rfl⟩
theorem shlN_work (a b : Int) : shlN a (b % 64).toNat = shlV a b := rfl
theorem refWork8 (a b : Int) (w : World) (h0 : -9223372036854775808 ≤ a) (h1 : a ≤ 9223372036854775807) : Calls Tryd.prog 68 #[.int .i64 8, .int .i64 a, .int .i64 b] w fun e w' => e = .returned (.int .i64 (shlV a b)) ∧ w' = w := by
  have E : Hid (shlN a (b % 64).toNat = shlV a b) := shlN_work a b
  have G : Hid (∃ n : Nat, b % 64 = n ∧ n < 64 ∧ n = (b % 64).toNat) := ⟨(b % 64).toNat, by omega, by omega, rfl⟩
  go_enter Tryd.func68, Tryd.ntmps68
  go_wp2_with fail
  refine (refShift_any _ _).mono ?_
  rintro e w' ⟨rfl, rfl⟩
  go_wp2_with fail
  obtain ⟨n, hn, hl, ht⟩ := G.out
  rw [← ht] at E
  rw [hn]
  clear hn ht
  refine (refShl_any a n _ h0 h1 hl).mono ?_
  rintro e w' ⟨rfl, rfl⟩
  go_wp2
  go_ret
  exact ⟨by rw [← E.out]; rfl, rfl⟩
theorem shrN_work (a b : Int) : shrN a (b % 64).toNat = shrV a b := rfl
theorem refWork9 (a b : Int) (w : World) (h0 : -9223372036854775808 ≤ a) (h1 : a ≤ 9223372036854775807) : Calls Tryd.prog 68 #[.int .i64 9, .int .i64 a, .int .i64 b] w fun e w' => e = .returned (.int .i64 (shrV a b)) ∧ w' = w := by
  have E : Hid (shrN a (b % 64).toNat = shrV a b) := shrN_work a b
  have G : Hid (∃ n : Nat, b % 64 = n ∧ n < 64 ∧ n = (b % 64).toNat) := ⟨(b % 64).toNat, by omega, by omega, rfl⟩
  go_enter Tryd.func68, Tryd.ntmps68
  go_wp2_with fail
  refine (refShift_any _ _).mono ?_
  rintro e w' ⟨rfl, rfl⟩
  go_wp2_with fail
  obtain ⟨n, hn, hl, ht⟩ := G.out
  rw [← ht] at E
  rw [hn]
  clear hn ht
  refine (refShr_any a n _ h0 h1 hl).mono ?_
  rintro e w' ⟨rfl, rfl⟩
  go_wp2
  go_ret
  exact ⟨by rw [← E.out]; rfl, rfl⟩
theorem refWork10 (a b : Int) (w : World) : Calls Tryd.prog 68 #[.int .i64 10, .int .i64 a, .int .i64 b] w fun e w' => e = .returned (.int .i64 (minV a b)) ∧ w' = w := by
  go_enter Tryd.func68, Tryd.ntmps68
  go_wp2_with (go_at_call 79; refine (refCompare10 _ _ _).mono ?_; rintro e w' ⟨rfl, rfl⟩)
  go_ret
  exact ⟨rfl, rfl⟩
theorem refWork11 (a b : Int) (w : World) : Calls Tryd.prog 68 #[.int .i64 11, .int .i64 a, .int .i64 b] w fun e w' => e = .returned (.int .i64 (maxV a b)) ∧ w' = w := by
  go_enter Tryd.func68, Tryd.ntmps68
  go_wp2_with (go_at_call 79; refine (refCompare11 _ _ _).mono ?_; rintro e w' ⟨rfl, rfl⟩)
  go_ret
  exact ⟨rfl, rfl⟩
theorem refWork12 (a b : Int) (w : World) : Calls Tryd.prog 68 #[.int .i64 12, .int .i64 a, .int .i64 b] w fun e w' => e = .returned (.int .i64 (truthV (decide (a < b)))) ∧ w' = w := by
  go_enter Tryd.func68, Tryd.ntmps68
  go_wp2_with (go_at_call 79; refine (refCompare12 _ _ _).mono ?_; rintro e w' ⟨rfl, rfl⟩)
  go_ret
  exact ⟨rfl, rfl⟩
theorem refWork13 (a b : Int) (w : World) : Calls Tryd.prog 68 #[.int .i64 13, .int .i64 a, .int .i64 b] w fun e w' => e = .returned (.int .i64 (truthV (decide (a ≤ b)))) ∧ w' = w := by
  go_enter Tryd.func68, Tryd.ntmps68
  go_wp2_with (go_at_call 79; refine (refCompare13 _ _ _).mono ?_; rintro e w' ⟨rfl, rfl⟩)
  go_ret
  exact ⟨rfl, rfl⟩
theorem refWork14 (a b : Int) (w : World) : Calls Tryd.prog 68 #[.int .i64 14, .int .i64 a, .int .i64 b] w fun e w' => e = .returned (.int .i64 (truthV (a == b))) ∧ w' = w := by
  go_enter Tryd.func68, Tryd.ntmps68
  go_wp2_with (go_at_call 79; refine (refCompare14 _ _ _).mono ?_; rintro e w' ⟨rfl, rfl⟩)
  go_ret
  exact ⟨rfl, rfl⟩
theorem refWork15 (a b : Int) (w : World) : Calls Tryd.prog 68 #[.int .i64 15, .int .i64 a, .int .i64 b] w fun e w' => e = .returned (.int .i64 (truthV (a != b))) ∧ w' = w := by
  go_enter Tryd.func68, Tryd.ntmps68
  go_wp2_with (go_at_call 79; refine (refCompare15 _ _ _).mono ?_; rintro e w' ⟨rfl, rfl⟩)
  go_ret
  exact ⟨rfl, rfl⟩
theorem refWork_any (op a b : Int) (w : World) (h : isOpV op = true) (h0 : -9223372036854775808 ≤ a) (h1 : a ≤ 9223372036854775807) (hb0 : -9223372036854775808 ≤ b) (hb1 : b ≤ 9223372036854775807) : Calls Tryd.prog 68 #[.int .i64 op, .int .i64 a, .int .i64 b] w fun e w' => e = .returned (.int .i64 (workV op a b)) ∧ w' = w := by
  have h : 0 ≤ op ∧ op < 16 := by simpa [isOpV] using h
  have hc : op = 0 ∨ op = 1 ∨ op = 2 ∨ op = 3 ∨ op = 4 ∨ op = 5 ∨ op = 6 ∨ op = 7 ∨ op = 8 ∨ op = 9 ∨ op = 10 ∨ op = 11 ∨ op = 12 ∨ op = 13 ∨ op = 14 ∨ op = 15 := by omega
  rcases hc with rfl | rfl | rfl | rfl | rfl | rfl | rfl | rfl | rfl | rfl | rfl | rfl | rfl | rfl | rfl | rfl
  · exact refWork0 a b w
  · exact refWork1 a b w
  · exact refWork2 a b w
  · exact refWork3 a b w
  · exact refWork4 a b w h0 h1 hb0 hb1
  · exact refWork5 a b w h0 h1 hb0 hb1
  · exact refWork6 a b w h0 h1 hb0 hb1
  · exact refWork7 a b w h0 h1 hb0 hb1
  · exact refWork8 a b w h0 h1
  · exact refWork9 a b w h0 h1
  · exact refWork10 a b w
  · exact refWork11 a b w
  · exact refWork12 a b w
  · exact refWork13 a b w
  · exact refWork14 a b w
  · exact refWork15 a b w
theorem refApply_any (op a b : Int) (w : World) (h : isOpV op = true) (h0 : -9223372036854775808 ≤ a) (h1 : a ≤ 9223372036854775807) (hb0 : -9223372036854775808 ≤ b) (hb1 : b ≤ 9223372036854775807) : Calls Tryd.prog 57 #[.int .i64 op, .int .i64 a, .int .i64 b] w fun e w' => e = .returned (.tuple #[.int .i64 (workV op a b), .int .i64 0]) ∧ w' = w := by
  have H : Hid (isOpV op = true) := h
  have hr : 0 ≤ op ∧ op < 16 := by simpa [isOpV] using h
  obtain ⟨r0, r1⟩ := hr
  clear h
  go_enter Tryd.func57, Tryd.ntmps57
  go_wp2_with (go_at_call 68; refine (refWork_any _ _ _ _ H.out h0 h1 hb0 hb1).mono ?_; rintro e w' ⟨rfl, rfl⟩)
  go_ret2
  exact ⟨rfl, rfl⟩
theorem refApply_not (op a b : Int) (w : World) (h : isOpV op = false) : Calls Tryd.prog 57 #[.int .i64 op, .int .i64 a, .int .i64 b] w fun e w' => e = .returned (.tuple #[.int .i64 0, .int .i64 10]) ∧ w' = w := by
  have hr : ¬ (0 ≤ op ∧ op < 16) := by simpa [isOpV] using h
  clear h
  by_cases r0 : op < 0
  · clear hr
    go_enter Tryd.func57, Tryd.ntmps57
    go_wp2
    go_ret2
    exact ⟨rfl, rfl⟩
  · have r1 : 16 ≤ op := by omega
    clear hr
    go_enter Tryd.func57, Tryd.ntmps57
    go_wp2
    go_ret2
    exact ⟨rfl, rfl⟩
end
end Go.Proofs.YthignlailbekmaaDoor
