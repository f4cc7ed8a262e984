import Derived.Test.YtdiabpoafennlabPkAK
import Derived.Deep.DeepCutAuto
/-! The document's own quotient, comparisons; its work and Apply. -/
namespace Go.Proofs.Ytdiabpoafennlab
open Go.RowKit Go.PlainOps
section
set_option maxHeartbeats 800000
set_option maxRecDepth 100000
theorem shift_doc (b : Int) : (if b.tmod 64 < 0 then b.tmod 64 + 64 else b.tmod 64) = b % 64 := tmod_mod b 64 (by decide)
theorem refShift_any (b : Int) (w : World) : Calls Try.prog 75 #[.int .i64 b] w fun e w' => e = .returned (.int .i64 (b % 64)) ∧ w' = w := by
  have E : Hid ((if b.tmod 64 < 0 then b.tmod 64 + 64 else b.tmod 64) = b % 64) := shift_doc b
  obtain ⟨t0, t1⟩ := tmod_bounds b 64 (by decide)
  by_cases h : b.tmod 64 < 0
  · have E2 : Hid (b.tmod 64 + 64 = b % 64) := by have := E.out; rw [if_pos h] at this; exact this
    go_enter Try.func75, Try.ntmps75
    go_wp2
    go_ret
    exact ⟨by rw [← E2.out]; rfl, rfl⟩
  · have E2 : Hid (b.tmod 64 = b % 64) := by have := E.out; rw [if_neg h] at this; exact this
    go_enter Try.func75, Try.ntmps75
    go_wp2
    go_ret
    exact ⟨by rw [← E2.out]; rfl, rfl⟩
theorem refQuot_any (a b : Int) (w : World) : Calls Try.prog 72 #[.int .i64 a, .int .i64 b] w fun e w' => e = .returned (.int .i64 (quotV a b)) ∧ w' = w := by
  by_cases hz : b = 0
  · subst hz
    go_enter Try.func72, Try.ntmps72
    go_wp2
    go_ret
    exact ⟨rfl, rfl⟩
  · by_cases ho : b = -1
    · have e1 : (b == 0) = false := beq_eq_false_iff_ne.2 hz
      have e2 : (b == -1) = true := beq_iff_eq.2 ho
      have E : Hid (wrap64 (0 - a) = quotV a b) := by rw [ho]; exact quot_one a
      clear hz ho
      go_enter Try.func72, Try.ntmps72
      go_wp2
      go_ret
      exact ⟨by rw [← E.out]; first | rfl | simp, rfl⟩
    · have e1 : (b == 0) = false := beq_eq_false_iff_ne.2 hz
      have e2 : (b == -1) = false := beq_eq_false_iff_ne.2 ho
      have E : Hid (wrap64 (a.tdiv b) = quotV a b) := by unfold quotV; rw [if_neg hz]; exact rfl
      clear ho
      go_enter Try.func72, Try.ntmps72
      go_wp2
      go_ret
      exact ⟨by rw [← E.out]; rfl, rfl⟩
theorem refTruth_any (x : Bool) (w : World) : Calls Try.prog 80 #[.bool x] w fun e w' => e = .returned (.int .i64 (truthV x)) ∧ w' = w := by
  cases x
  all_goals
    go_enter Try.func80, Try.ntmps80
    go_wp2
    go_ret
    exact ⟨rfl, rfl⟩
theorem refCompare12 (a b : Int) (w : World) : Calls Try.prog 76 #[.int .i64 12, .int .i64 a, .int .i64 b] w fun e w' => e = .returned (.int .i64 (truthV (decide (a < b)))) ∧ w' = w := by
  go_enter Try.func76, Try.ntmps76
  go_wp2_with (go_at_call 80; refine (refTruth_any _ _).mono ?_; rintro e w' ⟨rfl, rfl⟩)
  go_ret
  exact ⟨rfl, rfl⟩
theorem refCompare13 (a b : Int) (w : World) : Calls Try.prog 76 #[.int .i64 13, .int .i64 a, .int .i64 b] w fun e w' => e = .returned (.int .i64 (truthV (decide (a ≤ b)))) ∧ w' = w := by
  go_enter Try.func76, Try.ntmps76
  go_wp2_with (go_at_call 80; refine (refTruth_any _ _).mono ?_; rintro e w' ⟨rfl, rfl⟩)
  go_ret
  exact ⟨rfl, rfl⟩
theorem refCompare14 (a b : Int) (w : World) : Calls Try.prog 76 #[.int .i64 14, .int .i64 a, .int .i64 b] w fun e w' => e = .returned (.int .i64 (truthV (a == b))) ∧ w' = w := by
  go_enter Try.func76, Try.ntmps76
  go_wp2_with (go_at_call 80; refine (refTruth_any _ _).mono ?_; rintro e w' ⟨rfl, rfl⟩)
  go_ret
  exact ⟨rfl, rfl⟩
theorem refCompare15 (a b : Int) (w : World) : Calls Try.prog 76 #[.int .i64 15, .int .i64 a, .int .i64 b] w fun e w' => e = .returned (.int .i64 (truthV (a != b))) ∧ w' = w := by
  go_enter Try.func76, Try.ntmps76
  go_wp2_with (go_at_call 80; refine (refTruth_any _ _).mono ?_; rintro e w' ⟨rfl, rfl⟩)
  go_ret
  exact ⟨rfl, rfl⟩
theorem refCompare10 (a b : Int) (w : World) : Calls Try.prog 76 #[.int .i64 10, .int .i64 a, .int .i64 b] w fun e w' => e = .returned (.int .i64 (minV a b)) ∧ w' = w := by
  by_cases h : a < b
  · have e : minV a b = a := by unfold minV; split <;> omega
    rw [e]
    go_enter Try.func76, Try.ntmps76
    go_wp2
    go_ret
    exact ⟨rfl, rfl⟩
  · have e : minV a b = b := by unfold minV; split <;> omega
    rw [e]
    go_enter Try.func76, Try.ntmps76
    go_wp2
    go_ret
    exact ⟨rfl, rfl⟩
theorem refCompare11 (a b : Int) (w : World) : Calls Try.prog 76 #[.int .i64 11, .int .i64 a, .int .i64 b] w fun e w' => e = .returned (.int .i64 (maxV a b)) ∧ w' = w := by
  by_cases h : b < a
  · have e : maxV a b = a := by unfold maxV; split <;> omega
    rw [e]
    go_enter Try.func76, Try.ntmps76
    go_wp2
    go_ret
    exact ⟨rfl, rfl⟩
  · have e : maxV a b = b := by unfold maxV; split <;> omega
    rw [e]
    go_enter Try.func76, Try.ntmps76
    go_wp2
    go_ret
    exact ⟨rfl, rfl⟩
theorem refWork0 (a b : Int) (w : World) : Calls Try.prog 54 #[.int .i64 0, .int .i64 a, .int .i64 b] w fun e w' => e = .returned (.int .i64 (wrap64 (a + b))) ∧ w' = w := by
  go_enter Try.func54, Try.ntmps54
  go_wp2
  go_ret
  exact ⟨rfl, rfl⟩
theorem refWork1 (a b : Int) (w : World) : Calls Try.prog 54 #[.int .i64 1, .int .i64 a, .int .i64 b] w fun e w' => e = .returned (.int .i64 (wrap64 (a - b))) ∧ w' = w := by
  go_enter Try.func54, Try.ntmps54
  go_wp2
  go_ret
  exact ⟨rfl, rfl⟩
theorem refWork2 (a b : Int) (w : World) : Calls Try.prog 54 #[.int .i64 2, .int .i64 a, .int .i64 b] w fun e w' => e = .returned (.int .i64 (wrap64 (a * b))) ∧ w' = w := by
  go_enter Try.func54, Try.ntmps54
  go_wp2
  go_ret
  exact ⟨rfl, rfl⟩
theorem refWork3 (a b : Int) (w : World) : Calls Try.prog 54 #[.int .i64 3, .int .i64 a, .int .i64 b] w fun e w' => e = .returned (.int .i64 (quotV a b)) ∧ w' = w := by
  go_enter Try.func54, Try.ntmps54
  go_wp2_with (go_at_call 72; refine (refQuot_any _ _ _).mono ?_; rintro e w' ⟨rfl, rfl⟩)
  go_ret
  exact ⟨rfl, rfl⟩
theorem refWork4 (a b : Int) (w : World) (h0 : -9223372036854775808 ≤ a) (h1 : a ≤ 9223372036854775807) (hb0 : -9223372036854775808 ≤ b) (hb1 : b ≤ 9223372036854775807) : Calls Try.prog 54 #[.int .i64 4, .int .i64 a, .int .i64 b] w fun e w' => e = .returned (.int .i64 (remV a b)) ∧ w' = w := by
  have E : Hid (wrap64 (a - wrap64 (quotV a b * b)) = remV a b) := rem_doc a b h0 h1 hb0 hb1
  clear h0 h1 hb0 hb1
  go_enter Try.func54, Try.ntmps54
  go_wp2_with (go_at_call 72; refine (refQuot_any _ _ _).mono ?_; rintro e w' ⟨rfl, rfl⟩)
  go_ret
  exact ⟨by rw [← E.out]; rfl, rfl⟩
theorem comb5 (a b : Int) : ∀ i, i < 64 → (bv a &&& bv b).getLsbD i = combV true false ((bv a).getLsbD i) ((bv b).getLsbD i) := by
  intro i _
  rw [BitVec.getLsbD_and]
  cases (bv a).getLsbD i <;> cases (bv b).getLsbD i <;> rfl
theorem refWork5 (a b : Int) (w : World) (h0 : -9223372036854775808 ≤ a) (h1 : a ≤ 9223372036854775807) (hb0 : -9223372036854775808 ≤ b) (hb1 : b ≤ 9223372036854775807) : Calls Try.prog 54 #[.int .i64 5, .int .i64 a, .int .i64 b] w fun e w' => e = .returned (.int .i64 (bits .and .i64 a b)) ∧ w' = w := by
  rw [and_R]
  go_enter Try.func54, Try.ntmps54
  go_wp2_with (go_at_call 73; refine (refBits_any a b _ _ (bv a &&& bv b) _ h0 h1 hb0 hb1 (comb5 a b)).mono ?_; rintro e w' ⟨rfl, rfl⟩)
  go_ret
  exact ⟨rfl, rfl⟩
theorem comb6 (a b : Int) : ∀ i, i < 64 → (bv a ||| bv b).getLsbD i = combV true true ((bv a).getLsbD i) ((bv b).getLsbD i) := by
  intro i _
  rw [BitVec.getLsbD_or]
  cases (bv a).getLsbD i <;> cases (bv b).getLsbD i <;> rfl
theorem refWork6 (a b : Int) (w : World) (h0 : -9223372036854775808 ≤ a) (h1 : a ≤ 9223372036854775807) (hb0 : -9223372036854775808 ≤ b) (hb1 : b ≤ 9223372036854775807) : Calls Try.prog 54 #[.int .i64 6, .int .i64 a, .int .i64 b] w fun e w' => e = .returned (.int .i64 (bits .or .i64 a b)) ∧ w' = w := by
  rw [or_R]
  go_enter Try.func54, Try.ntmps54
  go_wp2_with (go_at_call 73; refine (refBits_any a b _ _ (bv a ||| bv b) _ h0 h1 hb0 hb1 (comb6 a b)).mono ?_; rintro e w' ⟨rfl, rfl⟩)
  go_ret
  exact ⟨rfl, rfl⟩
theorem comb7 (a b : Int) : ∀ i, i < 64 → (bv a ^^^ bv b).getLsbD i = combV false true ((bv a).getLsbD i) ((bv b).getLsbD i) := by
  intro i _
  rw [BitVec.getLsbD_xor]
  cases (bv a).getLsbD i <;> cases (bv b).getLsbD i <;> rfl
theorem refWork7 (a b : Int) (w : World) (h0 : -9223372036854775808 ≤ a) (h1 : a ≤ 9223372036854775807) (hb0 : -9223372036854775808 ≤ b) (hb1 : b ≤ 9223372036854775807) : Calls Try.prog 54 #[.int .i64 7, .int .i64 a, .int .i64 b] w fun e w' => e = .returned (.int .i64 (bits .xor .i64 a b)) ∧ w' = w := by
  rw [xor_R]
  go_enter Try.func54, Try.ntmps54
  go_wp2_with (go_at_call 73; refine (refBits_any a b _ _ (bv a ^^^ bv b) _ h0 h1 hb0 hb1 (comb7 a b)).mono ?_; rintro e w' ⟨rfl, rfl⟩)
  go_ret
  exact ⟨rfl, rfl⟩
theorem shlN_work (a b : Int) : shlN a (b % 64).toNat = shlV a b := rfl
theorem refWork8 (a b : Int) (w : World) (h0 : -9223372036854775808 ≤ a) (h1 : a ≤ 9223372036854775807) : Calls Try.prog 54 #[.int .i64 8, .int .i64 a, .int .i64 b] w fun e w' => e = .returned (.int .i64 (shlV a b)) ∧ w' = w := by
  have E : Hid (shlN a (b % 64).toNat = shlV a b) := shlN_work a b
  have G : Hid (∃ n : Nat, b % 64 = n ∧ n < 64 ∧ n = (b % 64).toNat) := ⟨(b % 64).toNat, by omega, by omega, rfl⟩
  go_enter Try.func54, Try.ntmps54
  go_wp2_with fail
  refine (refShift_any _ _).mono ?_
  rintro e w' ⟨rfl, rfl⟩
  go_wp2_with fail
  obtain ⟨n, hn, hl, ht⟩ := G.out
  rw [← ht] at E
  rw [hn]
  clear hn ht
  refine (refShl_any a n _ h0 h1 hl).mono ?_
  rintro e w' ⟨rfl, rfl⟩
  go_wp2
  go_ret
  exact ⟨by rw [← E.out]; rfl, rfl⟩
theorem shrN_work (a b : Int) : shrN a (b % 64).toNat = shrV a b := rfl
theorem refWork9 (a b : Int) (w : World) (h0 : -9223372036854775808 ≤ a) (h1 : a ≤ 9223372036854775807) : Calls Try.prog 54 #[.int .i64 9, .int .i64 a, .int .i64 b] w fun e w' => e = .returned (.int .i64 (shrV a b)) ∧ w' = w := by
  have E : Hid (shrN a (b % 64).toNat = shrV a b) := shrN_work a b
  have G : Hid (∃ n : Nat, b % 64 = n ∧ n < 64 ∧ n = (b % 64).toNat) := ⟨(b % 64).toNat, by omega, by omega, rfl⟩
  go_enter Try.func54, Try.ntmps54
  go_wp2_with fail
  refine (refShift_any _ _).mono ?_
  rintro e w' ⟨rfl, rfl⟩
  go_wp2_with fail
  obtain ⟨n, hn, hl, ht⟩ := G.out
  rw [← ht] at E
  rw [hn]
  clear hn ht
  refine (refShr_any a n _ h0 h1 hl).mono ?_
  rintro e w' ⟨rfl, rfl⟩
  go_wp2
  go_ret
  exact ⟨by rw [← E.out]; rfl, rfl⟩
theorem refWork10 (a b : Int) (w : World) : Calls Try.prog 54 #[.int .i64 10, .int .i64 a, .int .i64 b] w fun e w' => e = .returned (.int .i64 (minV a b)) ∧ w' = w := by
  go_enter Try.func54, Try.ntmps54
  go_wp2_with (go_at_call 76; refine (refCompare10 _ _ _).mono ?_; rintro e w' ⟨rfl, rfl⟩)
  go_ret
  exact ⟨rfl, rfl⟩
theorem refWork11 (a b : Int) (w : World) : Calls Try.prog 54 #[.int .i64 11, .int .i64 a, .int .i64 b] w fun e w' => e = .returned (.int .i64 (maxV a b)) ∧ w' = w := by
  go_enter Try.func54, Try.ntmps54
  go_wp2_with (go_at_call 76; refine (refCompare11 _ _ _).mono ?_; rintro e w' ⟨rfl, rfl⟩)
  go_ret
  exact ⟨rfl, rfl⟩
theorem refWork12 (a b : Int) (w : World) : Calls Try.prog 54 #[.int .i64 12, .int .i64 a, .int .i64 b] w fun e w' => e = .returned (.int .i64 (truthV (decide (a < b)))) ∧ w' = w := by
  go_enter Try.func54, Try.ntmps54
  go_wp2_with (go_at_call 76; refine (refCompare12 _ _ _).mono ?_; rintro e w' ⟨rfl, rfl⟩)
  go_ret
  exact ⟨rfl, rfl⟩
theorem refWork13 (a b : Int) (w : World) : Calls Try.prog 54 #[.int .i64 13, .int .i64 a, .int .i64 b] w fun e w' => e = .returned (.int .i64 (truthV (decide (a ≤ b)))) ∧ w' = w := by
  go_enter Try.func54, Try.ntmps54
  go_wp2_with (go_at_call 76; refine (refCompare13 _ _ _).mono ?_; rintro e w' ⟨rfl, rfl⟩)
  go_ret
  exact ⟨rfl, rfl⟩
theorem refWork14 (a b : Int) (w : World) : Calls Try.prog 54 #[.int .i64 14, .int .i64 a, .int .i64 b] w fun e w' => e = .returned (.int .i64 (truthV (a == b))) ∧ w' = w := by
  go_enter Try.func54, Try.ntmps54
  go_wp2_with (go_at_call 76; refine (refCompare14 _ _ _).mono ?_; rintro e w' ⟨rfl, rfl⟩)
  go_ret
  exact ⟨rfl, rfl⟩
theorem refWork15 (a b : Int) (w : World) : Calls Try.prog 54 #[.int .i64 15, .int .i64 a, .int .i64 b] w fun e w' => e = .returned (.int .i64 (truthV (a != b))) ∧ w' = w := by
  go_enter Try.func54, Try.ntmps54
  go_wp2_with (go_at_call 76; refine (refCompare15 _ _ _).mono ?_; rintro e w' ⟨rfl, rfl⟩)
  go_ret
  exact ⟨rfl, rfl⟩
theorem refWork_any (op a b : Int) (w : World) (h : isOpV op = true) (h0 : -9223372036854775808 ≤ a) (h1 : a ≤ 9223372036854775807) (hb0 : -9223372036854775808 ≤ b) (hb1 : b ≤ 9223372036854775807) : Calls Try.prog 54 #[.int .i64 op, .int .i64 a, .int .i64 b] w fun e w' => e = .returned (.int .i64 (workV op a b)) ∧ w' = w := by
  have h : 0 ≤ op ∧ op < 16 := by simpa [isOpV] using h
  have hc : op = 0 ∨ op = 1 ∨ op = 2 ∨ op = 3 ∨ op = 4 ∨ op = 5 ∨ op = 6 ∨ op = 7 ∨ op = 8 ∨ op = 9 ∨ op = 10 ∨ op = 11 ∨ op = 12 ∨ op = 13 ∨ op = 14 ∨ op = 15 := by omega
  rcases hc with rfl | rfl | rfl | rfl | rfl | rfl | rfl | rfl | rfl | rfl | rfl | rfl | rfl | rfl | rfl | rfl
  · exact refWork0 a b w
  · exact refWork1 a b w
  · exact refWork2 a b w
  · exact refWork3 a b w
  · exact refWork4 a b w h0 h1 hb0 hb1
  · exact refWork5 a b w h0 h1 hb0 hb1
  · exact refWork6 a b w h0 h1 hb0 hb1
  · exact refWork7 a b w h0 h1 hb0 hb1
  · exact refWork8 a b w h0 h1
  · exact refWork9 a b w h0 h1
  · exact refWork10 a b w
  · exact refWork11 a b w
  · exact refWork12 a b w
  · exact refWork13 a b w
  · exact refWork14 a b w
  · exact refWork15 a b w
theorem refApply_any (op a b : Int) (w : World) (h : isOpV op = true) (h0 : -9223372036854775808 ≤ a) (h1 : a ≤ 9223372036854775807) (hb0 : -9223372036854775808 ≤ b) (hb1 : b ≤ 9223372036854775807) : Calls Try.prog 77 #[.int .i64 op, .int .i64 a, .int .i64 b] w fun e w' => e = .returned (.tuple #[.int .i64 (workV op a b), .int .i64 0]) ∧ w' = w := by
  have H : Hid (isOpV op = true) := h
  have hr : 0 ≤ op ∧ op < 16 := by simpa [isOpV] using h
  obtain ⟨r0, r1⟩ := hr
  clear h
  go_enter Try.func77, Try.ntmps77
  go_wp2_with (go_at_call 54; refine (refWork_any _ _ _ _ H.out h0 h1 hb0 hb1).mono ?_; rintro e w' ⟨rfl, rfl⟩)
  go_ret2
  exact ⟨rfl, rfl⟩
end
end Go.Proofs.Ytdiabpoafennlab
/-! The document's run: lists copied; what is appended; its operation. -/
namespace Go.Proofs.Ytdiabpoafennlab.Rn
set_option linter.unusedVariables false
set_option maxRecDepth 20000
set_option linter.unusedSimpArgs false
open Go.RowKit Go.HeapKit Go.PlainOps

theorem Try.infoView : (Try.prog.info? 83).map (fun i => (i.zero, i.size, i.bytes)) = some (some (.agg #[.slice none 0 0, .int .i64 0]), 2, 32) := by kernel_rfl
theorem Try.infoRTask : (Try.prog.info? 93).map (fun i => (i.zero, i.size, i.bytes)) = some (some (.agg #[.int .i64 0, .slice none 0 0]), 2, 32) := by kernel_rfl
/-- 'append(views, view)'. -/
theorem view_more (base : Nat) (sl V : Value) (x : Int) (n : Nat) (xs : List Value) (ty g0 : Nat) (w : World) (h : w.ownsRow base 83 2 sl n xs) (hb : base ≤ w.heap.size) (hlen : (n + 1) * 32 ≤ 140737488355328) (hV : V.oneCell' = true)
    (hg0 : w.heap[g0]? = some (.cells #[V, .int .i64 x] 83 (0, 0))) :
    ∃ g cap w', (Builtin.append_ #[62, 62] ty #[sl, .slice (some ⟨g0, 0, none⟩) 1 1]).run Try.prog w = .ok (.slice (some ⟨g, 0, none⟩) (n + 1) cap) w' ∧
      w'.ownsRow base 83 2 (.slice (some ⟨g, 0, none⟩) (n + 1) cap) (n + 1) (xs ++ [V, .int .i64 x]) ∧ Keeps (fun k => sl.ownBlock = some k) w w' := by
  obtain ⟨i0, hi, hz0, hz1, hz2⟩ := info_parts Try.infoView
  obtain ⟨v', w1, hr, ho, hgr, hm, -⟩ := run_append_moved (P := Try.prog) w base 62 ty 83 i0 _ 2 32 Try.underlying62 hi hz0 hz1 hz2 rfl (by decide) sl n _ h
    ⟨g0, 0, none⟩ 1 1 [V, .int .i64 x] rfl (by
      intro j u hu
      rw [addr_at, blk_cell hg0]
      simpa using hu) (by
      intro u hu
      simp at hu
      rcases hu with rfl | rfl
      · exact hV
      · rfl) (by unfold maxLen; omega) hlen hb
  obtain ⟨g, cap, rfl⟩ : ∃ g cap, v' = .slice (some ⟨g, 0, none⟩) (n + 1) cap := by
    rcases ho.2 with ⟨_, h0⟩ | ⟨b, cap, cur, rfl, _⟩
    · omega
    · exact ⟨b, cap, rfl⟩
  exact ⟨g, cap, w1, hr, ho, (Keeps.refl _ w).andGrown hgr (fun k e => .inl e)⟩
/-- 'append(tasks, task)'. -/
theorem rtask_more (base : Nat) (sl : Value) (x : Int) (V : Value) (n : Nat) (xs : List Value) (ty g0 : Nat) (w : World) (h : w.ownsRow base 93 2 sl n xs) (hb : base ≤ w.heap.size) (hlen : (n + 1) * 32 ≤ 140737488355328) (hV : V.oneCell' = true)
    (hg0 : w.heap[g0]? = some (.cells #[.int .i64 x, V] 93 (0, 0))) :
    ∃ g cap w', (Builtin.append_ #[63, 63] ty #[sl, .slice (some ⟨g0, 0, none⟩) 1 1]).run Try.prog w = .ok (.slice (some ⟨g, 0, none⟩) (n + 1) cap) w' ∧
      w'.ownsRow base 93 2 (.slice (some ⟨g, 0, none⟩) (n + 1) cap) (n + 1) (xs ++ [.int .i64 x, V]) ∧ Keeps (fun k => sl.ownBlock = some k) w w' := by
  obtain ⟨i0, hi, hz0, hz1, hz2⟩ := info_parts Try.infoRTask
  obtain ⟨v', w1, hr, ho, hgr, hm, -⟩ := run_append_moved (P := Try.prog) w base 63 ty 93 i0 _ 2 32 Try.underlying63 hi hz0 hz1 hz2 rfl (by decide) sl n _ h
    ⟨g0, 0, none⟩ 1 1 [.int .i64 x, V] rfl (by
      intro j u hu
      rw [addr_at, blk_cell hg0]
      simpa using hu) (by
      intro u hu
      simp at hu
      rcases hu with rfl | rfl
      · rfl
      · exact hV) (by unfold maxLen; omega) hlen hb
  obtain ⟨g, cap, rfl⟩ : ∃ g cap, v' = .slice (some ⟨g, 0, none⟩) (n + 1) cap := by
    rcases ho.2 with ⟨_, h0⟩ | ⟨b, cap, cur, rfl, _⟩
    · omega
    · exact ⟨b, cap, rfl⟩
  exact ⟨g, cap, w1, hr, ho, (Keeps.refl _ w).andGrown hgr (fun k e => .inl e)⟩
theorem own_lo {w : World} {b : Nat} {e : TypeId} {size : Nat} {v : Value} {n : Nat} {xs : List Value} (h : w.ownsRow b e size v n xs) : ∀ g, v.ownBlock = some g → b ≤ g := fun g hg => row_low h hg
/-- 'append([]int64{}, l...)'. -/
theorem copy64 (base : Nat) (w : World) (a : Option Addr) (n c : Nat) (l : List Int) (ty : TypeId) (h : SeenV w a n (iv l)) (hn : n * 8 ≤ 140737488355328) (hb : base ≤ w.heap.size) :
    ∃ x cap w', (Builtin.append_ #[28, 28] ty #[.slice (some ⟨w.heap.size, 0, none⟩) 0 0, .slice a n c]).run Try.prog (w.alloc (.cells #[] 2)) = .ok (.slice x n cap) w' ∧
      w'.ownsRow base 2 1 (.slice x n cap) n (iv l) ∧ Keeps None w w' ∧ ∀ b, (Value.slice x n cap).ownBlock = some b → w.heap.size ≤ b := by
  obtain ⟨i0, hi, hz0, hz1, hz2⟩ := info_parts Try.infoI64
  have kA := Keeps.alloc None w (.cells #[] 2)
  obtain ⟨v', w', hr, ho, hk, -, -⟩ := run_append_all (P := Try.prog) (w.alloc (.cells #[] 2)) w.heap.size 28 ty 2 i0 _ 1 8 Try.underlying28 hi hz0 hz1 hz2 rfl (by decide) _ 0 []
    (own_nilAny 2 1 (Nat.le_refl _)) a n c (iv l) (by have := h.len; omega) (fun h0 => by obtain ⟨b, off, e, _, hc⟩ := (h.more kA).ex h0; exact ⟨b, off, e, hc⟩) iv_one (by unfold maxLen; omega) (by omega) kA.size
  have ho2 : w'.ownsRow w.heap.size 2 1 v' n (iv l) := by simpa using ho
  obtain ⟨x, cap, rfl⟩ := row_shape ho2
  exact ⟨x, cap, w', hr, row_base ho2 hb, kA.trans hk (fun i e hi => by simp [Value.ownBlock] at e; omega), own_lo ho2⟩
/-- 'append([]int{}, l...)'. -/
theorem copyI (base : Nat) (w : World) (a : Option Addr) (n c : Nat) (l : List Int) (ty : TypeId) (h : SeenV w a n (iv l)) (hn : n * 8 ≤ 140737488355328) (hb : base ≤ w.heap.size) :
    ∃ x cap w', (Builtin.append_ #[24, 24] ty #[.slice (some ⟨w.heap.size, 0, none⟩) 0 0, .slice a n c]).run Try.prog (w.alloc (.cells #[] 3)) = .ok (.slice x n cap) w' ∧
      w'.ownsRow base 3 1 (.slice x n cap) n (iv l) ∧ Keeps None w w' ∧ ∀ b, (Value.slice x n cap).ownBlock = some b → w.heap.size ≤ b := by
  obtain ⟨v', w', hr, ho, hk⟩ := ints_copy w a n c l ty h hn
  obtain ⟨x, cap, rfl⟩ := row_shape ho
  exact ⟨x, cap, w', hr, row_base ho hb, hk, own_lo ho⟩
/-- 'append(l, r...)' behind a copy. -/
theorem join64 (base s0 : Nat) (w : World) (x : Option Addr) (m cap : Nat) (l : List Int) (a : Option Addr) (n c : Nat) (r : List Int) (ty : TypeId) (ho : w.ownsRow base 2 1 (.slice x m cap) m (iv l)) (h : SeenV w a n (iv r)) (hn : m + n ≤ 1000000) (hb : base ≤ w.heap.size) (h0 : s0 ≤ w.heap.size) (hx : ∀ b, (Value.slice x m cap).ownBlock = some b → s0 ≤ b) :
    ∃ y cap' w', (Builtin.append_ #[28, 28] ty #[.slice x m cap, .slice a n c]).run Try.prog w = .ok (.slice y (m + n) cap') w' ∧
      w'.ownsRow base 2 1 (.slice y (m + n) cap') (m + n) (iv (l ++ r)) ∧ Keeps (fun i => s0 ≤ i) w w' ∧ ∀ b, (Value.slice y (m + n) cap').ownBlock = some b → s0 ≤ b := by
  obtain ⟨i0, hi, hz0, hz1, hz2⟩ := info_parts Try.infoI64
  obtain ⟨v', w', hr, ho', hk, hm, -⟩ := run_append_all (P := Try.prog) w base 28 ty 2 i0 _ 1 8 Try.underlying28 hi hz0 hz1 hz2 rfl (by decide) _ m (iv l)
    ho a n c (iv r) (by have := h.len; omega) (fun h0 => by obtain ⟨b, off, e, _, hc⟩ := h.ex h0; exact ⟨b, off, e, hc⟩) iv_one (by unfold maxLen; omega) (by omega) hb
  obtain ⟨y, cap', rfl⟩ := row_shape ho'
  refine ⟨y, cap', w', hr, by rw [iv_app]; exact ho', hk.mono (fun i e _ => hx i e), fun b e => ?_⟩
  rcases hm with hm | ⟨g', e', hg⟩
  · exact hx b (hm ▸ e)
  · rw [e'] at e; injection e with e; omega
theorem joinI (base s0 : Nat) (w : World) (x : Option Addr) (m cap : Nat) (l : List Int) (a : Option Addr) (n c : Nat) (r : List Int) (ty : TypeId) (ho : w.ownsRow base 3 1 (.slice x m cap) m (iv l)) (h : SeenV w a n (iv r)) (hn : m + n ≤ 1000000) (hb : base ≤ w.heap.size) (h0 : s0 ≤ w.heap.size) (hx : ∀ b, (Value.slice x m cap).ownBlock = some b → s0 ≤ b) :
    ∃ y cap' w', (Builtin.append_ #[24, 24] ty #[.slice x m cap, .slice a n c]).run Try.prog w = .ok (.slice y (m + n) cap') w' ∧
      w'.ownsRow base 3 1 (.slice y (m + n) cap') (m + n) (iv (l ++ r)) ∧ Keeps (fun i => s0 ≤ i) w w' ∧ ∀ b, (Value.slice y (m + n) cap').ownBlock = some b → s0 ≤ b := by
  obtain ⟨i0, hi, hz0, hz1, hz2⟩ := info_parts Try.infoI
  obtain ⟨v', w', hr, ho', hk, hm, -⟩ := run_append_all (P := Try.prog) w base 24 ty 3 i0 _ 1 8 Try.underlying24 hi hz0 hz1 hz2 rfl (by decide) _ m (iv l)
    ho a n c (iv r) (by have := h.len; omega) (fun h0 => by obtain ⟨b, off, e, _, hc⟩ := h.ex h0; exact ⟨b, off, e, hc⟩) iv_one (by unfold maxLen; omega) (by omega) hb
  obtain ⟨y, cap', rfl⟩ := row_shape ho'
  refine ⟨y, cap', w', hr, by rw [iv_app]; exact ho', hk.mono (fun i e _ => hx i e), fun b e => ?_⟩
  rcases hm with hm | ⟨g', e', hg⟩
  · exact hx b (hm ▸ e)
  · rw [e'] at e; injection e with e; omega
/-- 'append([]Task{}, tasks...)'. -/
theorem copyT (base : Nat) (w : World) (a : Option Addr) (n c : Nat) (xs : List Value) (ty : TypeId) (hl : xs.length = n * 2) (h : 0 < n → ∃ b off, a = some ⟨b, off, none⟩ ∧ ∀ j u, xs[j]? = some u → w.cell? ⟨b, off + j, none⟩ = some u) (h1 : ∀ u ∈ xs, u.oneCell' = true) (hn : n ≤ 1000000) (hb : base ≤ w.heap.size) :
    ∃ x cap w', (Builtin.append_ #[63, 63] ty #[.slice (some ⟨w.heap.size, 0, none⟩) 0 0, .slice a n c]).run Try.prog (w.alloc (.cells #[] 93)) = .ok (.slice x n cap) w' ∧
      w'.ownsRow base 93 2 (.slice x n cap) n xs ∧ Keeps None w w' := by
  obtain ⟨i0, hi, hz0, hz1, hz2⟩ := info_parts Try.infoRTask
  have kA := Keeps.alloc None w (.cells #[] 93)
  obtain ⟨v', w', hr, ho, hk, -, -⟩ := run_append_all (P := Try.prog) (w.alloc (.cells #[] 93)) w.heap.size 63 ty 93 i0 _ 2 32 Try.underlying63 hi hz0 hz1 hz2 rfl (by decide) _ 0 []
    (own_nilAny 93 2 (Nat.le_refl _)) a n c xs hl (fun h0 => by obtain ⟨b, off, e, hc⟩ := h h0; exact ⟨b, off, e, fun j u hu => kA.cell (hc j u hu) (fun f => f)⟩) h1 (by unfold maxLen; omega) (by omega) kA.size
  have ho2 : w'.ownsRow w.heap.size 93 2 v' n xs := by simpa using ho
  obtain ⟨x, cap, rfl⟩ := row_shape ho2
  exact ⟨x, cap, w', hr, row_base ho2 hb, kA.trans hk (fun i e hi => by simp [Value.ownBlock] at e; omega)⟩
/-- A part of a list that can be read. -/
theorem seen_take {w : World} {a : Option Addr} {n : Nat} {vs : List Value} (h : SeenV w a n vs) {k : Nat} (hk : k ≤ n) : SeenV w a k (vs.take k) := by
  refine ⟨by rw [List.length_take]; have := h.len; omega, fun h0 => ?_⟩
  obtain ⟨b, off, e, hb, hc⟩ := h.ex (by omega)
  refine ⟨b, off, e, hb, fun j v hv => hc j v ?_⟩
  rw [List.getElem?_take] at hv
  split at hv
  · exact hv
  · cases hv
theorem seen_drop {w : World} {b off n : Nat} {vs : List Value} (h : SeenV w (some ⟨b, off, none⟩) n vs) {k : Nat} (hk : k ≤ n) : SeenV w (some ⟨b, off + k, none⟩) (n - k) (vs.drop k) := by
  refine ⟨by rw [List.length_drop]; have := h.len; omega, fun h0 => ?_⟩
  obtain ⟨b', off', e, hb, hc⟩ := h.ex (by omega)
  injection e with e
  injection e with e1 e2
  subst e1 e2
  refine ⟨b, off + k, rfl, hb, fun j v hv => ?_⟩
  rw [List.getElem?_drop] at hv
  rw [Nat.add_assoc]
  exact hc _ v hv
theorem iv_take (l : List Int) (k : Nat) : (iv l).take k = iv (l.take k) := by simp [iv, List.map_take]
theorem iv_drop (l : List Int) (k : Nat) : (iv l).drop k = iv (l.drop k) := by simp [iv, List.map_drop]
theorem erase_nI (r : List Nat) (j : Nat) : (nI r).take (j + 1) ++ (nI r).drop (j + 2) = nI (r.eraseIdx (j + 1)) := by
  unfold nI
  rw [List.eraseIdx_eq_take_drop_succ, List.map_append, List.map_take, List.map_drop]

/-! The operation. -/
def apV (K : RP) (a b : Int) : Int := if K.op < 0 then 0 else workV K.op a b
def OkK (K : RP) : Prop := (K.op < 0 ∧ K.unit = 0) ∨ (0 ≤ K.op ∧ hasU K.op = true ∧ K.unit = unitV K.op)
theorem OkK.unit0 {K : RP} (h : OkK K) : K.unit = gV K [] := by
  unfold gV
  rcases h with ⟨h1, h2⟩ | ⟨h0, h1, h2⟩
  · rw [if_pos h1, h2]
  · rw [if_neg (by omega), h2]; rfl
theorem gV_put {K : RP} (l : List Int) (x : Int) : apV K (gV K l) x = gV K (l ++ [x]) := by
  unfold apV gV
  by_cases h : K.op < 0
  · rw [if_pos h, if_pos h]
  · rw [if_neg h, if_neg h, if_neg h]; simp [foldV]
theorem gV_join {K : RP} (h : OkK K) (l r : List Int) (hl : Fits l) (hr : Fits r) : apV K (gV K l) (gV K r) = gV K (l ++ r) := by
  unfold apV gV
  rcases h with ⟨h1, -⟩ | ⟨h0, h1, -⟩
  · rw [if_pos h1, if_pos h1]
  · rw [if_neg (by omega), if_neg (by omega), if_neg (by omega), if_neg (by omega)]
    exact (foldV_append K.op h1 l r hl hr).symm
theorem gV_fits {K : RP} (h : OkK K) (l : List Int) (hl : Fits l) : -9223372036854775808 ≤ gV K l ∧ gV K l ≤ 9223372036854775807 := by
  unfold gV
  rcases h with ⟨h1, -⟩ | ⟨h0, h1, -⟩
  · rw [if_pos h1]; omega
  · rw [if_neg (by omega)]; exact foldV_fits K.op h1 l hl
theorem hasU_isOp {op : Int} (h : hasU op = true) : isOpV op = true := by
  unfold hasU at h
  unfold isOpV
  simp at h
  simp
  omega
set_option maxHeartbeats 800000 in
theorem apply_ok (base pb nx : Nat) (K : RP) (X : RX) (L M R : Nat → Value) (s : PS) (w : World) (a b : Int) (h : PM w base pb K X L M R nx s) (hK : OkK K) (ha : -9223372036854775808 ≤ a ∧ a ≤ 9223372036854775807) (hb : -9223372036854775808 ≤ b ∧ b ≤ 9223372036854775807) :
    Calls Try.prog 61 #[.pointer (some ⟨pb, 0, none⟩), .int .i64 a, .int .i64 b] w fun e w' => e = .returned (.int .i64 (apV K a b)) ∧ w' = w := by
  obtain ⟨q0, -, -, -, -, -, -, -, -⟩ := h.c0
  clear h
  rcases hK with ⟨h1, -⟩ | ⟨h0, h1, -⟩
  · have e : apV K a b = 0 := by unfold apV; rw [if_pos h1]
    rw [e]
    clear e ha hb
    go_enter Try.func61, Try.ntmps61
    go_wp2
    go_ret
    exact ⟨rfl, rfl⟩
  · have e : apV K a b = workV K.op a b := by unfold apV; rw [if_neg (by omega)]
    rw [e]
    have hop := hasU_isOp h1
    have HA : Hid (isOpV K.op = true ∧ (-9223372036854775808 ≤ a ∧ a ≤ 9223372036854775807) ∧ (-9223372036854775808 ≤ b ∧ b ≤ 9223372036854775807)) := ⟨hop, ha, hb⟩
    have h2 : ¬ K.op < 0 := by omega
    clear e ha hb hop h1 h0
    go_enter Try.func61, Try.ntmps61
    go_wp2_with fail
    refine (refApply_any K.op a b w HA.out.1 HA.out.2.1.1 HA.out.2.1.2 HA.out.2.2.1 HA.out.2.2.2).mono ?_
    rintro e w1 ⟨rfl, rfl⟩
    go_wp2
    go_ret
    exact ⟨rfl, rfl⟩
end Go.Proofs.Ytdiabpoafennlab.Rn
/-! The document's run: a new view. -/
namespace Go.Proofs.Ytdiabpoafennlab.Rn
set_option linter.unusedVariables false
set_option maxRecDepth 20000
set_option linter.unusedSimpArgs false
open Go.RowKit Go.HeapKit Go.PlainOps

theorem PM.size {w : World} {base pb nx : Nat} {K : RP} {X : RX} {L M R : Nat → Value} {s : PS} (h : PM w base pb K X L M R nx s) : base ≤ w.heap.size := Nat.le_trans h.lo (Nat.le_of_lt (blk_lt h.blk))
set_option maxHeartbeats 1600000 in
theorem made_ok (base pb nx : Nat) (K0 : RP) (X : RX) (L M R : Nat → Value) (s : PS) (w : World) (h : PM w base pb K0 X L M R nx s) (hK : OkK K0) (hn : s.vs.length ≤ 100000) :
    Calls Try.prog 39 #[.pointer (some ⟨pb, 0, none⟩)] w fun e w' => e = .returned (.int .i64 s.vs.length) ∧ (∃ X' L', PM w' base pb K0 X' L' M R nx { s with vs := s.vs ++ [[]] } ∧ X'.ta = X.ta) ∧ Keeps (fun i => base ≤ i) w w' := by
  obtain ⟨-, q1, q2, -, -, -, -, -, -⟩ := h.c0
  have hf2 := h.free 2
  have hd : PM (w.drew.alloc (.cells #[.slice none 0 0, .int .i64 K0.unit] 83)) base pb K0 X L M R nx s := h.more ((Keeps.drew None w).andAlloc _)
  obtain ⟨g, cap, w1, hr, ho, hk⟩ := view_more base (.slice X.va s.vs.length X.vc) (.slice none 0 0) K0.unit s.vs.length _ 62 w.drew.heap.size (w.drew.alloc (.cells #[.slice none 0 0, .int .i64 K0.unit] 83)) hd.vw.views hd.size (by omega) rfl (blk_new _ _ _ rfl)
  have hP := hd.newView hK.unit0 ho hk
  have hb1 := blk_other hd.blk hk (onlyT_own hd.vw.views) (by decide)
  have q21 : w1.cell? ⟨pb, 2, none⟩ = some (.slice X.va s.vs.length X.vc) := blk_cell hb1 2
  have q11 : w1.cell? ⟨pb, 1, none⟩ = some (.int .i64 K0.unit) := blk_cell hb1 1
  have hf21 : w1.frozen? ⟨pb, 2, none⟩ = false := blk_free hb1 2
  have hlo := hd.vw.views
  have q1A : (w.drew.alloc (.cells #[.slice none 0 0, .int .i64 K0.unit] 83)).cell? ⟨pb, 1, none⟩ = some (.int .i64 K0.unit) := hd.c0.2.1
  have q1F := hP.c0.2.1
  have q2A : (w.alloc (.cells #[.slice none 0 0, .int .i64 K0.unit] 83)).cell? ⟨pb, 2, none⟩ = some (.slice X.va s.vs.length X.vc) := hd.c0.2.2.1
  have HF : Hid (PM (w1.setCell ⟨pb, 2, none⟩ (.slice (some ⟨g, 0, none⟩) (s.vs.length + 1) cap)) base pb K0 { X with va := some ⟨g, 0, none⟩, vc := cap } (upd L s.vs.length (.slice none 0 0)) M R nx { s with vs := s.vs ++ [[]] } ∧ Keeps (fun i => base ≤ i) w (w1.setCell ⟨pb, 2, none⟩ (.slice (some ⟨g, 0, none⟩) (s.vs.length + 1) cap))) :=
    ⟨hP, ((((Keeps.drew (fun i => base ≤ i) w).andAlloc _).trans hk (fun i e _ => row_low hlo e)).andSet (x := ⟨pb, 2, none⟩) (.inl h.lo) _)⟩
  have q22 : (w1.setCell ⟨pb, 2, none⟩ (.slice (some ⟨g, 0, none⟩) (s.vs.length + 1) cap)).cell? ⟨pb, 2, none⟩ = some (.slice (some ⟨g, 0, none⟩) (s.vs ++ [[]]).length cap) := hP.c0.2.2.1
  rw [List.length_append, List.length_singleton] at q22
  have HN : Hid (s.vs.length ≤ 100000) := hn
  have hw : wrap64 (((s.vs.length + 1 : Nat) : Int) - 1) = ((s.vs.length : Nat) : Int) := by unfold wrap64; omega
  clear hP hd ho hk hb1 hlo h
  go_enter Try.func39, Try.ntmps39
  go_upto_region 1 with fail
  refine wp_region_held_drew (S := (fun w' => w'.cell? ⟨pb, 1, none⟩ = some (.int .i64 K0.unit))) (by kernel_rfl) ?_ (fun hHeld => ?_)
  · (try dsimp only); first | exact q1 | exact q1A | exact q11 | exact q1F
  refine wpAnyH_take (i := 0) (oi := { dst := some 3, op := Op.move (Operand.tmp 0), type := 60, pos := "hyper.go:50", after := #[], guard := none }) (v := ?_) rfl (by kernel_rfl) (by kernel_rfl) (by kernel_rfl) (fun _ _ _ h => h) (Or.inl ⟨by rfl, ?_⟩) (by assumption) ?_
  rotate_left
  · (intro wz hSw; (try dsimp only at hSw); go_simp; try with_reducible rfl)
  simp only [Act.put, List.setIfInBounds_toArray, List.set_cons_zero, List.set_cons_succ]
  refine wpAnyH_take (i := 1) (oi := { dst := some 4, op := Op.move (Operand.tmp 0), type := 60, pos := "hyper.go:50", after := #[], guard := none }) (v := ?_) rfl (by kernel_rfl) (by kernel_rfl) (by kernel_rfl) (fun _ _ _ h => h) (Or.inl ⟨by rfl, ?_⟩) (by assumption) ?_
  rotate_left
  · (intro wz hSw; (try dsimp only at hSw); go_simp; try with_reducible rfl)
  simp only [Act.put, List.setIfInBounds_toArray, List.set_cons_zero, List.set_cons_succ]
  refine wpAnyH_take (i := 2) (oi := { dst := some 5, op := Op.nilCheck (Operand.tmp 4), type := 0, pos := "hyper.go:50", after := #[{ on := 1, ground := Ground.data }], guard := none }) (v := ?_) rfl (by kernel_rfl) (by kernel_rfl) (by kernel_rfl) (fun _ _ _ h => h) (Or.inl ⟨by rfl, ?_⟩) (by assumption) ?_
  rotate_left
  · (intro wz hSw; (try dsimp only at hSw); go_simp; try with_reducible rfl)
  simp only [Act.put, List.setIfInBounds_toArray, List.set_cons_zero, List.set_cons_succ]
  refine wpAnyH_take (i := 3) (oi := { dst := some 6, op := Op.fieldAddr 65 (Operand.tmp 5) 2, type := 0, pos := "hyper.go:50", after := #[{ on := 2, ground := Ground.data }], guard := none }) (v := ?_) rfl (by kernel_rfl) (by kernel_rfl) (by kernel_rfl) (fun _ _ _ h => h) (Or.inl ⟨by rfl, ?_⟩) (by assumption) ?_
  rotate_left
  · (intro wz hSw; (try dsimp only at hSw); go_simp; try with_reducible rfl)
  simp only [Act.put, List.setIfInBounds_toArray, List.set_cons_zero, List.set_cons_succ]
  refine wpAnyH_take (i := 5) (oi := { dst := some 8, op := Op.move (Operand.tmp 0), type := 60, pos := "hyper.go:50", after := #[], guard := none }) (v := ?_) rfl (by kernel_rfl) (by kernel_rfl) (by kernel_rfl) (fun _ _ _ h => h) (Or.inl ⟨by rfl, ?_⟩) (by assumption) ?_
  rotate_left
  · (intro wz hSw; (try dsimp only at hSw); go_simp; try with_reducible rfl)
  simp only [Act.put, List.setIfInBounds_toArray, List.set_cons_zero, List.set_cons_succ]
  refine wpAnyH_take (i := 6) (oi := { dst := some 9, op := Op.nilCheck (Operand.tmp 8), type := 0, pos := "hyper.go:50", after := #[{ on := 5, ground := Ground.data }], guard := none }) (v := ?_) rfl (by kernel_rfl) (by kernel_rfl) (by kernel_rfl) (fun _ _ _ h => h) (Or.inl ⟨by rfl, ?_⟩) (by assumption) ?_
  rotate_left
  · (intro wz hSw; (try dsimp only at hSw); go_simp; try with_reducible rfl)
  simp only [Act.put, List.setIfInBounds_toArray, List.set_cons_zero, List.set_cons_succ]
  refine wpAnyH_take (i := 7) (oi := { dst := some 10, op := Op.fieldAddr 65 (Operand.tmp 9) 1, type := 0, pos := "hyper.go:50", after := #[{ on := 6, ground := Ground.data }], guard := none }) (v := ?_) rfl (by kernel_rfl) (by kernel_rfl) (by kernel_rfl) (fun _ _ _ h => h) (Or.inl ⟨by rfl, ?_⟩) (by assumption) ?_
  rotate_left
  · (intro wz hSw; (try dsimp only at hSw); go_simp; try with_reducible rfl)
  simp only [Act.put, List.setIfInBounds_toArray, List.set_cons_zero, List.set_cons_succ]
  refine wpAnyH_take (i := 8) (oi := { dst := some 11, op := Op.load 2 (Operand.tmp 10), type := 2, pos := "hyper.go:50", after := #[{ on := 7, ground := Ground.data }], guard := none }) (v := ?_) rfl (by kernel_rfl) (by kernel_rfl) (by kernel_rfl) (fun _ _ _ h => h) (Or.inl ⟨by rfl, ?_⟩) (by assumption) ?_
  rotate_left
  · (intro wz hSw; (try dsimp only at hSw); go_simp; try with_reducible rfl)
  simp only [Act.put, List.setIfInBounds_toArray, List.set_cons_zero, List.set_cons_succ]
  refine wpAnyH_take (i := 9) (oi := { dst := some 12, op := Op.build 83 #[(1, Operand.tmp 11)], type := 83, pos := "hyper.go:50", after := #[{ on := 8, ground := Ground.data }], guard := none }) (v := ?_) rfl (by kernel_rfl) (by kernel_rfl) (by kernel_rfl) (fun _ _ _ h => h) (Or.inl ⟨by rfl, ?_⟩) (by assumption) ?_
  rotate_left
  · (intro wz hSw; (try dsimp only at hSw); go_simp; try with_reducible rfl)
  simp only [Act.put, List.setIfInBounds_toArray, List.set_cons_zero, List.set_cons_succ]
  refine wpAnyH_ready (rs := [4, 10]) (by kernel_rfl) (by simp) ?_
  refine AllReadyH.cons (o := { dst := some 7, op := Op.load 62 (Operand.tmp 6), type := 62, pos := "hyper.go:50", after := #[{ on := 3, ground := Ground.data }], guard := none }) rfl (fun K hK => ?_) ?_
  · go_simp
    refine hK.out _ _ ?_ (fun hHeld2 => ?_)
    · (try dsimp only); first | exact q1 | exact q1A | exact q11 | exact q1F
    clear hK K
    try simp only [Act.put, List.setIfInBounds_toArray, List.set_cons_zero, List.set_cons_succ]
    refine wpAnyH_ready (rs := [10]) (by kernel_rfl) (by simp) ?_
    refine AllReadyH.cons (o := { dst := some 13, op := Op.buildSlice 62 1 #[(0, Operand.tmp 12)], type := 62, pos := "hyper.go:50", after := #[{ on := 9, ground := Ground.data }], guard := none }) rfl (fun K hK => ?_) ?_
    · go_simp
      refine hK.out _ _ ?_ (fun hHeld2 => ?_)
      · (try dsimp only); first | exact q1 | exact q1A | exact q11 | exact q1F
      clear hK K
      try simp only [Act.put, List.setIfInBounds_toArray, List.set_cons_zero, List.set_cons_succ]
      refine wpAnyH_ready (rs := [11]) (by kernel_rfl) (by simp) ?_
      refine AllReadyH.cons (o := { dst := some 14, op := Op.call { callee := Callee.builtin Builtin.append, args := #[Operand.tmp 7, Operand.tmp 13], argTypes := #[62, 62] }, type := 62, pos := "hyper.go:50", after := #[{ on := 4, ground := Ground.data }, { on := 10, ground := Ground.data }], guard := none }) rfl (fun K hK => ?_) ?_
      · refine step_append_run rfl (.tmp 7) (.tmp 13) 62 62 rfl (by first | rfl | simp [Act.eval]) (by first | rfl | simp [Act.eval]) hr ?_
        refine hK.out _ _ ?_ (fun hHeld2 => ?_)
        · (try dsimp only); first | exact q1 | exact q1A | exact q11 | exact q1F
        clear hK K
        try simp only [Act.put, List.setIfInBounds_toArray, List.set_cons_zero, List.set_cons_succ]
        refine wpAnyH_take (i := 12) (oi := { dst := some 15, op := Op.nilCheck (Operand.tmp 3), type := 0, pos := "hyper.go:50", after := #[{ on := 0, ground := Ground.data }, { on := 0, ground := Ground.phase }, { on := 1, ground := Ground.phase }, { on := 2, ground := Ground.phase }, { on := 3, ground := Ground.phase }, { on := 4, ground := Ground.phase }, { on := 5, ground := Ground.phase }, { on := 6, ground := Ground.phase }, { on := 7, ground := Ground.phase }, { on := 8, ground := Ground.phase }, { on := 9, ground := Ground.phase }, { on := 10, ground := Ground.phase }, { on := 11, ground := Ground.phase }], guard := none }) (v := ?_) rfl (by kernel_rfl) (by kernel_rfl) (by kernel_rfl) (fun _ _ _ h => h) (Or.inl ⟨by rfl, ?_⟩) (by assumption) ?_
        rotate_left
        · (intro wz hSw; (try dsimp only at hSw); go_simp; try with_reducible rfl)
        simp only [Act.put, List.setIfInBounds_toArray, List.set_cons_zero, List.set_cons_succ]
        refine wpAnyH_take (i := 13) (oi := { dst := some 16, op := Op.fieldAddr 65 (Operand.tmp 15) 2, type := 0, pos := "hyper.go:50", after := #[{ on := 12, ground := Ground.data }, { on := 0, ground := Ground.phase }, { on := 1, ground := Ground.phase }, { on := 2, ground := Ground.phase }, { on := 3, ground := Ground.phase }, { on := 4, ground := Ground.phase }, { on := 5, ground := Ground.phase }, { on := 6, ground := Ground.phase }, { on := 7, ground := Ground.phase }, { on := 8, ground := Ground.phase }, { on := 9, ground := Ground.phase }, { on := 10, ground := Ground.phase }, { on := 11, ground := Ground.phase }], guard := none }) (v := ?_) rfl (by kernel_rfl) (by kernel_rfl) (by kernel_rfl) (fun _ _ _ h => h) (Or.inl ⟨by rfl, ?_⟩) (by assumption) ?_
        rotate_left
        · (intro wz hSw; (try dsimp only at hSw); go_simp; try with_reducible rfl)
        simp only [Act.put, List.setIfInBounds_toArray, List.set_cons_zero, List.set_cons_succ]
        refine wpAnyH_ready (rs := [14]) (by kernel_rfl) (by simp) ?_
        refine AllReadyH.cons (o := { dst := none, op := Op.store 62 (Operand.tmp 16) (Operand.tmp 14), type := 0, pos := "hyper.go:50", after := #[{ on := 13, ground := Ground.data }, { on := 11, ground := Ground.data }, { on := 11, ground := Ground.chain }, { on := 0, ground := Ground.phase }, { on := 1, ground := Ground.phase }, { on := 2, ground := Ground.phase }, { on := 3, ground := Ground.phase }, { on := 4, ground := Ground.phase }, { on := 5, ground := Ground.phase }, { on := 6, ground := Ground.phase }, { on := 7, ground := Ground.phase }, { on := 8, ground := Ground.phase }, { on := 9, ground := Ground.phase }, { on := 10, ground := Ground.phase }, { on := 11, ground := Ground.phase }], guard := none }) rfl (fun K hK => ?_) ?_
        · go_simp
          refine hK.out _ _ ?_ (fun hHeld2 => ?_)
          · (try dsimp only); first | exact q1 | exact q1A | exact q11 | exact q1F
          clear hK K
          try simp only [Act.put, List.setIfInBounds_toArray, List.set_cons_zero, List.set_cons_succ]
          refine wpAnyH_done (by kernel_rfl) ?_ _
          go_wp2_with fail
          go_ret
          exact ⟨rfl, ⟨_, _, HF.out.1, rfl⟩, HF.out.2⟩
        exact AllReadyH.nil
      exact AllReadyH.nil
    exact AllReadyH.nil
  refine AllReadyH.cons (o := { dst := some 13, op := Op.buildSlice 62 1 #[(0, Operand.tmp 12)], type := 62, pos := "hyper.go:50", after := #[{ on := 9, ground := Ground.data }], guard := none }) rfl (fun K hK => ?_) ?_
  · go_simp
    refine hK.out _ _ ?_ (fun hHeld2 => ?_)
    · (try dsimp only); first | exact q1 | exact q1A | exact q11 | exact q1F
    clear hK K
    try simp only [Act.put, List.setIfInBounds_toArray, List.set_cons_zero, List.set_cons_succ]
    refine wpAnyH_ready (rs := [4]) (by kernel_rfl) (by simp) ?_
    refine AllReadyH.cons (o := { dst := some 7, op := Op.load 62 (Operand.tmp 6), type := 62, pos := "hyper.go:50", after := #[{ on := 3, ground := Ground.data }], guard := none }) rfl (fun K hK => ?_) ?_
    · go_simp
      refine hK.out _ _ ?_ (fun hHeld2 => ?_)
      · (try dsimp only); first | exact q1 | exact q1A | exact q11 | exact q1F
      clear hK K
      try simp only [Act.put, List.setIfInBounds_toArray, List.set_cons_zero, List.set_cons_succ]
      refine wpAnyH_ready (rs := [11]) (by kernel_rfl) (by simp) ?_
      refine AllReadyH.cons (o := { dst := some 14, op := Op.call { callee := Callee.builtin Builtin.append, args := #[Operand.tmp 7, Operand.tmp 13], argTypes := #[62, 62] }, type := 62, pos := "hyper.go:50", after := #[{ on := 4, ground := Ground.data }, { on := 10, ground := Ground.data }], guard := none }) rfl (fun K hK => ?_) ?_
      · refine step_append_run rfl (.tmp 7) (.tmp 13) 62 62 rfl (by first | rfl | simp [Act.eval]) (by first | rfl | simp [Act.eval]) hr ?_
        refine hK.out _ _ ?_ (fun hHeld2 => ?_)
        · (try dsimp only); first | exact q1 | exact q1A | exact q11 | exact q1F
        clear hK K
        try simp only [Act.put, List.setIfInBounds_toArray, List.set_cons_zero, List.set_cons_succ]
        refine wpAnyH_take (i := 12) (oi := { dst := some 15, op := Op.nilCheck (Operand.tmp 3), type := 0, pos := "hyper.go:50", after := #[{ on := 0, ground := Ground.data }, { on := 0, ground := Ground.phase }, { on := 1, ground := Ground.phase }, { on := 2, ground := Ground.phase }, { on := 3, ground := Ground.phase }, { on := 4, ground := Ground.phase }, { on := 5, ground := Ground.phase }, { on := 6, ground := Ground.phase }, { on := 7, ground := Ground.phase }, { on := 8, ground := Ground.phase }, { on := 9, ground := Ground.phase }, { on := 10, ground := Ground.phase }, { on := 11, ground := Ground.phase }], guard := none }) (v := ?_) rfl (by kernel_rfl) (by kernel_rfl) (by kernel_rfl) (fun _ _ _ h => h) (Or.inl ⟨by rfl, ?_⟩) (by assumption) ?_
        rotate_left
        · (intro wz hSw; (try dsimp only at hSw); go_simp; try with_reducible rfl)
        simp only [Act.put, List.setIfInBounds_toArray, List.set_cons_zero, List.set_cons_succ]
        refine wpAnyH_take (i := 13) (oi := { dst := some 16, op := Op.fieldAddr 65 (Operand.tmp 15) 2, type := 0, pos := "hyper.go:50", after := #[{ on := 12, ground := Ground.data }, { on := 0, ground := Ground.phase }, { on := 1, ground := Ground.phase }, { on := 2, ground := Ground.phase }, { on := 3, ground := Ground.phase }, { on := 4, ground := Ground.phase }, { on := 5, ground := Ground.phase }, { on := 6, ground := Ground.phase }, { on := 7, ground := Ground.phase }, { on := 8, ground := Ground.phase }, { on := 9, ground := Ground.phase }, { on := 10, ground := Ground.phase }, { on := 11, ground := Ground.phase }], guard := none }) (v := ?_) rfl (by kernel_rfl) (by kernel_rfl) (by kernel_rfl) (fun _ _ _ h => h) (Or.inl ⟨by rfl, ?_⟩) (by assumption) ?_
        rotate_left
        · (intro wz hSw; (try dsimp only at hSw); go_simp; try with_reducible rfl)
        simp only [Act.put, List.setIfInBounds_toArray, List.set_cons_zero, List.set_cons_succ]
        refine wpAnyH_ready (rs := [14]) (by kernel_rfl) (by simp) ?_
        refine AllReadyH.cons (o := { dst := none, op := Op.store 62 (Operand.tmp 16) (Operand.tmp 14), type := 0, pos := "hyper.go:50", after := #[{ on := 13, ground := Ground.data }, { on := 11, ground := Ground.data }, { on := 11, ground := Ground.chain }, { on := 0, ground := Ground.phase }, { on := 1, ground := Ground.phase }, { on := 2, ground := Ground.phase }, { on := 3, ground := Ground.phase }, { on := 4, ground := Ground.phase }, { on := 5, ground := Ground.phase }, { on := 6, ground := Ground.phase }, { on := 7, ground := Ground.phase }, { on := 8, ground := Ground.phase }, { on := 9, ground := Ground.phase }, { on := 10, ground := Ground.phase }, { on := 11, ground := Ground.phase }], guard := none }) rfl (fun K hK => ?_) ?_
        · go_simp
          refine hK.out _ _ ?_ (fun hHeld2 => ?_)
          · (try dsimp only); first | exact q1 | exact q1A | exact q11 | exact q1F
          clear hK K
          try simp only [Act.put, List.setIfInBounds_toArray, List.set_cons_zero, List.set_cons_succ]
          refine wpAnyH_done (by kernel_rfl) ?_ _
          go_wp2_with fail
          go_ret
          exact ⟨rfl, ⟨_, _, HF.out.1, rfl⟩, HF.out.2⟩
        exact AllReadyH.nil
      exact AllReadyH.nil
    exact AllReadyH.nil
  exact AllReadyH.nil
end Go.Proofs.Ytdiabpoafennlab.Rn
