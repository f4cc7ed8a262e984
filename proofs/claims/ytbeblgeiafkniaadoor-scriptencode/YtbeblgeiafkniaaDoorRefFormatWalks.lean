import Derived.Test.YtbeblgeiafkniaaDoorRefDigitsWalks
/-! The contracts of the document's own digits (by induction) and Format. -/
namespace Go.Proofs.YtbeblgeiafkniaaDoor
open Go.RowKit Go.PlainOps
theorem wrap_q (v : Int) (h : I64 v) : IntKind.i64.wrap (v.tdiv 10) = v.tdiv 10 := by
  obtain ⟨h0, h1⟩ := h
  have h2 := Int.tdiv_mul_add_tmod v 10
  have h3 := Int.tmod_eq_emod (a := v) (b := 10)
  simp [IntKind.wrap, IntKind.bits, IntKind.signed]
  split at h3 <;> omega
theorem abs_q (v : Int) : (v.tdiv 10).natAbs = v.natAbs / 10 ∧ (v.tmod 10).natAbs = v.natAbs % 10 ∧ (0 ≤ v → v.tmod 10 = v % 10) ∧ (v ≤ 0 → v.tmod 10 ≤ 0) := by
  have h2 := Int.tdiv_mul_add_tmod v 10
  have h3 := Int.tmod_eq_emod (a := v) (b := 10)
  split at h3 <;> omega
theorem q_fits (v : Int) (h : I64 v) : I64 (v.tdiv 10) := by
  obtain ⟨h0, h1⟩ := h
  have h2 := Int.tdiv_mul_add_tmod v 10
  have h3 := Int.tmod_eq_emod (a := v) (b := 10)
  unfold I64
  split at h3 <;> omega
theorem str_size (l : List UInt8) : (⟨l.toArray⟩ : ByteArray).size = l.length := by simp [ByteArray.size]
theorem refDigits_any : ∀ (k : Nat) (v : Int) (w : World), v.natAbs = k → I64 v → Calls Tryd.prog 31 #[.int .i64 v] w fun e w' => e = .returned (.string ⟨(digN v.natAbs).toArray⟩) ∧ Below w.heap.size w w' := by
  intro k
  induction k using Nat.strongRecOn with
  | ind k ih =>
    intro v w hk hv
    by_cases h0 : v = 0
    · subst h0; exact digits_zero w
    · have hb : (v == 0) = false := beq_eq_false_iff_ne.2 h0
      obtain ⟨q1, q2, q3, q4⟩ := abs_q v
      have hl : (⟨(digN (v.tdiv 10).natAbs).toArray⟩ : ByteArray).size ≤ 30 := by
        rw [str_size, q1]
        have := digN_len (v.natAbs / 10) (by unfold I64 at hv; omega)
        omega
      have hi := fun w => ih (v.tdiv 10).natAbs (by omega) (v.tdiv 10) w rfl (q_fits v hv)
      have hu : ∀ r : Int, r = (v.natAbs % 10 : Nat) → (⟨(digN (v.tdiv 10).natAbs).toArray⟩ : ByteArray) ++ strOfNums [IntKind.u8.wrap (IntKind.i64.wrap (48 + r))] = ⟨(digN v.natAbs).toArray⟩ := by
        intro r hr
        rw [byte_digit r v.natAbs hr, snoc_str, q1, ← digN_step v.natAbs (by omega)]
      rcases Int.lt_or_gt_of_ne h0 with hn | hp
      · have hs := q4 (by omega)
        by_cases hz : v.tmod 10 = 0
        · exact digits_neg0 v _ _ _ w hb hn hv.1 hz (wrap_q v hv) hl (hu 0 (by rw [← q2, hz]; rfl)) hi
        · exact digits_neg v _ _ _ _ _ w hb hn hv.1 rfl (by omega) (by omega) rfl (wrap_q v hv) hl (hu _ (by omega)) hi
      · exact digits_pos v _ _ _ _ w hb hp hv.2 rfl (wrap_q v hv) (by omega) (by omega) hl (hu _ (by rw [← q2, q3 (by omega)]; omega)) hi
section
set_option maxHeartbeats 800000
theorem minus_str (l : List UInt8) : (⟨#[45]⟩ : ByteArray) ++ ⟨l.toArray⟩ = ⟨(45 :: l).toArray⟩ := by
  apply Go.WideShapes.bytes_inj
  simp [ByteArray.data_append]
theorem digN_dec (n : Nat) (h : n ≠ 0) : digN n = Lib.decDigits n := if_neg h
theorem itoa_pos (v : Int) (h : 0 < v) : Lib.itoa v = digN v.natAbs := by
  obtain ⟨n, rfl⟩ := Int.eq_ofNat_of_zero_le (a := v) (by omega)
  rw [itoa_nat, digN_dec _ (by omega)]; simp
theorem itoa_neg (v : Int) (h : v < 0) : Lib.itoa v = 45 :: digN v.natAbs := by
  obtain ⟨n, rfl⟩ : ∃ n : Nat, v = -(n : Int) := ⟨v.natAbs, by omega⟩
  rw [itoa_minus n (by omega), digN_dec _ (by omega)]; simp
theorem refFormat_any (v : Int) (w : World) (hv : I64 v) : Calls Tryd.prog 25 #[.int .i64 v] w fun e w' => e = .returned (.string ⟨(Lib.itoa v).toArray⟩) ∧ Below w.heap.size w w' := by
  have HV : Hid (I64 v) := hv
  by_cases h0 : v = 0
  · subst h0
    clear HV hv
    have E : Hid (Lib.itoa 0 = [48]) := by show Lib.itoa 0 = [48]; rw [show (0 : Int) = ((0 : Nat) : Int) from rfl, itoa_nat, dec_small (by decide)]; rfl
    go_enter Tryd.func25, Tryd.ntmps25
    go_wp2
    go_ret
    exact ⟨by rw [E.out]; rfl, Below.refl _ _⟩
  · have hb : (v == 0) = false := beq_eq_false_iff_ne.2 h0
    rcases Int.lt_or_gt_of_ne h0 with hn | hp
    · have E : Hid (Lib.itoa v = 45 :: digN v.natAbs) := itoa_neg v hn
      have hl := digN_len v.natAbs (by unfold I64 at hv; omega)
      have ca : ∀ (w : World), (Op.stringOp .add ⟨#[45]⟩ ⟨(digN v.natAbs).toArray⟩).run Tryd.prog w = .ok (.string (⟨(45 :: digN v.natAbs).toArray⟩)) w := fun w => by
        rw [run_string_add_sum _ _ _ (by have e1 : (⟨#[45]⟩ : ByteArray).size = 1 := rfl; have e2 := str_size (digN v.natAbs); omega), minus_str]
      have CA : Hid (∀ (w : World), (Op.stringOp .add ⟨#[45]⟩ ⟨(digN v.natAbs).toArray⟩).run Tryd.prog w = .ok (.string (⟨(45 :: digN v.natAbs).toArray⟩)) w) := ca
      clear h0 hv hl ca
      go_enter Tryd.func25, Tryd.ntmps25
      go_wp2_with fail
      refine (refDigits_any _ v _ rfl HV.out).mono ?_
      rintro e w1 ⟨rfl, hb1⟩
      have ca := CA.out
      have BL : Hid (Below w.heap.size w w1) := hb1
      generalize hu : (⟨(45 :: digN v.natAbs).toArray⟩ : ByteArray) = u at ca
      have HU : Hid ((⟨(45 :: digN v.natAbs).toArray⟩ : ByteArray) = u) := hu
      generalize (⟨(digN v.natAbs).toArray⟩ : ByteArray) = t at ca ⊢
      clear hb1 CA hu
      go_wp2
      go_ret
      exact ⟨by rw [E.out, HU.out]; rfl, BL.out⟩
    · have E : Hid (Lib.itoa v = digN v.natAbs) := itoa_pos v hp
      clear h0 hv
      rw [E.out]
      go_enter Tryd.func25, Tryd.ntmps25
      go_wp2_with (go_at_call 31; refine (refDigits_any _ v _ rfl HV.out).mono ?_; rintro e w1 ⟨rfl, hb1⟩)
      go_ret
      exact ⟨rfl, by assumption⟩
end
end Go.Proofs.YtbeblgeiafkniaaDoor
