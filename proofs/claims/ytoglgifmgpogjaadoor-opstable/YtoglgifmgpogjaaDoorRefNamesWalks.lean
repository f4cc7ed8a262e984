import Derived.Test.YtoglgifmgpogjaaDoorNamesWalks
/-! The contracts of the document's own Name, Find, Unit, and of ops.Unit in this dump. -/
namespace Go.Proofs.YtoglgifmgpogjaaDoor
open Go.RowKit Go.PlainOps
section
set_option maxHeartbeats 400000
theorem later8 (w : World) : Calls Tryd.prog 13 #[.int .i64 8] w fun e w' => e = .returned (.string (nmS 8)) ∧ w' = w := by
  go_enter Tryd.func13, Tryd.ntmps13
  go_wp2
  go_ret
  exact ⟨rfl, rfl⟩
theorem later9 (w : World) : Calls Tryd.prog 13 #[.int .i64 9] w fun e w' => e = .returned (.string (nmS 9)) ∧ w' = w := by
  go_enter Tryd.func13, Tryd.ntmps13
  go_wp2
  go_ret
  exact ⟨rfl, rfl⟩
theorem later10 (w : World) : Calls Tryd.prog 13 #[.int .i64 10] w fun e w' => e = .returned (.string (nmS 10)) ∧ w' = w := by
  go_enter Tryd.func13, Tryd.ntmps13
  go_wp2
  go_ret
  exact ⟨rfl, rfl⟩
theorem later11 (w : World) : Calls Tryd.prog 13 #[.int .i64 11] w fun e w' => e = .returned (.string (nmS 11)) ∧ w' = w := by
  go_enter Tryd.func13, Tryd.ntmps13
  go_wp2
  go_ret
  exact ⟨rfl, rfl⟩
theorem later12 (w : World) : Calls Tryd.prog 13 #[.int .i64 12] w fun e w' => e = .returned (.string (nmS 12)) ∧ w' = w := by
  go_enter Tryd.func13, Tryd.ntmps13
  go_wp2
  go_ret
  exact ⟨rfl, rfl⟩
theorem later13 (w : World) : Calls Tryd.prog 13 #[.int .i64 13] w fun e w' => e = .returned (.string (nmS 13)) ∧ w' = w := by
  go_enter Tryd.func13, Tryd.ntmps13
  go_wp2
  go_ret
  exact ⟨rfl, rfl⟩
theorem later14 (w : World) : Calls Tryd.prog 13 #[.int .i64 14] w fun e w' => e = .returned (.string (nmS 14)) ∧ w' = w := by
  go_enter Tryd.func13, Tryd.ntmps13
  go_wp2
  go_ret
  exact ⟨rfl, rfl⟩
theorem later15 (w : World) : Calls Tryd.prog 13 #[.int .i64 15] w fun e w' => e = .returned (.string (nmS 15)) ∧ w' = w := by
  go_enter Tryd.func13, Tryd.ntmps13
  go_wp2
  go_ret
  exact ⟨rfl, rfl⟩
theorem refName0 (w : World) : Calls Tryd.prog 11 #[.int .i64 0] w fun e w' => e = .returned (.string (nmS 0)) ∧ w' = w := by
  go_enter Tryd.func11, Tryd.ntmps11
  go_wp2
  go_ret
  exact ⟨rfl, rfl⟩
theorem refName1 (w : World) : Calls Tryd.prog 11 #[.int .i64 1] w fun e w' => e = .returned (.string (nmS 1)) ∧ w' = w := by
  go_enter Tryd.func11, Tryd.ntmps11
  go_wp2
  go_ret
  exact ⟨rfl, rfl⟩
theorem refName2 (w : World) : Calls Tryd.prog 11 #[.int .i64 2] w fun e w' => e = .returned (.string (nmS 2)) ∧ w' = w := by
  go_enter Tryd.func11, Tryd.ntmps11
  go_wp2
  go_ret
  exact ⟨rfl, rfl⟩
theorem refName3 (w : World) : Calls Tryd.prog 11 #[.int .i64 3] w fun e w' => e = .returned (.string (nmS 3)) ∧ w' = w := by
  go_enter Tryd.func11, Tryd.ntmps11
  go_wp2
  go_ret
  exact ⟨rfl, rfl⟩
theorem refName4 (w : World) : Calls Tryd.prog 11 #[.int .i64 4] w fun e w' => e = .returned (.string (nmS 4)) ∧ w' = w := by
  go_enter Tryd.func11, Tryd.ntmps11
  go_wp2
  go_ret
  exact ⟨rfl, rfl⟩
theorem refName5 (w : World) : Calls Tryd.prog 11 #[.int .i64 5] w fun e w' => e = .returned (.string (nmS 5)) ∧ w' = w := by
  go_enter Tryd.func11, Tryd.ntmps11
  go_wp2
  go_ret
  exact ⟨rfl, rfl⟩
theorem refName6 (w : World) : Calls Tryd.prog 11 #[.int .i64 6] w fun e w' => e = .returned (.string (nmS 6)) ∧ w' = w := by
  go_enter Tryd.func11, Tryd.ntmps11
  go_wp2
  go_ret
  exact ⟨rfl, rfl⟩
theorem refName7 (w : World) : Calls Tryd.prog 11 #[.int .i64 7] w fun e w' => e = .returned (.string (nmS 7)) ∧ w' = w := by
  go_enter Tryd.func11, Tryd.ntmps11
  go_wp2
  go_ret
  exact ⟨rfl, rfl⟩
theorem refName8 (w : World) : Calls Tryd.prog 11 #[.int .i64 8] w fun e w' => e = .returned (.string (nmS 8)) ∧ w' = w := by
  go_enter Tryd.func11, Tryd.ntmps11
  go_wp2_with (go_at_call 13; refine (later8 _).mono ?_; rintro e w' ⟨rfl, rfl⟩)
  go_ret
  exact ⟨rfl, rfl⟩
theorem refName9 (w : World) : Calls Tryd.prog 11 #[.int .i64 9] w fun e w' => e = .returned (.string (nmS 9)) ∧ w' = w := by
  go_enter Tryd.func11, Tryd.ntmps11
  go_wp2_with (go_at_call 13; refine (later9 _).mono ?_; rintro e w' ⟨rfl, rfl⟩)
  go_ret
  exact ⟨rfl, rfl⟩
theorem refName10 (w : World) : Calls Tryd.prog 11 #[.int .i64 10] w fun e w' => e = .returned (.string (nmS 10)) ∧ w' = w := by
  go_enter Tryd.func11, Tryd.ntmps11
  go_wp2_with (go_at_call 13; refine (later10 _).mono ?_; rintro e w' ⟨rfl, rfl⟩)
  go_ret
  exact ⟨rfl, rfl⟩
theorem refName11 (w : World) : Calls Tryd.prog 11 #[.int .i64 11] w fun e w' => e = .returned (.string (nmS 11)) ∧ w' = w := by
  go_enter Tryd.func11, Tryd.ntmps11
  go_wp2_with (go_at_call 13; refine (later11 _).mono ?_; rintro e w' ⟨rfl, rfl⟩)
  go_ret
  exact ⟨rfl, rfl⟩
theorem refName12 (w : World) : Calls Tryd.prog 11 #[.int .i64 12] w fun e w' => e = .returned (.string (nmS 12)) ∧ w' = w := by
  go_enter Tryd.func11, Tryd.ntmps11
  go_wp2_with (go_at_call 13; refine (later12 _).mono ?_; rintro e w' ⟨rfl, rfl⟩)
  go_ret
  exact ⟨rfl, rfl⟩
theorem refName13 (w : World) : Calls Tryd.prog 11 #[.int .i64 13] w fun e w' => e = .returned (.string (nmS 13)) ∧ w' = w := by
  go_enter Tryd.func11, Tryd.ntmps11
  go_wp2_with (go_at_call 13; refine (later13 _).mono ?_; rintro e w' ⟨rfl, rfl⟩)
  go_ret
  exact ⟨rfl, rfl⟩
theorem refName14 (w : World) : Calls Tryd.prog 11 #[.int .i64 14] w fun e w' => e = .returned (.string (nmS 14)) ∧ w' = w := by
  go_enter Tryd.func11, Tryd.ntmps11
  go_wp2_with (go_at_call 13; refine (later14 _).mono ?_; rintro e w' ⟨rfl, rfl⟩)
  go_ret
  exact ⟨rfl, rfl⟩
theorem refName15 (w : World) : Calls Tryd.prog 11 #[.int .i64 15] w fun e w' => e = .returned (.string (nmS 15)) ∧ w' = w := by
  go_enter Tryd.func11, Tryd.ntmps11
  go_wp2_with (go_at_call 13; refine (later15 _).mono ?_; rintro e w' ⟨rfl, rfl⟩)
  go_ret
  exact ⟨rfl, rfl⟩
theorem later_not (op : Int) (w : World) (h : ¬ (0 ≤ op ∧ op < 16)) : Calls Tryd.prog 13 #[.int .i64 op] w fun e w' => e = .returned (.string ⟨#[]⟩) ∧ w' = w := by
  have h8 : (op == 8) = false := beq_eq_false_iff_ne.2 (by omega)
  have h9 : (op == 9) = false := beq_eq_false_iff_ne.2 (by omega)
  have h10 : (op == 10) = false := beq_eq_false_iff_ne.2 (by omega)
  have h11 : (op == 11) = false := beq_eq_false_iff_ne.2 (by omega)
  have h12 : (op == 12) = false := beq_eq_false_iff_ne.2 (by omega)
  have h13 : (op == 13) = false := beq_eq_false_iff_ne.2 (by omega)
  have h14 : (op == 14) = false := beq_eq_false_iff_ne.2 (by omega)
  have h15 : (op == 15) = false := beq_eq_false_iff_ne.2 (by omega)
  clear h
  go_enter Tryd.func13, Tryd.ntmps13
  go_wp2
  go_ret
  exact ⟨rfl, rfl⟩
theorem refName_not (op : Int) (w : World) (h : ¬ (0 ≤ op ∧ op < 16)) : Calls Tryd.prog 11 #[.int .i64 op] w fun e w' => e = .returned (.string ⟨#[]⟩) ∧ w' = w := by
  have h0 : (op == 0) = false := beq_eq_false_iff_ne.2 (by omega)
  have h1 : (op == 1) = false := beq_eq_false_iff_ne.2 (by omega)
  have h2 : (op == 2) = false := beq_eq_false_iff_ne.2 (by omega)
  have h3 : (op == 3) = false := beq_eq_false_iff_ne.2 (by omega)
  have h4 : (op == 4) = false := beq_eq_false_iff_ne.2 (by omega)
  have h5 : (op == 5) = false := beq_eq_false_iff_ne.2 (by omega)
  have h6 : (op == 6) = false := beq_eq_false_iff_ne.2 (by omega)
  have h7 : (op == 7) = false := beq_eq_false_iff_ne.2 (by omega)
  have H : Hid (¬ (0 ≤ op ∧ op < 16)) := h
  clear h
  go_enter Tryd.func11, Tryd.ntmps11
  go_wp2_with (go_at_call 13; refine (later_not _ _ H.out).mono ?_; rintro e w' ⟨rfl, rfl⟩)
  go_ret
  exact ⟨rfl, rfl⟩
theorem refName_nat (k : Nat) (w : World) (hk : k < 16) : Calls Tryd.prog 11 #[.int .i64 k] w fun e w' => e = .returned (.string (nmS k)) ∧ w' = w := by
  have hc : k = 0 ∨ k = 1 ∨ k = 2 ∨ k = 3 ∨ k = 4 ∨ k = 5 ∨ k = 6 ∨ k = 7 ∨ k = 8 ∨ k = 9 ∨ k = 10 ∨ k = 11 ∨ k = 12 ∨ k = 13 ∨ k = 14 ∨ k = 15 := by omega
  rcases hc with rfl | rfl | rfl | rfl | rfl | rfl | rfl | rfl | rfl | rfl | rfl | rfl | rfl | rfl | rfl | rfl
  · exact refName0 w
  · exact refName1 w
  · exact refName2 w
  · exact refName3 w
  · exact refName4 w
  · exact refName5 w
  · exact refName6 w
  · exact refName7 w
  · exact refName8 w
  · exact refName9 w
  · exact refName10 w
  · exact refName11 w
  · exact refName12 w
  · exact refName13 w
  · exact refName14 w
  · exact refName15 w
theorem refName_any (op : Int) (w : World) : Calls Tryd.prog 11 #[.int .i64 op] w fun e w' => e = .returned (.string (nameV op)) ∧ w' = w := by
  by_cases h : 0 ≤ op ∧ op < 16
  · obtain ⟨k, rfl⟩ := Int.eq_ofNat_of_zero_le h.1
    have e : nameV k = nmS k := by unfold nameV; rw [if_pos h]; simp
    rw [e]
    exact refName_nat k w (by omega)
  · have e : nameV op = ⟨#[]⟩ := by unfold nameV; exact if_neg h
    rw [e]
    exact refName_not op w h
theorem refFind_any (s : ByteArray) (w : World) : Calls Tryd.prog 8 #[.string s] w fun e w' => e = .returned (.int .i64 (findV s)) ∧ w' = w := by
  go_enter Tryd.func8, Tryd.ntmps8
  go_wp2
  go_loop [3] (fun i => ∃ k : Nat, k ≤ 16 ∧ i = .int .i64 k ∧ Hid (findN s (16 - k) k = findV s)) (fun i => 16 - (intOf i).toNat)
  case atStart => exact ⟨0, by omega, rfl, rfl⟩
  case round =>
    obtain ⟨k, hk, rfl, HF⟩ := hrel
    by_cases hlt : k < 16
    · by_cases he : nmS k = s
      · have hb : ((nmS k).toList == s.toList) = true := by rw [str_eq]; exact decide_eq_true he
        have E : Hid (findV s = k) := by rw [← HF.out]; exact findN_yes hlt he
        clear he
        go_wp2_with (go_at_call 11; refine (refName_nat k _ hlt).mono ?_; rintro e w' ⟨rfl, rfl⟩)
        go_ret
        exact ⟨by rw [E.out]; rfl, rfl⟩
      · have hb : ((nmS k).toList == s.toList) = false := by rw [str_eq]; exact decide_eq_false he
        have E : Hid (findN s (16 - (k + 1)) (k + 1) = findV s) := by rw [← HF.out]; exact (findN_no hlt he).symm
        clear he
        go_wp2_with (go_at_call 11; refine (refName_nat k _ hlt).mono ?_; rintro e w' ⟨rfl, rfl⟩)
        go_round
        case rel => exact ⟨k + 1, by omega, by go_num, E⟩
        case measure => simp [intOf]; omega
    · have E : Hid (findV s = -1) := by
        have : k = 16 := by omega
        subst this
        exact HF.out.symm
      go_wp2
      go_ret
      exact ⟨by rw [E.out]; rfl, rfl⟩
end
end Go.Proofs.YtoglgifmgpogjaaDoor
