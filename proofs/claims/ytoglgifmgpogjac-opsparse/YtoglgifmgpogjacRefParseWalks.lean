import Derived.Test.YtoglgifmgpogjacRefFormatWalks
/-! The contract of the document's own Parse. -/
namespace Go.Proofs.Ytoglgifmgpogjac
open Go.RowKit Go.PlainOps

theorem byte_at (s : ByteArray) (k : Nat) (h : k < s.size) : s.data.toList.take (k + 1) = s.data.toList.take k ++ [s[k]] := by
  rw [List.take_succ_eq_append_getElem (by simpa using h)]
  rfl
def refAt (s : ByteArray) (k : Nat) : Int := refK (s.data.toList.take k)
theorem refK_skip (s : ByteArray) (k : Nat) (h : k < s.size) (hc : (s[k]'h).toNat = 45) : refAt s (k + 1) = refAt s k := by
  unfold refAt; rw [byte_at s k h]; unfold refK; rw [List.foldl_append]
  show refStep _ _ = _
  unfold refStep; rw [if_pos hc]
theorem refK_step (s : ByteArray) (k : Nat) (h : k < s.size) (hc : ¬ (s[k]'h).toNat = 45) : refAt s (k + 1) = wrap64 (wrap64 (wrap64 (10 * refAt s k) + wrap64 ((s[k]'h).toNat : Int)) - 48) := by
  unfold refAt; rw [byte_at s k h]; unfold refK; rw [List.foldl_append]
  show refStep _ _ = _
  unfold refStep; rw [if_neg hc]
  unfold wrap64; omega
theorem drop_zero_at (s : ByteArray) (h : 0 < s.size) : s.data.toList = s[0] :: s.data.toList.drop 1 := by
  conv => lhs; rw [← List.drop_zero (l := s.data.toList)]
  rw [List.drop_eq_getElem_cons (by simpa using h)]
  rfl
theorem prefix_at (s : ByteArray) : (Lib.hasPrefix s.data.toList [45] = true ↔ ∃ h : 0 < s.size, (s[0]'h).toNat = 45) := by
  rw [prefix_iff]
  constructor
  · rintro ⟨r, hr⟩
    have h0 : 0 < s.size := by
      have := congrArg List.length hr
      rw [Array.length_toList] at this
      have h2 : s.size = s.data.size := rfl
      rw [h2, this]; simp
    refine ⟨h0, ?_⟩
    have h1 := drop_zero_at s h0
    rw [hr] at h1
    simp only [List.cons.injEq] at h1
    rw [← h1.1]; rfl
  · rintro ⟨h0, hc⟩
    refine ⟨s.data.toList.drop 1, ?_⟩
    rw [drop_zero_at s h0]
    congr 1
    exact UInt8.toNat_inj.1 hc
theorem str_ne (t s : ByteArray) : (t.toList == s.toList) = decide (t.data.toList = s.data.toList) := by
  rw [ByteArray.toList_eq, ByteArray.toList_eq, Bool.eq_iff_iff]
  simp
section
set_option maxHeartbeats 800000
theorem refParse_short (s : ByteArray) (w : World) (hs : s.size ≤ 20) :
    Calls Try.prog 5 #[.string s] w fun e w' => e = .returned (.tuple #[.int .i64 (parseN s.data.toList), .int .i64 (parseE s.data.toList)]) ∧ Below w.heap.size w w' := by
  have hs' : (s.size : Int) ≤ 20 := by omega
  go_enter Try.func5, Try.ntmps5
  go_wp2
  go_loop [4, 5] (fun v i => ∃ k : Nat, k ≤ s.size ∧ i = .int .i64 k ∧ v = .int .i64 (refAt s k)) (fun _ i => s.size - (intOf i).toNat)
  case atStart => exact ⟨0, by omega, rfl, rfl⟩
  case round =>
    obtain ⟨k, hk, rfl, rfl⟩ := hrel
    by_cases hlt : k < s.size
    · by_cases hc : (s[k]'hlt).toNat = 45
      · have E : Hid (refAt s (k + 1) = refAt s k) := refK_skip s k hlt hc
        have hb : ((s[k].toNat : Int) != 45) = false := by rw [hc]; rfl
        clear hc
        go_wp2
        go_round
        case rel => exact ⟨k + 1, by omega, by go_num, by rw [E.out]⟩
        case measure => simp [intOf]; omega
      · have E : Hid (refAt s (k + 1) = wrap64 (wrap64 (wrap64 (10 * refAt s k) + wrap64 ((s[k]'hlt).toNat : Int)) - 48)) := refK_step s k hlt hc
        have hb : ((s[k].toNat : Int) != 45) = true := by rw [bne_iff_ne]; omega
        clear hc
        go_wp2
        go_round
        case rel => exact ⟨k + 1, by omega, by go_num, by rw [E.out]⟩
        case measure => simp [intOf]; omega
    · have e : refAt s k = refK s.data.toList := by unfold refAt; rw [List.take_of_length_le (by rw [Array.length_toList]; show s.size ≤ k; omega)]
      rw [e]
      clear e
      have HF : Hid (I64 (refV s.data.toList)) := refV_fits _
      rcases Bool.eq_false_or_eq_true (Lib.hasPrefix s.data.toList [45]) with hp | hp
      · obtain ⟨h0, hc⟩ := (prefix_at s).1 hp
        have hc' : ((s[0].toNat : Int) == 45) = true := by rw [beq_iff_eq]; omega
        have HV : Hid (wrap64 (-refK s.data.toList) = refV s.data.toList) := by unfold refV; rw [if_pos hp, Int.zero_sub]; exact rfl
        clear hp hc
        go_wp2_with fail
        rw [HV.out]
        refine (refFormat_any (refV s.data.toList) _ HF.out).mono ?_
        rintro e w1 ⟨rfl, hb1⟩
        have BL : Hid (Below w.heap.size w w1) := hb1
        by_cases hq : Lib.itoa (refV s.data.toList) = s.data.toList
        · have hx : ((⟨(Lib.itoa (refV s.data.toList)).toArray⟩ : ByteArray).toList == s.toList) = true := by rw [str_ne]; exact decide_eq_true (by simpa using hq)
          have e1 := parse_one _ hq
          have E1 : Hid (parseN s.data.toList = refV s.data.toList) := by unfold parseN; rw [e1]; exact rfl
          have E2 : Hid (parseE s.data.toList = 0) := by unfold parseE; rw [e1]; exact rfl
          generalize (⟨(Lib.itoa (refV s.data.toList)).toArray⟩ : ByteArray) = t at hx ⊢
          clear hq e1 hb1
          go_wp2
          go_ret2
          exact ⟨by rw [E1.out, E2.out]; rfl, BL.out⟩
        · have hx : ((⟨(Lib.itoa (refV s.data.toList)).toArray⟩ : ByteArray).toList == s.toList) = false := by rw [str_ne]; exact decide_eq_false (by simpa using hq)
          have e1 := parse_none _ hq
          have E1 : Hid (parseN s.data.toList = 0) := by unfold parseN; rw [e1]; exact rfl
          have E2 : Hid (parseE s.data.toList = 4) := by unfold parseE; rw [e1]; exact rfl
          generalize (⟨(Lib.itoa (refV s.data.toList)).toArray⟩ : ByteArray) = t at hx ⊢
          clear hq e1 hb1
          go_wp2
          go_ret2
          exact ⟨by rw [E1.out, E2.out]; rfl, BL.out⟩
      · have HV : Hid (refK s.data.toList = refV s.data.toList) := by unfold refV; rw [if_neg (by rw [hp]; decide)]; exact rfl
        by_cases h0 : 0 < s.size
        · have hc : ¬ (s[0]'h0).toNat = 45 := fun h => by
            have := (prefix_at s).2 ⟨h0, h⟩
            rw [hp] at this
            cases this
          have hc' : ((s[0].toNat : Int) == 45) = false := beq_eq_false_iff_ne.2 (by omega)
          clear hp hc
          go_wp2_with fail
          rw [HV.out]
          refine (refFormat_any (refV s.data.toList) _ HF.out).mono ?_
          rintro e w1 ⟨rfl, hb1⟩
          have BL : Hid (Below w.heap.size w w1) := hb1
          by_cases hq : Lib.itoa (refV s.data.toList) = s.data.toList
          · have hx : ((⟨(Lib.itoa (refV s.data.toList)).toArray⟩ : ByteArray).toList == s.toList) = true := by rw [str_ne]; exact decide_eq_true (by simpa using hq)
            have e1 := parse_one _ hq
            have E1 : Hid (parseN s.data.toList = refV s.data.toList) := by unfold parseN; rw [e1]; exact rfl
            have E2 : Hid (parseE s.data.toList = 0) := by unfold parseE; rw [e1]; exact rfl
            generalize (⟨(Lib.itoa (refV s.data.toList)).toArray⟩ : ByteArray) = t at hx ⊢
            clear hq e1 hb1
            go_wp2
            go_ret2
            exact ⟨by rw [E1.out, E2.out]; rfl, BL.out⟩
          · have hx : ((⟨(Lib.itoa (refV s.data.toList)).toArray⟩ : ByteArray).toList == s.toList) = false := by rw [str_ne]; exact decide_eq_false (by simpa using hq)
            have e1 := parse_none _ hq
            have E1 : Hid (parseN s.data.toList = 0) := by unfold parseN; rw [e1]; exact rfl
            have E2 : Hid (parseE s.data.toList = 4) := by unfold parseE; rw [e1]; exact rfl
            generalize (⟨(Lib.itoa (refV s.data.toList)).toArray⟩ : ByteArray) = t at hx ⊢
            clear hq e1 hb1
            go_wp2
            go_ret2
            exact ⟨by rw [E1.out, E2.out]; rfl, BL.out⟩
        · clear hp
          go_wp2_with fail
          rw [HV.out]
          refine (refFormat_any (refV s.data.toList) _ HF.out).mono ?_
          rintro e w1 ⟨rfl, hb1⟩
          have BL : Hid (Below w.heap.size w w1) := hb1
          by_cases hq : Lib.itoa (refV s.data.toList) = s.data.toList
          · have hx : ((⟨(Lib.itoa (refV s.data.toList)).toArray⟩ : ByteArray).toList == s.toList) = true := by rw [str_ne]; exact decide_eq_true (by simpa using hq)
            have e1 := parse_one _ hq
            have E1 : Hid (parseN s.data.toList = refV s.data.toList) := by unfold parseN; rw [e1]; exact rfl
            have E2 : Hid (parseE s.data.toList = 0) := by unfold parseE; rw [e1]; exact rfl
            generalize (⟨(Lib.itoa (refV s.data.toList)).toArray⟩ : ByteArray) = t at hx ⊢
            clear hq e1 hb1
            go_wp2
            go_ret2
            exact ⟨by rw [E1.out, E2.out]; rfl, BL.out⟩
          · have hx : ((⟨(Lib.itoa (refV s.data.toList)).toArray⟩ : ByteArray).toList == s.toList) = false := by rw [str_ne]; exact decide_eq_false (by simpa using hq)
            have e1 := parse_none _ hq
            have E1 : Hid (parseN s.data.toList = 0) := by unfold parseN; rw [e1]; exact rfl
            have E2 : Hid (parseE s.data.toList = 4) := by unfold parseE; rw [e1]; exact rfl
            generalize (⟨(Lib.itoa (refV s.data.toList)).toArray⟩ : ByteArray) = t at hx ⊢
            clear hq e1 hb1
            go_wp2
            go_ret2
            exact ⟨by rw [E1.out, E2.out]; rfl, BL.out⟩
theorem refParse_long (s : ByteArray) (w : World) (hs : 20 < (s.size : Int)) :
    Calls Try.prog 5 #[.string s] w fun e w' => e = .returned (.tuple #[.int .i64 0, .int .i64 2]) ∧ Below w.heap.size w w' := by
  go_enter Try.func5, Try.ntmps5
  go_wp2
  go_ret2
  exact ⟨rfl, Below.refl _ _⟩
end
end Go.Proofs.Ytoglgifmgpogjac
