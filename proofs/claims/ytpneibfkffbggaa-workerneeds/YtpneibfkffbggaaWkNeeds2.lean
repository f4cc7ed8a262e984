import Derived.Test.YtpneibfkffbggaaWkNeeds
/-! Need, the document's, and the law. -/
namespace Go.Proofs.Ytpneibfkffbggaa
set_option linter.unusedVariables false
set_option maxRecDepth 20000
open Go.RowKit Go.HeapKit Go.IntWalk

theorem limitsFit_ok (f a b : Int) (w : World) (h : LimOK f a b) : Calls Try.prog 7 #[.agg #[.int .i64 f, .int .i64 a, .int .i64 b]] w fun e w' => e = .returned (.bool true) ∧ Keeps None w w' := by
  obtain ⟨h1, h2, h3, h4, h5⟩ := h
  go_enter Try.func7, Try.ntmps7
  go_wp2
  go_ret
  exact ⟨rfl, Keeps.alloc None w _⟩
theorem limitsFit_bad (f a b : Int) (w : World) (h : ¬ LimOK f a b) : Calls Try.prog 7 #[.agg #[.int .i64 f, .int .i64 a, .int .i64 b]] w fun e w' => e = .returned (.bool false) ∧ Keeps None w w' := by
  unfold LimOK at h
  by_cases h1 : 1 ≤ f
  · by_cases h2 : f ≤ 4096
    · by_cases h3 : 1 ≤ a
      · by_cases h4 : a ≤ b
        · have h5 : ¬ b ≤ 4096 := fun h5 => h ⟨h1, h2, h3, h4, h5⟩
          clear h
          go_enter Try.func7, Try.ntmps7
          go_wp2
          go_ret
          exact ⟨rfl, Keeps.alloc None w _⟩
        · clear h
          go_enter Try.func7, Try.ntmps7
          go_wp2
          go_ret
          exact ⟨rfl, Keeps.alloc None w _⟩
      · clear h
        go_enter Try.func7, Try.ntmps7
        go_wp2
        go_ret
        exact ⟨rfl, Keeps.alloc None w _⟩
    · clear h
      go_enter Try.func7, Try.ntmps7
      go_wp2
      go_ret
      exact ⟨rfl, Keeps.alloc None w _⟩
  · clear h
    go_enter Try.func7, Try.ntmps7
    go_wp2
    go_ret
    exact ⟨rfl, Keeps.alloc None w _⟩
theorem badLimits_ok (f a b : Int) (w : World) (h : LimOK f a b) : Calls Try.prog 11 #[.agg #[.int .i64 f, .int .i64 a, .int .i64 b]] w fun e w' => e = .returned (.bool false) ∧ Keeps None w w' := by
  obtain ⟨h1, h2, h3, h4, h5⟩ := h
  have i1 : decide (f < 1) = false := by simp; omega
  have i2 : decide (4096 < f) = false := by simp; omega
  have i3 : decide (a < 1) = false := by simp; omega
  have i4 : decide (b < a) = false := by simp; omega
  have i5 : decide (4096 < b) = false := by simp; omega
  go_enter Try.func11, Try.ntmps11
  go_wp2
  go_ret
  refine ⟨?_, Keeps.alloc None w _⟩
  first | rfl | (show Ending.returned (Value.bool _) = _; simp; omega)
theorem badLimits_bad (f a b : Int) (w : World) (h : ¬ LimOK f a b) : Calls Try.prog 11 #[.agg #[.int .i64 f, .int .i64 a, .int .i64 b]] w fun e w' => e = .returned (.bool true) ∧ Keeps None w w' := by
  unfold LimOK at h
  by_cases h1 : 1 ≤ f
  · by_cases h2 : f ≤ 4096
    · by_cases h3 : 1 ≤ a
      · by_cases h4 : a ≤ b
        · have h5 : ¬ b ≤ 4096 := fun h5 => h ⟨h1, h2, h3, h4, h5⟩
          clear h
          go_enter Try.func11, Try.ntmps11
          go_wp2
          go_ret
          exact ⟨rfl, Keeps.alloc None w _⟩
        · clear h
          go_enter Try.func11, Try.ntmps11
          go_wp2
          go_ret
          exact ⟨rfl, Keeps.alloc None w _⟩
      · clear h
        go_enter Try.func11, Try.ntmps11
        go_wp2
        go_ret
        exact ⟨rfl, Keeps.alloc None w _⟩
    · clear h
      go_enter Try.func11, Try.ntmps11
      go_wp2
      go_ret
      exact ⟨rfl, Keeps.alloc None w _⟩
  · clear h
    go_enter Try.func11, Try.ntmps11
    go_wp2
    go_ret
    exact ⟨rfl, Keeps.alloc None w _⟩
theorem Keeps.drewN' (S : Nat → Prop) (w : World) (m : Nat) : Keeps S w (w.drewN m) := by
  induction m with
  | zero => exact Keeps.refl _ _
  | succ m ih => exact ih.andDrew
theorem lim_cells {w w2 : World} {f a b : Int} (hk : Keeps None (w.alloc (.cells #[.int .i64 f, .int .i64 a, .int .i64 b] 23)) w2) : w2.cell? ⟨w.heap.size, 0, none⟩ = some (.int .i64 f) ∧ w2.cell? ⟨w.heap.size, 1, none⟩ = some (.int .i64 a) ∧ w2.cell? ⟨w.heap.size, 2, none⟩ = some (.int .i64 b) ∧ Keeps None w w2 := by
  have h0 : (w.alloc (.cells #[.int .i64 f, .int .i64 a, .int .i64 b] 23)).heap[w.heap.size]? = some (.cells #[.int .i64 f, .int .i64 a, .int .i64 b] 23 (0, 0)) := heap_alloc_new w _
  have h1 := (hk.block _ (Array.getElem?_eq_some_iff.1 h0).1 (fun f => f)).trans h0
  refine ⟨?_, ?_, ?_, (Keeps.alloc None w _).trans hk (fun _ f _ => f)⟩ <;> simp [World.cell?, h1]
theorem wfit_ok (n : Int) (w : World) (h : 1 ≤ n ∧ n ≤ 64) : Calls Try.prog 6 #[.int .i64 n] w fun e w' => e = .returned (.bool true) ∧ w' = w := by
  obtain ⟨h1, h2⟩ := h
  go_enter Try.func6, Try.ntmps6
  go_wp2
  go_ret
  exact ⟨rfl, rfl⟩
theorem wfit_bad (n : Int) (w : World) (h : ¬ (1 ≤ n ∧ n ≤ 64)) : Calls Try.prog 6 #[.int .i64 n] w fun e w' => e = .returned (.bool false) ∧ w' = w := by
  by_cases h1 : 1 ≤ n
  · have h2 : ¬ n ≤ 64 := fun h2 => h ⟨h1, h2⟩
    clear h
    go_enter Try.func6, Try.ntmps6
    go_wp2
    go_ret
    exact ⟨rfl, rfl⟩
  · clear h
    go_enter Try.func6, Try.ntmps6
    go_wp2
    go_ret
    exact ⟨rfl, rfl⟩
theorem fc_ok (f : Int) (w : World) (h : 1 ≤ f ∧ f ≤ 4096) : Calls Try.prog 8 #[.int .i64 f] w fun e w' => e = .returned (.int .i64 (1 + f * 10)) ∧ w' = w := by
  obtain ⟨h1, h2⟩ := h
  go_enter Try.func8, Try.ntmps8
  go_wp2
  go_ret
  exact ⟨rfl, rfl⟩
theorem pc_ok (n : Int) (w : World) (h : 1 ≤ n ∧ n ≤ 64) : Calls Try.prog 9 #[.int .i64 n] w fun e w' => e = .returned (.int .i64 (2 + n)) ∧ w' = w := by
  obtain ⟨h1, h2⟩ := h
  go_enter Try.func9, Try.ntmps9
  go_wp2
  go_ret
  exact ⟨rfl, rfl⟩
set_option maxHeartbeats 1600000 in
theorem need_ok (n f a b : Int) (w : World) (hn : 1 ≤ n ∧ n ≤ 64) (hl : LimOK f a b) : Calls Try.prog 4 #[.int .i64 n, .agg #[.int .i64 f, .int .i64 a, .int .i64 b]] w fun e w' => e = .returned (.int .i64 (needV n f a b)) ∧ Keeps None w w' := by
  obtain ⟨A0, rfl⟩ := Int.eq_ofNat_of_zero_le (show 0 ≤ a by have := hl.2.2.1; omega)
  obtain ⟨B0, rfl⟩ := Int.eq_ofNat_of_zero_le (show 0 ≤ b by have := hl.2.2; omega)
  have hl0 := hl
  obtain ⟨l1, l2, l3, l4, l5⟩ := hl
  have hv : needV n f A0 B0 = 1 + (1 + f * 10) + (2 + n) + n * (cellsFrom B0 A0 (4 + A0) : Nat) := by
    unfold needV
    rw [if_pos ⟨hn, hl0⟩]
    simp
  have hD := cellsFrom_le B0 (by omega) (B0 - A0) A0 (4 + A0) (Nat.le_refl _) (by omega) (by omega)
  obtain ⟨D, hDe⟩ : ∃ D, D = cellsFrom B0 A0 (4 + A0) := ⟨_, rfl⟩
  have hd := fun w => dcells_ok A0 B0 w ⟨by omega, by omega, by omega⟩
  rw [← hDe] at hD hv
  have hmul : 0 ≤ n * (D : Int) ∧ n * (D : Int) ≤ 64 * 25000000 := by
    have h1 : n * (D : Int) ≤ 64 * (D : Int) := Int.mul_le_mul_of_nonneg_right hn.2 (by omega)
    have h0 : 0 ≤ n * (D : Int) := Int.mul_nonneg (by omega) (by omega)
    omega
  obtain ⟨M, hM⟩ : ∃ M, M = n * (D : Int) := ⟨_, rfl⟩
  rw [← hM] at hmul hv
  obtain ⟨X, hX⟩ : ∃ X, X = 1 + f * 10 := ⟨_, rfl⟩
  obtain ⟨Y, hY⟩ : ∃ Y, Y = 2 + n := ⟨_, rfl⟩
  have hf : ∀ w, Calls Try.prog 8 #[.int .i64 f] w fun e w' => e = .returned (.int .i64 X) ∧ w' = w := fun w => by rw [hX]; exact fc_ok f w ⟨l1, l2⟩
  have hp : ∀ w, Calls Try.prog 9 #[.int .i64 n] w fun e w' => e = .returned (.int .i64 Y) ∧ w' = w := fun w => by rw [hY]; exact pc_ok n w hn
  have hd2 : ∀ w, Calls Try.prog 10 #[.int .i64 A0, .int .i64 B0] w fun e w' => e = .returned (.int .i64 (D : Int)) ∧ w' = w := fun w => by rw [hDe]; exact hd w
  have e16 : IntKind.i64.wrap (1 + X) = 1 + X := by rw [i64_in _ (by omega)]
  have e19 : IntKind.i64.wrap (1 + X + Y) = 1 + X + Y := by rw [i64_in _ (by omega)]
  have e26 : IntKind.i64.wrap (n * (D : Int)) = M := by rw [← hM, i64_in _ (by omega)]
  have e27 : IntKind.i64.wrap (1 + X + Y + M) = 1 + X + Y + M := by rw [i64_in _ (by omega)]
  have HV : Hid (needV n f A0 B0 = 1 + X + Y + M) := by show _ = _; omega
  have hw1 := fun w => wfit_ok n w hn
  have hw2 := fun w => limitsFit_ok f A0 B0 w hl0
  clear hX hY hv hd hl0 hM hDe hmul hD
  go_enter Try.func4, Try.ntmps4
  go_wp2_with fail
  refine (hw1 _).mono ?_
  rintro e wz ⟨rfl, hw⟩
  have hw2' := hw.symm
  subst hw2'
  clear hw
  go_wp2_with fail
  refine (hw2 _).mono ?_
  rintro e w2 ⟨rfl, hk2⟩
  obtain ⟨c0, c1, c2, hk⟩ := lim_cells hk2
  have HK : Hid (Keeps None w w2) := hk
  clear hk hk2
  go_wp2_with fail
  go_quiet (first | (go_at_call 8; exact Calls.quiet_of_same (hf _)) | (go_at_call 9; exact Calls.quiet_of_same (hp _)) | (go_at_call 10; exact Calls.quiet_of_same (hd2 _)))
  go_wp2_with fail
  go_ret
  rw [HV.out]
  exact ⟨rfl, HK.out.trans (Keeps.drewN' None _ _) (fun _ f _ => f)⟩
theorem need_bad (n f a b : Int) (w : World) (h : ¬ ((1 ≤ n ∧ n ≤ 64) ∧ LimOK f a b)) : Calls Try.prog 4 #[.int .i64 n, .agg #[.int .i64 f, .int .i64 a, .int .i64 b]] w fun e w' => e = .returned (.int .i64 (needV n f a b)) ∧ Keeps None w w' := by
  have hv : needV n f a b = 0 := if_neg h
  rw [hv]
  by_cases hn : 1 ≤ n ∧ n ≤ 64
  · have hw1 := fun w => wfit_ok n w hn
    have hw2 := fun w => limitsFit_bad f a b w (fun hl => h ⟨hn, hl⟩)
    clear h hv hn
    go_enter Try.func4, Try.ntmps4
    go_wp2_with fail
    refine (hw1 _).mono ?_
    rintro e wz ⟨rfl, hw⟩
    have hw2' := hw.symm
    subst hw2'
    clear hw
    go_wp2_with fail
    refine (hw2 _).mono ?_
    rintro e w2 ⟨rfl, hk2⟩
    have HK : Hid (Keeps None w w2) := (lim_cells hk2).2.2.2
    clear hk2
    go_wp2_with fail
    go_ret
    exact ⟨rfl, HK.out⟩
  · have hw1 := fun w => wfit_bad n w hn
    clear h hv hn
    go_enter Try.func4, Try.ntmps4
    go_wp2_with fail
    refine (hw1 _).mono ?_
    rintro e wz ⟨rfl, hw⟩
    have hw2' := hw.symm
    subst hw2'
    clear hw
    go_wp2_with fail
    go_ret
    exact ⟨rfl, Keeps.alloc None w _⟩
theorem need_any (n f a b : Int) (w : World) : Calls Try.prog 4 #[.int .i64 n, .agg #[.int .i64 f, .int .i64 a, .int .i64 b]] w fun e w' => e = .returned (.int .i64 (needV n f a b)) ∧ Keeps None w w' := by
  by_cases h : (1 ≤ n ∧ n ≤ 64) ∧ LimOK f a b
  · exact need_ok n f a b w h.1 h.2
  · exact need_bad n f a b w h
set_option maxHeartbeats 1600000 in
theorem rneed_ok (n f a b : Int) (w : World) (hn : 1 ≤ n ∧ n ≤ 64) (hl : LimOK f a b) : Calls Try.prog 5 #[.int .i64 n, .agg #[.int .i64 f, .int .i64 a, .int .i64 b]] w fun e w' => e = .returned (.int .i64 (needV n f a b)) ∧ Keeps None w w' := by
  obtain ⟨A0, rfl⟩ := Int.eq_ofNat_of_zero_le (show 0 ≤ a by have := hl.2.2.1; omega)
  obtain ⟨B0, rfl⟩ := Int.eq_ofNat_of_zero_le (show 0 ≤ b by have := hl.2.2; omega)
  have hl0 := hl
  obtain ⟨l1, l2, l3, l4, l5⟩ := hl
  have hv : needV n f A0 B0 = 1 + (1 + f * 10) + (2 + n) + n * (cellsFrom B0 A0 (4 + A0) : Nat) := by
    unfold needV
    rw [if_pos ⟨hn, hl0⟩]
    simp
  have hD := cellsFrom_le B0 (by omega) (B0 - A0) A0 (4 + A0) (Nat.le_refl _) (by omega) (by omega)
  obtain ⟨D, hDe⟩ : ∃ D, D = cellsFrom B0 A0 (4 + A0) := ⟨_, rfl⟩
  have hd := fun w => rdcells_ok A0 B0 w ⟨by omega, by omega, by omega⟩
  rw [← hDe] at hD hv
  have hmul : 0 ≤ n * (D : Int) ∧ n * (D : Int) ≤ 64 * 25000000 := by
    have h1 : n * (D : Int) ≤ 64 * (D : Int) := Int.mul_le_mul_of_nonneg_right hn.2 (by omega)
    have h0 : 0 ≤ n * (D : Int) := Int.mul_nonneg (by omega) (by omega)
    omega
  obtain ⟨M, hM⟩ : ∃ M, M = n * (D : Int) := ⟨_, rfl⟩
  rw [← hM] at hmul hv
  obtain ⟨X, hX⟩ : ∃ X, X = f * 10 := ⟨_, rfl⟩
  have hd2 : ∀ w, Calls Try.prog 12 #[.int .i64 A0, .int .i64 B0] w fun e w' => e = .returned (.int .i64 (D : Int)) ∧ w' = w := fun w => by rw [hDe]; exact hd w
  have e17 : IntKind.i64.wrap (f * 10) = X := by rw [← hX, i64_in _ (by omega)]
  have e18 : IntKind.i64.wrap (2 + X) = 2 + X := by rw [i64_in _ (by omega)]
  have e19 : IntKind.i64.wrap (2 + X + 2) = 2 + X + 2 := by rw [i64_in _ (by omega)]
  have e21 : IntKind.i64.wrap (2 + X + 2 + n) = 2 + X + 2 + n := by rw [i64_in _ (by omega)]
  have e28 : IntKind.i64.wrap (n * (D : Int)) = M := by rw [← hM, i64_in _ (by omega)]
  have e29 : IntKind.i64.wrap (2 + X + 2 + n + M) = 2 + X + 2 + n + M := by rw [i64_in _ (by omega)]
  have HV : Hid (needV n f A0 B0 = 2 + X + 2 + n + M) := by show _ = _; omega
  have hw2 := fun w => badLimits_ok f A0 B0 w hl0
  have i1 : ¬ n < 1 := by omega
  have i2 : ¬ n > 64 := by omega
  clear hX hv hd hl0 hM hDe hmul hD
  go_enter Try.func5, Try.ntmps5
  go_wp2_with fail
  refine (hw2 _).mono ?_
  rintro e w2 ⟨rfl, hk2⟩
  obtain ⟨c0, c1, c2, hk⟩ := lim_cells hk2
  have HK : Hid (Keeps None w w2) := hk
  clear hk hk2
  go_wp2_with fail
  go_quiet (first | (go_at_call 12; exact Calls.quiet_of_same (hd2 _)) | fail)
  go_wp2_with fail
  go_ret
  rw [HV.out]
  exact ⟨rfl, HK.out.trans (Keeps.drewN' None _ _) (fun _ f _ => f)⟩
theorem rneed_bad (n f a b : Int) (w : World) (h : ¬ ((1 ≤ n ∧ n ≤ 64) ∧ LimOK f a b)) : Calls Try.prog 5 #[.int .i64 n, .agg #[.int .i64 f, .int .i64 a, .int .i64 b]] w fun e w' => e = .returned (.int .i64 (needV n f a b)) ∧ Keeps None w w' := by
  have hv : needV n f a b = 0 := if_neg h
  rw [hv]
  by_cases h1 : 1 ≤ n
  · by_cases h2 : n ≤ 64
    · have hw2 := fun w => badLimits_bad f a b w (fun hl => h ⟨⟨h1, h2⟩, hl⟩)
      have i1 : ¬ n < 1 := by omega
      have i2 : ¬ n > 64 := by omega
      clear h hv
      go_enter Try.func5, Try.ntmps5
      go_wp2_with fail
      refine (hw2 _).mono ?_
      rintro e w2 ⟨rfl, hk2⟩
      have HK : Hid (Keeps None w w2) := (lim_cells hk2).2.2.2
      clear hk2
      go_wp2_with fail
      go_ret
      exact ⟨rfl, HK.out⟩
    · have i1 : ¬ n < 1 := by omega
      have i2 : n > 64 := by omega
      clear h hv
      go_enter Try.func5, Try.ntmps5
      go_wp2_with fail
      go_ret
      exact ⟨rfl, Keeps.alloc None w _⟩
  · have i1 : n < 1 := by omega
    clear h hv
    go_enter Try.func5, Try.ntmps5
    go_wp2_with fail
    go_ret
    exact ⟨rfl, Keeps.alloc None w _⟩
theorem rneed_any (n f a b : Int) (w : World) : Calls Try.prog 5 #[.int .i64 n, .agg #[.int .i64 f, .int .i64 a, .int .i64 b]] w fun e w' => e = .returned (.int .i64 (needV n f a b)) ∧ Keeps None w w' := by
  by_cases h : (1 ≤ n ∧ n ≤ 64) ∧ LimOK f a b
  · exact rneed_ok n f a b w h.1 h.2
  · exact rneed_bad n f a b w h
set_option maxHeartbeats 1600000 in
theorem workerNeeds_walk (n f a b : Int) (w : World) : Calls Try.prog 3 #[.int .i64 n, .agg #[.int .i64 f, .int .i64 a, .int .i64 b]] w fun e w' => e = .returned (.bool true) ∧ Below w.heap.size w w' := by
  have hN : Hid (∀ w, Calls Try.prog 4 #[.int .i64 n, .agg #[.int .i64 f, .int .i64 a, .int .i64 b]] w fun e w' => e = .returned (.int .i64 (needV n f a b)) ∧ Keeps None w w') := fun w => need_any n f a b w
  have hR : Hid (∀ w, Calls Try.prog 5 #[.int .i64 n, .agg #[.int .i64 f, .int .i64 a, .int .i64 b]] w fun e w' => e = .returned (.int .i64 (needV n f a b)) ∧ Keeps None w w') := fun w => rneed_any n f a b w
  obtain ⟨V, hV⟩ : ∃ V, V = needV n f a b := ⟨_, rfl⟩
  rw [← hV] at hN hR
  clear hV
  obtain ⟨c0, c1, c2, hk⟩ := lim_cells (f := f) (a := a) (b := b) (Keeps.refl None (w.alloc (.cells #[.int .i64 f, .int .i64 a, .int .i64 b] 23)))
  have hq : (V == V) = true := by simp
  go_enter Try.func3, Try.ntmps3
  go_upto_region 1 with fail
  generalize w.alloc (.cells #[.int .i64 f, .int .i64 a, .int .i64 b] 23) = wb at *
  have HK : Hid (Keeps None w wb) := hk
  clear hk
  go_region_held3 (fun w' => w'.cell? ⟨w.heap.size, 0, none⟩ = some (.int .i64 f) ∧ w'.cell? ⟨w.heap.size, 1, none⟩ = some (.int .i64 a) ∧ w'.cell? ⟨w.heap.size, 2, none⟩ = some (.int .i64 b)) (first | go_keep | with_reducible exact hS5 | with_reducible exact hS6) (first
    | (go_at_call 4; refine (hN.out _).mono ?_; rintro _ w5 ⟨rfl, hk5⟩; have hkP : Keeps None wb w5 := Keeps.trans (by first | with_reducible exact Keeps.drew None _ | with_reducible exact hkD) hk5 (fun _ f _ => f); have hS5 := And.intro (hkP.cell c0 (fun f => f)) (And.intro (hkP.cell c1 (fun f => f)) (hkP.cell c2 (fun f => f))))
    | (go_at_call 5; refine (hR.out _).mono ?_; rintro _ w6 ⟨rfl, hk6⟩; have hkD : Keeps None wb w6 := Keeps.trans (by first | with_reducible exact Keeps.drew None _ | with_reducible exact hkP) hk6 (fun _ f _ => f); have hS6 := And.intro (hkD.cell c0 (fun f => f)) (And.intro (hkD.cell c1 (fun f => f)) (hkD.cell c2 (fun f => f)))))
  have HF : Hid (Below w.heap.size w w6) := (HK.out.trans hkD (fun _ f _ => f)).below _ (Nat.le_refl _) (fun _ f => f.elim)
  clear hk5 hk6 hkP hkD hS5 hS6
  go_wp2_with fail
  go_ret
  exact ⟨rfl, HF.out⟩
end Go.Proofs.Ytpneibfkffbggaa
