import Derived.Test.YtemmkgnbngeiaaaDqNew
/-! 'Cells' of the program and of the document. -/
namespace Go.Proofs.Ytemmkgnbngeiaaa
open Go.RowKit Go.HeapKit Go.IntWalk

def cellsFrom (m c n : Nat) : Nat := if h : c < m ∧ 0 < c then cellsFrom m (min (2 * c) m) (n + 1 + min (2 * c) m) else n
termination_by m - c
decreasing_by omega
theorem cellsFrom_end {m c n : Nat} (h : ¬ c < m) : cellsFrom m c n = n := by rw [cellsFrom, dif_neg (fun e => h e.1)]
theorem cellsFrom_step {m c n : Nat} (h : c < m) (h0 : 0 < c) : cellsFrom m c n = cellsFrom m (min (2 * c) m) (n + 1 + min (2 * c) m) := by rw [cellsFrom, dif_pos ⟨h, h0⟩]

theorem capOK_ok (f m : Int) (w : World) (h : CapOK f m) : Calls Try.prog 40 #[.int .i64 f, .int .i64 m] w fun e w' => e = .returned (.bool true) ∧ w' = w := by
  obtain ⟨h1, h2, h3⟩ := h
  go_enter Try.func40, Try.ntmps40
  go_wp2
  go_ret
  exact ⟨rfl, rfl⟩
theorem capOK_bad (f m : Int) (w : World) (h : ¬ CapOK f m) : Calls Try.prog 40 #[.int .i64 f, .int .i64 m] w fun e w' => e = .returned (.bool false) ∧ w' = w := by
  unfold CapOK at h
  by_cases h1 : 1 ≤ f
  · by_cases h2 : f ≤ m
    · have h3 : ¬ m ≤ 4096 := fun h3 => h ⟨h1, h2, h3⟩
      clear h
      go_enter Try.func40, Try.ntmps40
      go_wp2
      go_ret
      exact ⟨rfl, rfl⟩
    · clear h
      go_enter Try.func40, Try.ntmps40
      go_wp2
      go_ret
      exact ⟨rfl, rfl⟩
  · clear h
    go_enter Try.func40, Try.ntmps40
    go_wp2
    go_ret
    exact ⟨rfl, rfl⟩
theorem rcells_bad (f m : Int) (w : World) (h : ¬ CapOK f m) : Calls Try.prog 19 #[.int .i64 f, .int .i64 m] w fun e w' => e = .returned (.int .i64 0) ∧ w' = w := by
  have hc := capOK_bad f m w h
  go_enter Try.func19, Try.ntmps19
  go_wp2_with (go_at_call 40; refine hc.mono ?_; rintro e w' ⟨rfl, rfl⟩)
  go_ret
  exact ⟨rfl, rfl⟩
theorem dcells_bad (f m : Int) (w : World) (h : ¬ CapOK f m) : Calls Try.prog 18 #[.int .i64 f, .int .i64 m] w fun e w' => e = .returned (.int .i64 0) ∧ w' = w := by
  have hc := capsFit_bad f m w h
  go_enter Try.func18, Try.ntmps18
  go_wp2_with (go_at_call 37; refine hc.mono ?_; rintro e w' ⟨rfl, rfl⟩)
  go_ret
  exact ⟨rfl, rfl⟩
set_option maxHeartbeats 4000000 in
set_option maxRecDepth 100000 in
theorem rcells_ok (f m : Nat) (w : World) (h : CapOK f m) : Calls Try.prog 19 #[.int .i64 f, .int .i64 m] w fun e w' => e = .returned (.int .i64 (cellsFrom m f (4 + f) : Nat)) ∧ w' = w := by
  have hc := capOK_ok f m w h
  obtain ⟨h1, h2, h3⟩ := h
  go_enter Try.func19, Try.ntmps19
  go_wp2_with fail
  refine hc.mono ?_
  rintro e w' ⟨rfl, hw⟩
  have hw2 := hw.symm
  subst hw2
  clear hw hc
  go_wp2_with fail
  go_loopw [5, 6] (fun s5 s6 wr => wr = w ∧ ∃ c n : Nat, s5 = .int .i64 n ∧ s6 = .int .i64 c ∧ 0 < c ∧ c ≤ m ∧ n ≤ 5000 + c * 5000 ∧ cellsFrom m c n = cellsFrom m f (4 + f)) (fun _ s6 _ => m - (intOf s6).toNat)
  case atStart => exact ⟨rfl, f, 4 + f, by simp, rfl, by omega, by omega, by omega, rfl⟩
  case round =>
    obtain ⟨rfl, c, n, rfl, rfl, hc0, hcm, hn, hT⟩ := hrel
    by_cases hlt : c < m
    · have hT2 := cellsFrom_step (n := n) hlt hc0
      rw [hT] at hT2
      have HT : Hid _ := hT2
      clear hT hT2
      have i1 : (c : Int) < (m : Int) := by omega
      go_wp2_with fail
      have e : (if (m : Int) < 2 * (c : Int) then (m : Int) else 2 * c) = ((min (2 * c) m : Nat) : Int) := by split <;> omega
      rw [e]
      refine ⟨⟨trivial, min (2 * c) m, n + 1 + min (2 * c) m, by congr 1, rfl, by omega, by omega, by omega, HT.out.symm⟩, ?_⟩
      simp only [intOf]
      omega
    · rw [cellsFrom_end hlt] at hT
      have HT : Hid _ := hT
      clear hT
      have i1 : ¬ (c : Int) < (m : Int) := by omega
      go_wp2_with fail
      go_ret
      exact ⟨by rw [← HT.out]; rfl, rfl⟩
theorem grown_any (c m : Nat) (w : World) (hc : c ≤ 4096) : Calls Try.prog 43 #[.int .i64 c, .int .i64 m] w fun e w' => e = .returned (.int .i64 (min (2 * c) m : Nat)) ∧ w' = w := by
  go_enter Try.func43, Try.ntmps43
  go_wp2
  all_goals go_ret
  all_goals refine ⟨?_, rfl⟩
  · rw [show ((min (2 * c) m : Nat) : Int) = m by omega]; rfl
  · rw [show ((min (2 * c) m : Nat) : Int) = 2 * c by omega]; rfl
set_option maxHeartbeats 4000000 in
set_option maxRecDepth 100000 in
theorem dcells_ok (f m : Nat) (w : World) (h : CapOK f m) : Calls Try.prog 18 #[.int .i64 f, .int .i64 m] w fun e w' => e = .returned (.int .i64 (cellsFrom m f (4 + f) : Nat)) ∧ w' = w := by
  have hc := capsFit_ok f m w h
  obtain ⟨h1, h2, h3⟩ := h
  go_enter Try.func18, Try.ntmps18
  go_wp2_with fail
  refine hc.mono ?_
  rintro e w' ⟨rfl, hw⟩
  have hw2 := hw.symm
  subst hw2
  clear hw hc
  have hb0 := bufferCells_any f w (by omega)
  go_wp2_with fail
  refine hb0.mono ?_
  rintro e w' ⟨rfl, hw⟩
  have hw2 := hw.symm
  subst hw2
  clear hw hb0
  go_wp2_with fail
  go_loopw [5, 6] (fun s5 s6 wr => wr = w ∧ ∃ c n : Nat, s5 = .int .i64 n ∧ s6 = .int .i64 c ∧ 0 < c ∧ c ≤ m ∧ n ≤ 5000 + c * 5000 ∧ cellsFrom m c n = cellsFrom m f (4 + f)) (fun _ s6 _ => m - (intOf s6).toNat)
  case atStart => exact ⟨rfl, f, 4 + f, by congr 1; omega, rfl, by omega, by omega, by omega, rfl⟩
  case round =>
    obtain ⟨rfl, c, n, rfl, rfl, hc0, hcm, hn, hT⟩ := hrel
    by_cases hlt : c < m
    · have hT2 := cellsFrom_step (n := n) hlt hc0
      rw [hT] at hT2
      have HT : Hid _ := hT2
      clear hT hT2
      have i1 : (c : Int) < (m : Int) := by omega
      have hg := grown_any c m wr (by omega)
      have hb := bufferCells_any (min (2 * c) m) wr (by omega)
      go_wp2_with fail
      refine hg.mono ?_
      rintro e w' ⟨rfl, hw⟩
      have hw2 := hw.symm
      subst hw2
      clear hw
      go_wp2_with fail
      refine hb.mono ?_
      rintro e w' ⟨rfl, hw⟩
      have hw2 := hw.symm
      subst hw2
      clear hw
      go_wp2_with fail
      refine ⟨⟨trivial, min (2 * c) m, n + 1 + min (2 * c) m, by congr 1; omega, rfl, by omega, by omega, by omega, HT.out.symm⟩, ?_⟩
      simp only [intOf]
      omega
    · rw [cellsFrom_end hlt] at hT
      have HT : Hid _ := hT
      clear hT
      have i1 : ¬ (c : Int) < (m : Int) := by omega
      go_wp2_with fail
      go_ret
      exact ⟨by rw [← HT.out]; rfl, rfl⟩
end Go.Proofs.Ytemmkgnbngeiaaa
