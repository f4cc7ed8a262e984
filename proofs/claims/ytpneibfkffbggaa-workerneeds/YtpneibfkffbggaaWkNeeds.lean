import Derived.Test.YtpneibfkffbggaaRows
import Derived.Test.YtpneibfkffbggaaHeap
import Derived.OwnWalk
import Derived.WalkMore
import Derived.Deep.RegionHeld3
import Derived.Deep.QuietTactic
import Derived.Deep.DeepCutAuto
import Derived.BigQuiet
/-! How many cells a world takes. -/
namespace Go.Proofs.Ytpneibfkffbggaa
set_option linter.unusedVariables false
set_option maxRecDepth 20000
open Go.RowKit Go.HeapKit Go.IntWalk

def CapOK (f m : Int) : Prop := 1 ≤ f ∧ f ≤ m ∧ m ≤ 4096
theorem mostFits_any (m : Int) (w : World) : Calls Try.prog 18 #[.int .i64 m] w fun e w' => e = .returned (.bool (decide (1 ≤ m) && decide (m ≤ 4096))) ∧ w' = w := by
  by_cases h1 : 1 ≤ m <;> by_cases h2 : m ≤ 4096
  all_goals
    go_enter Try.func18, Try.ntmps18
    go_wp2
    go_ret
    exact ⟨by simp [h1, h2], rfl⟩
theorem capsFit_ok (f m : Int) (w : World) (h : CapOK f m) : Calls Try.prog 15 #[.int .i64 f, .int .i64 m] w fun e w' => e = .returned (.bool true) ∧ w' = w := by
  obtain ⟨h1, h2, h3⟩ := h
  have hm := mostFits_any m
  have e1 : (decide (1 ≤ m) && decide (m ≤ 4096)) = true := by simp; omega
  rw [e1] at hm
  clear e1
  go_enter Try.func15, Try.ntmps15
  go_wp2_with (go_at_call 18; refine (hm _).mono ?_; rintro e w' ⟨rfl, rfl⟩)
  go_ret
  exact ⟨rfl, rfl⟩
theorem capsFit_bad (f m : Int) (w : World) (h : ¬ CapOK f m) : Calls Try.prog 15 #[.int .i64 f, .int .i64 m] w fun e w' => e = .returned (.bool false) ∧ w' = w := by
  by_cases h1 : 1 ≤ f
  · by_cases h2 : f ≤ m
    · have hm := mostFits_any m
      have e1 : (decide (1 ≤ m) && decide (m ≤ 4096)) = false := by simp; intro; unfold CapOK at h; omega
      rw [e1] at hm
      clear e1 h
      go_enter Try.func15, Try.ntmps15
      go_wp2_with (go_at_call 18; refine (hm _).mono ?_; rintro e w' ⟨rfl, rfl⟩)
      go_ret
      exact ⟨rfl, rfl⟩
    · clear h
      go_enter Try.func15, Try.ntmps15
      go_wp2
      go_ret
      exact ⟨rfl, rfl⟩
  · clear h
    go_enter Try.func15, Try.ntmps15
    go_wp2
    go_ret
    exact ⟨rfl, rfl⟩
theorem bufferCells_any (n : Nat) (w : World) (hn : n ≤ 4096) : Calls Try.prog 16 #[.int .i64 n] w fun e w' => e = .returned (.int .i64 (1 + n : Nat)) ∧ w' = w := by
  go_enter Try.func16, Try.ntmps16
  go_wp2
  go_ret
  exact ⟨by simp, rfl⟩
def cellsFrom (m c n : Nat) : Nat := if h : c < m ∧ 0 < c then cellsFrom m (min (2 * c) m) (n + 1 + min (2 * c) m) else n
termination_by m - c
decreasing_by omega
theorem cellsFrom_end {m c n : Nat} (h : ¬ c < m) : cellsFrom m c n = n := by rw [cellsFrom, dif_neg (fun e => h e.1)]
theorem cellsFrom_step {m c n : Nat} (h : c < m) (h0 : 0 < c) : cellsFrom m c n = cellsFrom m (min (2 * c) m) (n + 1 + min (2 * c) m) := by rw [cellsFrom, dif_pos ⟨h, h0⟩]

set_option maxHeartbeats 4000000 in
set_option maxRecDepth 100000 in
theorem rdcells_ok (f m : Nat) (w : World) (h : CapOK f m) : Calls Try.prog 12 #[.int .i64 f, .int .i64 m] w fun e w' => e = .returned (.int .i64 (cellsFrom m f (4 + f) : Nat)) ∧ w' = w := by
  obtain ⟨h1, h2, h3⟩ := h
  go_enter Try.func12, Try.ntmps12
  go_wp2_with fail
  go_loopw [5, 6] (fun s5 s6 wr => wr = w ∧ ∃ c n : Nat, s5 = .int .i64 n ∧ s6 = .int .i64 c ∧ 0 < c ∧ c ≤ m ∧ n ≤ 5000 + c * 5000 ∧ cellsFrom m c n = cellsFrom m f (4 + f)) (fun _ s6 _ => m - (intOf s6).toNat)
  case atStart => exact ⟨rfl, f, 4 + f, by simp, rfl, by omega, by omega, by omega, rfl⟩
  case round =>
    obtain ⟨rfl, c, n, rfl, rfl, hc0, hcm, hn, hT⟩ := hrel
    by_cases hlt : c < m
    · have hT2 := cellsFrom_step (n := n) hlt hc0
      rw [hT] at hT2
      have HT : Hid _ := hT2
      clear hT hT2
      have i1 : (c : Int) < (m : Int) := by omega
      go_wp2_with fail
      have e : (if (m : Int) < 2 * (c : Int) then (m : Int) else 2 * c) = ((min (2 * c) m : Nat) : Int) := by split <;> omega
      rw [e]
      refine ⟨⟨trivial, min (2 * c) m, n + 1 + min (2 * c) m, by congr 1, rfl, by omega, by omega, by omega, HT.out.symm⟩, ?_⟩
      simp only [intOf]
      omega
    · rw [cellsFrom_end hlt] at hT
      have HT : Hid _ := hT
      clear hT
      have i1 : ¬ (c : Int) < (m : Int) := by omega
      go_wp2_with fail
      go_ret
      exact ⟨by rw [← HT.out]; rfl, rfl⟩
theorem grown_any (c m : Nat) (w : World) (hc : c ≤ 4096) : Calls Try.prog 17 #[.int .i64 c, .int .i64 m] w fun e w' => e = .returned (.int .i64 (min (2 * c) m : Nat)) ∧ w' = w := by
  go_enter Try.func17, Try.ntmps17
  go_wp2
  all_goals go_ret
  all_goals refine ⟨?_, rfl⟩
  · rw [show ((min (2 * c) m : Nat) : Int) = m by omega]; rfl
  · rw [show ((min (2 * c) m : Nat) : Int) = 2 * c by omega]; rfl
set_option maxHeartbeats 4000000 in
set_option maxRecDepth 100000 in
theorem dcells_ok (f m : Nat) (w : World) (h : CapOK f m) : Calls Try.prog 10 #[.int .i64 f, .int .i64 m] w fun e w' => e = .returned (.int .i64 (cellsFrom m f (4 + f) : Nat)) ∧ w' = w := by
  have hc := capsFit_ok f m w h
  obtain ⟨h1, h2, h3⟩ := h
  go_enter Try.func10, Try.ntmps10
  go_wp2_with fail
  refine hc.mono ?_
  rintro e w' ⟨rfl, hw⟩
  have hw2 := hw.symm
  subst hw2
  clear hw hc
  have hb0 := bufferCells_any f w (by omega)
  go_wp2_with fail
  refine hb0.mono ?_
  rintro e w' ⟨rfl, hw⟩
  have hw2 := hw.symm
  subst hw2
  clear hw hb0
  go_wp2_with fail
  go_loopw [5, 6] (fun s5 s6 wr => wr = w ∧ ∃ c n : Nat, s5 = .int .i64 n ∧ s6 = .int .i64 c ∧ 0 < c ∧ c ≤ m ∧ n ≤ 5000 + c * 5000 ∧ cellsFrom m c n = cellsFrom m f (4 + f)) (fun _ s6 _ => m - (intOf s6).toNat)
  case atStart => exact ⟨rfl, f, 4 + f, by congr 1; omega, rfl, by omega, by omega, by omega, rfl⟩
  case round =>
    obtain ⟨rfl, c, n, rfl, rfl, hc0, hcm, hn, hT⟩ := hrel
    by_cases hlt : c < m
    · have hT2 := cellsFrom_step (n := n) hlt hc0
      rw [hT] at hT2
      have HT : Hid _ := hT2
      clear hT hT2
      have i1 : (c : Int) < (m : Int) := by omega
      have hg := grown_any c m wr (by omega)
      have hb := bufferCells_any (min (2 * c) m) wr (by omega)
      go_wp2_with fail
      refine hg.mono ?_
      rintro e w' ⟨rfl, hw⟩
      have hw2 := hw.symm
      subst hw2
      clear hw
      go_wp2_with fail
      refine hb.mono ?_
      rintro e w' ⟨rfl, hw⟩
      have hw2 := hw.symm
      subst hw2
      clear hw
      go_wp2_with fail
      refine ⟨⟨trivial, min (2 * c) m, n + 1 + min (2 * c) m, by congr 1; omega, rfl, by omega, by omega, by omega, HT.out.symm⟩, ?_⟩
      simp only [intOf]
      omega
    · rw [cellsFrom_end hlt] at hT
      have HT : Hid _ := hT
      clear hT
      have i1 : ¬ (c : Int) < (m : Int) := by omega
      go_wp2_with fail
      go_ret
      exact ⟨by rw [← HT.out]; rfl, rfl⟩

theorem cellsFrom_le (m : Nat) (hm : m ≤ 4096) : ∀ (d c n : Nat), m - c ≤ d → c ≤ m → n ≤ 5000 + c * 5000 → cellsFrom m c n ≤ 5000 + m * 5000
  | 0, c, n, hd, hc, hn => by
    rw [cellsFrom_end (by omega)]
    have : c = m := by omega
    subst this; exact hn
  | d + 1, c, n, hd, hc, hn => by
    by_cases h : c < m
    · by_cases h0 : 0 < c
      · rw [cellsFrom_step h h0]
        exact cellsFrom_le m hm d _ _ (by omega) (by omega) (by omega)
      · rw [cellsFrom, dif_neg (by omega)]; omega
    · rw [cellsFrom_end h]
      have : c = m := by omega
      subst this; exact hn
def LimOK (f a b : Int) : Prop := 1 ≤ f ∧ f ≤ 4096 ∧ 1 ≤ a ∧ a ≤ b ∧ b ≤ 4096
def WorkOK (n : Int) : Prop := 1 ≤ n ∧ n ≤ 64
def needV (n f a b : Int) : Int := if (1 ≤ n ∧ n ≤ 64) ∧ (1 ≤ f ∧ f ≤ 4096 ∧ 1 ≤ a ∧ a ≤ b ∧ b ≤ 4096) then 1 + (1 + f * 10) + (2 + n) + n * (cellsFrom b.toNat a.toNat (4 + a.toNat) : Nat) else 0
end Go.Proofs.Ytpneibfkffbggaa
