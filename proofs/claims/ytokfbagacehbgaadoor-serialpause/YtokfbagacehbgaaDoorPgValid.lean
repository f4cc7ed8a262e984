import Derived.Test.YtokfbagacehbgaaDoorPgSafe
/-! What a valid program is, plainly. -/
namespace Go.Proofs.YtokfbagacehbgaaDoor
set_option linter.unusedVariables false
set_option maxRecDepth 20000

theorem check_zero {l : List Fn} (h : (checkV l).1 = 0) : checkV l = (0, 0, 0) := by
  unfold checkV at h ⊢
  split
  · rename_i h1; rw [if_pos h1] at h; cases h
  · rename_i h1
    rw [if_neg h1] at h
    split
    · rename_i r hr; rw [hr] at h; simp at h
    · rename_i hr
      rw [hr] at h
      simp only at h
      split
      · rename_i r hr2
        rw [hr2] at h
        simp only at h
        obtain ⟨k, x, _, _, hg, _⟩ := firstAt_was _ _ _ _ hr2
        unfold codeFault at hg
        split at hg
        · have := Option.some.inj hg
          rw [← this] at h
          simp at h
        · split at hg
          · have := Option.some.inj hg
            rw [← this] at h
            simp at h
          · cases hg
      · rename_i hr2
        rw [hr2] at h
        simp only at h
        split
        · rename_i r hr3
          rw [hr3] at h
          simp only at h
          obtain ⟨k, x, _, _, hg, _⟩ := firstAt_was _ _ _ _ hr3
          unfold slotFault at hg
          simp only [Option.map_eq_some_iff] at hg
          obtain ⟨q, hq, e⟩ := hg
          obtain ⟨k2, y, _, _, hg2, _⟩ := firstAt_was _ _ _ _ hq
          split at hg2
          · cases hg2
          · rename_i hne
            have := Option.some.inj hg2
            rw [← e] at h
            simp at h
            rw [← this] at h
            exact absurd h hne
        · rfl
/-- What a valid function is, for the walks. -/
theorem valid_bounds {fs : List Fn} {f : Fn} (h : Valid fs f) : (0 ≤ f.params ∧ f.params ≤ 8) ∧ (1 ≤ f.regs ∧ f.params ≤ f.regs ∧ f.regs ≤ 16) ∧ (0 ≤ f.slots ∧ f.slots ≤ 8) ∧ 1 ≤ f.code.length ∧ f.code.length ≤ 512 := by
  have := h.shape
  simp only [shapeV, Bool.and_eq_true, decide_eq_true_eq] at this
  omega
end Go.Proofs.YtokfbagacehbgaaDoor
