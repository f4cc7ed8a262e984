import Derived.Test.YtcjmceedkfjbeaaDoorPgValid
/-! A function that is right among others is right alone. -/
namespace Go.Proofs.YtcjmceedkfjbeaaDoor
set_option linter.unusedVariables false
set_option maxRecDepth 20000
open Go.RowKit Go.HeapKit

theorem fits_alone {l fs : List Fn} {f : Fn} {i : Ins} (h : fitsV false l f i = true) : fitsV true fs f i = true := by
  have hal : ∀ what x, allowsV false l f what x i = true → allowsV true fs f what x i = true := by
    intro what x h
    unfold allowsV at h ⊢
    split
    · rename_i e; rw [if_pos e] at h; exact h
    · rename_i e1; rw [if_neg e1] at h
      split
      · rename_i e; rw [if_pos e] at h; exact h
      · rename_i e2; rw [if_neg e2] at h
        split
        · rename_i e; rw [if_pos e] at h; exact h
        · simp
  simp only [fitsV, Bool.and_eq_true] at h ⊢
  exact ⟨h.1, ⟨hal _ _ h.2.1.1, hal _ _ h.2.1.2⟩, hal _ _ h.2.2⟩
theorem fault_alone {l fs : List Fn} {f : Fn} (h : codeFault false l f = none) : codeFault true fs f = none := by
  obtain ⟨h1, h2⟩ := code_parts h
  unfold codeFault
  rw [firstAt_none _ f.code 0 (fun j y hy => by rw [fits_alone (fs := fs) (h1 j y hy)]; rfl), h2]
  rfl
end Go.Proofs.YtcjmceedkfjbeaaDoor
