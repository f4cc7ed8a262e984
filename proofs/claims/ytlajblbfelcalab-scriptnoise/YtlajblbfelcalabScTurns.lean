import Derived.Test.YtlajblbfelcalabScLaw
/-! Turns: the program's and the document's. -/
namespace Go.Proofs.Ytlajblbfelcalab
set_option linter.unusedVariables false
set_option maxRecDepth 20000
open Go.RowKit Go.HeapKit

def trnE (x r : Int) : Int := if !goodB x || decide (r < 0) then 3 else if 1048576 / x < r then 2 else 0
def trnV (x r : Int) : List Int := if trnE x r = 0 then (List.range (x.toNat * r.toNat)).map (fun i => ((i % x.toNat : Nat) : Int)) else []
theorem trn_len (x r : Int) : (trnV x r).length ≤ 1048576 := by
  unfold trnV
  split
  · rename_i h
    unfold trnE at h
    split at h
    · simp at h
    · rename_i h1
      split at h
      · simp at h
      · rename_i h2
        simp at h1
        obtain ⟨W, rfl, hW1, hW2⟩ := goodB_of h1.1
        obtain ⟨R, rfl⟩ := Int.eq_ofNat_of_zero_le h1.2
        simp only [List.length_map, List.length_range, Int.toNat_natCast]
        have h3 : (R : Int) ≤ 1048576 / (W : Int) := by omega
        have h4 : ((1048576 / W : Nat) : Int) = 1048576 / (W : Int) := by simp
        have h5 : R ≤ 1048576 / W := by omega
        have := (Nat.le_div_iff_mul_le (by omega : 0 < W)).1 h5
        rw [Nat.mul_comm]
        exact this
  · simp
theorem trn_cases (x r : Int) : (goodB x = false ∧ trnE x r = 3 ∧ trnV x r = []) ∨ (goodB x = true ∧ r < 0 ∧ trnE x r = 3 ∧ trnV x r = []) ∨
    ∃ W R : Nat, x = W ∧ r = R ∧ 1 ≤ W ∧ W ≤ 64 ∧ goodB x = true ∧ ((1048576 / W < R ∧ trnE x r = 2 ∧ trnV x r = []) ∨ (R ≤ 1048576 / W ∧ W * R ≤ 1048576 ∧ trnE x r = 0 ∧ trnV x r = (List.range (W * R)).map (fun i => ((i % W : Nat) : Int)))) := by
  by_cases hg : goodB x = true
  · by_cases hr : r < 0
    · have : trnE x r = 3 := by simp [trnE, hr]
      exact .inr (.inl ⟨hg, hr, this, by simp [trnV, this]⟩)
    · obtain ⟨W, rfl, hW1, hW2⟩ := goodB_of hg
      obtain ⟨R, rfl⟩ := Int.eq_ofNat_of_zero_le (Int.not_lt.1 hr)
      have h4 : ((1048576 / W : Nat) : Int) = 1048576 / (W : Int) := by simp
      refine .inr (.inr ⟨W, R, rfl, rfl, hW1, hW2, hg, ?_⟩)
      by_cases c : 1048576 / W < R
      · have : trnE W R = 2 := by
          unfold trnE
          rw [if_neg (by simp [hg]), if_pos (by omega)]
        exact .inl ⟨c, this, by simp [trnV, this]⟩
      · have : trnE W R = 0 := by
          unfold trnE
          rw [if_neg (by simp [hg]), if_neg (by omega)]
        refine .inr ⟨by omega, ?_, this, by simp [trnV, this]⟩
        have := (Nat.le_div_iff_mul_le (by omega : 0 < W)).1 (show R ≤ 1048576 / W by omega)
        rw [Nat.mul_comm]
        exact this
  · have hf : goodB x = false := by simpa using hg
    have : trnE x r = 3 := by simp [trnE, hf]
    exact .inl ⟨hf, this, by simp [trnV, this]⟩
theorem trn_fill (k W : Nat) (j : Nat) : upd (fun i => if i < k then ((i % W : Nat) : Int) else 0) k ((k % W : Nat) : Int) j = if j < k + 1 then ((j % W : Nat) : Int) else 0 := by
  unfold upd
  by_cases e : j = k
  · subst e; simp
  · rw [if_neg e]
    by_cases e2 : j < k
    · simp only; rw [if_pos e2, if_pos (by omega)]
    · simp only; rw [if_neg e2, if_neg (by omega)]
end Go.Proofs.Ytlajblbfelcalab
