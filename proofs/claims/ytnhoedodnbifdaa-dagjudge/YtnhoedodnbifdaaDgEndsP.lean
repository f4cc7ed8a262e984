import Derived.Test.YtnhoedodnbifdaaDgGreedyP
/-! A processor for every node; one processor alone. -/
namespace Go.Proofs.Ytnhoedodnbifdaa
set_option linter.unusedVariables false
set_option maxRecDepth 20000

theorem R_ready {m : Int} {l : List Ed} (h : Dag m l) (k i : Nat) : (R l i = k + 1 ↔ ¬ R l i ≤ k ∧ ∀ a ∈ bef l i, R l a.toNat ≤ k) := by
  constructor
  · intro e
    refine ⟨by omega, fun a ha => ?_⟩
    obtain ⟨e', he, h1, h2⟩ := mem_bef.1 ha
    have := h.ok e' he
    have := R_edge h he (a := a.toNat) (j := i) (by omega) h1
    omega
  · rintro ⟨h1, h2⟩
    rcases rk_cases h i i with h3 | ⟨e, he, a, ha, h4, h5, h6⟩
    · have : R l i = 1 := h3
      omega
    · have h7 := h2 e.f (mem_bef.2 ⟨e, he, h5, rfl⟩)
      rw [h4] at h7
      have : R l i = R l a + 1 := h6
      simp only [Int.toNat_natCast] at h7
      omega
theorem wide_run {m : Int} {l : List Ed} (h : Dag m l) (n p : Nat) (hm : m = n) (hp : n ≤ p) : ∀ k i, i < n → runT n p l k i = if R l i ≤ k then R l i else 0 := by
  intro k
  induction k with
  | zero => intro i hi; have := R_one l i; rw [if_neg (by omega)]; rfl
  | succ k ih =>
    intro i hi
    rw [runT, stepT, List.take_of_length_le (by
      have := List.length_filter_le (rdy l (runT n p l k)) (List.range n)
      simp only [List.length_range] at this
      unfold rds
      omega)]
    have hz : ∀ j, j < n → (runT n p l k j = 0 ↔ ¬ R l j ≤ k) := by
      intro j hj
      rw [ih j hj]
      have := R_one l j
      split <;> omega
    have hm2 : i ∈ rds n l (runT n p l k) ↔ R l i = k + 1 := by
      rw [mem_rds, R_ready h, hz i hi]
      constructor
      · rintro ⟨_, h1, h2⟩
        refine ⟨h1, fun a ha => ?_⟩
        obtain ⟨e', he, h3, h4⟩ := mem_bef.1 ha
        have := h.ok e' he
        have h5 := h2 a ha
        by_cases hle : R l a.toNat ≤ k
        · exact hle
        · exact absurd ((hz a.toNat (by omega)).2 hle) h5
      · rintro ⟨h1, h2⟩
        refine ⟨hi, h1, fun a ha h5 => ?_⟩
        obtain ⟨e', he, h3, h4⟩ := mem_bef.1 ha
        have := h.ok e' he
        exact (hz a.toNat (by omega)).1 h5 (h2 a ha)
    by_cases e : R l i = k + 1
    · rw [if_pos (hm2.2 e), if_pos (by omega), e]
    · rw [if_neg (fun hh => e (hm2.1 hh)), ih i hi]
      by_cases h1 : R l i ≤ k
      · rw [if_pos h1, if_pos (by omega)]
      · rw [if_neg h1, if_neg (by omega)]
theorem wide_times {m : Int} {l : List Ed} (h : Dag m l) (n p : Nat) (hm : m = n) (hp : n ≤ p) (i : Nat) (hi : i < n) : timesV n p l i = R l i := by
  unfold timesV
  rw [wide_run h n p hm hp n i hi, if_pos]
  have := R_le l i
  omega
theorem one_run {m : Int} {l : List Ed} (h : Dag m l) (n : Nat) (hm : m = n) : ∀ k, k ≤ n → ∀ i, i < n → runT n 1 l k i = if i < k then (i : Int) + 1 else 0 := by
  intro k
  induction k with
  | zero => intro _ i hi; rfl
  | succ k ih =>
    intro hk i hi
    have ih := ih (by omega)
    have hz : ∀ j, j < n → (runT n 1 l k j = 0 ↔ k ≤ j) := by
      intro j hj
      rw [ih j hj]
      split <;> omega
    have hkm : k ∈ rds n l (runT n 1 l k) := by
      refine mem_rds.2 ⟨by omega, (hz k (by omega)).2 (Nat.le_refl _), fun a ha h5 => ?_⟩
      obtain ⟨e', he, h3, h4⟩ := mem_bef.1 ha
      have := h.ok e' he
      have := (hz a.toNat (by omega)).1 h5
      omega
    have hlo : ∀ j ∈ rds n l (runT n 1 l k), k ≤ j := by
      intro j hj
      have := mem_rds.1 hj
      exact (hz j this.1).1 this.2.1
    have hhead : (rds n l (runT n 1 l k)).take 1 = [k] := by
      have hs := rds_sorted n l (runT n 1 l k)
      cases hr : rds n l (runT n 1 l k) with
      | nil => rw [hr] at hkm; cases hkm
      | cons x xs =>
        rw [hr] at hkm hlo hs
        have h1 := hlo x (List.mem_cons_self ..)
        rcases List.mem_cons.1 hkm with h2 | h2
        · rw [h2]; rfl
        · have := (List.pairwise_cons.1 hs).1 k h2
          omega
    rw [runT, stepT, hhead]
    by_cases e : i = k
    · subst e; simp
    · rw [if_neg (by simpa using e), ih i hi]
      by_cases h1 : i < k
      · rw [if_pos h1, if_pos (by omega)]
      · rw [if_neg h1, if_neg (by omega)]
theorem one_times {m : Int} {l : List Ed} (h : Dag m l) (n : Nat) (hm : m = n) (i : Nat) (hi : i < n) : timesV n 1 l i = i + 1 := by
  unfold timesV
  rw [one_run h n hm n (Nat.le_refl _) i hi, if_pos hi]
end Go.Proofs.Ytnhoedodnbifdaa
