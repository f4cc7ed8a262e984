import Derived.Test.YtnhoedodnbifdaaDgLinkP
import Derived.Test.YtnhoedodnbifdaaDgEndsP
/-! The program's own schedule is greedy. -/
namespace Go.Proofs.Ytnhoedodnbifdaa
set_option linter.unusedVariables false
set_option maxRecDepth 20000

theorem run_keep {n p : Nat} {l : List Ed} {k i : Nat} (h : runT n p l k i ≠ 0) : ∀ j, k ≤ j → runT n p l j i = runT n p l k i := by
  intro j
  induction j with
  | zero => intro hj; rw [show k = 0 by omega]
  | succ j ih =>
    intro hj
    by_cases e : k = j + 1
    · rw [e]
    · have h1 := ih (by omega)
      rw [runT, stepT, if_neg, h1]
      intro hm
      have := (mem_rds.1 (List.mem_of_mem_take hm)).2.1
      rw [h1] at this
      exact h this
theorem run_later {n p : Nat} {l : List Ed} {k i : Nat} (h : runT n p l k i = 0) : ∀ j, k ≤ j → runT n p l j i = 0 ∨ (k : Int) < runT n p l j i := by
  intro j
  induction j with
  | zero => intro hj; rw [show (0 : Nat) = k by omega]; exact .inl h
  | succ j ih =>
    intro hj
    by_cases e : k = j + 1
    · rw [← e]; exact .inl h
    · have h1 := ih (by omega)
      rw [runT, stepT]
      split
      · right; omega
      · exact h1
theorem run_at {n p : Nat} {l : List Ed} {k i : Nat} (hk : k ≤ n) : (timesV n p l i ≤ k → runT n p l k i = timesV n p l i) ∧ ((k : Int) < timesV n p l i → runT n p l k i = 0) := by
  by_cases h : runT n p l k i = 0
  · have := run_later h n hk
    refine ⟨fun h1 => ?_, fun _ => h⟩
    unfold timesV at h1 ⊢
    omega
  · have h1 := run_keep h n hk
    have h2 := (run_range n p l k i).2
    refine ⟨fun _ => h1.symm, fun h3 => ?_⟩
    unfold timesV at h3
    omega
theorem set_at {n p : Nat} {l : List Ed} {k : Nat} (hk : k < n) (i : Nat) : timesV n p l i = (k : Int) + 1 ↔ i ∈ (rds n l (runT n p l k)).take p := by
  constructor
  · intro h
    have h1 := (run_at (n := n) (p := p) (l := l) (k := k + 1) (i := i) (by omega)).1 (by omega)
    have h2 := (run_range n p l k i).2
    rw [runT, stepT] at h1
    split at h1
    · assumption
    · omega
  · intro h
    have h1 : runT n p l (k + 1) i = (k : Int) + 1 := by rw [runT, stepT, if_pos h]
    have h2 := run_keep (n := n) (p := p) (l := l) (k := k + 1) (i := i) (by omega) n (by omega)
    unfold timesV
    omega
theorem cnt_times {n p : Nat} {l : List Ed} {k : Nat} (hk : k < n) : cntAt n (timesV n p l) ((k : Int) + 1) = ((rds n l (runT n p l k)).take p).length := by
  rw [← filter_mem_take]
  unfold cntAt
  congr 1
  apply List.filter_congr
  intro i _
  have := set_at (p := p) (l := l) hk i
  by_cases e : timesV n p l i = (k : Int) + 1
  · simp [e, this.1 e]
  · have h2 : ¬ i ∈ (rds n l (runT n p l k)).take p := fun h => e (this.2 h)
    simp [e, h2]
theorem times_one {n p : Nat} {l : List Ed} (hd : Dag (n : Int) l) (hp : 1 ≤ p) (i : Nat) (hi : i < n) : 1 ≤ timesV n p l i ∧ timesV n p l i ≤ n := by
  have h1 := cnt_all.1 (run_ends hd n p hp) i hi
  have h2 := run_range n p l n i
  unfold timesV at h1 ⊢
  omega
theorem cnt_out {n p : Nat} {l : List Ed} (hd : Dag (n : Int) l) (hp : 1 ≤ p) {t : Int} (ht : t < 1 ∨ (n : Int) < t) : cntAt n (timesV n p l) t = 0 := by
  unfold cntAt
  rw [List.length_eq_zero_iff, List.filter_eq_nil_iff]
  intro i hi h
  have := times_one hd hp i (List.mem_range.1 hi)
  simp at h
  omega
theorem times_grdy {n p : Nat} {l : List Ed} (hd : Dag (n : Int) l) (hp : 1 ≤ p) (len : Nat) (hlen : ∀ i, i < n → timesV n p l i ≤ len) : Grdy n p l (timesV n p l) len := by
  refine ⟨⟨fun i hi => (times_one hd hp i hi).1, fun t => ?_, fun e he => ?_⟩, hlen, fun t h1 h2 => ?_⟩
  · by_cases ht : t < 1 ∨ (n : Int) < t
    · rw [cnt_out hd hp ht]; omega
    · obtain ⟨k, hk⟩ := Int.eq_ofNat_of_zero_le (show 0 ≤ t - 1 by omega)
      rw [show t = (k : Int) + 1 by omega, cnt_times (by omega)]
      exact List.length_take_le _ _
  · have h0 := hd.ok e he
    have h1 := times_one hd hp e.t.toNat (by omega)
    obtain ⟨k, hk⟩ := Int.eq_ofNat_of_zero_le (show 0 ≤ timesV n p l e.t.toNat - 1 by omega)
    have h2 := (set_at (n := n) (p := p) (l := l) (k := k) (by omega) e.t.toNat).1 (by omega)
    have h3 := (mem_rds.1 (List.mem_of_mem_take h2)).2.2 e.f (mem_bef.2 ⟨e, he, by omega, rfl⟩)
    have h4 := run_keep h3 n (by omega)
    have h5 := (run_range n p l k e.f.toNat).2
    unfold timesV at *
    omega
  · by_cases ht : n < t
    · exact .inr (fun i hi h3 => by have := (times_one hd hp i hi).2; omega)
    · obtain ⟨k, rfl⟩ : ∃ k, t = k + 1 := ⟨t - 1, by omega⟩
      have hc := cnt_times (n := n) (p := p) (l := l) (k := k) (by omega)
      have e1 : ((k + 1 : Nat) : Int) = (k : Int) + 1 := by omega
      rw [e1]
      by_cases hl : p ≤ (rds n l (runT n p l k)).length
      · left
        rw [hc, List.length_take]
        omega
      · right
        intro i hi h3 h4
        have h5 : i ∈ rds n l (runT n p l k) := by
          refine mem_rds.2 ⟨hi, (run_at (by omega)).2 (by omega), fun a ha => ?_⟩
          obtain ⟨e, he, ea, eb⟩ := mem_bef.1 ha
          have h6 := hd.ok e he
          have h7 := h4 a ha
          have h8 := (run_at (n := n) (p := p) (l := l) (k := k) (i := a.toNat) (by omega)).1 (by omega)
          have h9 := (times_one hd hp a.toNat (by omega)).1
          omega
        have h6 := (set_at (n := n) (p := p) (l := l) (k := k) (by omega) i).2 (by rw [List.take_of_length_le (by omega)]; exact h5)
        omega
end Go.Proofs.Ytnhoedodnbifdaa
