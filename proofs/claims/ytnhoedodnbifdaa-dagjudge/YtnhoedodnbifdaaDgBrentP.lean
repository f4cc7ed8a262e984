import Derived.Test.YtnhoedodnbifdaaDgGreedyP
/-! Schedules, plainly: no schedule is shorter than the span or than N / P; Graham's and Brent's bound for greedy ones. -/
namespace Go.Proofs.Ytnhoedodnbifdaa
set_option linter.unusedVariables false
set_option maxRecDepth 20000

/-- How many are done at t. -/
def cntAt (n : Nat) (T : Nat → Int) (t : Int) : Nat := ((List.range n).filter (fun i => decide (T i = t))).length
/-- How many are done at a time from 1 to m. -/
def upto (n : Nat) (T : Nat → Int) (m : Nat) : Nat := ((List.range n).filter (fun i => decide (1 ≤ T i ∧ T i ≤ m))).length
structure Sched (n P : Nat) (l : List Ed) (T : Nat → Int) : Prop where
  one : ∀ i, i < n → 1 ≤ T i
  most : ∀ t, cntAt n T t ≤ P
  edge : ∀ e ∈ l, T e.f.toNat < T e.t.toNat
/-- All that is ahead of the node is done at times below t. -/
def ahead (l : List Ed) (T : Nat → Int) (i : Nat) (t : Int) : Prop := ∀ a ∈ bef l i, T a.toNat < t
structure Grdy (n P : Nat) (l : List Ed) (T : Nat → Int) (len : Nat) : Prop where
  sch : Sched n P l T
  top : ∀ i, i < n → T i ≤ len
  full : ∀ t : Nat, 1 ≤ t → t ≤ len → cntAt n T t = P ∨ ∀ i, i < n → (t : Int) < T i → ¬ ahead l T i t
theorem filter_split {α : Type} (L : List α) (p q r : α → Bool) (h : ∀ x, r x = (p x || q x)) (hd : ∀ x, ¬ (p x = true ∧ q x = true)) : (L.filter r).length = (L.filter p).length + (L.filter q).length := by
  induction L with
  | nil => rfl
  | cons x L ih =>
    have h1 := h x
    have h2 := hd x
    cases hp : p x <;> cases hq : q x <;> rw [hp, hq] at h1
    · simp [hp, hq, h1]; omega
    · simp [hp, hq, h1]; omega
    · simp [hp, hq, h1]; omega
    · exact absurd ⟨hp, hq⟩ h2
theorem upto_zero (n : Nat) (T : Nat → Int) : upto n T 0 = 0 := by
  unfold upto
  rw [List.length_eq_zero_iff, List.filter_eq_nil_iff]
  intro i _
  simp
  omega
theorem upto_succ (n : Nat) (T : Nat → Int) (m : Nat) : upto n T (m + 1) = upto n T m + cntAt n T ((m : Int) + 1) := by
  unfold upto cntAt
  refine filter_split (List.range n) (fun i => decide (1 ≤ T i ∧ T i ≤ (m : Int))) (fun i => decide (T i = (m : Int) + 1)) _ (fun i => ?_) (fun i hh => ?_)
  · rw [Bool.eq_iff_iff]
    simp
    omega
  · simp at hh
    omega
theorem upto_all {n : Nat} {T : Nat → Int} {m : Nat} (h : ∀ i, i < n → 1 ≤ T i ∧ T i ≤ m) : upto n T m = n := by
  unfold upto
  rw [List.filter_eq_self.2 (fun i hi => by have := h i (List.mem_range.1 hi); simp; omega)]
  simp
theorem upto_le {n P : Nat} {T : Nat → Int} (h : ∀ t, cntAt n T t ≤ P) : ∀ m, upto n T m ≤ P * m := by
  intro m
  induction m with
  | zero => rw [upto_zero]; omega
  | succ m ih =>
    rw [upto_succ, Nat.mul_succ]
    have := h ((m : Int) + 1)
    omega
/-- A schedule of length m: all nodes fit. -/
theorem sched_work {n P : Nat} {l : List Ed} {T : Nat → Int} (h : Sched n P l T) {m : Nat} (hm : ∀ i, i < n → T i ≤ m) : n ≤ P * m := by
  rw [← upto_all (n := n) (T := T) (m := m) (fun i hi => ⟨h.one i hi, hm i hi⟩)]
  exact upto_le h.most m
/-- No node is done ahead of the longest path to it. -/
theorem sched_rank {n P : Nat} {l : List Ed} {T : Nat → Int} (hd : Dag (n : Int) l) (h : Sched n P l T) : ∀ i, i < n → R l i ≤ T i := by
  intro i
  induction i using Nat.strongRecOn with
  | ind i ih =>
    intro hi
    rcases rk_cases hd i i with h1 | ⟨e, he, a, ha, h2, h3, h4⟩
    · have : R l i = 1 := h1
      have := h.one i hi
      omega
    · have h5 : R l i = R l a + 1 := h4
      have h6 := ih a ha (by omega)
      have h7 := h.edge e he
      rw [h2, h3] at h7
      simp only [Int.toNat_natCast] at h7
      omega
/-- How many times from 1 to m are not full. -/
def idle (n P : Nat) (T : Nat → Int) : Nat → Nat
  | 0 => 0
  | m + 1 => idle n P T m + if cntAt n T ((m : Int) + 1) = P then 0 else 1
theorem idle_mono (n P : Nat) (T : Nat → Int) : ∀ a b, a ≤ b → idle n P T a ≤ idle n P T b := by
  intro a b
  induction b with
  | zero => intro h; obtain rfl : a = 0 := by omega
            exact Nat.le_refl _
  | succ b ih =>
    intro h
    by_cases e : a = b + 1
    · subst e; exact Nat.le_refl _
    · have := ih (by omega)
      rw [idle]
      omega
theorem idle_none (n P : Nat) (T : Nat → Int) (a : Nat) : ∀ b, a ≤ b → (∀ t, a < t → t ≤ b → cntAt n T (t : Int) = P) → idle n P T b = idle n P T a := by
  intro b
  induction b with
  | zero => intro h _; obtain rfl : a = 0 := by omega
            rfl
  | succ b ih =>
    intro h hf
    by_cases e : a = b + 1
    · subst e; rfl
    · have h1 := hf (b + 1) (by omega) (Nat.le_refl _)
      rw [idle, ih (by omega) (fun t h1 h2 => hf t h1 (by omega)), if_pos (by simpa using h1)]
      rfl
theorem idle_step (n P : Nat) (T : Nat → Int) (m : Nat) : idle n P T (m + 1) ≤ idle n P T m + 1 := by
  rw [idle]
  split <;> omega
/-- The times that are not full, up to a node's own, are no more than the nodes on the longest path to it. -/
theorem idle_rank {n P : Nat} {l : List Ed} {T : Nat → Int} {len : Nat} (hd : Dag (n : Int) l) (h : Grdy n P l T len) : ∀ i, i < n → (idle n P T (T i).toNat : Int) ≤ R l i := by
  intro i
  induction i using Nat.strongRecOn with
  | ind i ih =>
    intro hi
    have h1 := h.sch.one i hi
    have htop := h.top i hi
    obtain ⟨s, hs⟩ : ∃ s : Nat, (T i).toNat = s + 1 := ⟨(T i).toNat - 1, by omega⟩
    -- the latest of those ahead
    have hlast : bef l i = [] ∨ ∃ a : Nat, (a : Int) ∈ bef l i ∧ a < i ∧ ∀ b ∈ bef l i, T b.toNat ≤ T a := by
      have hb : ∀ b ∈ bef l i, 0 ≤ b ∧ b < (i : Int) := fun b hb => by
        obtain ⟨e, he, e1, e2⟩ := mem_bef.1 hb
        have := hd.ok e he
        omega
      generalize bef l i = bs at hb
      clear ih h1 htop hs h
      induction bs with
      | nil => exact .inl rfl
      | cons b bs ihb =>
        right
        have hb0 := hb b (List.mem_cons_self ..)
        rcases ihb (fun x hx => hb x (List.mem_cons_of_mem _ hx)) with h0 | ⟨a, ha, hai, hmax⟩
        · subst h0
          refine ⟨b.toNat, ?_, by omega, fun x hx => ?_⟩
          · rw [Int.toNat_of_nonneg hb0.1]; exact List.mem_cons_self ..
          · simp at hx; subst hx; exact Int.le_refl _
        · by_cases hc : T b.toNat ≤ T a
          · refine ⟨a, List.mem_cons_of_mem _ ha, hai, fun x hx => ?_⟩
            rcases List.mem_cons.1 hx with rfl | hx
            · exact hc
            · exact hmax x hx
          · refine ⟨b.toNat, ?_, by omega, fun x hx => ?_⟩
            · rw [Int.toNat_of_nonneg hb0.1]; exact List.mem_cons_self ..
            · rcases List.mem_cons.1 hx with rfl | hx
              · exact Int.le_refl _
              · have := hmax x hx; omega
    rcases hlast with h0 | ⟨a, ha, hai, hmax⟩
    · have hz : idle n P T s = 0 := by
        have := idle_none n P T 0 s (Nat.zero_le _) (fun t h2 h3 => by
          rcases h.full t (by omega) (by omega) with h4 | h4
          · exact h4
          · exact absurd (show ahead l T i t from fun b hb => by rw [h0] at hb; cases hb) (h4 i hi (by omega)))
        rw [this]; rfl
      have h2 := idle_step n P T s
      have h3 := R_one l i
      rw [hs]
      omega
    · have hed : T a < T i := by
        obtain ⟨e, he, e1, e2⟩ := mem_bef.1 ha
        have h2 := h.sch.edge e he
        rw [e1, e2] at h2
        simpa using h2
      have han : a < n := by omega
      have ha1 := h.sch.one a han
      have hR : R l a + 1 ≤ R l i := by
        obtain ⟨e, he, e1, e2⟩ := mem_bef.1 ha
        exact R_edge hd he e2 e1
      have hz : idle n P T s = idle n P T (T a).toNat := idle_none n P T (T a).toNat s (by omega) (fun t h2 h3 => by
        rcases h.full t (by omega) (by omega) with h4 | h4
        · exact h4
        · exact absurd (show ahead l T i t from fun b hb => by have := hmax b hb; omega) (h4 i hi (by omega)))
      have h2 := idle_step n P T s
      have h3 := ih a hai han
      rw [hs]
      omega
/-- At a time that is not full something is done, as long as something is left. -/
theorem grdy_busy {n P : Nat} {l : List Ed} {T : Nat → Int} {len : Nat} (hd : Dag (n : Int) l) (h : Grdy n P l T len) (hP : 1 ≤ P) (hl : ∃ i, i < n ∧ T i = len) : ∀ t : Nat, 1 ≤ t → t ≤ len → 1 ≤ cntAt n T t := by
  intro t h1 h2
  rcases h.full t h1 h2 with h3 | h3
  · omega
  · by_cases h0 : cntAt n T t = 0
    · exfalso
      have hne : ∀ i, i < n → T i ≠ t := fun i hi e => by
        unfold cntAt at h0
        rw [List.length_eq_zero_iff, List.filter_eq_nil_iff] at h0
        exact h0 i (List.mem_range.2 hi) (by simp [e])
      -- the node with the lowest number among those behind t
      obtain ⟨i0, hi0, he0⟩ := hl
      have hgt : (t : Int) < T i0 := by have := hne i0 hi0; omega
      have key : ∀ i, i < n → (t : Int) < T i → False := by
        intro i
        induction i using Nat.strongRecOn with
        | ind i ih =>
          intro hi hgt
          refine h3 i hi hgt (fun b hb => ?_)
          obtain ⟨e, he, e1, e2⟩ := mem_bef.1 hb
          have hok := hd.ok e he
          by_cases hc : T b.toNat < t
          · exact hc
          · have h5 := hne b.toNat (by omega)
            exact (ih b.toNat (by omega) (by omega) (by omega)).elim
      exact key i0 hi0 hgt
    · omega
theorem busy_sum {n P : Nat} {T : Nat → Int} : ∀ m, (∀ t : Nat, 1 ≤ t → t ≤ m → 1 ≤ cntAt n T t) → P * m + idle n P T m ≤ upto n T m + P * idle n P T m := by
  intro m
  induction m with
  | zero => intro _; simp [idle]
  | succ m ih =>
    intro h
    have h1 := ih (fun t h2 h3 => h t h2 (by omega))
    have h2 := h (m + 1) (by omega) (Nat.le_refl _)
    have h2' : 1 ≤ cntAt n T ((m : Int) + 1) := by simpa using h2
    rw [upto_succ, idle, Nat.mul_succ]
    split
    · rename_i he
      rw [Nat.add_zero]
      omega
    · rw [Nat.mul_add]
      omega
/-- Graham, Brent: P * T <= N + (P - 1) * span. -/
theorem brent {n P : Nat} {l : List Ed} {T : Nat → Int} {len : Nat} (hd : Dag (n : Int) l) (h : Grdy n P l T len) (hP : 1 ≤ P) (hl : ∃ i, i < n ∧ T i = len) (S : Nat) (hS : ∀ i, i < n → R l i ≤ S) : P * len ≤ n + (P - 1) * S := by
  have h1 := busy_sum (P := P) len (grdy_busy hd h hP hl)
  have h2 : upto n T len = n := upto_all (fun i hi => ⟨h.sch.one i hi, h.top i hi⟩)
  obtain ⟨i, hi, he⟩ := hl
  have h3 := idle_rank hd h i hi
  rw [he] at h3
  simp only [Int.toNat_natCast] at h3
  have h4 := hS i hi
  have h5 : idle n P T len ≤ S := by omega
  obtain ⟨Q, rfl⟩ : ∃ Q, P = Q + 1 := ⟨P - 1, by omega⟩
  have h6 : Q * idle n (Q + 1) T len ≤ Q * S := Nat.mul_le_mul_left Q h5
  rw [Nat.add_mul Q 1 (idle n (Q + 1) T len), Nat.one_mul] at h1
  simp only [Nat.add_sub_cancel]
  omega
end Go.Proofs.Ytnhoedodnbifdaa
