import Derived.Test.YtnhoedodnbifdaaDgPlain
/-! Greedy schedules by lowest numbers, plainly. -/
namespace Go.Proofs.Ytnhoedodnbifdaa
set_option linter.unusedVariables false
set_option maxRecDepth 20000

/-- Not done, and all that is ahead of it done. -/
def rdy (l : List Ed) (T : Nat → Int) (i : Nat) : Bool := decide (T i = 0) && (bef l i).all (fun a => decide (T a.toNat ≠ 0))
def rds (n : Nat) (l : List Ed) (T : Nat → Int) : List Nat := (List.range n).filter (rdy l T)
def stepT (n p : Nat) (l : List Ed) (t : Int) (T : Nat → Int) (i : Nat) : Int := if i ∈ (rds n l T).take p then t else T i
def runT (n p : Nat) (l : List Ed) : Nat → Nat → Int
  | 0 => fun _ => 0
  | k + 1 => stepT n p l (k + 1) (runT n p l k)
def cntT (n : Nat) (T : Nat → Int) : Nat := ((List.range n).filter (fun i => decide (T i ≠ 0))).length
/-- The schedule. -/
def timesV (n p : Nat) (l : List Ed) : Nat → Int := runT n p l n

theorem rdy_iff {l : List Ed} {T : Nat → Int} {i : Nat} : rdy l T i = true ↔ T i = 0 ∧ ∀ a ∈ bef l i, T a.toNat ≠ 0 := by
  simp [rdy]
theorem mem_rds {n : Nat} {l : List Ed} {T : Nat → Int} {i : Nat} : i ∈ rds n l T ↔ i < n ∧ T i = 0 ∧ ∀ a ∈ bef l i, T a.toNat ≠ 0 := by
  rw [rds, List.mem_filter, List.mem_range, rdy_iff]
theorem run_range (n p : Nat) (l : List Ed) : ∀ k i, 0 ≤ runT n p l k i ∧ runT n p l k i ≤ k := by
  intro k
  induction k with
  | zero => intro i; simp [runT]
  | succ k ih => intro i; have := ih i; simp only [runT, stepT]; split <;> omega
/-- Done nodes have all that is ahead of them done. -/
theorem run_closed (n p : Nat) (l : List Ed) : ∀ k i, runT n p l k i ≠ 0 → ∀ a ∈ bef l i, runT n p l k a.toNat ≠ 0 := by
  intro k
  induction k with
  | zero => intro i h; simp [runT] at h
  | succ k ih =>
    intro i h a ha
    simp only [runT, stepT] at h ⊢
    have hr := run_range n p l k a.toNat
    split
    · omega
    · split at h
      · rename_i hm
        exact (mem_rds.1 (List.mem_of_mem_take hm)).2.2 a ha
      · exact ih i h a ha
/-- As long as something is left, something is ready. -/
theorem rds_some {m : Int} {l : List Ed} (h : Dag m l) (n : Nat) (T : Nat → Int) : ∀ i, i < n → T i = 0 → rds n l T ≠ [] := by
  intro i
  induction i using Nat.strongRecOn with
  | ind i ih =>
    intro hi h0
    by_cases hr : ∀ a ∈ bef l i, T a.toNat ≠ 0
    · intro e
      have : i ∈ rds n l T := mem_rds.2 ⟨hi, h0, hr⟩
      rw [e] at this
      cases this
    · simp only [Classical.not_forall] at hr
      obtain ⟨a, ha, hz⟩ := hr
      obtain ⟨e, he, h1, h2⟩ := mem_bef.1 ha
      have hk := h.ok e he
      exact ih a.toNat (by omega) (by omega) (by omega)
theorem rds_none {n : Nat} {l : List Ed} {T : Nat → Int} (h : ∀ i, i < n → T i ≠ 0) : rds n l T = [] := by
  rw [rds, List.filter_eq_nil_iff]
  intro i hi hr
  exact h i (List.mem_range.1 hi) (rdy_iff.1 hr).1
theorem step_none {n p : Nat} {l : List Ed} {t : Int} {T : Nat → Int} (h : rds n l T = []) : stepT n p l t T = T := by
  funext i
  simp [stepT, h]
theorem run_stop {n p : Nat} {l : List Ed} {k : Nat} (h : rds n l (runT n p l k) = []) : ∀ j, k ≤ j → runT n p l j = runT n p l k := by
  intro j
  induction j with
  | zero => intro hj; obtain rfl : k = 0 := by omega
            rfl
  | succ j ih =>
    intro hj
    by_cases e : k = j + 1
    · subst e; rfl
    · have := ih (by omega)
      rw [runT, this, step_none h]
theorem cnt_step_aux (L : List Nat) (T T' : Nat → Int) (Q : List Nat) (hT : ∀ i, T' i ≠ 0 ↔ T i ≠ 0 ∨ i ∈ Q) (hd : ∀ i ∈ Q, T i = 0) :
    (L.filter (fun i => decide (T' i ≠ 0))).length = (L.filter (fun i => decide (T i ≠ 0))).length + (L.filter (fun i => decide (i ∈ Q))).length := by
  induction L with
  | nil => rfl
  | cons x L ih =>
    have h1 := hT x
    have h2 := hd x
    by_cases a : T x = 0
    · by_cases b : x ∈ Q
      · have c : T' x ≠ 0 := h1.2 (.inr b)
        simp only [List.filter_cons, a, b, c, decide_true, decide_false, ne_eq, not_true, not_false_iff, if_true, List.length_cons, Bool.false_eq_true, if_false]
        simp only [ne_eq] at ih
        omega
      · have c : ¬ T' x ≠ 0 := fun h => by rcases h1.1 h with h | h; exact h a; exact b h
        simp only [ne_eq, Classical.not_not] at c
        simp only [List.filter_cons, a, b, c, decide_false, ne_eq, not_true, Bool.false_eq_true, if_false]
        simp only [ne_eq] at ih
        omega
    · have b : ¬ x ∈ Q := fun h => a (h2 h)
      have c : ¬ T' x = 0 := h1.2 (.inl a)
      simp only [List.filter_cons, a, b, c, decide_true, decide_false, ne_eq, not_false_iff, if_true, List.length_cons, Bool.false_eq_true, if_false]
      simp only [ne_eq] at ih
      omega
theorem rds_nodup (n : Nat) (l : List Ed) (T : Nat → Int) : (rds n l T).Nodup := List.Pairwise.filter _ List.nodup_range
theorem rds_sorted (n : Nat) (l : List Ed) (T : Nat → Int) : (rds n l T).Pairwise (· < ·) := List.Pairwise.filter _ List.pairwise_lt_range
theorem filter_mem_take (n p : Nat) (l : List Ed) (T : Nat → Int) : (List.range n).filter (fun i => decide (i ∈ (rds n l T).take p)) = (rds n l T).take p := by
  obtain ⟨M, hM⟩ : ∃ M, M = List.range n := ⟨_, rfl⟩
  have hs : M.Pairwise (· < ·) := by rw [hM]; exact List.pairwise_lt_range
  unfold rds
  rw [← hM]
  clear hM
  obtain ⟨f, hf⟩ : ∃ f, f = rdy l T := ⟨_, rfl⟩
  rw [← hf]
  clear hf
  induction M generalizing p with
  | nil => simp
  | cons x M ih =>
    have hx := (List.pairwise_cons.1 hs)
    have hnx : ∀ (Q : List Nat), (∀ y ∈ Q, y ∈ M) → ¬ x ∈ Q := fun Q hQ h => by have := hx.1 x (hQ x h); omega
    by_cases e : f x = true
    · rw [List.filter_cons (p := f), if_pos e]
      cases p with
      | zero => simp
      | succ p =>
        rw [List.take_succ_cons]
        rw [List.filter_cons, if_pos (by simp)]
        congr 1
        rw [← ih p hx.2]
        apply List.filter_congr
        intro y hy
        have : ¬ y = x := by have := hx.1 y hy; omega
        rw [ih p hx.2]
        simp [this]
    · rw [List.filter_cons (p := f), if_neg e]
      rw [List.filter_cons, if_neg]
      · exact ih p hx.2
      · simp only [decide_eq_true_eq]
        exact hnx _ (fun y hy => (List.mem_filter.1 (List.mem_of_mem_take hy)).1)
theorem cnt_step (n p : Nat) (l : List Ed) (t : Int) (T : Nat → Int) (ht : t ≠ 0) : cntT n (stepT n p l t T) = cntT n T + ((rds n l T).take p).length := by
  unfold cntT
  rw [cnt_step_aux (List.range n) T (stepT n p l t T) ((rds n l T).take p), filter_mem_take]
  · intro i
    unfold stepT
    split
    · rename_i h; simp [ht, h]
    · rename_i h; simp [h]
  · intro i hi
    exact (mem_rds.1 (List.mem_of_mem_take hi)).2.1
theorem cnt_le (n : Nat) (T : Nat → Int) : cntT n T ≤ n := by
  unfold cntT
  have := List.length_filter_le (fun i => decide (T i ≠ 0)) (List.range n)
  simpa using this
theorem cnt_all {n : Nat} {T : Nat → Int} : cntT n T = n ↔ ∀ i, i < n → T i ≠ 0 := by
  unfold cntT
  constructor
  · intro h i hi
    have h2 : ((List.range n).filter (fun i => decide (T i ≠ 0))).length = (List.range n).length := by simpa using h
    have := List.length_filter_eq_length_iff.1 h2 i (List.mem_range.2 hi)
    simpa using this
  · intro h
    rw [List.filter_eq_self.2 (fun i hi => by simpa using h i (List.mem_range.1 hi))]
    simp
theorem rds_nil_iff {m : Int} {l : List Ed} (h : Dag m l) (n : Nat) (T : Nat → Int) : rds n l T = [] ↔ cntT n T = n := by
  rw [cnt_all]
  constructor
  · intro e i hi h0
    exact rds_some h n T i hi h0 e
  · exact rds_none
theorem cnt_zero (n p : Nat) (l : List Ed) : cntT n (runT n p l 0) = 0 := by
  unfold cntT runT
  simp
theorem cnt_succ (n p : Nat) (l : List Ed) (k : Nat) : cntT n (runT n p l (k + 1)) = cntT n (runT n p l k) + ((rds n l (runT n p l k)).take p).length := by
  rw [runT]
  exact cnt_step n p l _ _ (by omega)
theorem cnt_grows {m : Int} {l : List Ed} (h : Dag m l) (n p : Nat) (hp : 1 ≤ p) : ∀ k, cntT n (runT n p l k) = n ∨ k ≤ cntT n (runT n p l k) := by
  intro k
  induction k with
  | zero => exact .inr (Nat.zero_le _)
  | succ k ih =>
    have hs := cnt_succ n p l k
    have hle := cnt_le n (runT n p l (k + 1))
    by_cases e : cntT n (runT n p l k) = n
    · exact .inl (by omega)
    · have hne : rds n l (runT n p l k) ≠ [] := fun h0 => e ((rds_nil_iff h n _).1 h0)
      have : 0 < (rds n l (runT n p l k)).length := List.length_pos_iff.2 hne
      rw [List.length_take] at hs
      rcases ih with ih | ih
      · exact absurd ih e
      · exact .inr (by omega)
theorem run_ends {m : Int} {l : List Ed} (h : Dag m l) (n p : Nat) (hp : 1 ≤ p) : cntT n (timesV n p l) = n := by
  rcases cnt_grows h n p hp n with h1 | h1
  · exact h1
  · have := cnt_le n (runT n p l n)
    unfold timesV
    omega
theorem times_eq {m : Int} {l : List Ed} (h : Dag m l) (n p : Nat) (hp : 1 ≤ p) (k : Nat) (he : rds n l (runT n p l k) = []) : runT n p l k = timesV n p l := by
  unfold timesV
  by_cases hk : k ≤ n
  · exact (run_stop he n hk).symm
  · have hn : rds n l (runT n p l n) = [] := (rds_nil_iff h n _).2 (run_ends h n p hp)
    exact run_stop hn k (by omega)
theorem k_le {m : Int} {l : List Ed} (h : Dag m l) (n p : Nat) (hp : 1 ≤ p) (k : Nat) (he : rds n l (runT n p l k) ≠ []) : k < n := by
  rcases cnt_grows h n p hp k with h1 | h1
  · exact absurd ((rds_nil_iff h n _).2 h1) he
  · have h2 := cnt_le n (runT n p l k)
    by_cases e : k = n
    · subst e
      exact absurd ((rds_nil_iff h k _).2 (by omega)) he
    · omega
end Go.Proofs.Ytnhoedodnbifdaa
