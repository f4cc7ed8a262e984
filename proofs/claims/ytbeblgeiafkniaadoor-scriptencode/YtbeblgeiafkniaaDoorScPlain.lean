import Derived.WalkKit
/-! Fairness and noise, plainly. -/
namespace Go.Sc
open Go.RowKit
set_option linter.unusedVariables false
set_option maxRecDepth 20000

/-- How many of the first k picks, at their end, do not name the worker. -/
def cur (f : Nat → Nat) (w : Nat) : Nat → Nat
  | 0 => 0
  | k + 1 => if f k = w then 0 else cur f w k + 1
def best (f : Nat → Nat) (w : Nat) : Nat → Nat
  | 0 => 0
  | k + 1 => max (best f w k) (cur f w (k + 1))
/-- The greatest of the first W. -/
def top (g : Nat → Nat) : Nat → Nat
  | 0 => 0
  | W + 1 => max (top g W) (g W)
def lw (f : Nat → Nat) (W k : Nat) : Nat := top (fun w => best f w k) W
theorem top_ge (g : Nat → Nat) {W w : Nat} (h : w < W) : g w ≤ top g W := by
  induction W with
  | zero => omega
  | succ W ih =>
    simp only [top]
    by_cases e : w = W
    · subst e; omega
    · have := ih (by omega); omega
theorem top_le (g : Nat → Nat) {W m : Nat} (h : ∀ w, w < W → g w ≤ m) : top g W ≤ m := by
  induction W with
  | zero => simp [top]
  | succ W ih =>
    simp only [top]
    have := ih (fun w hw => h w (by omega))
    have := h W (by omega)
    omega
theorem top_at (g : Nat → Nat) {W : Nat} (h : 0 < W) : ∃ w, w < W ∧ top g W = g w := by
  induction W with
  | zero => omega
  | succ W ih =>
    by_cases h0 : 0 < W
    · obtain ⟨w, hw, e⟩ := ih h0
      by_cases c : g w ≤ g W
      · exact ⟨W, by omega, by simp only [top]; omega⟩
      · exact ⟨w, by omega, by simp only [top]; omega⟩
    · obtain rfl : W = 0 := by omega
      exact ⟨0, by omega, by simp [top]⟩
theorem top_congr {g g' : Nat → Nat} {W : Nat} (h : ∀ w, w < W → g w = g' w) : top g W = top g' W := by
  induction W with
  | zero => rfl
  | succ W ih => simp only [top]; rw [ih (fun w hw => h w (by omega)), h W (by omega)]
theorem cur_le (f : Nat → Nat) (w k : Nat) : cur f w k ≤ k := by
  induction k with
  | zero => simp [cur]
  | succ k ih => simp only [cur]; split <;> omega
theorem best_le (f : Nat → Nat) (w k : Nat) : best f w k ≤ k := by
  induction k with
  | zero => simp [best]
  | succ k ih => have := cur_le f w (k + 1); simp only [best]; omega
theorem cur_best (f : Nat → Nat) (w k : Nat) : cur f w k ≤ best f w k := by
  cases k with
  | zero => simp [cur]
  | succ k => simp only [best]; omega
theorem best_mono (f : Nat → Nat) (w : Nat) {j k : Nat} (h : j ≤ k) : best f w j ≤ best f w k := by
  induction k with
  | zero => obtain rfl : j = 0 := by omega
            exact Nat.le_refl _
  | succ k ih =>
    by_cases e : j = k + 1
    · subst e; exact Nat.le_refl _
    · have := ih (by omega); simp only [best]; omega
theorem best_at (f : Nat → Nat) (w k : Nat) : ∃ j, j ≤ k ∧ best f w k = cur f w j := by
  induction k with
  | zero => exact ⟨0, by omega, rfl⟩
  | succ k ih =>
    obtain ⟨j, hj, e⟩ := ih
    by_cases c : best f w k ≤ cur f w (k + 1)
    · exact ⟨k + 1, by omega, by simp only [best]; omega⟩
    · exact ⟨j, by omega, by simp only [best]; omega⟩
theorem lw_le (f : Nat → Nat) (W k : Nat) : lw f W k ≤ k := top_le _ (fun w _ => best_le f w k)
theorem lw_ge (f : Nat → Nat) {W k w j : Nat} (hw : w < W) (hj : j ≤ k) : cur f w j ≤ lw f W k := by
  have h1 := cur_best f w j
  have h2 := best_mono f w hj
  have h3 := top_ge (fun w => best f w k) hw
  unfold lw
  omega
theorem lw_at (f : Nat → Nat) {W : Nat} (k : Nat) (h : 0 < W) : ∃ w j, w < W ∧ j ≤ k ∧ lw f W k = cur f w j := by
  obtain ⟨w, hw, e⟩ := top_at (fun w => best f w k) h
  obtain ⟨j, hj, e2⟩ := best_at f w k
  exact ⟨w, j, hw, hj, by unfold lw; rw [e]; exact e2⟩
theorem cur_congr {f f' : Nat → Nat} {k : Nat} (h : ∀ i, i < k → f i = f' i) (w : Nat) : cur f w k = cur f' w k := by
  induction k with
  | zero => rfl
  | succ k ih => simp only [cur]; rw [ih (fun i hi => h i (by omega)), h k (by omega)]
theorem best_congr {f f' : Nat → Nat} {k : Nat} (h : ∀ i, i < k → f i = f' i) (w : Nat) : best f w k = best f' w k := by
  induction k with
  | zero => rfl
  | succ k ih => simp only [best]; rw [ih (fun i hi => h i (by omega)), cur_congr h w]
theorem lw_congr {f f' : Nat → Nat} {k : Nat} (h : ∀ i, i < k → f i = f' i) (W : Nat) : lw f W k = lw f' W k := top_congr (fun w _ => best_congr h w)
theorem lw_mono (f : Nat → Nat) (W : Nat) {j k : Nat} (h : j ≤ k) : lw f W j ≤ lw f W k := by
  by_cases h0 : 0 < W
  · obtain ⟨w, i, hw, hi, e⟩ := lw_at f j h0
    rw [e]
    exact lw_ge f hw (by omega)
  · obtain rfl : W = 0 := by omega
    simp [lw, top]
/-- The program's way: a wait is looked at where it ends. -/
theorem lw_succ (f : Nat → Nat) {W k m : Nat} (hf : f k < W) (h : max m (top (fun w => cur f w k) W) = lw f W k) :
    max (max m (cur f (f k) k)) (top (fun w => cur f w (k + 1)) W) = lw f W (k + 1) := by
  have e1 : cur f (f k) k ≤ top (fun w => cur f w k) W := top_ge (fun w => cur f w k) hf
  have e2 : top (fun w => cur f w k) W ≤ max (cur f (f k) k) (top (fun w => cur f w (k + 1)) W) := by
    refine top_le _ (fun w hw => ?_)
    have h1 : cur f w (k + 1) ≤ top (fun w => cur f w (k + 1)) W := top_ge (fun w => cur f w (k + 1)) hw
    by_cases c : f k = w
    · subst c; omega
    · have : cur f w (k + 1) = cur f w k + 1 := by simp only [cur]; rw [if_neg c]
      omega
  have e3 : lw f W (k + 1) = max (lw f W k) (top (fun w => cur f w (k + 1)) W) := by
    apply Nat.le_antisymm
    · refine top_le _ (fun w hw => ?_)
      have h1 := top_ge (fun w => cur f w (k + 1)) hw
      have h2 := top_ge (fun w => best f w k) hw
      unfold lw
      simp only [best] at h1 h2 ⊢
      omega
    · have h1 := lw_mono f W (show k ≤ k + 1 by omega)
      have h2 : top (fun w => cur f w (k + 1)) W ≤ lw f W (k + 1) := top_le _ (fun w hw => lw_ge f hw (Nat.le_refl _))
      omega
  omega
theorem lw_zero (f : Nat → Nat) (W : Nat) : lw f W 0 = 0 := by
  have := lw_le f W 0
  omega
theorem top_zero (W : Nat) (f : Nat → Nat) : top (fun w => cur f w 0) W = 0 := by
  have : top (fun w => cur f w 0) W ≤ 0 := top_le _ (fun w _ => cur_le f w 0)
  omega
/-- Who is first among those with the most. -/
def lg (g : Nat → Nat) : Nat → Nat
  | 0 => 0
  | n + 1 => if g (lg g n) < g n then n else lg g n
theorem lg_lt (g : Nat → Nat) {n : Nat} (h : 0 < n) : lg g n < n := by
  induction n with
  | zero => omega
  | succ n ih =>
    simp only [lg]
    split
    · omega
    · by_cases h0 : 0 < n
      · have := ih h0; omega
      · obtain rfl : n = 0 := by omega
        simp [lg]
theorem lg_le (g : Nat → Nat) (n : Nat) : lg g n ≤ n := by
  cases n with
  | zero => simp [lg]
  | succ n => have := lg_lt g (show 0 < n + 1 by omega); omega
theorem lg_ge (g : Nat → Nat) {n w : Nat} (h : w < n) : g w ≤ g (lg g n) := by
  induction n with
  | zero => omega
  | succ n ih =>
    simp only [lg]
    by_cases e : w = n
    · subst e; split <;> omega
    · have := ih (by omega)
      split <;> omega
theorem lg_first (g : Nat → Nat) {n w : Nat} (h : w < lg g n) : g w < g (lg g n) := by
  induction n with
  | zero => simp [lg] at h
  | succ n ih =>
    simp only [lg] at h ⊢
    split
    · rename_i c
      rw [if_pos c] at h
      have := lg_ge g h
      omega
    · rename_i c
      rw [if_neg c] at h
      exact ih h
theorem lg_is (g : Nat → Nat) {n w : Nat} (h : w < n) (h1 : ∀ j, j < n → g j ≤ g w) (h2 : ∀ j, j < w → g j < g w) : lg g n = w := by
  have a := lg_lt g (show 0 < n by omega)
  have b := h1 _ a
  have c := lg_ge g h
  by_cases e : lg g n < w
  · have := h2 _ e; omega
  · by_cases e2 : w < lg g n
    · have := lg_first g e2; omega
    · omega
theorem lg_top (g : Nat → Nat) {n : Nat} (h : 0 < n) : g (lg g n) = top g n := by
  apply Nat.le_antisymm
  · exact top_ge g (lg_lt g h)
  · exact top_le g (fun w hw => lg_ge g hw)
theorem lg_congr {g g' : Nat → Nat} {n : Nat} (h : ∀ w, w < n → g w = g' w) : lg g n = lg g' n := by
  induction n with
  | zero => rfl
  | succ n ih =>
    have e := ih (fun w hw => h w (by omega))
    by_cases h0 : 0 < n
    · have l := lg_lt g' h0
      simp only [lg]
      rw [e, h n (by omega), h _ (by omega : lg g' n < n + 1)]
    · obtain rfl : n = 0 := by omega
      show (if g 0 < g 0 then 0 else 0) = (if g' 0 < g' 0 then 0 else 0)
      simp

/-- The seeded row. -/
def nx (x : Int) : Int := wrap64 (wrap64 (x * 6543210987654321773) + 1234567890123456789)
def num (x : Int) : Int := x / 8589934592
def seedK (s : Int) : Nat → Int
  | 0 => s
  | k + 1 => nx (seedK s k)
/-- What is known behind so many picks: the row's number, the waits. -/
structure Nz where
  x : Int
  c : Nat → Nat
def Nz.pick (s : Nz) (W : Nat) (D : Int) : Nat := if D ≤ (s.c (lg s.c W) : Int) then lg s.c W else (num (nx s.x) % (W : Int)).toNat
def Nz.go (s : Nz) (W : Nat) (D : Int) : Nz := ⟨nx (nx s.x), fun w => if s.pick W D = w then 0 else s.c w + 1⟩
def nzK (seed : Int) (W : Nat) (D : Int) : Nat → Nz
  | 0 => ⟨seed, fun _ => 0⟩
  | k + 1 => (nzK seed W D k).go W D
def pickK (seed : Int) (W : Nat) (D : Int) (k : Nat) : Nat := (nzK seed W D k).pick W D
def drawK (seed : Int) (W : Nat) (D : Int) (k : Nat) : Int := num (nx (nx (nzK seed W D k).x))
theorem nzK_x (seed : Int) (W : Nat) (D : Int) (k : Nat) : (nzK seed W D k).x = seedK seed (2 * k) := by
  induction k with
  | zero => rfl
  | succ k ih => show nx (nx (nzK seed W D k).x) = _; rw [ih]; rfl
theorem nzK_c (seed : Int) (W : Nat) (D : Int) (k w : Nat) : (nzK seed W D k).c w = cur (pickK seed W D) w k := by
  induction k with
  | zero => rfl
  | succ k ih =>
    show (if (nzK seed W D k).pick W D = w then 0 else (nzK seed W D k).c w + 1) = _
    rw [ih]
    rfl
theorem pick_lt (s : Nz) {W : Nat} (D : Int) (h : 0 < W) : s.pick W D < W := by
  unfold Nz.pick
  split
  · exact lg_lt _ h
  · have h1 := Int.emod_nonneg (num (nx s.x)) (b := (W : Int)) (by omega)
    have h2 := Int.emod_lt_of_pos (num (nx s.x)) (b := (W : Int)) (by omega)
    omega
theorem num_range (x : Int) (h1 : -9223372036854775808 ≤ x) (h2 : x ≤ 9223372036854775807) : -1073741824 ≤ num x ∧ num x ≤ 1073741823 := by unfold num; omega
/-- How many of the first W have at least m. -/
def many (g : Nat → Nat) (m : Int) : Nat → Nat
  | 0 => 0
  | W + 1 => many g m W + if m ≤ (g W : Int) then 1 else 0
theorem many_le (g : Nat → Nat) (m : Int) (W : Nat) : many g m W ≤ W := by
  induction W with
  | zero => simp [many]
  | succ W ih => simp only [many]; split <;> omega
theorem many_none (g : Nat → Nat) (m : Int) (W : Nat) (h : ∀ w, w < W → (g w : Int) < m) : many g m W = 0 := by
  induction W with
  | zero => rfl
  | succ W ih =>
    have := h W (by omega)
    simp only [many]
    rw [ih (fun w hw => h w (by omega)), if_neg (by omega)]
theorem many_pos (g : Nat → Nat) (m : Int) {W w : Nat} (hw : w < W) (h : m ≤ (g w : Int)) : 0 < many g m W := by
  induction W with
  | zero => omega
  | succ W ih =>
    simp only [many]
    by_cases e : w = W
    · subst e; rw [if_pos h]; omega
    · have := ih (by omega); omega
/-- One is set back, all others wait one longer. -/
theorem many_step (g : Nat → Nat) (p : Nat) (m : Int) (hm : 1 ≤ m) (W : Nat) : many (fun w => if p = w then 0 else g w + 1) m W + (if p < W ∧ m - 1 ≤ (g p : Int) then 1 else 0) = many g (m - 1) W := by
  induction W with
  | zero => simp [many]
  | succ W ih =>
    simp only [many]
    by_cases e : p = W
    · subst e
      rw [if_neg (by omega)] at ih
      have c0 : (if m ≤ (((if p = p then 0 else g p + 1 : Nat)) : Int) then 1 else 0 : Nat) = 0 := by simp; omega
      rw [c0]
      by_cases c : m - 1 ≤ (g p : Int)
      · rw [if_pos ⟨by omega, c⟩, if_pos c]; omega
      · rw [if_neg (fun h => c h.2), if_neg c]; omega
    · have c0 : (if m ≤ (((if p = W then 0 else g W + 1 : Nat)) : Int) then 1 else 0 : Nat) = (if m ≤ ((g W + 1 : Nat) : Int) then 1 else 0) := by simp [e]
      rw [c0]
      have c1 : (m ≤ ((g W + 1 : Nat) : Int)) ↔ (m - 1 ≤ (g W : Int)) := by omega
      have c2 : (p < W + 1 ∧ m - 1 ≤ (g p : Int)) ↔ (p < W ∧ m - 1 ≤ (g p : Int)) := by constructor <;> (rintro ⟨a, b⟩; exact ⟨by omega, b⟩)
      simp only [c1, c2]
      omega
/-- Of those who have waited D + j, there are at most W - j. -/
theorem waits_few (seed : Int) (W : Nat) (D : Int) (hD : 0 ≤ D) (k : Nat) : ∀ j : Nat, 1 ≤ j → j ≤ W → many (nzK seed W D k).c (D + j) W + j ≤ W := by
  induction k with
  | zero =>
    intro j h1 h2
    rw [many_none _ _ _ (fun w _ => by show ((0 : Nat) : Int) < _; omega)]
    omega
  | succ k ih =>
    intro j h1 h2
    have e := many_step (nzK seed W D k).c ((nzK seed W D k).pick W D) (D + j) (by omega) W
    have e2 : many ((nzK seed W D k).go W D).c (D + j) W = many (fun w => if (nzK seed W D k).pick W D = w then 0 else (nzK seed W D k).c w + 1) (D + j) W := rfl
    show many ((nzK seed W D k).go W D).c (D + j) W + j ≤ W
    rw [e2]
    generalize many (fun w => if (nzK seed W D k).pick W D = w then 0 else (nzK seed W D k).c w + 1) (D + j) W = M at *
    have hp := pick_lt (nzK seed W D k) D (show 0 < W by omega)
    by_cases c : D ≤ ((nzK seed W D k).c (lg (nzK seed W D k).c W) : Int)
    · have hpk : (nzK seed W D k).pick W D = lg (nzK seed W D k).c W := by unfold Nz.pick; rw [if_pos c]
      rw [hpk] at e hp
      by_cases j1 : j = 1
      · subst j1
        rw [if_pos ⟨hp, by omega⟩] at e
        have := many_le (nzK seed W D k).c (D + (1 : Nat) - 1) W
        omega
      · have hi := ih (j - 1) (by omega) (by omega)
        have hj : D + (j : Int) - 1 = D + ((j - 1 : Nat) : Int) := by omega
        rw [hj] at e
        by_cases c2 : D + ((j - 1 : Nat) : Int) ≤ ((nzK seed W D k).c (lg (nzK seed W D k).c W) : Int)
        · rw [if_pos ⟨hp, c2⟩] at e
          omega
        · have hz : many (nzK seed W D k).c (D + ((j - 1 : Nat) : Int)) W = 0 := many_none _ _ _ (fun w hw => by have := lg_ge (nzK seed W D k).c hw; omega)
          rw [hz] at e
          omega
    · have hz : many (nzK seed W D k).c (D + (j : Int) - 1) W = 0 := many_none _ _ _ (fun w hw => by have := lg_ge (nzK seed W D k).c hw; omega)
      rw [hz] at e
      omega
theorem noise_fair (seed : Int) (W : Nat) (D : Int) (hD : 0 ≤ D) (h0 : 0 < W) (k : Nat) : (lw (pickK seed W D) W k : Int) < D + W := by
  obtain ⟨w, j, hw, hj, e⟩ := lw_at (pickK seed W D) k h0
  rw [e, ← nzK_c]
  have h := waits_few seed W D hD j W (by omega) (Nat.le_refl _)
  by_cases c : ((nzK seed W D j).c w : Int) < D + W
  · exact c
  · have := many_pos (nzK seed W D j).c (D + W) hw (by omega)
    omega
/-- The narrowest window: the workers in turn. -/
theorem turns_c (seed : Int) (W : Nat) (hW : 0 < W) (k : Nat) : (∀ w, w < W → w < k % W → (nzK seed W 0 k).c w + 1 + w = k % W) ∧ (∀ w, w < W → k % W ≤ w → (k < W → (nzK seed W 0 k).c w = k) ∧ (W ≤ k → (nzK seed W 0 k).c w + 1 + w = k % W + W)) ∧ pickK seed W 0 k = k % W := by
  have key : ∀ k, (∀ w, w < W → w < k % W → (nzK seed W 0 k).c w + 1 + w = k % W) ∧ (∀ w, w < W → k % W ≤ w → (k < W → (nzK seed W 0 k).c w = k) ∧ (W ≤ k → (nzK seed W 0 k).c w + 1 + w = k % W + W)) → pickK seed W 0 k = k % W := by
    intro k ⟨h1, h2⟩
    have hm := Nat.mod_lt k hW
    unfold pickK Nz.pick
    rw [if_pos (by omega)]
    refine lg_is _ hm (fun j hj => ?_) (fun j hj => ?_)
    · by_cases c : k < W
      · have e := (h2 (k % W) hm (Nat.le_refl _)).1 c
        by_cases d : j < k % W
        · have := h1 j hj d
          rw [Nat.mod_eq_of_lt c] at *
          omega
        · have := (h2 j hj (by omega)).1 c
          omega
      · have e := (h2 (k % W) hm (Nat.le_refl _)).2 (by omega)
        by_cases d : j < k % W
        · have := h1 j hj d; omega
        · have := (h2 j hj (by omega)).2 (by omega)
          omega
    · have := h1 j (by omega) hj
      by_cases c : k < W
      · have e := (h2 (k % W) hm (Nat.le_refl _)).1 c
        rw [Nat.mod_eq_of_lt c] at *
        omega
      · have e := (h2 (k % W) hm (Nat.le_refl _)).2 (by omega)
        omega
  induction k with
  | zero =>
    have h : (∀ w, w < W → w < 0 % W → (nzK seed W 0 0).c w + 1 + w = 0 % W) ∧ (∀ w, w < W → 0 % W ≤ w → (0 < W → (nzK seed W 0 0).c w = 0) ∧ (W ≤ 0 → (nzK seed W 0 0).c w + 1 + w = 0 % W + W)) := by
      refine ⟨fun w _ h => by simp at h, fun w _ _ => ⟨fun _ => rfl, fun h => by omega⟩⟩
    exact ⟨h.1, h.2, key 0 h⟩
  | succ k ih =>
    obtain ⟨h1, h2, h3⟩ := ih
    have hc : ∀ w, (nzK seed W 0 (k + 1)).c w = if k % W = w then 0 else (nzK seed W 0 k).c w + 1 := by
      intro w
      rw [← h3]
      rfl
    have hm := Nat.mod_lt k hW
    have hs : (k + 1) % W = if k % W + 1 = W then 0 else k % W + 1 := by
      rw [Nat.add_mod]
      by_cases c : k % W + 1 = W
      · rw [if_pos c]
        by_cases c1 : W = 1
        · subst c1; omega
        · rw [Nat.mod_eq_of_lt (show 1 < W by omega), c]; simp
      · rw [if_neg c]
        rw [Nat.mod_eq_of_lt (show 1 < W by omega), Nat.mod_eq_of_lt (by omega)]
    have hkW : k < W → k % W = k := Nat.mod_eq_of_lt
    have hkW2 : W ≤ k + 1 → k < W → k % W + 1 = W := by intro a b; rw [hkW b]; omega
    have h : (∀ w, w < W → w < (k + 1) % W → (nzK seed W 0 (k + 1)).c w + 1 + w = (k + 1) % W) ∧ (∀ w, w < W → (k + 1) % W ≤ w → (k + 1 < W → (nzK seed W 0 (k + 1)).c w = k + 1) ∧ (W ≤ k + 1 → (nzK seed W 0 (k + 1)).c w + 1 + w = (k + 1) % W + W)) := by
      refine ⟨fun w hw hlt => ?_, fun w hw hge => ⟨fun hlt => ?_, fun hle => ?_⟩⟩
      · rw [hc]
        by_cases c : k % W + 1 = W
        · rw [hs, if_pos c] at hlt; omega
        · rw [hs, if_neg c] at hlt ⊢
          by_cases e : k % W = w
          · rw [if_pos e]; omega
          · rw [if_neg e]
            have := h1 w hw (by omega)
            omega
      · rw [hc]
        have hk := hkW (by omega)
        rw [hs, if_neg (by omega)] at hge
        rw [if_neg (by omega)]
        have := (h2 w hw (by omega)).1 (by omega)
        omega
      · rw [hc]
        by_cases c : k % W + 1 = W
        · rw [hs, if_pos c]
          by_cases e : k % W = w
          · rw [if_pos e]; omega
          · rw [if_neg e]
            have := h1 w hw (by omega)
            omega
        · rw [hs, if_neg c] at hge ⊢
          rw [if_neg (by omega)]
          have := (h2 w hw (by omega)).2 (by
            by_cases d : k < W
            · have := hkW2 hle d; omega
            · omega)
          omega
    exact ⟨h.1, h.2, key _ h⟩
theorem turns_pick (seed : Int) (W : Nat) (hW : 0 < W) (k : Nat) : pickK seed W 0 k = k % W := (turns_c seed W hW k).2.2
/-- Behind the first round of turns the longest wait is W - 1. -/
theorem turns_lw (W : Nat) (hW : 0 < W) (k : Nat) (hk : W ≤ k) : lw (fun i => i % W) W k + 1 = W := by
  have e : lw (fun i => i % W) W k = lw (pickK 0 W 0) W k := lw_congr (fun i _ => (turns_pick 0 W hW i).symm) W
  have h1 := noise_fair 0 W 0 (by omega) hW k
  have h2 := lw_ge (pickK 0 W 0) (W := W) (k := k) (w := W - 1) (j := W - 1) (by omega) (by omega)
  rw [← nzK_c] at h2
  by_cases c : W = 1
  · subst c
    omega
  · have := ((turns_c 0 W hW (W - 1)).2.1 (W - 1) (by omega) (by rw [Nat.mod_eq_of_lt (by omega)]; omega)).1 (by omega)
    omega
end Go.Sc
