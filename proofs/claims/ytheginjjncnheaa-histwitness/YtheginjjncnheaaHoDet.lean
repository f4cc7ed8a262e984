import Derived.Test.YtheginjjncnheaaHkPlain
/-! What the plain deque holds at a state of the search goes by the state's counts alone; so a search that found nothing tells that there is no order. -/
namespace Go.Proofs.Ytheginjjncnheaa
set_option linter.unusedVariables false
set_option maxRecDepth 20000
set_option linter.unusedSimpArgs false
open Go.RowKit Go.HeapKit

/-- What the owner's calls leave, had nobody stolen. -/
def effV (V : List Int) (c : Cl) : List Int := if c.kind = 0 then (if c.code = 3 ∨ c.code = 6 then V else V ++ [c.arg]) else if c.code = 4 ∨ c.code = 0 then V.dropLast else V
def effS (c : Cl) : Bool := decide (c.code = 4 ∨ c.code = 0)
def ownV (l : List Cl) (k : Nat) : List Int := ((ownL l 0).take k).foldl (fun V z => effV V (clAt l z)) []
def stI (l : List Cl) (x : C4) (i : Nat) : Nat := ((ownL l i).take (x.at i)).countP (fun z => effS (clAt l z))
def stN (l : List Cl) (x : C4) : Nat := stI l x 1 + stI l x 2 + stI l x 3
theorem take_nxt {l : List Cl} {x : C4} {i : Nat} {j : Int} (hn : nxt l x i = some j) : (ownL l i).take (x.at i + 1) = (ownL l i).take (x.at i) ++ [j] := by
  rw [List.take_add_one]
  unfold nxt at hn
  rw [hn]
  rfl
theorem stI_same {l : List Cl} {x : C4} {i k : Nat} (hi : i < 4) (hk : k < 4) (h : k ≠ i) : stI l (x.inc i) k = stI l x k := by
  unfold stI
  rw [C4.at_inc x hi hk, if_neg h]
theorem stI_more {l : List Cl} {x : C4} {i q : Nat} {y : Cl} (hi : i < 4) (hn : nxt l x i = some (q : Int)) (hy : l[q]? = some y) : stI l (x.inc i) i = stI l x i + (if effS y then 1 else 0) := by
  unfold stI
  rw [C4.at_inc x hi hi, if_pos rfl, take_nxt hn, List.countP_append, List.countP_singleton, clAt_of hy]
theorem ownV_more {l : List Cl} {x : C4} {q : Nat} {y : Cl} (hn : nxt l x 0 = some (q : Int)) (hy : l[q]? = some y) : ownV l ((x.inc 0).at 0) = effV (ownV l (x.at 0)) y := by
  unfold ownV
  rw [C4.at_inc x (by omega) (by omega), if_pos rfl, take_nxt hn, List.foldl_append]
  simp only [List.foldl_cons, List.foldl_nil, clAt_of hy]
theorem drop_last {V : List Int} {s : Nat} (h : s < V.length) : (V.drop s).dropLast = V.dropLast.drop s := by
  rw [List.dropLast_eq_take, List.dropLast_eq_take, List.length_drop, List.drop_take]
  congr 1
  omega
theorem owner_step {most : Nat} {V : List Int} {s : Nat} {y : Cl} (hs : s ≤ V.length) (hk : y.kind = 0 ∨ y.kind = 1) (ha : alwB most (V.drop s) y = true) : alwZ most (V.drop s) y = (effV V y).drop s ∧ s ≤ (effV V y).length := by
  unfold alwB at ha
  unfold alwZ effV
  by_cases h6 : y.code = 6
  · rw [if_pos h6]
    rcases hk with e | e
    · simp [e, h6, hs]
    · simp [e, h6, hs]
  · rw [if_neg h6] at ha ⊢
    unfold ansD at ha ⊢
    rcases hk with hk | hk
    · simp only [hk, if_true] at ha ⊢
      by_cases hm : most ≤ (V.drop s).length
      · simp only [hm, if_true, decide_eq_true_iff] at ha ⊢
        have h3 : y.code = 3 := by
          by_cases e0 : y.code = 0
          · simp [e0] at ha
          · by_cases e4 : y.code = 4
            · simp [e4] at ha
            · simp [e0, e4] at ha
              omega
        simp [h3, hs]
      · simp only [hm, if_false, decide_eq_true_iff] at ha ⊢
        have h3 : y.code ≠ 3 := by
          intro e
          rw [e] at ha
          simp at ha
        rw [if_neg (by omega), List.drop_append_of_le_length hs]
        exact ⟨rfl, by simp; omega⟩
    · have hk0 : ¬ y.kind = 0 := by omega
      simp only [hk0, if_false] at ha ⊢
      simp only [hk, if_true] at ha ⊢
      by_cases hz : V.drop s = []
      · simp only [hz, if_true, decide_eq_true_iff] at ha ⊢
        have h5 : ¬ (y.code = 4 ∨ y.code = 0) := by
          rintro (e | e)
          · rw [e] at ha
            simp at ha
          · rw [e] at ha
            simp at ha
        rw [if_neg h5]
        exact ⟨hz.symm, hs⟩
      · have hlt : s < V.length := by
          rcases Nat.lt_or_ge s V.length with h | h
          · exact h
          · exact absurd (List.drop_eq_nil_of_le h) hz
        simp only [hz, if_false, decide_eq_true_iff] at ha ⊢
        have h5 : y.code = 4 ∨ y.code = 0 := by
          by_cases e0 : y.code = 0
          · exact .inr e0
          · by_cases e4 : y.code = 4
            · exact .inl e4
            · simp [e0, e4] at ha
              omega
        rw [if_pos h5]
        exact ⟨drop_last hlt, by simp; omega⟩
theorem thief_step {most : Nat} {V : List Int} {s : Nat} {y : Cl} (hs : s ≤ V.length) (hk : y.kind ≠ 0 ∧ y.kind ≠ 1) (ha : alwB most (V.drop s) y = true) : alwZ most (V.drop s) y = V.drop (s + (if effS y then 1 else 0)) ∧ s + (if effS y then 1 else 0) ≤ V.length := by
  unfold alwB at ha
  unfold alwZ effS
  by_cases h6 : y.code = 6
  · rw [if_pos h6]
    simp [h6, hs]
  · rw [if_neg h6] at ha ⊢
    unfold ansD at ha ⊢
    simp only [hk.1, hk.2, if_false] at ha ⊢
    cases hz : V.drop s with
    | nil =>
      rw [hz] at ha
      simp only [decide_eq_true_iff] at ha ⊢
      have h5 : ¬ (y.code = 4 ∨ y.code = 0) := by
        rintro (e | e)
        · rw [e] at ha
          simp at ha
        · rw [e] at ha
          simp at ha
      rw [if_neg h5]
      exact ⟨hz.symm, hs⟩
    | cons z r =>
      rw [hz] at ha
      simp only [decide_eq_true_iff] at ha ⊢
      have h5 : y.code = 4 ∨ y.code = 0 := by
        by_cases e0 : y.code = 0
        · exact .inr e0
        · by_cases e4 : y.code = 4
          · exact .inl e4
          · simp [e0, e4] at ha
            omega
      rw [if_pos h5]
      have hlt : s < V.length := by
        rcases Nat.lt_or_ge s V.length with h | h
        · exact h
        · rw [List.drop_eq_nil_of_le h] at hz
          cases hz
      refine ⟨?_, by omega⟩
      rw [← List.drop_drop, hz]
      rfl
theorem mk_owner {k : Int} (h : mkB ((0 : Nat) : Int) k = true) : k = 0 ∨ k = 1 := by
  unfold mkB at h
  split at h
  · assumption
  · split at h
    · rw [decide_eq_true_iff] at h
      omega
    · cases h
theorem mk_thief {who k : Int} (h : mkB who k = true) (hw : who ≠ 0) : k ≠ 0 ∧ k ≠ 1 := by
  unfold mkB at h
  split at h
  · rw [decide_eq_true_iff] at h
    exact absurd h hw
  · omega
theorem Rch.holds {l : List Cl} {most : Nat} (hh : histB l = true) {x : C4} {zs : List Int} (h : Rch l most x zs) : zs = (ownV l (x.at 0)).drop (stN l x) ∧ stN l x ≤ (ownV l (x.at 0)).length := by
  induction h with
  | nil => exact ⟨rfl, Nat.zero_le _⟩
  | @more x zs i q y h1 hi hn hy hin ha ih =>
    obtain ⟨e, hle⟩ := ih
    obtain ⟨q', eq, _, hw⟩ := nxt_is hn
    have eq' : q' = q := by omega
    subst eq'
    rw [clAt_of hy] at hw
    obtain ⟨_, _, _, _, _, _, hmk⟩ := fits_ended (hist_fits hh hy)
    rw [e] at ha ⊢
    by_cases i0 : i = 0
    · subst i0
      rw [ownV_more hn hy]
      have hst : stN l (x.inc 0) = stN l x := by
        unfold stN
        rw [stI_same (by omega) (by omega) (by omega), stI_same (by omega) (by omega) (by omega), stI_same (by omega) (by omega) (by omega)]
      rw [hst]
      exact owner_step hle (by rw [hw] at hmk; exact mk_owner hmk) ha
    · have hown : (x.inc i).at 0 = x.at 0 := by rw [C4.at_inc x hi (by omega), if_neg (by omega)]
      have hst : stN l (x.inc i) = stN l x + (if effS y then 1 else 0) := by
        have hm := stI_more hi hn hy
        unfold stN
        have hcase : i = 1 ∨ i = 2 ∨ i = 3 := by omega
        rcases hcase with rfl | rfl | rfl
        · rw [hm, stI_same (k := 2) (by omega) (by omega) (by omega), stI_same (k := 3) (by omega) (by omega) (by omega)]; omega
        · rw [hm, stI_same (k := 1) (by omega) (by omega) (by omega), stI_same (k := 3) (by omega) (by omega) (by omega)]; omega
        · rw [hm, stI_same (k := 1) (by omega) (by omega) (by omega), stI_same (k := 2) (by omega) (by omega) (by omega)]; omega
      rw [hown, hst]
      exact thief_step hle (mk_thief hmk (by omega)) ha
theorem Rch.same {l : List Cl} {most : Nat} (hh : histB l = true) {x : C4} {zs zs' : List Int} (h : Rch l most x zs) (h' : Rch l most x zs') : zs = zs' := (h.holds hh).1.trans (h'.holds hh).1.symm
theorem Shut.none {l : List Cl} {most : Nat} (hh : histB l = true) (h : Shut l most) {x : C4} {zs : List Int} (hr : Rch l most x zs) : thrB l x 4 = false := by
  obtain ⟨Q, h0, hQ⟩ := h
  have hq : Q x := by
    induction hr with
    | nil => exact h0
    | @more x zs i q y h1 hi hn hy hin ha ih =>
      obtain ⟨_, zs', hr', hs⟩ := hQ x ih
      rw [h1.same hh hr'] at ha
      exact hs i hi q y hn hy hin ha
  exact (hQ x hq).1
end Go.Proofs.Ytheginjjncnheaa
