import Derived.Test.YtdiabpoafennlaaHyCount
/-! A reducer's play, plainly: its sizes. -/
namespace Go.Proofs.Ytdiabpoafennlaa
set_option linter.unusedVariables false
set_option maxRecDepth 20000
set_option linter.unusedSimpArgs false

def yes : Nat → Prop := fun _ => True
/-- What holds behind n deeds, with d tasks above the current one. -/
structure Okd (n d : Nat) (P : List Int) (s : HS (List Int)) : Prop where
  inv : HInv P s
  ct : CInv yes n s
  nv : s.m.vs.length ≤ n + 1
  ni : s.ini.length = d
  nd : d ≤ n
  nl : s.lk.length ≤ n
  np : P.length ≤ n
  ns : s.spn ≤ n
  nt : s.sp ≤ n ∧ ∀ t ∈ s.ini, t.1 ≤ n
theorem okd_start (picks : List Int) : Okd 0 0 [] (HS.start listK picks) :=
  ⟨hinv_start picks, cinv_start _ picks, Nat.le_refl _, rfl, Nat.le_refl _, Nat.le_refl _, Nat.le_refl _, Nat.le_refl _, Nat.le_refl _, by intro t ht; simp [HS.start] at ht⟩
theorem Okd.rows {n d : Nat} {P : List Int} {s : HS (List Int)} (h : Okd n d P s) : s.m.mg.length + s.m.row.length ≤ n + 1 ∧ 0 < s.m.row.length ∧ s.hand < s.m.vs.length ∧ (s.m.vs.getD s.hand []).length ≤ n := by
  have h1 := h.ct.ct.mg.cnt
  rw [List.length_append] at h1
  have h2 := h.nv
  have hne := h.inv.lk.ne
  have hs := hand_split hne
  have hin : s.hand ∈ preL s.ini ++ s.m.row := by
    rw [List.mem_append]
    right
    rw [hs]
    exact List.mem_append_right _ (List.mem_singleton.2 rfl)
  refine ⟨by omega, List.length_pos_iff.2 hne, h.inv.line.low _ hin, ?_⟩
  obtain ⟨A, B, hAB⟩ := List.append_of_mem hin
  have hc := h.inv.line.cat
  rw [hAB, catL_app, catL_cons] at hc
  have hl := congrArg List.length hc
  simp only [List.length_append] at hl
  have := h.np
  omega
theorem Okd.parent {n d : Nat} {P : List Int} {s : HS (List Int)} (h : Okd n d P s) {t : Nat × List Nat} {ini : List (Nat × List Nat)} (hi : s.ini = t :: ini) : t.2.length ≤ n + 2 := by
  have h1 := h.ct.ct.mg.cnt
  rw [List.length_append, hi, preL, List.length_append, List.length_dropLast] at h1
  have h2 := h.nv
  omega
def nextD (k : Int) (d : Nat) : Nat := if k = 0 then d + 1 else if k = 1 then d - 1 else d
theorem Okd.deed {n d : Nat} {P : List Int} {s : HS (List Int)} (h : Okd n d P s) (st : List Bool) (k loc : Int) (hk : k = 0 ∨ k = 1 ∨ k = 2 ∨ k = 3 ∨ k = 4) (hd : ¬ (k = 1 ∧ d = 0)) : Okd (n + 1) (nextD k d) (P ++ if k = 4 then [loc] else []) (s.deed listK st n k loc) := by
  have h1 := hinv_deed st n k loc h.inv
  have h2 := (cinv_deed st n k loc hk (fun _ => trivial) h.ct).up (Nat.le_succ n)
  have hP : (P ++ if k = 4 then [loc] else []).length ≤ n + 1 := by
    rw [List.length_append]
    have := h.np
    split <;> simp <;> omega
  have hnv := h.nv
  have hni := h.ni
  have hnd := h.nd
  have hnl := h.nl
  have hns := h.ns
  have hnt := h.nt
  rcases hk with rfl | rfl | rfl | rfl | rfl
  · have e : s.deed listK st n 0 loc = ⟨{ s.m with row := [s.hand] }, s.spn, (s.sp, s.m.row) :: s.ini, s.spn + 1, s.lk⟩ := by simp [HS.deed]
    refine ⟨h1, h2, ?_, ?_, ?_, ?_, hP, ?_, ?_, ?_⟩
    · rw [e]; show s.m.vs.length ≤ _; omega
    · rw [e]; simp [nextD, hni]
    · simp [nextD]; omega
    · rw [e]; show s.lk.length ≤ _; omega
    · rw [e]; show s.spn + 1 ≤ _; omega
    · rw [e]; show s.spn ≤ _; omega
    · rw [e]
      intro t ht
      rcases List.mem_cons.1 ht with rfl | ht
      · exact Nat.le_trans hnt.1 (Nat.le_succ n)
      · exact Nat.le_trans (hnt.2 t ht) (Nat.le_succ n)
  · have e : s.deed listK st n 1 loc = s.back listK st (s.m.all listK n) := by simp [HS.deed]
    obtain ⟨t, ini, hi⟩ : ∃ t ini, s.ini = t :: ini := by
      cases hi : s.ini with
      | nil => rw [hi] at hni; simp at hni; omega
      | cons t ini => exact ⟨t, ini, rfl⟩
    have hv := vs_all listK n s.m
    rw [hi] at hni hnt
    simp at hni
    by_cases hs : st.getD s.sp false = true
    · have e2 : s.back listK st (s.m.all listK n) = ⟨{ s.m.all listK n with vs := (s.m.all listK n).vs ++ [listK.fresh], row := t.2 ++ [(s.m.all listK n).vs.length] }, t.1, ini, s.spn, s.lk⟩ := by
        unfold HS.back
        rw [hi]
        simp only
        rw [if_pos hs]
      refine ⟨h1, h2, ?_, ?_, ?_, ?_, hP, ?_, ?_, ?_⟩
      · rw [e, e2]; simp [hv]; omega
      · rw [e, e2]; simp [nextD]; omega
      · simp [nextD]; omega
      · rw [e, e2]; show s.lk.length ≤ _; omega
      · rw [e, e2]; show s.spn ≤ _; omega
      · rw [e, e2]; exact Nat.le_trans (hnt.2 t (by simp)) (Nat.le_succ n)
      · rw [e, e2]; intro t' ht; exact Nat.le_trans (hnt.2 t' (List.mem_cons_of_mem _ ht)) (Nat.le_succ n)
    · have e2 : s.back listK st (s.m.all listK n) = ⟨{ s.m.all listK n with row := t.2 }, t.1, ini, s.spn, s.lk⟩ := by
        unfold HS.back
        rw [hi]
        simp only
        rw [if_neg hs]
      refine ⟨h1, h2, ?_, ?_, ?_, ?_, hP, ?_, ?_, ?_⟩
      · rw [e, e2]; show (s.m.all listK n).vs.length ≤ _; omega
      · rw [e, e2]; simp [nextD]; omega
      · simp [nextD]; omega
      · rw [e, e2]; show s.lk.length ≤ _; omega
      · rw [e, e2]; show s.spn ≤ _; omega
      · rw [e, e2]; exact Nat.le_trans (hnt.2 t (by simp)) (Nat.le_succ n)
      · rw [e, e2]; intro t' ht; exact Nat.le_trans (hnt.2 t' (List.mem_cons_of_mem _ ht)) (Nat.le_succ n)
  · have e : s.deed listK st n 2 loc = { s with m := s.m.all listK n } := by simp [HS.deed]
    have hv := vs_all listK n s.m
    refine ⟨h1, h2, ?_, ?_, ?_, ?_, hP, ?_, ?_, ?_⟩
    · rw [e]; show (s.m.all listK n).vs.length ≤ _; omega
    · rw [e]; simp [nextD, hni]
    · simp [nextD]; omega
    · rw [e]; show s.lk.length ≤ _; omega
    · rw [e]; show s.spn ≤ _; omega
    · rw [e]; exact Nat.le_trans hnt.1 (Nat.le_succ n)
    · rw [e]; intro t' ht; exact Nat.le_trans (hnt.2 t' ht) (Nat.le_succ n)
  · have e : s.deed listK st n 3 loc = { s with lk := s.lk ++ [s.m.vs.getD s.hand []] } := by simp [HS.deed, listK]
    refine ⟨h1, h2, ?_, ?_, ?_, ?_, hP, ?_, ?_, ?_⟩
    · rw [e]; show s.m.vs.length ≤ _; omega
    · rw [e]; simp [nextD, hni]
    · simp [nextD]; omega
    · rw [e]; simp; omega
    · rw [e]; show s.spn ≤ _; omega
    · rw [e]; exact Nat.le_trans hnt.1 (Nat.le_succ n)
    · rw [e]; intro t' ht; exact Nat.le_trans (hnt.2 t' ht) (Nat.le_succ n)
  · have e : s.deed listK st n 4 loc = { s with m := { s.m with vs := s.m.vs.set s.hand (s.m.vs.getD s.hand [] ++ [loc]) } } := by simp [HS.deed, listK]
    refine ⟨h1, h2, ?_, ?_, ?_, ?_, hP, ?_, ?_, ?_⟩
    · rw [e]; simp; omega
    · rw [e]; simp [nextD, hni]
    · simp [nextD]; omega
    · rw [e]; show s.lk.length ≤ _; omega
    · rw [e]; show s.spn ≤ _; omega
    · rw [e]; exact Nat.le_trans hnt.1 (Nat.le_succ n)
    · rw [e]; intro t' ht; exact Nat.le_trans (hnt.2 t' ht) (Nat.le_succ n)
end Go.Proofs.Ytdiabpoafennlaa
