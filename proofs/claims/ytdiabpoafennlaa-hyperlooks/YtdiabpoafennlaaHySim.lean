import Derived.Test.YtdiabpoafennlaaHyOk
/-! A reducer's play, plainly: the order in which views are merged is not seen. -/
namespace Go.Proofs.Ytdiabpoafennlaa
set_option linter.unusedVariables false
set_option maxRecDepth 20000
set_option linter.unusedSimpArgs false

theorem getD_set_ne {V : Type} {vs : List V} {a u : Nat} (x d : V) (h : a ≠ u) : (vs.set a x).getD u d = vs.getD u d := by simp [List.getD, List.getElem?_set_ne h]
/-- What a row's merging leaves: its head's view holds all that the row held; what is not of the row stays. -/
theorem all_cat (n : Nat) (s : MS (List Int)) (h0 : 0 < s.row.length) (hnd : s.row.Nodup) (hlow : ∀ v ∈ s.row, v < s.vs.length) : catL (s.all listK n).vs (s.all listK n).row = catL s.vs s.row ∧ ∀ u, u ∉ s.row → (s.all listK n).vs.getD u [] = s.vs.getD u [] := by
  have h := (MS.all_ind listK n (fun m => (∀ v ∈ m.row, v ∈ s.row) ∧ m.row.Nodup ∧ m.vs.length = s.vs.length ∧ catL m.vs m.row = catL s.vs s.row ∧ ∀ u, u ∉ s.row → m.vs.getD u [] = s.vs.getD u []) (fun m hm hp => by
    obtain ⟨p1, p2, p3, p4, p5⟩ := hp
    obtain ⟨A, a, b, B, e1, e2, e3, -, -⟩ := m.one_row listK n hm
    rw [e1] at p1 p2 p4
    have hs : List.Sublist (A ++ a :: B) (A ++ a :: b :: B) := (List.Sublist.refl A).append ((List.sublist_cons_self b B).cons_cons a)
    have n1 : a ∉ A := fun hm => (List.nodup_append.1 p2).2.2 a hm a (by simp) rfl
    have n2 : a ∉ b :: B := (List.nodup_cons.1 (List.nodup_append.1 p2).2.1).1
    have hal : a < m.vs.length := by rw [p3]; exact hlow a (p1 a (by simp))
    refine ⟨by rw [e2]; exact fun v hv => p1 v (hs.subset hv), by rw [e2]; exact p2.sublist hs, by rw [e3, List.length_set]; exact p3, ?_, fun u hu => ?_⟩
    · rw [e2, e3, ← p4, catL_app, catL_cons, catL_set _ n1, catL_set _ (fun hm => n2 (by simp [hm])), getD_set _ _ hal, catL_app, catL_cons, catL_cons]
      show _ ++ ((_ ++ _) ++ _) = _
      simp [listK]
    · rw [e3, getD_set_ne _ _ (by intro e; subst e; exact hu (p1 _ (by simp)))]
      exact p5 u hu) s h0 ⟨fun v hv => hv, hnd, rfl, rfl, fun _ _ => rfl⟩).1
  exact ⟨h.2.2.2.1, h.2.2.2.2⟩
/-- Two plays that differ in their picks. -/
structure Sim (s t : HS (List Int)) : Prop where
  row : t.m.row = s.m.row
  ini : t.ini = s.ini
  sp : t.sp = s.sp
  spn : t.spn = s.spn
  lk : t.lk = s.lk
  len : t.m.vs.length = s.m.vs.length
  vs : ∀ v ∈ preL s.ini ++ s.m.row, t.m.vs.getD v [] = s.m.vs.getD v []
theorem Sim.hand {s t : HS (List Int)} (h : Sim s t) : t.hand = s.hand := by unfold HS.hand; rw [h.row]
theorem cat_of {vs vs' : List (List Int)} {l : List Nat} (h : ∀ v ∈ l, vs'.getD v [] = vs.getD v []) : catL vs' l = catL vs l := by
  unfold catL
  congr 1
  exact List.map_congr_left h
theorem hand_in {s : HS (List Int)} (h : s.m.row ≠ []) : s.hand ∈ s.m.row := by
  have hs := hand_split h
  rw [hs]
  exact List.mem_append_right _ (List.mem_singleton.2 rfl)
/-- Both rows merged. -/
theorem Sim.all {P P' : List Int} {s t : HS (List Int)} {n : Nat} (h : Sim s t) (hs : HInv P s) (ht : HInv P' t) : (t.m.all listK n).row = (s.m.all listK n).row ∧ (t.m.all listK n).vs.length = (s.m.all listK n).vs.length ∧ ∀ v ∈ preL s.ini ++ (s.m.all listK n).row, (t.m.all listK n).vs.getD v [] = (s.m.all listK n).vs.getD v [] := by
  have h0 : 0 < s.m.row.length := List.length_pos_iff.2 hs.lk.ne
  have h0' : 0 < t.m.row.length := List.length_pos_iff.2 ht.lk.ne
  obtain ⟨v, hv, hh⟩ := s.m.all_head listK n h0
  obtain ⟨v', hv', hh'⟩ := t.m.all_head listK n h0'
  rw [h.row, hh] at hh'
  injection hh' with hh'
  subst hh'
  have hnd := asc_nodup hs.line.asc
  have hnd2 := (List.nodup_append.1 hnd).2.1
  obtain ⟨c1, c2⟩ := all_cat n s.m h0 hnd2 (fun u hu => hs.line.low u (by simp [hu]))
  obtain ⟨d1, d2⟩ := all_cat n t.m h0' (by rw [h.row]; exact hnd2) (fun u hu => ht.line.low u (by simp [hu]))
  refine ⟨by rw [hv, hv'], by rw [vs_all, vs_all, h.len], fun u hu => ?_⟩
  rw [hv, List.mem_append] at hu
  rcases hu with hu | hu
  · have hnr : u ∉ s.m.row := fun hm => (List.nodup_append.1 hnd).2.2 u hu u hm rfl
    rw [c2 u hnr, d2 u (by rw [h.row]; exact hnr)]
    exact h.vs u (by simp [hu])
  · simp at hu
    subst hu
    rw [hv] at c1
    rw [hv'] at d1
    have hc : catL t.m.vs t.m.row = catL s.m.vs s.m.row := by rw [h.row]; exact cat_of (fun x hx => h.vs x (by simp [hx]))
    rw [hc] at d1
    have := d1.trans c1.symm
    simpa [catL] using this
theorem Sim.deed {P P' : List Int} {s t : HS (List Int)} {n : Nat} (h : Sim s t) (hs : HInv P s) (ht : HInv P' t) (st : List Bool) (k loc : Int) : Sim (s.deed listK st n k loc) (t.deed listK st n k loc) := by
  have hne := hs.lk.ne
  have hin : s.hand ∈ preL s.ini ++ s.m.row := List.mem_append_right _ (hand_in hne)
  have hh := h.hand
  have hal : s.hand < s.m.vs.length := hs.line.low _ hin
  obtain ⟨a1, a2, a3⟩ := h.all (n := n) hs ht
  unfold HS.deed
  split
  · refine ⟨h.row, h.ini, h.sp, h.spn, h.lk, by simp [h.len], fun v hv => ?_⟩
    show (t.m.vs.set t.hand _).getD v [] = (s.m.vs.set s.hand _).getD v []
    rw [hh]
    have e : t.m.vs.getD s.hand listK.fresh = s.m.vs.getD s.hand listK.fresh := h.vs _ hin
    rw [e]
    by_cases hv2 : s.hand = v
    · subst hv2
      rw [getD_set _ _ (by rw [h.len]; exact hal), getD_set _ _ hal]
    · rw [getD_set_ne _ _ hv2, getD_set_ne _ _ hv2]
      exact h.vs v hv
  · split
    · refine ⟨h.row, h.ini, h.sp, h.spn, ?_, h.len, h.vs⟩
      show t.lk ++ [t.m.vs.getD t.hand listK.fresh] = s.lk ++ [s.m.vs.getD s.hand listK.fresh]
      rw [hh, h.lk]
      have e : t.m.vs.getD s.hand listK.fresh = s.m.vs.getD s.hand listK.fresh := h.vs _ hin
      rw [e]
    · split
      · refine ⟨?_, ?_, h.spn, ?_, h.lk, h.len, ?_⟩
        · show [t.hand] = [s.hand]; rw [hh]
        · show (t.sp, t.m.row) :: t.ini = (s.sp, s.m.row) :: s.ini; rw [h.sp, h.row, h.ini]
        · show t.spn + 1 = s.spn + 1; rw [h.spn]
        · intro v hv
          refine h.vs v ?_
          have e : preL ((s.sp, s.m.row) :: s.ini) ++ [s.hand] = preL s.ini ++ s.m.row := by
            rw [preL, List.append_assoc]
            conv => rhs; rw [hand_split hne]
            rfl
          rw [← e]
          exact hv
      · split
        · exact ⟨a1, h.ini, h.sp, h.spn, h.lk, a2, a3⟩
        · unfold HS.back
          rw [h.ini]
          have hlk := hs.lk
          have h0 : 0 < s.m.row.length := List.length_pos_iff.2 hne
          obtain ⟨u, hu, huh⟩ := s.m.all_head listK n h0
          cases hi : s.ini with
          | nil =>
            rw [hi] at a3
            exact ⟨a1, rfl, h.sp, h.spn, h.lk, a2, a3⟩
          | cons p ini =>
            simp only
            rw [hi] at hlk a3
            have e : preL (p :: ini) ++ (s.m.all listK n).row = preL ini ++ p.2 := by
              rw [hu, preL, List.append_assoc, ← last_some (hlk.2.1.trans huh)]
            rw [e] at a3
            rw [h.sp]
            by_cases hst : st.getD s.sp false = true
            · rw [if_pos hst, if_pos hst]
              refine ⟨by show p.2 ++ [(t.m.all listK n).vs.length] = p.2 ++ [(s.m.all listK n).vs.length]; rw [a2], rfl, rfl, h.spn, h.lk, by simp [a2], fun v hv => ?_⟩
              show ((t.m.all listK n).vs ++ [listK.fresh]).getD v [] = ((s.m.all listK n).vs ++ [listK.fresh]).getD v []
              have hv2 : v ∈ (preL ini ++ p.2) ++ [(s.m.all listK n).vs.length] := by rw [List.append_assoc]; exact hv
              rw [List.mem_append] at hv2
              rcases hv2 with hv2 | hv2
              · have hlow : v < s.m.vs.length := by
                  have := (hs.line.all n h0).low v
                  rw [hi, e, vs_all] at this
                  exact this hv2
                rw [List.getD_eq_getElem?_getD, List.getD_eq_getElem?_getD, List.getElem?_append_left (by rw [a2, vs_all]; exact hlow), List.getElem?_append_left (by rw [vs_all]; exact hlow), ← List.getD_eq_getElem?_getD, ← List.getD_eq_getElem?_getD]
                exact a3 v hv2
              · simp at hv2
                subst hv2
                simp [List.getD_eq_getElem?_getD, ← a2]
            · rw [if_neg hst, if_neg hst]
              exact ⟨rfl, rfl, rfl, h.spn, h.lk, a2, a3⟩
theorem sim_run (st : List Bool) : ∀ (ds : List (Int × Int)) (n : Nat) (P : List Int) (s t : HS (List Int)), HInv P s → HInv P t → Sim s t → Sim (s.run listK st ds n) (t.run listK st ds n) := by
  intro ds
  induction ds with
  | nil => intro n P s t _ _ h; exact h
  | cons d ds ih =>
    intro n P s t hs ht h
    exact ih (n + 1) _ _ _ (hinv_deed st n d.1 d.2 hs) (hinv_deed st n d.1 d.2 ht) (h.deed hs ht st d.1 d.2)
/-- 23.11: looks do not hang on the picks. -/
theorem looks_same (st : List Bool) (ds : List (Int × Int)) (pk pk' : List Int) : (endHS listK st ds pk').lk = (endHS listK st ds pk).lk :=
  (sim_run st ds 0 [] _ _ (hinv_start pk) (hinv_start pk') ⟨rfl, rfl, rfl, rfl, rfl, rfl, fun _ _ => rfl⟩).lk
end Go.Proofs.Ytdiabpoafennlaa
