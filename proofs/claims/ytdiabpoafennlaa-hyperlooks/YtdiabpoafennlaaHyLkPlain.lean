import Derived.Test.YtdiabpoafennlaaHyPickLaw
/-! Looks, plainly: each is a stretch of what was put that ends there, and all of it where no stolen continuation is out. -/
namespace Go.Proofs.Ytdiabpoafennlaa
set_option linter.unusedVariables false
set_option maxRecDepth 20000
set_option linter.unusedSimpArgs false

/-- Whether no open task has a stolen continuation begun since its last sync; the tasks above the nearest first. -/
def cmB (st : List Bool) : List (Int × Int) → List Nat → Nat → List Nat → Nat → Bool
  | [], out, o, _, _ => (o :: out).all (fun x => x == 0)
  | d :: ds, out, o, wh, sp =>
    if d.1 = 0 then cmB st ds (o :: out) 0 (sp :: wh) (sp + 1)
    else if d.1 = 2 then cmB st ds out 0 wh sp
    else if d.1 = 1 then (match out, wh with
      | o' :: out, t :: wh => cmB st ds out (o' + if st.getD t false = true then 1 else 0) wh sp
      | _, _ => false)
    else cmB st ds out o wh sp
theorem lk_rows : ∀ {row : List Nat} {ini : List (Nat × List Nat)}, Lk row ini → ∀ t ∈ ini, t.2 ≠ []
  | row, [], h, t, ht => by simp at ht
  | row, u :: ini, h, t, ht => by
    rcases List.mem_cons.1 ht with rfl | ht
    · exact h.2.2.ne
    · exact lk_rows h.2.2 t ht
/-- Every open row has one view. -/
def OneEach (s : HS (List Int)) : Prop := s.m.row.length = 1 ∧ ∀ t ∈ s.ini, t.2.length = 1
def restL (ini : List (Nat × List Nat)) : List Nat := ini.map (fun t => t.2.length - 1)
theorem len_pos {row : List Nat} (h : row ≠ []) : 1 ≤ row.length := List.length_pos_iff.2 h
theorem calm_run (st : List Bool) : ∀ (ds : List (Int × Int)) (n : Nat) (P : List Int) (s : HS (List Int)), KindsOk ds → HInv P s → cmB st ds (restL s.ini) (s.m.row.length - 1) (opsL s.sp s.ini) s.spn = true → OneEach (s.run listK st ds n) := by
  intro ds
  induction ds with
  | nil =>
    intro n P s _ h hc
    have h1 := len_pos h.lk.ne
    have h2 := lk_rows h.lk
    unfold cmB at hc
    rw [List.all_eq_true] at hc
    refine ⟨?_, fun t ht => ?_⟩
    · have := hc _ (List.mem_cons_self ..)
      simp at this
      show s.m.row.length = 1
      omega
    · have h3 := hc (t.2.length - 1) (List.mem_cons_of_mem _ (List.mem_map.2 ⟨t, ht, rfl⟩))
      have := len_pos (h2 t ht)
      simp at h3
      omega
  | cons d ds ih =>
    intro n P s hkd h hc
    have hh := hinv_deed st n d.1 d.2 h
    have h0 := len_pos h.lk.ne
    refine ih (n + 1) _ _ (fun x hx => hkd x (List.mem_cons_of_mem _ hx)) hh ?_
    have hall : (s.m.all listK n).row.length = 1 := by
      obtain ⟨v, hv, -⟩ := s.m.all_head listK n h0
      rw [hv]; rfl
    unfold cmB at hc
    unfold HS.deed
    by_cases e4 : d.1 = 4
    · rw [if_pos e4]
      rw [if_neg (by omega), if_neg (by omega), if_neg (by omega)] at hc
      exact hc
    rw [if_neg e4]
    by_cases e3 : d.1 = 3
    · rw [if_pos e3]
      rw [if_neg (by omega), if_neg (by omega), if_neg (by omega)] at hc
      exact hc
    rw [if_neg e3]
    by_cases e0 : d.1 = 0
    · rw [if_pos e0]
      rw [if_pos e0] at hc
      exact hc
    rw [if_neg e0]
    rw [if_neg e0] at hc
    by_cases e2 : d.1 = 2
    · rw [if_pos e2]
      rw [if_pos e2] at hc
      show cmB st ds (restL s.ini) ((s.m.all listK n).row.length - 1) (opsL s.sp s.ini) s.spn = true
      rw [hall]
      exact hc
    rw [if_neg e2]
    rw [if_neg e2] at hc
    unfold HS.back
    by_cases e1 : d.1 = 1
    · rw [if_pos e1] at hc
      cases hi : s.ini with
      | nil => rw [hi] at hc; exact (Bool.false_ne_true hc).elim
      | cons t ini =>
        rw [hi] at hc
        have hne := len_pos (lk_rows h.lk t (by rw [hi]; exact List.mem_cons_self ..))
        have hc2 : cmB st ds (restL ini) (t.2.length - 1 + if st.getD s.sp false = true then 1 else 0) (opsL t.1 ini) s.spn = true := hc
        by_cases ht : st.getD s.sp false = true
        · simp only [if_pos ht] at hc2 ⊢
          show cmB st ds (restL ini) ((t.2 ++ [(s.m.all listK n).vs.length]).length - 1) (opsL t.1 ini) s.spn = true
          rw [List.length_append, List.length_singleton]
          rw [show t.2.length + 1 - 1 = t.2.length - 1 + 1 by omega]
          exact hc2
        · simp only [if_neg ht] at hc2 ⊢
          exact hc2
    · have := hkd d (List.mem_cons_self ..)
      omega
theorem pre_one : ∀ {ini : List (Nat × List Nat)}, (∀ t ∈ ini, t.2.length = 1) → preL ini = []
  | [], _ => rfl
  | t :: ini, h => by
    rw [preL, pre_one (fun u hu => h u (List.mem_cons_of_mem _ hu))]
    have := h t (List.mem_cons_self ..)
    match t, this with
    | (_, [_]), _ => rfl
def lookS (s : HS (List Int)) : List Int := s.m.vs.getD s.hand []
/-- What the hand's view holds ends what was put; where every row has one view it is all. -/
theorem look_end {P : List Int} {s : HS (List Int)} (h : HInv P s) : (∃ A, P = A ++ lookS s) ∧ (OneEach s → P = lookS s) := by
  have hne := h.lk.ne
  have hs := hand_split hne
  have hc := h.line.cat
  have e : preL s.ini ++ s.m.row = (preL s.ini ++ s.m.row.dropLast) ++ [s.hand] := by
    rw [List.append_assoc]
    conv => lhs; rw [hs]
    rfl
  have hl : catL s.m.vs [s.hand] = lookS s := by simp [catL, lookS]
  rw [e, catL_app, hl] at hc
  refine ⟨⟨_, hc.symm⟩, fun ho => ?_⟩
  rw [pre_one ho.2] at hc
  have : s.m.row.dropLast = [] := List.eq_nil_of_length_eq_zero (by rw [List.length_dropLast]; have := ho.1; omega)
  rw [this] at hc
  exact hc.symm
def rdsL (ds : List (Int × Int)) : Nat := (ds.filter (fun d => d.1 == 3)).length
theorem rdsL_cons (d : Int × Int) (ds : List (Int × Int)) : rdsL (d :: ds) = (if d.1 = 3 then 1 else 0) + rdsL ds := by
  unfold rdsL
  by_cases h : d.1 = 3 <;> simp [h]; omega
theorem deed_lk (st : List Bool) (n : Nat) (d : Int × Int) (s : HS (List Int)) : (s.deed listK st n d.1 d.2).lk = s.lk ++ if d.1 = 3 then [lookS s] else [] := by
  unfold HS.deed
  by_cases h4 : d.1 = 4
  · rw [if_pos h4, if_neg (by omega)]; simp
  rw [if_neg h4]
  by_cases h3 : d.1 = 3
  · rw [if_pos h3, if_pos h3]; rfl
  rw [if_neg h3, if_neg h3, List.append_nil]
  split
  · rfl
  · split
    · rfl
    · unfold HS.back
      split
      · rfl
      · split <;> rfl
theorem run_lk (st : List Bool) : ∀ (ds : List (Int × Int)) (n : Nat) (s : HS (List Int)), ∃ r, (s.run listK st ds n).lk = s.lk ++ r ∧ r.length = rdsL ds := by
  intro ds
  induction ds with
  | nil => intro n s; exact ⟨[], by simp [HS.run], rfl⟩
  | cons d ds ih =>
    intro n s
    obtain ⟨r, h1, h2⟩ := ih (n + 1) (s.deed listK st n d.1 d.2)
    rw [deed_lk, List.append_assoc] at h1
    refine ⟨_, h1, ?_⟩
    rw [rdsL_cons, List.length_append, h2]
    split <;> rfl
theorem run_app (st : List Bool) : ∀ (a b : List (Int × Int)) (n : Nat) (s : HS (List Int)), s.run listK st (a ++ b) n = (s.run listK st a n).run listK st b (n + a.length) := by
  intro a
  induction a with
  | nil => intro b n s; rfl
  | cons d a ih =>
    intro b n s
    show (s.deed listK st n d.1 d.2).run listK st (a ++ b) (n + 1) = _
    rw [ih]
    show _ = ((s.deed listK st n d.1 d.2).run listK st a (n + 1)).run listK st b (n + (a.length + 1))
    rw [show n + 1 + a.length = n + (a.length + 1) by omega]
def rdD (l : List Dd) : Nat := (l.filter (fun d => d.k == 3)).length
theorem rdD_eq (l : List Dd) : rdsL (l.map dp) = rdD l := by
  unfold rdsL rdD
  rw [List.filter_map, List.length_map]
  rfl
theorem rdD_more {l : List Dd} {k : Nat} {x : Dd} (hx : l[k]? = some x) : rdD (l.take (k + 1)) = rdD (l.take k) + if x.k = 3 then 1 else 0 := by
  rw [takeD hx]
  unfold rdD
  by_cases h : x.k = 3 <;> simp [h]
theorem fin_lk_len (l : List Dd) (st : List Bool) (pk : List Int) : (finPS l st pk).lk.length = rdD l := by
  obtain ⟨r, h1, h2⟩ := run_lk st (l.map dp) 0 (HS.start listK pk)
  show ((HS.start listK pk).run listK st (l.map dp) 0).lk.length = _
  rw [h1, List.length_append, h2, rdD_eq]
  exact Nat.zero_add _
theorem look_at {l : List Dd} (h : chkL l 0 0 = none) (st : List Bool) (pk : List Int) {i : Nat} {x : Dd} (hx : l[i]? = some x) (h3 : x.k = 3) :
    ∃ z A, (finPS l st pk).lk[rdD (l.take i)]? = some z ∧ putsD (l.take i) = A ++ z ∧ (cmB st ((l.take i).map dp) [] 0 [] 0 = true → A = []) := by
  obtain ⟨hi, hx2⟩ := List.getElem?_eq_some_iff.1 hx
  have e : l.map dp = (l.take i).map dp ++ (dp x :: (l.drop (i + 1)).map dp) := by
    conv => lhs; rw [← List.take_append_drop i l, List.map_append]
    rw [List.drop_eq_getElem_cons hi, hx2]
    rfl
  have hinv := hinv_run st ((l.take i).map dp) 0 [] _ (hinv_start pk)
  rw [List.nil_append, putsD_eq] at hinv
  have hkd : KindsOk ((l.take i).map dp) := fun d hd => kinds_of h d (by rw [e]; exact List.mem_append_left _ hd)
  have hcalm := calm_run st ((l.take i).map dp) 0 [] _ hkd (hinv_start pk)
  obtain ⟨r0, a1, a2⟩ := run_lk st ((l.take i).map dp) 0 (HS.start listK pk)
  generalize hs : (HS.start listK pk).run listK st ((l.take i).map dp) 0 = s at hinv hcalm a1
  obtain ⟨⟨A, hA⟩, hO⟩ := look_end hinv
  refine ⟨lookS s, A, ?_, hA, fun hc => ?_⟩
  · show ((HS.start listK pk).run listK st (l.map dp) 0).lk[_]? = _
    rw [e, run_app, hs]
    obtain ⟨r, b1, -⟩ := run_lk st ((l.drop (i + 1)).map dp) (0 + ((l.take i).map dp).length + 1) (s.deed listK st (0 + ((l.take i).map dp).length) (dp x).1 (dp x).2)
    show (((s.deed listK st (0 + ((l.take i).map dp).length) (dp x).1 (dp x).2)).run listK st ((l.drop (i + 1)).map dp) (0 + ((l.take i).map dp).length + 1)).lk[_]? = _
    rw [b1, deed_lk, if_pos (show (dp x).1 = 3 from h3), a1]
    have a3 : r0.length = rdD (l.take i) := by rw [a2, rdD_eq]
    show ((([] : List (List Int)) ++ r0 ++ [lookS s]) ++ r)[_]? = _
    rw [List.nil_append, List.append_assoc, List.getElem?_append_right (by omega), a3, Nat.sub_self]
    rfl
  · have := hO (hcalm hc)
    rw [this] at hA
    have hl := congrArg List.length hA
    rw [List.length_append] at hl
    exact List.eq_nil_of_length_eq_zero (by omega)
/-- Where nothing is stolen there is one view and no merge. -/
theorem made_none : ∀ (ds : List (Int × Int)) (n : Nat) (op : List Nat), madeL [] ds n op = 0 := by
  intro ds
  induction ds with
  | nil => intro n op; rfl
  | cons d ds ih =>
    intro n op
    rw [madeL_cons]
    split
    · exact ih _ _
    · split
      · cases op with
        | nil => exact ih _ _
        | cons k op => simp [ih]
      · exact ih _ _
theorem none_one {l : List Dd} (h : chkL l 0 0 = none) (pk : List Int) : (finPS l [] pk).vs.length = 1 ∧ (finPS l [] pk).mg = [] := by
  have h1 : (finPS l [] pk).vs.length = 1 := by
    show (endMS listK [] (l.map dp) pk).vs.length = 1
    rw [made_all _ _ _ _ (kinds_of h), made_none]
  have h2 : (finPS l [] pk).mg.length + [0].length = (finPS l [] pk).vs.length := (counts_all [] (l.map dp) pk (kinds_of h)).cnt
  rw [h1] at h2
  refine ⟨h1, List.eq_nil_of_length_eq_zero ?_⟩
  have h3 : [0].length = 1 := rfl
  omega
theorem refE_none {l : List Dd} {st : List Bool} {pk : List Int} (h : refE l st pk = 0) : refE l [] pk = 0 := by
  unfold refE at *
  split at h
  · omega
  · rename_i hn
    rw [if_neg (by simp; omega)]; exact h
end Go.Proofs.Ytdiabpoafennlaa
