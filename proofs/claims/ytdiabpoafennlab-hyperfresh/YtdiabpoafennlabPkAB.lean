import Derived.Test.YtdiabpoafennlabPkAA
/-! A reducer's play, plainly: views, rows, merges. -/
namespace Go.Proofs.Ytdiabpoafennlab
set_option linter.unusedVariables false
set_option maxRecDepth 20000

/-- What can be done with what a view holds. -/
structure Kd (V : Type) where
  fresh : V
  put : V → Int → V
  join : V → V → V
def listK : Kd (List Int) := ⟨[], fun l x => l ++ [x], fun a b => a ++ b⟩
/-- The views, the current row, the merges, the picks that are left. -/
structure MS (V : Type) where
  vs : List V
  row : List Nat
  mg : List (Nat × Nat × Nat)
  pk : List Int
variable {V : Type}
def MS.j (s : MS V) : Nat := (s.pk.headD 0 % ((s.row.length - 1 : Nat) : Int)).toNat
def MS.l (s : MS V) : Nat := s.row.getD s.j 0
def MS.r (s : MS V) : Nat := s.row.getD (s.j + 1) 0
def MS.one (K : Kd V) (n : Nat) (s : MS V) : MS V :=
  ⟨s.vs.set s.l (K.join (s.vs.getD s.l K.fresh) (s.vs.getD s.r K.fresh)), s.row.eraseIdx (s.j + 1), s.mg ++ [(n, s.l, s.r)], s.pk.tail⟩
def MS.go (K : Kd V) (n : Nat) : Nat → MS V → MS V
  | 0, s => s
  | f + 1, s => MS.go K n f (s.one K n)
/-- The row is merged. -/
def MS.all (K : Kd V) (n : Nat) (s : MS V) : MS V := MS.go K n (s.row.length - 1) s
/-- The whole: besides the current row the rows of the tasks above, the nearest first. -/
structure HS (V : Type) where
  m : MS V
  sp : Nat
  ini : List (Nat × List Nat)
  spn : Nat
  lk : List V
def HS.hand (s : HS V) : Nat := s.m.row.getLastD 0
def HS.start (K : Kd V) (picks : List Int) : HS V := ⟨⟨[K.fresh], [0], [], picks⟩, 0, [], 0, []⟩
/-- The parent goes on; if the continuation is stolen, with a new view. -/
def HS.back (K : Kd V) (st : List Bool) (m : MS V) (s : HS V) : HS V :=
  match s.ini with
  | [] => { s with m := m }
  | t :: ini => if st.getD s.sp false = true then ⟨{ m with vs := m.vs ++ [K.fresh], row := t.2 ++ [m.vs.length] }, t.1, ini, s.spn, s.lk⟩
    else ⟨{ m with row := t.2 }, t.1, ini, s.spn, s.lk⟩
def HS.deed (K : Kd V) (st : List Bool) (n : Nat) (k loc : Int) (s : HS V) : HS V :=
  if k = 4 then { s with m := { s.m with vs := s.m.vs.set s.hand (K.put (s.m.vs.getD s.hand K.fresh) loc) } }
  else if k = 3 then { s with lk := s.lk ++ [s.m.vs.getD s.hand K.fresh] }
  else if k = 0 then ⟨{ s.m with row := [s.hand] }, s.spn, (s.sp, s.m.row) :: s.ini, s.spn + 1, s.lk⟩
  else if k = 2 then { s with m := s.m.all K n }
  else s.back K st (s.m.all K n)
def HS.run (K : Kd V) (st : List Bool) : List (Int × Int) → Nat → HS V → HS V
  | [], _, s => s
  | d :: ds, n, s => HS.run K st ds (n + 1) (s.deed K st n d.1 d.2)
/-- Behind the last deed. -/
def MS.ends (K : Kd V) (n : Nat) : List (Nat × List Nat) → MS V → MS V
  | [], m => m.all K n
  | t :: ini, m => MS.ends K n ini { m.all K n with row := t.2 }
def endHS (K : Kd V) (st : List Bool) (ds : List (Int × Int)) (picks : List Int) : HS V := (HS.start K picks).run K st ds 0
def endMS (K : Kd V) (st : List Bool) (ds : List (Int × Int)) (picks : List Int) : MS V :=
  MS.ends K ds.length (endHS K st ds picks).ini (endHS K st ds picks).m

/-! The line of views that are there: of each task above the row without the one that it lent, then the current row. -/
def preL : List (Nat × List Nat) → List Nat
  | [] => []
  | t :: ini => preL ini ++ t.2.dropLast
/-- A child's first view is its parent's last one. -/
def Lk : List Nat → List (Nat × List Nat) → Prop
  | row, [] => row.head? = some 0
  | row, t :: ini => row ≠ [] ∧ t.2.getLast? = row.head? ∧ Lk t.2 ini
def Asc (l : List Nat) : Prop := l.Pairwise (· < ·)
theorem Lk.ne : ∀ {row : List Nat} {ini : List (Nat × List Nat)}, Lk row ini → row ≠ []
  | row, [], h => by intro e; subst e; simp [Lk] at h
  | row, t :: ini, h => h.1
theorem Lk.same {row row' : List Nat} {ini : List (Nat × List Nat)} (h : Lk row ini) (he : row'.head? = row.head?) : Lk row' ini := by
  have hne := h.ne
  cases ini with
  | nil => unfold Lk at h ⊢; rw [he]; exact h
  | cons t ini =>
    refine ⟨?_, by rw [he]; exact h.2.1, h.2.2⟩
    intro e
    subst e
    cases row with
    | nil => exact hne rfl
    | cons a l => simp at he
/-- A row of at least two falls apart at any place that has one behind it. -/
theorem row_split {row : List Nat} {j : Nat} (hj : j + 1 < row.length) : ∃ A a b B, row = A ++ a :: b :: B ∧ A.length = j ∧ row.getD j 0 = a ∧ row.getD (j + 1) 0 = b ∧ row.eraseIdx (j + 1) = A ++ a :: B := by
  refine ⟨row.take j, row[j], row[j + 1], row.drop (j + 2), ?_, by simp; omega, ?_, ?_, ?_⟩
  · rw [← List.drop_eq_getElem_cons (by omega), ← List.drop_eq_getElem_cons (by omega), List.take_append_drop]
  · simp [List.getD, List.getElem?_eq_getElem (show j < row.length by omega)]
  · simp [List.getD, List.getElem?_eq_getElem hj]
  · rw [List.eraseIdx_eq_take_drop_succ, List.take_add_one, List.getElem?_eq_getElem (by omega), List.append_assoc]
    rfl
theorem MS.j_lt {s : MS V} (h : 1 < s.row.length) : s.j + 1 < s.row.length := by
  unfold MS.j
  have h1 := Int.emod_nonneg (s.pk.headD 0) (show ((s.row.length - 1 : Nat) : Int) ≠ 0 by omega)
  have h2 := Int.emod_lt_of_pos (s.pk.headD 0) (show (0 : Int) < ((s.row.length - 1 : Nat) : Int) by omega)
  omega
/-- What one merge does. -/
theorem MS.one_row (K : Kd V) (n : Nat) {s : MS V} (h : 1 < s.row.length) : ∃ A a b B, s.row = A ++ a :: b :: B ∧ (s.one K n).row = A ++ a :: B ∧ (s.one K n).vs = s.vs.set a (K.join (s.vs.getD a K.fresh) (s.vs.getD b K.fresh)) ∧ (s.one K n).mg = s.mg ++ [(n, a, b)] ∧ (s.one K n).pk = s.pk.tail := by
  obtain ⟨A, a, b, B, h1, h2, h3, h4, h5⟩ := row_split (MS.j_lt h)
  exact ⟨A, a, b, B, h1, h5, by unfold MS.one MS.l MS.r; rw [h3, h4], by unfold MS.one MS.l MS.r; rw [h3, h4], rfl⟩
theorem MS.one_len (K : Kd V) (n : Nat) {s : MS V} (h : 1 < s.row.length) : (s.one K n).row.length + 1 = s.row.length := by
  obtain ⟨A, a, b, B, h1, h2, -, -, -⟩ := s.one_row K n h
  rw [h1, h2]
  simp; omega
/-- An invariant of merges holds behind all of a row's, and one view is left. -/
theorem MS.all_ind (K : Kd V) (n : Nat) (P : MS V → Prop) (hP : ∀ s : MS V, 1 < s.row.length → P s → P (s.one K n)) (s : MS V) (h0 : 0 < s.row.length) (hs : P s) : P (s.all K n) ∧ (s.all K n).row.length = 1 := by
  have : ∀ (f : Nat) (s : MS V), s.row.length = f + 1 → P s → P (MS.go K n f s) ∧ (MS.go K n f s).row.length = 1 := by
    intro f
    induction f with
    | zero => intro s h h2; exact ⟨h2, by simpa [MS.go] using h⟩
    | succ f ih =>
      intro s h h2
      have h3 := s.one_len K n (by omega)
      exact ih _ (by omega) (hP s (by omega) h2)
  exact this _ s (by omega) hs
theorem head_split {A : List Nat} {a b : Nat} {B : List Nat} : (A ++ a :: B).head? = (A ++ a :: b :: B).head? := by cases A <;> rfl
theorem MS.all_head (K : Kd V) (n : Nat) (s : MS V) (h0 : 0 < s.row.length) : ∃ v, (s.all K n).row = [v] ∧ s.row.head? = some v := by
  obtain ⟨h1, h2⟩ := MS.all_ind K n (fun m => m.row.head? = s.row.head?) (fun m hm h => by
    obtain ⟨A, a, b, B, e1, e2, -⟩ := m.one_row K n hm
    rw [e2, ← h, e1]
    exact head_split) s h0 rfl
  generalize (s.all K n).row = r at h1 h2
  match r, h2 with
  | [v], _ => exact ⟨v, rfl, h1.symm.trans rfl⟩

/-! Lists: what the line holds is what was put. -/
def catL (vs : List (List Int)) (l : List Nat) : List Int := (l.map (fun v => vs.getD v [])).flatten
theorem catL_app (vs : List (List Int)) (a b : List Nat) : catL vs (a ++ b) = catL vs a ++ catL vs b := by simp [catL]
theorem catL_cons (vs : List (List Int)) (a : Nat) (b : List Nat) : catL vs (a :: b) = vs.getD a [] ++ catL vs b := by simp [catL]
theorem catL_set {vs : List (List Int)} {a : Nat} (x : List Int) {l : List Nat} (h : a ∉ l) : catL (vs.set a x) l = catL vs l := by
  unfold catL
  congr 1
  refine List.map_congr_left (fun v hv => ?_)
  have : a ≠ v := fun e => h (e ▸ hv)
  simp [List.getD, List.getElem?_set_ne this]
theorem getD_set {vs : List V} {a : Nat} (x d : V) (h : a < vs.length) : (vs.set a x).getD a d = x := by simp [List.getD, h]
theorem catL_grow {vs : List (List Int)} (x : List Int) {l : List Nat} (h : ∀ v ∈ l, v < vs.length) : catL (vs ++ [x]) l = catL vs l := by
  unfold catL
  congr 1
  refine List.map_congr_left (fun v hv => ?_)
  simp [List.getD, List.getElem?_append_left (h v hv)]

/-- The line is in order, all of it is there, and it holds what was put. -/
structure LineOk (pre : List Nat) (P : List Int) (m : MS (List Int)) : Prop where
  asc : Asc (pre ++ m.row)
  low : ∀ v ∈ pre ++ m.row, v < m.vs.length
  cat : catL m.vs (pre ++ m.row) = P
theorem asc_nodup {l : List Nat} (h : Asc l) : l.Nodup := h.imp (fun h => Nat.ne_of_lt h)
theorem LineOk.one {pre : List Nat} {P : List Int} {m : MS (List Int)} (n : Nat) (h1 : 1 < m.row.length) (h : LineOk pre P m) : LineOk pre P (m.one listK n) := by
  obtain ⟨A, a, b, B, e1, e2, e3, -, -⟩ := m.one_row listK n h1
  obtain ⟨h2, h3, h4⟩ := h
  rw [e1] at h2 h3 h4
  have hs : List.Sublist (pre ++ (A ++ a :: B)) (pre ++ (A ++ a :: b :: B)) := ((List.Sublist.refl pre).append ((List.Sublist.refl A).append ((List.sublist_cons_self b B).cons_cons a)))
  have hnd := asc_nodup h2
  have hal : a < m.vs.length := h3 a (by simp)
  have h5 : pre ++ (A ++ a :: b :: B) = (pre ++ A) ++ a :: (b :: B) := by simp
  rw [h5] at hnd h4
  have n1 : a ∉ pre ++ A := fun hm => (List.nodup_append.1 hnd).2.2 a hm a (by simp) rfl
  have n2 : a ∉ b :: B := (List.nodup_cons.1 (List.nodup_append.1 hnd).2.1).1
  refine ⟨by rw [e2]; exact h2.sublist hs, by rw [e2, e3]; intro v hv; rw [List.length_set]; exact h3 v (hs.subset hv), ?_⟩
  rw [e2, e3, show pre ++ (A ++ a :: B) = (pre ++ A) ++ a :: B by simp, catL_app, catL_cons, catL_set _ n1, catL_set _ (fun hm => n2 (by simp [hm])), getD_set _ _ hal]
  rw [catL_app, catL_cons, catL_cons] at h4
  rw [← h4]
  show _ ++ ((_ ++ _) ++ _) = _
  simp [listK]
theorem LineOk.all {pre : List Nat} {P : List Int} {m : MS (List Int)} (n : Nat) (h0 : 0 < m.row.length) (h : LineOk pre P m) : LineOk pre P (m.all listK n) :=
  (MS.all_ind listK n (LineOk pre P) (fun s hs hp => hp.one n hs) m h0 h).1
/-- What holds between two deeds. -/
structure HInv (P : List Int) (s : HS (List Int)) : Prop where
  lk : Lk s.m.row s.ini
  line : LineOk (preL s.ini) P s.m
theorem hand_split {row : List Nat} (h : row ≠ []) : row = row.dropLast ++ [row.getLastD 0] := by
  have := List.dropLast_concat_getLast h
  conv => lhs; rw [← this]
  congr 2
  cases row with
  | nil => exact (h rfl).elim
  | cons a l => rfl
theorem last_some {row : List Nat} {v : Nat} (h : row.getLast? = some v) : row = row.dropLast ++ [v] := by
  cases row with
  | nil => simp at h
  | cons a l =>
    have h1 := List.getLast?_eq_some_getLast (l := a :: l) (by simp)
    rw [h1] at h
    injection h with h
    conv => lhs; rw [← List.dropLast_concat_getLast (l := a :: l) (by simp), h]
theorem hinv_start (picks : List Int) : HInv [] (HS.start listK picks) :=
  ⟨rfl, ⟨List.pairwise_singleton _ _, by intro v hv; simp [HS.start, preL] at hv; subst hv; simp [HS.start], by simp [HS.start, preL, catL, listK]⟩⟩
/-- The line of a task that has ended goes on in its parent's row. -/
theorem line_back {P : List Int} {m : MS (List Int)} {row : List Nat} {t : Nat × List Nat} {ini : List (Nat × List Nat)} {v : Nat} (h : LineOk (preL (t :: ini)) P m) (hr : m.row = [v]) (ht : t.2.getLast? = some v) : LineOk (preL ini) P { m with row := t.2 } := by
  have e : preL (t :: ini) ++ m.row = preL ini ++ t.2 := by
    rw [hr, preL, List.append_assoc]
    rw [← last_some ht]
  obtain ⟨h1, h2, h3⟩ := h
  rw [e] at h1 h2 h3
  exact ⟨h1, h2, h3⟩
theorem asc_more {l : List Nat} {n : Nat} (h : Asc l) (hl : ∀ v ∈ l, v < n) : Asc (l ++ [n]) := by
  unfold Asc at *
  rw [List.pairwise_append]
  exact ⟨h, List.pairwise_singleton _ _, fun a ha b hb => by simp at hb; subst hb; exact hl a ha⟩
theorem line_new {pre : List Nat} {P : List Int} {m : MS (List Int)} (h : LineOk pre P m) : LineOk pre P { m with vs := m.vs ++ [[]], row := m.row ++ [m.vs.length] } := by
  obtain ⟨h1, h2, h3⟩ := h
  refine ⟨?_, ?_, ?_⟩
  · show Asc (pre ++ (m.row ++ [m.vs.length]))
    rw [← List.append_assoc]
    exact asc_more h1 h2
  · show ∀ v ∈ pre ++ (m.row ++ [m.vs.length]), v < (m.vs ++ [[]]).length
    intro v hv
    rw [← List.append_assoc, List.mem_append] at hv
    rw [List.length_append]
    rcases hv with hv | hv
    · have := h2 v hv; simp; omega
    · simp at hv; subst hv; simp
  · show catL (m.vs ++ [[]]) (pre ++ (m.row ++ [m.vs.length])) = P
    rw [← List.append_assoc, catL_app, catL_grow _ h2, h3]
    simp [catL]
theorem hinv_back {P : List Int} {s : HS (List Int)} (st : List Bool) (n : Nat) (h : HInv P s) : HInv P (s.back listK st (s.m.all listK n)) := by
  have hne := h.lk.ne
  have h0 : 0 < s.m.row.length := List.length_pos_iff.2 hne
  have hl := h.line.all n h0
  obtain ⟨v, hv, hh⟩ := s.m.all_head listK n h0
  generalize s.m.all listK n = m at hl hv
  unfold HS.back
  split
  · rename_i hi
    have hlk := h.lk
    rw [hi] at hl hlk
    exact ⟨by rw [hi]; show Lk m.row []; rw [hv]; exact hh.symm.trans hlk, by rw [hi]; exact hl⟩
  · rename_i t ini hi
    have hlk := h.lk
    rw [hi] at hl hlk
    have hb := line_back (row := []) hl hv (hlk.2.1.trans hh)
    split
    · refine ⟨?_, line_new hb⟩
      have hne2 := hlk.2.2.ne
      refine hlk.2.2.same ?_
      show (t.2 ++ [m.vs.length]).head? = _
      cases h3 : t.2 with
      | nil => exact (hne2 h3).elim
      | cons a l => rfl
    · exact ⟨hlk.2.2, hb⟩
theorem hinv_deed {P : List Int} {s : HS (List Int)} (st : List Bool) (n : Nat) (k loc : Int) (h : HInv P s) : HInv (P ++ if k = 4 then [loc] else []) (s.deed listK st n k loc) := by
  have hne := h.lk.ne
  have h0 : 0 < s.m.row.length := List.length_pos_iff.2 hne
  unfold HS.deed
  split
  · refine ⟨h.lk, ?_⟩
    obtain ⟨h1, h2, h3⟩ := h.line
    have hs := hand_split hne
    have e : preL s.ini ++ s.m.row = (preL s.ini ++ s.m.row.dropLast) ++ [s.hand] := by
      rw [List.append_assoc]
      conv => lhs; rw [hs]
      rfl
    have hal : s.hand < s.m.vs.length := h2 _ (by rw [e]; simp)
    refine ⟨h1, fun v hv => by simpa using h2 v hv, ?_⟩
    have hnd := asc_nodup h1
    show catL (s.m.vs.set s.hand _) (preL s.ini ++ s.m.row) = _
    rw [e] at h3 hnd ⊢
    have n1 : s.hand ∉ preL s.ini ++ s.m.row.dropLast := fun hm => (List.nodup_append.1 hnd).2.2 _ hm _ (by simp) rfl
    rw [catL_app, catL_set _ n1, ← h3, catL_app]
    simp only [catL, List.map_cons, List.map_nil, List.flatten_cons, List.flatten_nil, List.append_nil]
    rw [getD_set _ _ hal]
    show _ ++ (_ ++ _) = _
    simp [listK]
  · rename_i h4
    simp only [List.append_nil]
    split
    · exact ⟨h.lk, h.line⟩
    · split
      · refine ⟨⟨by simp, ?_, h.lk⟩, ?_⟩
        · show s.m.row.getLast? = [s.hand].head?
          have hs := hand_split hne
          conv => lhs; rw [hs]
          simp [HS.hand]
        · have hs := hand_split hne
          have e : preL ((s.sp, s.m.row) :: s.ini) ++ [s.hand] = preL s.ini ++ s.m.row := by
            rw [preL, List.append_assoc]
            conv => rhs; rw [hs]
            rfl
          obtain ⟨h1, h2, h3⟩ := h.line
          rw [← e] at h1 h2 h3
          exact ⟨h1, h2, h3⟩
      · split
        · refine ⟨?_, h.line.all n h0⟩
          obtain ⟨v, hv, hh⟩ := s.m.all_head listK n h0
          exact h.lk.same (by show (s.m.all listK n).row.head? = _; rw [hv, hh]; rfl)
        · exact hinv_back st n h
/-- What is put by deeds. -/
def putsL (ds : List (Int × Int)) : List Int := (ds.filter (fun d => d.1 == 4)).map (·.2)
theorem putsL_cons (d : Int × Int) (ds : List (Int × Int)) : putsL (d :: ds) = (if d.1 = 4 then [d.2] else []) ++ putsL ds := by
  unfold putsL
  by_cases h : d.1 = 4 <;> simp [h]
theorem hinv_run (st : List Bool) : ∀ (ds : List (Int × Int)) (n : Nat) (P : List Int) (s : HS (List Int)), HInv P s → HInv (P ++ putsL ds) (s.run listK st ds n) := by
  intro ds
  induction ds with
  | nil => intro n P s h; simpa [HS.run, putsL] using h
  | cons d ds ih =>
    intro n P s h
    have := ih (n + 1) _ _ (hinv_deed st n d.1 d.2 h)
    rw [putsL_cons, ← List.append_assoc]
    exact this
theorem ends_inv (n : Nat) : ∀ (ini : List (Nat × List Nat)) (P : List Int) (m : MS (List Int)), Lk m.row ini → LineOk (preL ini) P m → LineOk [] P (MS.ends listK n ini m) ∧ (MS.ends listK n ini m).row = [0] := by
  intro ini
  induction ini with
  | nil =>
    intro P m h1 h2
    have h0 : 0 < m.row.length := List.length_pos_iff.2 h1.ne
    obtain ⟨v, hv, hh⟩ := m.all_head listK n h0
    have : v = 0 := by
      have h3 : m.row.head? = some 0 := h1
      rw [h3] at hh
      injection hh with hh
      exact hh.symm
    subst this
    exact ⟨h2.all n h0, hv⟩
  | cons t ini ih =>
    intro P m h1 h2
    have h0 : 0 < m.row.length := List.length_pos_iff.2 h1.ne
    obtain ⟨v, hv, hh⟩ := m.all_head listK n h0
    exact ih P _ h1.2.2 (line_back (row := []) (h2.all n h0) hv (h1.2.1.trans hh))
/-- The reducer theorem: what is left is what was put, in its order. -/
theorem final_puts (st : List Bool) (ds : List (Int × Int)) (picks : List Int) : (endMS listK st ds picks).vs.getD 0 [] = putsL ds := by
  have h := hinv_run st ds 0 [] _ (hinv_start picks)
  obtain ⟨⟨h1, h2, h3⟩, h4⟩ := ends_inv ds.length (endHS listK st ds picks).ini _ _ h.lk h.line
  rw [h4] at h3
  have h5 : catL (endMS listK st ds picks).vs [0] = putsL ds := h3
  simpa [catL] using h5
end Go.Proofs.Ytdiabpoafennlab
/-! A reducer's player in memory. -/
namespace Go.Proofs.Ytdiabpoafennlab
set_option linter.unusedVariables false
set_option maxRecDepth 20000
set_option linter.unusedSimpArgs false
open Go.RowKit Go.HeapKit

/-! Blocks by their types. -/
/-- What S names is of one type, or new. -/
def OnlyT (S : Nat → Prop) (w : World) (t : TypeId) : Prop := ∀ i, S i → i < w.heap.size → ∃ cs fz, w.heap[i]? = some (.cells cs t fz)
theorem onlyT_one {w : World} {g : Nat} {cs : Array Value} {t : TypeId} {fz : Nat × Nat} (h : w.heap[g]? = some (.cells cs t fz)) : OnlyT (· = g) w t := fun i e _ => ⟨cs, fz, e ▸ h⟩
theorem onlyT_own {w : World} {base : Nat} {e : TypeId} {size : Nat} {v : Value} {n : Nat} {xs : List Value} (h : w.ownsRow base e size v n xs) : OnlyT (fun k => v.ownBlock = some k) w e := fun i hi _ => by
  obtain ⟨cur, hc⟩ := own_block h hi
  exact ⟨cur, _, hc⟩
theorem row_other {S : Nat → Prop} {w w' : World} {base : Nat} {t e : TypeId} {size : Nat} {v : Value} {n : Nat} {xs : List Value} (h : w.ownsRow base e size v n xs) (hk : Keeps S w w') (hS : OnlyT S w t) (hne : t ≠ e) : w'.ownsRow base e size v n xs :=
  row_kept h hk (fun g hg hs => by
    obtain ⟨cs, fz, h1⟩ := hS g hs (own_lt h hg)
    obtain ⟨cur, hc⟩ := own_block h hg
    rw [h1] at hc
    injection hc with hc
    injection hc with _ hc
    exact hne hc)
theorem blk_other {S : Nat → Prop} {w w' : World} {p : Nat} {c : Array Value} {t e : TypeId} {fz : Nat × Nat} (h : w.heap[p]? = some (.cells c e fz)) (hk : Keeps S w w') (hS : OnlyT S w t) (hne : t ≠ e) : w'.heap[p]? = some (.cells c e fz) :=
  blk_kept h hk (fun hs => by
    obtain ⟨cs, fz2, h1⟩ := hS p hs (blk_lt h)
    rw [h] at h1
    injection h1 with h1
    injection h1 with _ h1
    exact hne h1.symm)
theorem own_cellS {w : World} {base : Nat} {e : TypeId} {size : Nat} {a : Option Addr} {n c : Nat} {vs : List Value} {k : Nat} {x : Value} (h : w.ownsRow base e size (.slice a n c) n vs) (hx : vs[k]? = some x) :
    ∃ g, a = some ⟨g, 0, none⟩ ∧ base ≤ g ∧ g < w.heap.size ∧ n ≤ c ∧ w.cell? ⟨g, k, none⟩ = some x ∧ ∀ i, w.frozen? ⟨g, i, none⟩ = false := by
  have hk := (List.getElem?_eq_some_iff.1 hx).1
  have hl := h.1
  rcases h.2 with ⟨_, h1⟩ | ⟨g, cap, cur, hv, hbg, hg, hnc, hcm, hcs, htake⟩
  · rw [h1, Nat.zero_mul] at hl
    omega
  · injection hv with e1 e2 e3
    subst e1 e3
    have hcell : ∀ j u, vs[j]? = some u → w.cell? ⟨g, j, none⟩ = some u := by
      intro j u this
      rw [blk_cell hg]
      rw [← htake, List.getElem?_take] at this
      split at this
      · simpa using this
      · cases this
    exact ⟨g, rfl, hbg, (Array.getElem?_eq_some_iff.1 hg).1, hnc, hcell _ _ hx, fun i => blk_free hg i⟩
theorem range_get {n k : Nat} (F : Nat → Value) (h : k < n) : ((List.range n).map F)[k]? = some (F k) := by simp [h]
def upd {α β : Type} [DecidableEq α] (f : α → β) (k : α) (v : β) (j : α) : β := if j = k then v else f j
theorem upd_eq {α β : Type} [DecidableEq α] (f : α → β) (k : α) (v : β) : upd f k v k = v := if_pos rfl
theorem upd_ne {α β : Type} [DecidableEq α] {f : α → β} {k j : α} {v : β} (h : j ≠ k) : upd f k v j = f j := if_neg h
theorem range_setF {n k : Nat} (F : Nat → Value) (v : Value) : (((List.range n).map F).set k v) = (List.range n).map (upd F k v) := by
  apply List.ext_getElem?
  intro i
  rw [List.getElem?_set]
  by_cases h : i < n
  · rw [range_get _ h, range_get _ h]
    by_cases hk : k = i
    · subst hk; rw [upd_eq]; simp [h]
    · rw [upd_ne (fun e => hk e.symm), if_neg hk]
  · simp [h]
    omega
theorem range_cong {n : Nat} {F G : Nat → Value} (h : ∀ i, i < n → F i = G i) : (List.range n).map F = (List.range n).map G := List.map_congr_left (fun i hi => h i (by simpa using hi))

/-! The player. -/
structure PS where
  vs : List (List Int)
  tk : List (Nat × List Nat)
  pk : List Int
  spn : Nat
  mg : List (Nat × Nat × Nat)
  lk : List (List Int)
structure PX where
  sa : Option Addr
  sc : Nat
  pa : Option Addr
  pc : Nat
  va : Option Addr
  vc : Nat
  ta : Option Addr
  tc : Nat
  ma : Option Addr
  mc : Nat
  la : Option Addr
  lc : Nat
abbrev Ky := Nat ⊕ Nat
def PX.cells (X : PX) (st : List Bool) (s : PS) : Array Value := #[.func (.func 33) #[] #[], .func (.func 34) #[] #[], .func (.func 35) #[] #[], .func (.func 36) #[] #[],
  .slice X.sa st.length X.sc, .slice X.pa s.pk.length X.pc, .slice X.va s.vs.length X.vc, .slice X.ta s.tk.length X.tc, .int .i64 s.spn, .slice X.ma s.mg.length X.mc, .slice X.la s.lk.length X.lc]
/-- What a row of numbers holds: views, looks. -/
def Lf (vs lk : List (List Int)) : Ky → List Int
  | .inl i => vs.getD i []
  | .inr i => lk.getD i []
def nI (l : List Nat) : List Int := l.map (fun i : Nat => (i : Int))
def nv (l : List Nat) : List Value := iv (nI l)
def rowOf (tk : List (Nat × List Nat)) (i : Nat) : List Nat := (tk.getD i (0, [])).2
/-- The cells of the tasks: spawn, row. -/
def tkF (tk : List (Nat × List Nat)) (H : Nat → Value) (k : Nat) : Value := if k % 2 = 0 then .int .i64 (tk.getD (k / 2) (0, [])).1 else H (k / 2)
def mgV (mg : List (Nat × Nat × Nat)) : List Value := mg.flatMap fun x => [.int .i64 x.1, .int .i64 x.2.1, .int .i64 x.2.2]
structure Vw (w : World) (base : Nat) (va : Option Addr) (vc : Nat) (la : Option Addr) (lc : Nat) (K : Ky → Value) (vs lk : List (List Int)) : Prop where
  rows : ∀ k, w.ownsRow base 2 1 (K k) (Lf vs lk k).length (iv (Lf vs lk k))
  apart : ∀ i j b, i ≠ j → (K i).ownBlock = some b → (K j).ownBlock ≠ some b
  views : w.ownsRow base 28 1 (.slice va vs.length vc) vs.length ((List.range vs.length).map fun i => K (.inl i))
  looks : w.ownsRow base 28 1 (.slice la lk.length lc) lk.length ((List.range lk.length).map fun i => K (.inr i))
  vl : ∀ b n c m d, (Value.slice va n c).ownBlock = some b → (Value.slice la m d).ownBlock ≠ some b
structure Tks (w : World) (base : Nat) (ta : Option Addr) (tc : Nat) (H R : Nat → Value) (tk : List (Nat × List Nat)) : Prop where
  tks : w.ownsRow base 89 2 (.slice ta tk.length tc) tk.length ((List.range (tk.length * 2)).map (tkF tk H))
  rows : ∀ i, i < tk.length → w.ownsRow base 3 1 (R i) (rowOf tk i).length (nv (rowOf tk i))
  apart : ∀ i j b, i < tk.length → j < tk.length → i ≠ j → (R i).ownBlock = some b → (R j).ownBlock ≠ some b
structure Args (w : World) (base : Nat) (sa pa : Option Addr) (pc : Nat) (st : List Bool) (pk : List Int) : Prop where
  seenS : SeenV w sa st.length (bv' st)
  seenP : SeenV w pa pk.length (iv pk)
  lowS : ∀ b, blockOf sa = some b → 0 < st.length → b < base
  lowP : ∀ b, blockOf pa = some b → 0 < pk.length → b < base
  capP : pk.length ≤ pc
structure PM (w : World) (base pb : Nat) (st : List Bool) (X : PX) (K : Ky → Value) (H R : Nat → Value) (s : PS) : Prop where
  blk : w.heap[pb]? = some (.cells (X.cells st s) 59 (0, 0))
  low : base ≤ pb
  vw : Vw w base X.va X.vc X.la X.lc K s.vs s.lk
  tk : Tks w base X.ta X.tc H R s.tk
  ar : Args w base X.sa X.pa X.pc st s.pk
  mg : w.ownsRow base 96 3 (.slice X.ma s.mg.length X.mc) s.mg.length (mgV s.mg)
section
variable {w w' : World} {base pb : Nat} {st : List Bool} {X : PX} {K : Ky → Value} {H R : Nat → Value} {s : PS} {S : Nat → Prop} {t : TypeId}
theorem Vw.other {va la : Option Addr} {vc lc : Nat} {vs lk : List (List Int)} (h : Vw w base va vc la lc K vs lk) (hk : Keeps S w w') (hS : OnlyT S w t) (h1 : t ≠ 2) (h2 : t ≠ 28) : Vw w' base va vc la lc K vs lk :=
  ⟨fun k => row_other (h.rows k) hk hS h1, h.apart, row_other h.views hk hS h2, row_other h.looks hk hS h2, h.vl⟩
theorem Tks.other {ta : Option Addr} {tc : Nat} {tk : List (Nat × List Nat)} (h : Tks w base ta tc H R tk) (hk : Keeps S w w') (hS : OnlyT S w t) (h1 : t ≠ 89) (h2 : t ≠ 3) : Tks w' base ta tc H R tk :=
  ⟨row_other h.tks hk hS h1, fun i hi => row_other (h.rows i hi) hk hS h2, h.apart⟩
theorem Args.other {sa pa : Option Addr} {pc : Nat} {pk : List Int} (h : Args w base sa pa pc st pk) (hk : Keeps S w w') (hS : ∀ i, S i → base ≤ i) : Args w' base sa pa pc st pk :=
  ⟨h.seenS.kept hk (fun h0 b hb hlt hs => by have := hS b hs; have := h.lowS b hb h0; omega), h.seenP.kept hk (fun h0 b hb hlt hs => by have := hS b hs; have := h.lowP b hb h0; omega), h.lowS, h.lowP, h.capP⟩
theorem PM.more (h : PM w base pb st X K H R s) (hk : Keeps None w w') : PM w' base pb st X K H R s :=
  ⟨blk_kept h.blk hk (fun f => f), h.low, h.vw.other (t := 0) hk (fun _ f => f.elim) (by decide) (by decide), h.tk.other (t := 0) hk (fun _ f => f.elim) (by decide) (by decide), h.ar.other hk (fun _ f => f.elim), row_kept h.mg hk (fun _ _ f => f)⟩
theorem PM.cell (h : PM w base pb st X K H R s) (i : Nat) : w.cell? ⟨pb, i, none⟩ = (X.cells st s)[i]? := blk_cell h.blk i
theorem PM.free (h : PM w base pb st X K H R s) (i : Nat) : w.frozen? ⟨pb, i, none⟩ = false := blk_free h.blk i
/-- One of the player's cells is stored: what stands besides. -/
theorem PM.put {c : Array Value} (hb : w.heap[pb]? = some (.cells c 59 (0, 0))) (hl : base ≤ pb) {i : Nat} {v : Value} (hc : c.setIfInBounds i v = X.cells st s) (h1 : Vw w base X.va X.vc X.la X.lc K s.vs s.lk) (h2 : Tks w base X.ta X.tc H R s.tk) (h3 : Args w base X.sa X.pa X.pc st s.pk)
    (h4 : w.ownsRow base 96 3 (.slice X.ma s.mg.length X.mc) s.mg.length (mgV s.mg)) : PM (w.setCell ⟨pb, i, none⟩ v) base pb st X K H R s := by
  have hk : Keeps (· = pb) w (w.setCell ⟨pb, i, none⟩ v) := keeps_one (Keeps.refl _ _) _
  have ho : OnlyT (· = pb) w 59 := onlyT_one hb
  refine ⟨?_, hl, h1.other hk ho (by decide) (by decide), h2.other hk ho (by decide) (by decide), h3.other hk (fun i e => by omega), row_other h4 hk ho (by decide)⟩
  rw [← hc]
  exact blk_set hb v
theorem own_a {base : Nat} {e : TypeId} {size : Nat} {a : Option Addr} {n c : Nat} {xs : List Value} {b : Nat} (h : w.ownsRow base e size (.slice a n c) n xs) {m d : Nat} (hb : (Value.slice a m d).ownBlock = some b) : a = some ⟨b, 0, none⟩ := by
  rcases h.2 with ⟨e1, _⟩ | ⟨g, cap, cur, e1, _⟩
  · injection e1 with e1
    subst e1
    simp [Value.ownBlock] at hb
  · injection e1 with e1
    subst e1
    simp [Value.ownBlock] at hb
    rw [hb]
theorem Try.infoRow : (Try.prog.info? 28).map (fun i => (i.zero, i.size, i.bytes)) = some (some (.slice none 0 0), 1, 24) := by kernel_rfl
/-- 'append(rows, row)'. -/
theorem rows_more (base : Nat) (sl V : Value) (n : Nat) (xs : List Value) (ty g0 : Nat) (w : World) (h : w.ownsRow base 28 1 sl n xs) (hb : base ≤ w.heap.size) (hlen : (n + 1) * 24 ≤ 140737488355328) (hV : V.oneCell' = true)
    (hg0 : w.heap[g0]? = some (.cells #[V] 28 (0, 0))) :
    ∃ g cap w', (Builtin.append_ #[30, 30] ty #[sl, .slice (some ⟨g0, 0, none⟩) 1 1]).run Try.prog w = .ok (.slice (some ⟨g, 0, none⟩) (n + 1) cap) w' ∧
      w'.ownsRow base 28 1 (.slice (some ⟨g, 0, none⟩) (n + 1) cap) (n + 1) (xs ++ [V]) ∧ Keeps (fun k => sl.ownBlock = some k) w w' ∧ (sl.ownBlock = some g ∨ w.heap.size ≤ g) := by
  obtain ⟨i0, hi, hz0, hz1, hz2⟩ := info_parts Try.infoRow
  obtain ⟨v', w1, hr, ho, hgr, hm, -⟩ := run_append_moved (P := Try.prog) w base 30 ty 28 i0 _ 1 24 Try.underlying30 hi hz0 hz1 hz2 rfl (by decide) sl n _ h
    ⟨g0, 0, none⟩ 1 1 [V] rfl (by
      intro j u hu
      rw [addr_at, blk_cell hg0]
      simpa using hu) (by
      intro u hu
      simp at hu
      subst hu; exact hV) (by unfold maxLen; omega) hlen hb
  obtain ⟨g, cap, rfl⟩ : ∃ g cap, v' = .slice (some ⟨g, 0, none⟩) (n + 1) cap := by
    rcases ho.2 with ⟨_, h0⟩ | ⟨b, cap, cur, rfl, _⟩
    · omega
    · exact ⟨b, cap, rfl⟩
  refine ⟨g, cap, w1, hr, ho, (Keeps.refl _ w).andGrown hgr (fun k e => .inl e), ?_⟩
  rcases hm with hm | ⟨g', e, hg⟩
  · exact .inl (hm.symm.trans rfl)
  · simp [Value.ownBlock] at e; exact .inr (by omega)
end
end Go.Proofs.Ytdiabpoafennlab
/-! What becomes of a reducer's player in memory. -/
namespace Go.Proofs.Ytdiabpoafennlab
set_option linter.unusedVariables false
set_option maxRecDepth 20000
set_option linter.unusedSimpArgs false
open Go.RowKit Go.HeapKit

theorem Lf_new (vs lk : List (List Int)) (k : Ky) : Lf (vs ++ [[]]) lk k = Lf vs lk k := by
  cases k with
  | inr i => rfl
  | inl i =>
    simp only [Lf, List.getD_eq_getElem?_getD]
    by_cases h : i < vs.length
    · rw [List.getElem?_append_left h]
    · rw [List.getElem?_append_right (by omega), List.getElem?_eq_none (l := vs) (by omega)]
      by_cases h2 : i - vs.length = 0
      · rw [h2]; rfl
      · rw [List.getElem?_eq_none (by simp; omega)]
theorem Lf_set {vs : List (List Int)} (lk : List (List Int)) {h : Nat} (l : List Int) (hh : h < vs.length) (k : Ky) : Lf (vs.set h l) lk k = if k = .inl h then l else Lf vs lk k := by
  cases k with
  | inr i => rfl
  | inl i =>
    simp only [Lf, List.getD_eq_getElem?_getD, Sum.inl.injEq]
    by_cases e : i = h
    · subst e; rw [if_pos rfl]; simp [hh]
    · rw [if_neg e, List.getElem?_set_ne (fun e2 => e e2.symm)]
theorem Lf_look (vs lk : List (List Int)) (l : List Int) (k : Ky) : Lf vs (lk ++ [l]) k = if k = .inr lk.length then l else Lf vs lk k := by
  cases k with
  | inl i => rfl
  | inr i =>
    simp only [Lf, List.getD_eq_getElem?_getD, Sum.inr.injEq]
    by_cases e : i = lk.length
    · subst e; rw [if_pos rfl]; simp
    · rw [if_neg e]
      by_cases h : i < lk.length
      · rw [List.getElem?_append_left h]
      · rw [List.getElem?_eq_none (by simp; omega), List.getElem?_eq_none (by omega)]
theorem vals_more (K : Ky → Value) (F : Nat → Ky) (hF : ∀ i j, F i = F j → i = j) (n : Nat) (V : Value) : (List.range (n + 1)).map (fun i => upd K (F n) V (F i)) = (List.range n).map (fun i => K (F i)) ++ [V] := by
  rw [List.range_succ, List.map_append, List.map_singleton, upd_eq]
  congr 1
  refine range_cong (F := fun i => upd K (F n) V (F i)) (G := fun i => K (F i)) (fun i hi => upd_ne (fun e => ?_))
  have := hF _ _ e
  omega
theorem vals_set (K : Ky → Value) (F : Nat → Ky) (hF : ∀ i j, F i = F j → i = j) (n h : Nat) (V : Value) : ((List.range n).map (fun i => K (F i))).set h V = (List.range n).map (fun i => upd K (F h) V (F i)) := by
  rw [range_setF (fun i => K (F i)) V]
  refine range_cong (fun i hi => ?_)
  by_cases e : i = h
  · subst e; rw [upd_eq, upd_eq]
  · rw [upd_ne e, upd_ne (fun e2 => e (hF _ _ e2))]
/-- Rows of which one is put in another's stead, in blocks of their own. -/
theorem upd_apart {K : Ky → Value} {V : Value} {k : Ky} {w : World} (ha : ∀ i j b, i ≠ j → (K i).ownBlock = some b → (K j).ownBlock ≠ some b) (hlt : ∀ i b, (K i).ownBlock = some b → b < w.heap.size) (hV : ∀ b, V.ownBlock = some b → (K k).ownBlock = some b ∨ w.heap.size ≤ b) :
    ∀ i j b, i ≠ j → (upd K k V i).ownBlock = some b → (upd K k V j).ownBlock ≠ some b := by
  intro i j b hij hi hj
  by_cases ei : i = k
  · subst ei
    rw [upd_eq] at hi
    rw [upd_ne (Ne.symm hij)] at hj
    rcases hV b hi with h | h
    · exact ha _ _ b hij h hj
    · have := hlt j b hj; omega
  · rw [upd_ne ei] at hi
    by_cases ej : j = k
    · subst ej
      rw [upd_eq] at hj
      rcases hV b hj with h | h
      · exact ha _ _ b hij hi h
      · have := hlt i b hi; omega
    · rw [upd_ne ej] at hj
      exact ha _ _ b hij hi hj
section
variable {w w1 : World} {base pb : Nat} {st : List Bool} {X : PX} {K : Ky → Value} {H R : Nat → Value} {s : PS}
theorem inl_inj : ∀ i j : Nat, (Sum.inl i : Ky) = .inl j → i = j := fun i j e => by injection e
theorem inr_inj : ∀ i j : Nat, (Sum.inr i : Ky) = .inr j → i = j := fun i j e => by injection e
/-- A new view. -/
theorem PM.newView (h : PM w base pb st X K H R s) {g cap : Nat} (ho : w1.ownsRow base 28 1 (.slice (some ⟨g, 0, none⟩) (s.vs.length + 1) cap) (s.vs.length + 1) (((List.range s.vs.length).map fun i => K (.inl i)) ++ [.slice none 0 0])) (hk : Keeps (fun k => (Value.slice X.va s.vs.length X.vc).ownBlock = some k) w w1)
    (hm : (Value.slice X.va s.vs.length X.vc).ownBlock = some g ∨ w.heap.size ≤ g) :
    PM (w1.setCell ⟨pb, 6, none⟩ (.slice (some ⟨g, 0, none⟩) (s.vs.length + 1) cap)) base pb st { X with va := some ⟨g, 0, none⟩, vc := cap } (upd K (.inl s.vs.length) (.slice none 0 0)) H R { s with vs := s.vs ++ [[]] } := by
  have hT := onlyT_own h.vw.views
  refine PM.put (c := X.cells st s) (blk_other h.blk hk hT (by decide)) h.low (by simp [PX.cells]) ?_ (h.tk.other hk hT (by decide) (by decide)) (h.ar.other hk (fun i e => row_low h.vw.views e)) (row_other h.mg hk hT (by decide))
  refine ⟨fun k => ?_, ?_, ?_, ?_, ?_⟩
  · rw [Lf_new]
    by_cases e : k = .inl s.vs.length
    · subst e
      rw [upd_eq, show Lf s.vs s.lk (.inl s.vs.length) = [] by simp [Lf]]
      exact row_nil _ _ _ _
    · rw [upd_ne e]
      exact row_other (h.vw.rows k) hk hT (by decide)
  · exact upd_apart h.vw.apart (fun i b e => own_lt (h.vw.rows i) e) (fun b e => by simp [Value.ownBlock] at e)
  · show w1.ownsRow base 28 1 (.slice (some ⟨g, 0, none⟩) (s.vs ++ [[]]).length cap) (s.vs ++ [[]]).length _
    rw [List.length_append, List.length_singleton, vals_more K .inl inl_inj]
    exact ho
  · rw [range_cong (G := fun i => K (.inr i)) (fun i hi => upd_ne (by simp))]
    exact row_kept h.vw.looks hk (fun b e e2 => h.vw.vl b _ _ _ _ e2 e)
  · intro b n c m d hb
    simp [Value.ownBlock] at hb
    subst hb
    intro e
    rcases hm with hm | hm
    · exact h.vw.vl g _ _ m d hm e
    · have := own_lt (v := .slice X.la s.lk.length X.lc) h.vw.looks (g := g) (by rw [own_a h.vw.looks e]; rfl)
      omega
/-- A view holds another row. -/
theorem PM.putView (h : PM w base pb st X K H R s) {v vb : Nat} {V : Value} {l : List Int} (hv : v < s.vs.length) (hva : X.va = some ⟨vb, 0, none⟩) (ho : w1.ownsRow base 2 1 V l.length (iv l)) (hk : Keeps (fun k => (K (.inl v)).ownBlock = some k) w w1) (hm : ∀ b, V.ownBlock = some b → (K (.inl v)).ownBlock = some b ∨ w.heap.size ≤ b) :
    PM (w1.setCell ⟨vb, v, none⟩ V) base pb st X (upd K (.inl v) V) H R { s with vs := s.vs.set v l } := by
  have hT := onlyT_own (h.vw.rows (.inl v))
  have hvw1 := row_other h.vw.views hk hT (by decide)
  have hb1 := blk_other h.blk hk hT (by decide)
  obtain ⟨cur, hcur⟩ := own_block hvw1 (g := vb) (by rw [hva]; rfl)
  have hk2 : Keeps (· = vb) w1 (w1.setCell ⟨vb, v, none⟩ V) := keeps_one (Keeps.refl _ _) _
  have hT2 : OnlyT (· = vb) w1 28 := onlyT_one hcur
  have hlo : base ≤ vb := row_low hvw1 (by rw [hva]; rfl)
  refine ⟨?_, h.low, ⟨fun k => ?_, ?_, ?_, ?_, h.vw.vl⟩, (h.tk.other hk hT (by decide) (by decide)).other hk2 hT2 (by decide) (by decide), (h.ar.other hk (fun i e => row_low (h.vw.rows (.inl v)) e)).other hk2 (fun i e => by omega), row_other (row_other h.mg hk hT (by decide)) hk2 hT2 (by decide)⟩
  · have := blk_other hb1 hk2 hT2 (by decide)
    rw [this]
    simp [PX.cells]
  · rw [Lf_set s.lk l hv]
    by_cases e : k = .inl v
    · subst e
      rw [if_pos rfl, upd_eq]
      exact row_other ho hk2 hT2 (by decide)
    · rw [if_neg e, upd_ne e]
      exact row_other (row_kept (h.vw.rows k) hk (fun b e1 e2 => h.vw.apart _ _ b e e1 e2)) hk2 hT2 (by decide)
  · exact upd_apart h.vw.apart (fun i b e => own_lt (h.vw.rows i) e) hm
  · show (w1.setCell ⟨vb, v, none⟩ V).ownsRow base 28 1 (.slice X.va (s.vs.set v l).length X.vc) (s.vs.set v l).length _
    rw [List.length_set, ← vals_set K .inl inl_inj]
    rw [hva] at hvw1 ⊢
    exact row_set hvw1 v V
  · rw [range_cong (G := fun i => K (.inr i)) (fun i hi => upd_ne (by simp))]
    refine row_kept (row_other h.vw.looks hk hT (by decide)) hk2 (fun b e e2 => ?_)
    subst e2
    exact h.vw.vl b s.vs.length X.vc _ _ (by rw [hva]; rfl) e
/-- A look is told. -/
theorem PM.newLook (h : PM w base pb st X K H R s) {V : Value} {l : List Int} {w2 : World} {g cap : Nat} (ho : w1.ownsRow base 2 1 V l.length (iv l)) (hk : Keeps None w w1) (hm : ∀ b, V.ownBlock = some b → w.heap.size ≤ b)
    (ho2 : w2.ownsRow base 28 1 (.slice (some ⟨g, 0, none⟩) (s.lk.length + 1) cap) (s.lk.length + 1) (((List.range s.lk.length).map fun i => K (.inr i)) ++ [V])) (hk2 : Keeps (fun k => (Value.slice X.la s.lk.length X.lc).ownBlock = some k) w1 w2)
    (hm2 : (Value.slice X.la s.lk.length X.lc).ownBlock = some g ∨ w1.heap.size ≤ g) :
    PM (w2.setCell ⟨pb, 10, none⟩ (.slice (some ⟨g, 0, none⟩) (s.lk.length + 1) cap)) base pb st { X with la := some ⟨g, 0, none⟩, lc := cap } (upd K (.inr s.lk.length) V) H R { s with lk := s.lk ++ [l] } := by
  have h1 := h.more hk
  have hT := onlyT_own h1.vw.looks
  refine PM.put (c := X.cells st s) (blk_other h1.blk hk2 hT (by decide)) h.low (by simp [PX.cells]) ?_ (h1.tk.other hk2 hT (by decide) (by decide)) (h1.ar.other hk2 (fun i e => row_low h1.vw.looks e)) (row_other h1.mg hk2 hT (by decide))
  refine ⟨fun k => ?_, ?_, ?_, ?_, ?_⟩
  · rw [Lf_look]
    by_cases e : k = .inr s.lk.length
    · subst e
      rw [upd_eq, if_pos rfl]
      exact row_other ho hk2 hT (by decide)
    · rw [upd_ne e, if_neg e]
      exact row_other (h1.vw.rows k) hk2 hT (by decide)
  · exact upd_apart h.vw.apart (fun i b e => own_lt (h.vw.rows i) e) (fun b e => .inr (hm b e))
  · rw [range_cong (G := fun i => K (.inl i)) (fun i hi => upd_ne (by simp))]
    exact row_kept h1.vw.views hk2 (fun b e e2 => h.vw.vl b _ _ _ _ e e2)
  · show w2.ownsRow base 28 1 (.slice (some ⟨g, 0, none⟩) (s.lk ++ [l]).length cap) (s.lk ++ [l]).length _
    rw [List.length_append, List.length_singleton, vals_more K .inr inr_inj]
    exact ho2
  · intro b n c m d hb e
    simp [Value.ownBlock] at e
    subst e
    rcases hm2 with hm | hm
    · exact h.vw.vl g n c _ _ hb hm
    · have := own_lt (v := .slice X.va s.vs.length X.vc) h1.vw.views (g := g) (by rw [own_a h1.vw.views hb]; rfl)
      omega
/-- A merge is told. -/
theorem PM.newMerge (h : PM w base pb st X K H R s) {x : Nat × Nat × Nat} {g cap : Nat} (ho : w1.ownsRow base 96 3 (.slice (some ⟨g, 0, none⟩) (s.mg.length + 1) cap) (s.mg.length + 1) (mgV (s.mg ++ [x]))) (hk : Keeps (fun k => (Value.slice X.ma s.mg.length X.mc).ownBlock = some k) w w1) :
    PM (w1.setCell ⟨pb, 9, none⟩ (.slice (some ⟨g, 0, none⟩) (s.mg.length + 1) cap)) base pb st { X with ma := some ⟨g, 0, none⟩, mc := cap } K H R { s with mg := s.mg ++ [x] } := by
  have hT := onlyT_own h.mg
  refine PM.put (c := X.cells st s) (blk_other h.blk hk hT (by decide)) h.low (by simp [PX.cells]) (h.vw.other hk hT (by decide) (by decide)) (h.tk.other hk hT (by decide) (by decide)) (h.ar.other hk (fun i e => row_low h.mg e)) ?_
  show w1.ownsRow base 96 3 (.slice (some ⟨g, 0, none⟩) (s.mg ++ [x]).length cap) (s.mg ++ [x]).length _
  rw [List.length_append, List.length_singleton]
  exact ho
/-- The next pick is taken. -/
theorem PM.nextPick (h : PM w base pb st X K H R s) {x : Int} {pk : List Int} {b off : Nat} (hp : s.pk = x :: pk) (ha : X.pa = some ⟨b, off, none⟩) :
    PM (w.setCell ⟨pb, 5, none⟩ (.slice (if X.pc = 1 then some ⟨b, off, none⟩ else some ⟨b, off + 1, none⟩) pk.length (X.pc - 1))) base pb st { X with pa := if X.pc = 1 then some ⟨b, off, none⟩ else some ⟨b, off + 1, none⟩, pc := X.pc - 1 } K H R { s with pk := pk } := by
  have hc := h.ar.capP
  rw [hp] at hc
  simp at hc
  refine PM.put (c := X.cells st s) h.blk h.low (by simp [PX.cells]) h.vw h.tk ⟨h.ar.seenS, ?_, h.ar.lowS, ?_, by show pk.length ≤ X.pc - 1; omega⟩ h.mg
  · have hs := h.ar.seenP
    rw [hp, ha] at hs
    obtain ⟨b', off', e, hlt, hcell⟩ := hs.ex (by simp)
    injection e with e
    injection e with e1 e2
    subst e1 e2
    refine ⟨(iv_len _).symm, fun h0 => ⟨b, off + 1, by show (if X.pc = 1 then _ else _) = _; rw [if_neg (by have h0' : 0 < pk.length := h0; omega)], hlt, fun k v hv => ?_⟩⟩
    have := hcell (k + 1) v (by simpa [iv] using hv)
    rwa [show off + (k + 1) = off + 1 + k by omega] at this
  · intro b' hb' h0
    have : b' = b := by
      have hb2 : blockOf (if X.pc = 1 then some (⟨b, off, none⟩ : Addr) else some ⟨b, off + 1, none⟩) = some b' := hb'
      split at hb2 <;> simpa [blockOf] using hb2.symm
    subst this
    exact h.ar.lowP b' (by rw [ha]; rfl) (by rw [hp]; simp)
end
end Go.Proofs.Ytdiabpoafennlab
/-! The tasks of a reducer's player in memory. -/
namespace Go.Proofs.Ytdiabpoafennlab
set_option linter.unusedVariables false
set_option maxRecDepth 20000
set_option linter.unusedSimpArgs false
open Go.RowKit Go.HeapKit

theorem tk_cong {tk tk' : List (Nat × List Nat)} {H H' : Nat → Value} {n : Nat} (h1 : ∀ i, i < n → (tk.getD i (0, [])).1 = (tk'.getD i (0, [])).1) (h2 : ∀ i, i < n → H i = H' i) : (List.range (n * 2)).map (tkF tk H) = (List.range (n * 2)).map (tkF tk' H') := by
  refine range_cong (fun k hk => ?_)
  unfold tkF
  rw [h1 _ (by omega), h2 _ (by omega)]
theorem tk_more (tk : List (Nat × List Nat)) (H : Nat → Value) (x : Nat × List Nat) (V : Value) : (List.range ((tk ++ [x]).length * 2)).map (tkF (tk ++ [x]) (upd H tk.length V)) = (List.range (tk.length * 2)).map (tkF tk H) ++ [.int .i64 x.1, V] := by
  have e : (tk ++ [x]).length * 2 = tk.length * 2 + 1 + 1 := by simp; omega
  rw [e, List.range_succ, List.range_succ, List.map_append, List.map_append, List.append_assoc]
  congr 1
  · refine tk_cong (fun i hi => ?_) (fun i hi => upd_ne (by omega))
    rw [List.getD_eq_getElem?_getD, List.getElem?_append_left hi, ← List.getD_eq_getElem?_getD]
  · simp [tkF, show (tk.length * 2 + 1) % 2 = 1 by omega, show (tk.length * 2 + 1) / 2 = tk.length by omega, upd_eq]
theorem tk_setH (tk : List (Nat × List Nat)) (H : Nat → Value) (n i : Nat) (V : Value) : ((List.range (n * 2)).map (tkF tk H)).set (i * 2 + 1) V = (List.range (n * 2)).map (tkF tk (upd H i V)) := by
  rw [range_setF]
  refine range_cong (fun k hk => ?_)
  by_cases e : k = i * 2 + 1
  · subst e
    rw [upd_eq]
    simp [tkF, show (i * 2 + 1) % 2 = 1 by omega, show (i * 2 + 1) / 2 = i by omega, upd_eq]
  · rw [upd_ne e]
    unfold tkF
    by_cases h2 : k % 2 = 0
    · rw [if_pos h2, if_pos h2]
    · rw [if_neg h2, if_neg h2, upd_ne (by omega)]
theorem rowOf_more (tk : List (Nat × List Nat)) (x : Nat × List Nat) (i : Nat) (hi : i < (tk ++ [x]).length) : rowOf (tk ++ [x]) i = if i = tk.length then x.2 else rowOf tk i := by
  unfold rowOf
  rw [List.getD_eq_getElem?_getD, List.getD_eq_getElem?_getD]
  by_cases e : i = tk.length
  · subst e; simp
  · rw [if_neg e, List.getElem?_append_left (by simp at hi; omega)]
theorem Try.infoTask : (Try.prog.info? 89).map (fun i => (i.zero, i.size, i.bytes)) = some (some (.agg #[.int .i64 0, .slice none 0 0]), 2, 32) := by kernel_rfl
theorem Try.infoMerge : (Try.prog.info? 96).map (fun i => (i.zero, i.size, i.bytes)) = some (some (.agg #[.int .i64 0, .int .i64 0, .int .i64 0]), 3, 24) := by kernel_rfl
/-- 'append(tasks, task)'. -/
theorem task_more (base : Nat) (sl : Value) (x : Int) (V : Value) (n : Nat) (xs : List Value) (ty g0 : Nat) (w : World) (h : w.ownsRow base 89 2 sl n xs) (hb : base ≤ w.heap.size) (hlen : (n + 1) * 32 ≤ 140737488355328) (hV : V.oneCell' = true)
    (hg0 : w.heap[g0]? = some (.cells #[.int .i64 x, V] 89 (0, 0))) :
    ∃ g cap w', (Builtin.append_ #[57, 57] ty #[sl, .slice (some ⟨g0, 0, none⟩) 1 1]).run Try.prog w = .ok (.slice (some ⟨g, 0, none⟩) (n + 1) cap) w' ∧
      w'.ownsRow base 89 2 (.slice (some ⟨g, 0, none⟩) (n + 1) cap) (n + 1) (xs ++ [.int .i64 x, V]) ∧ Keeps (fun k => sl.ownBlock = some k) w w' := by
  obtain ⟨i0, hi, hz0, hz1, hz2⟩ := info_parts Try.infoTask
  obtain ⟨v', w1, hr, ho, hgr, hm, -⟩ := run_append_moved (P := Try.prog) w base 57 ty 89 i0 _ 2 32 Try.underlying57 hi hz0 hz1 hz2 rfl (by decide) sl n _ h
    ⟨g0, 0, none⟩ 1 1 [.int .i64 x, V] rfl (by
      intro j u hu
      rw [addr_at, blk_cell hg0]
      simpa using hu) (by
      intro u hu
      simp at hu
      rcases hu with rfl | rfl
      · rfl
      · exact hV) (by unfold maxLen; omega) hlen hb
  obtain ⟨g, cap, rfl⟩ : ∃ g cap, v' = .slice (some ⟨g, 0, none⟩) (n + 1) cap := by
    rcases ho.2 with ⟨_, h0⟩ | ⟨b, cap, cur, rfl, _⟩
    · omega
    · exact ⟨b, cap, rfl⟩
  exact ⟨g, cap, w1, hr, ho, (Keeps.refl _ w).andGrown hgr (fun k e => .inl e)⟩
theorem merge_more (base : Nat) (sl : Value) (mg : List (Nat × Nat × Nat)) (x : Nat × Nat × Nat) (ty g0 : Nat) (w : World) (h : w.ownsRow base 96 3 sl mg.length (mgV mg)) (hb : base ≤ w.heap.size) (hlen : (mg.length + 1) * 24 ≤ 140737488355328)
    (hg0 : w.heap[g0]? = some (.cells #[.int .i64 x.1, .int .i64 x.2.1, .int .i64 x.2.2] 96 (0, 0))) :
    ∃ g cap w', (Builtin.append_ #[29, 29] ty #[sl, .slice (some ⟨g0, 0, none⟩) 1 1]).run Try.prog w = .ok (.slice (some ⟨g, 0, none⟩) (mg.length + 1) cap) w' ∧
      w'.ownsRow base 96 3 (.slice (some ⟨g, 0, none⟩) (mg.length + 1) cap) (mg.length + 1) (mgV (mg ++ [x])) ∧ Keeps (fun k => sl.ownBlock = some k) w w' := by
  obtain ⟨i0, hi, hz0, hz1, hz2⟩ := info_parts Try.infoMerge
  obtain ⟨v', w1, hr, ho, hgr, hm, -⟩ := run_append_moved (P := Try.prog) w base 29 ty 96 i0 _ 3 24 Try.underlying29 hi hz0 hz1 hz2 rfl (by decide) sl mg.length _ h
    ⟨g0, 0, none⟩ 1 1 [.int .i64 x.1, .int .i64 x.2.1, .int .i64 x.2.2] rfl (by
      intro j u hu
      rw [addr_at, blk_cell hg0]
      simpa using hu) (by
      intro u hu
      simp at hu
      rcases hu with rfl | rfl | rfl <;> rfl) (by unfold maxLen; omega) hlen hb
  obtain ⟨g, cap, rfl⟩ : ∃ g cap, v' = .slice (some ⟨g, 0, none⟩) (mg.length + 1) cap := by
    rcases ho.2 with ⟨_, h0⟩ | ⟨b, cap, cur, rfl, _⟩
    · omega
    · exact ⟨b, cap, rfl⟩
  refine ⟨g, cap, w1, hr, ?_, (Keeps.refl _ w).andGrown hgr (fun k e => .inl e)⟩
  simpa [mgV] using ho
theorem row1_more (base : Nat) (sl : Value) (l : List Nat) (x : Nat) (ty g0 : Nat) (w : World) (h : w.ownsRow base 3 1 sl l.length (nv l)) (hb : base ≤ w.heap.size) (hlen : (l.length + 1) * 8 ≤ 140737488355328)
    (hg0 : w.heap[g0]? = some (.cells #[.int .i64 x] 3 (0, 0))) :
    ∃ g cap w', (Builtin.append_ #[24, 24] ty #[sl, .slice (some ⟨g0, 0, none⟩) 1 1]).run Try.prog w = .ok (.slice (some ⟨g, 0, none⟩) (l.length + 1) cap) w' ∧
      w'.ownsRow base 3 1 (.slice (some ⟨g, 0, none⟩) (l.length + 1) cap) (l ++ [x]).length (nv (l ++ [x])) ∧ Keeps (fun k => sl.ownBlock = some k) w w' ∧ (sl.ownBlock = some g ∨ w.heap.size ≤ g) := by
  obtain ⟨i0, hi, hz0, hz1, hz2⟩ := info_parts Try.infoI
  obtain ⟨v', w1, hr, ho, hgr, hm, -⟩ := run_append_moved (P := Try.prog) w base 24 ty 3 i0 _ 1 8 Try.underlying24 hi hz0 hz1 hz2 rfl (by decide) sl l.length _ h
    ⟨g0, 0, none⟩ 1 1 [.int .i64 x] rfl (by
      intro j u hu
      rw [addr_at, blk_cell hg0]
      simpa using hu) (by
      intro u hu
      simp at hu
      subst hu; rfl) (by unfold maxLen; omega) hlen hb
  obtain ⟨g, cap, rfl⟩ : ∃ g cap, v' = .slice (some ⟨g, 0, none⟩) (l.length + 1) cap := by
    rcases ho.2 with ⟨_, h0⟩ | ⟨b, cap, cur, rfl, _⟩
    · omega
    · exact ⟨b, cap, rfl⟩
  refine ⟨g, cap, w1, hr, by simpa [nv, iv, nI] using ho, (Keeps.refl _ w).andGrown hgr (fun k e => .inl e), ?_⟩
  rcases hm with hm | ⟨g', e, hg⟩
  · exact .inl (hm.symm.trans rfl)
  · simp [Value.ownBlock] at e; exact .inr (by omega)
section
variable {w w1 : World} {base pb : Nat} {st : List Bool} {X : PX} {K : Ky → Value} {H R : Nat → Value} {s : PS}
theorem row_same {R : Nat → Value} {tk : List (Nat × List Nat)} {x : Nat × List Nat} {V : Value} {i : Nat} (hi : i < (tk ++ [x]).length) (h1 : i ≠ tk.length) : upd R tk.length V i = R i ∧ rowOf (tk ++ [x]) i = rowOf tk i := ⟨upd_ne h1, by rw [rowOf_more tk x i hi, if_neg h1]⟩
/-- A task begins. -/
theorem PM.spawn (h : PM w base pb st X K H R s) {V : Value} {x : Nat × List Nat} {w2 : World} {g cap : Nat} (hk : Keeps None w w1) (ho : w1.ownsRow base 3 1 V x.2.length (nv x.2)) (hm : ∀ b, V.ownBlock = some b → w.heap.size ≤ b)
    (ho2 : w2.ownsRow base 89 2 (.slice (some ⟨g, 0, none⟩) (s.tk.length + 1) cap) (s.tk.length + 1) ((List.range (s.tk.length * 2)).map (tkF s.tk H) ++ [.int .i64 x.1, V])) (hk2 : Keeps (fun k => (Value.slice X.ta s.tk.length X.tc).ownBlock = some k) w1 w2) :
    PM (w2.setCell ⟨pb, 7, none⟩ (.slice (some ⟨g, 0, none⟩) (s.tk.length + 1) cap)) base pb st { X with ta := some ⟨g, 0, none⟩, tc := cap } K (upd H s.tk.length V) (upd R s.tk.length V) { s with tk := s.tk ++ [x] } := by
  have h1 := h.more hk
  have hT := onlyT_own h1.tk.tks
  refine PM.put (c := X.cells st s) (blk_other h1.blk hk2 hT (by decide)) h.low (by simp [PX.cells]) (h1.vw.other hk2 hT (by decide) (by decide)) ⟨?_, ?_, ?_⟩ (h1.ar.other hk2 (fun i e => row_low h1.tk.tks e)) (row_other h1.mg hk2 hT (by decide))
  · show w2.ownsRow base 89 2 (.slice (some ⟨g, 0, none⟩) (s.tk ++ [x]).length cap) (s.tk ++ [x]).length ((List.range ((s.tk ++ [x]).length * 2)).map (tkF (s.tk ++ [x]) (upd H s.tk.length V)))
    rw [tk_more, List.length_append, List.length_singleton]
    exact ho2
  · intro i hi
    by_cases e : i = s.tk.length
    · subst e
      rw [upd_eq, rowOf_more s.tk x _ hi, if_pos rfl]
      exact row_other ho hk2 hT (by decide)
    · have hr := row_same (R := R) (V := V) hi e
      have hi2 : i < s.tk.length := by have : i < (s.tk ++ [x]).length := hi; simp at this; omega
      show w2.ownsRow base 3 1 (upd R s.tk.length V i) (rowOf (s.tk ++ [x]) i).length (nv (rowOf (s.tk ++ [x]) i))
      rw [hr.1, hr.2]
      exact row_other (h1.tk.rows i hi2) hk2 hT (by decide)
  · intro i j b hi hj hij
    have hi2 : i < s.tk.length + 1 := by have : i < (s.tk ++ [x]).length := hi; simpa using this
    have hj2 : j < s.tk.length + 1 := by have : j < (s.tk ++ [x]).length := hj; simpa using this
    by_cases ei : i = s.tk.length
    · subst ei
      rw [upd_eq, upd_ne (Ne.symm hij)]
      intro e1 e2
      have := hm b e1
      have := own_lt (h.tk.rows j (by omega)) e2
      omega
    · rw [upd_ne ei]
      by_cases ej : j = s.tk.length
      · subst ej
        rw [upd_eq]
        intro e1 e2
        have := hm b e2
        have := own_lt (h.tk.rows i (by omega)) e1
        omega
      · rw [upd_ne ej]
        exact h.tk.apart i j b (by omega) (by omega) hij
theorem PM.spawned (h : PM w base pb st X K H R s) : PM (w.setCell ⟨pb, 8, none⟩ (.int .i64 ((s.spn + 1 : Nat) : Int))) base pb st X K H R { s with spn := s.spn + 1 } :=
  PM.put (c := X.cells st s) h.blk h.low (by simp [PX.cells]) h.vw h.tk h.ar h.mg
/-- The last task is gone. -/
theorem PM.endTask (h : PM w base pb st X K H R s) {tk : List (Nat × List Nat)} {x : Nat × List Nat} (hx : s.tk = tk ++ [x]) : PM (w.setCell ⟨pb, 7, none⟩ (.slice X.ta tk.length X.tc)) base pb st X K H R { s with tk := tk } := by
  have hrow : ∀ i, i < tk.length → rowOf s.tk i = rowOf tk i := fun i hi => by rw [hx, rowOf_more tk x i (by simp; omega), if_neg (by omega)]
  have hlen : s.tk.length = tk.length + 1 := by rw [hx]; simp
  refine PM.put (c := X.cells st s) h.blk h.low (by simp [PX.cells]) h.vw ⟨?_, fun i hi => ?_, fun i j b hi hj => h.tk.apart i j b (by have : i < tk.length := hi; omega) (by have : j < tk.length := hj; omega)⟩ h.ar h.mg
  · have ho := h.tk.tks
    have hvals : (List.range (tk.length * 2)).map (tkF tk H) = ((List.range (s.tk.length * 2)).map (tkF s.tk H)).take (tk.length * 2) := by
      rw [← List.map_take, List.take_range, show min (tk.length * 2) (s.tk.length * 2) = tk.length * 2 by omega]
      refine tk_cong (fun i hi => ?_) (fun _ _ => rfl)
      rw [hx, List.getD_eq_getElem?_getD, List.getD_eq_getElem?_getD, List.getElem?_append_left hi]
    show w.ownsRow base 89 2 (.slice X.ta tk.length X.tc) tk.length ((List.range (tk.length * 2)).map (tkF tk H))
    refine ⟨by simp, ?_⟩
    rcases ho.2 with ⟨e, h0⟩ | ⟨g, cap, cur, e, hb, hg, hn, hm, hcs, ht⟩
    · omega
    · injection e with e1 e2 e3
      refine .inr ⟨g, cap, cur, by rw [e1, e3], hb, hg, by omega, hm, hcs, ?_⟩
      rw [hvals, ← ht, List.take_take]
      congr 1
      omega
  · have hi2 : i < tk.length := hi
    have := h.tk.rows i (by omega)
    rwa [hrow i hi2] at this
/-- The current task's row becomes another one: in its memory. -/
theorem PM.putRow (h : PM w base pb st X K H R s) {tk : List (Nat × List Nat)} {sp : Nat} {r r' : List Nat} {V : Value} (hx : s.tk = tk ++ [(sp, r)]) (ho : w1.ownsRow base 3 1 V r'.length (nv r')) (hk : Keeps (fun k => (R tk.length).ownBlock = some k) w w1) (hm : ∀ b, V.ownBlock = some b → (R tk.length).ownBlock = some b ∨ w.heap.size ≤ b) :
    PM w1 base pb st X K H (upd R tk.length V) { s with tk := tk ++ [(sp, r')] } := by
  have hlen : s.tk.length = tk.length + 1 := by rw [hx]; simp
  have hr := h.tk.rows tk.length (by omega)
  have hT := onlyT_own hr
  refine ⟨?_, h.low, h.vw.other hk hT (by decide) (by decide), ⟨?_, fun i hi => ?_, ?_⟩, h.ar.other hk (fun i e => row_low hr e), row_other h.mg hk hT (by decide)⟩
  · have := blk_other h.blk hk hT (by decide)
    rw [this]
    simp [PX.cells, hx]
  · have ho2 := row_other h.tk.tks hk hT (by decide)
    show w1.ownsRow base 89 2 (.slice X.ta (tk ++ [(sp, r')]).length X.tc) (tk ++ [(sp, r')]).length ((List.range ((tk ++ [(sp, r')]).length * 2)).map (tkF (tk ++ [(sp, r')]) H))
    have e1 : (tk ++ [(sp, r')]).length = s.tk.length := by rw [hx]; simp
    rw [e1]
    rwa [tk_cong (tk' := s.tk) (H' := H) (fun i hi => ?_) (fun _ _ => rfl)]
    rw [hx, List.getD_eq_getElem?_getD, List.getD_eq_getElem?_getD]
    by_cases e : i < tk.length
    · rw [List.getElem?_append_left e, List.getElem?_append_left e]
    · rw [List.getElem?_append_right (by omega), List.getElem?_append_right (by omega), show i - tk.length = 0 by omega]
      rfl
  · have hi2 : i < tk.length + 1 := by have : i < (tk ++ [(sp, r')]).length := hi; simpa using this
    show w1.ownsRow base 3 1 (upd R tk.length V i) (rowOf (tk ++ [(sp, r')]) i).length (nv (rowOf (tk ++ [(sp, r')]) i))
    rw [rowOf_more tk (sp, r') i hi]
    by_cases e : i = tk.length
    · subst e
      rw [upd_eq, if_pos rfl]
      exact ho
    · rw [upd_ne e, if_neg e]
      have := h.tk.rows i (by omega)
      rw [hx, rowOf_more tk (sp, r) i (by simp; omega), if_neg e] at this
      exact row_kept this hk (fun b e1 e2 => h.tk.apart i tk.length b (by omega) (by omega) e e1 e2)
  · intro i j b hi hj hij
    have hi2 : i < tk.length + 1 := by have : i < (tk ++ [(sp, r')]).length := hi; simpa using this
    have hj2 : j < tk.length + 1 := by have : j < (tk ++ [(sp, r')]).length := hj; simpa using this
    by_cases ei : i = tk.length
    · subst ei
      rw [upd_eq, upd_ne (Ne.symm hij)]
      intro e1 e2
      rcases hm b e1 with h3 | h3
      · exact h.tk.apart _ j b (by omega) (by omega) hij h3 e2
      · have := own_lt (h.tk.rows j (by omega)) e2
        omega
    · rw [upd_ne ei]
      by_cases ej : j = tk.length
      · subst ej
        rw [upd_eq]
        intro e1 e2
        rcases hm b e2 with h3 | h3
        · exact h.tk.apart i _ b (by omega) (by omega) hij e1 h3
        · have := own_lt (h.tk.rows i (by omega)) e1
          omega
      · rw [upd_ne ej]
        exact h.tk.apart i j b (by omega) (by omega) hij
/-- What the tasks say of the current one's row is set. -/
theorem PM.setHead (h : PM w base pb st X K H R s) {tb i : Nat} {V : Value} (hta : X.ta = some ⟨tb, 0, none⟩) : PM (w.setCell ⟨tb, i * 2 + 1, none⟩ V) base pb st X K (upd H i V) R s := by
  obtain ⟨cur, hcur⟩ := own_block h.tk.tks (g := tb) (by rw [hta]; rfl)
  have hk : Keeps (· = tb) w (w.setCell ⟨tb, i * 2 + 1, none⟩ V) := keeps_one (Keeps.refl _ _) _
  have hT : OnlyT (· = tb) w 89 := onlyT_one hcur
  have hlo : base ≤ tb := row_low h.tk.tks (by rw [hta]; rfl)
  refine ⟨blk_other h.blk hk hT (by decide), h.low, h.vw.other hk hT (by decide) (by decide), ⟨?_, fun i hi => row_other (h.tk.rows i hi) hk hT (by decide), h.tk.apart⟩, h.ar.other hk (fun i e => by omega), row_other h.mg hk hT (by decide)⟩
  have ho := h.tk.tks
  rw [← tk_setH]
  rw [hta] at ho ⊢
  exact row_set ho _ V
end
end Go.Proofs.Ytdiabpoafennlab
