import Derived.Test.YtdiabpoafennlaaRcBase
/-! A reducer's play, plainly: views, rows, merges. -/
namespace Go.Proofs.Ytdiabpoafennlaa
set_option linter.unusedVariables false
set_option maxRecDepth 20000

/-- What can be done with what a view holds. -/
structure Kd (V : Type) where
  fresh : V
  put : V → Int → V
  join : V → V → V
def listK : Kd (List Int) := ⟨[], fun l x => l ++ [x], fun a b => a ++ b⟩
/-- The views, the current row, the merges, the picks that are left. -/
structure MS (V : Type) where
  vs : List V
  row : List Nat
  mg : List (Nat × Nat × Nat)
  pk : List Int
variable {V : Type}
def MS.j (s : MS V) : Nat := (s.pk.headD 0 % ((s.row.length - 1 : Nat) : Int)).toNat
def MS.l (s : MS V) : Nat := s.row.getD s.j 0
def MS.r (s : MS V) : Nat := s.row.getD (s.j + 1) 0
def MS.one (K : Kd V) (n : Nat) (s : MS V) : MS V :=
  ⟨s.vs.set s.l (K.join (s.vs.getD s.l K.fresh) (s.vs.getD s.r K.fresh)), s.row.eraseIdx (s.j + 1), s.mg ++ [(n, s.l, s.r)], s.pk.tail⟩
def MS.go (K : Kd V) (n : Nat) : Nat → MS V → MS V
  | 0, s => s
  | f + 1, s => MS.go K n f (s.one K n)
/-- The row is merged. -/
def MS.all (K : Kd V) (n : Nat) (s : MS V) : MS V := MS.go K n (s.row.length - 1) s
/-- The whole: besides the current row the rows of the tasks above, the nearest first. -/
structure HS (V : Type) where
  m : MS V
  sp : Nat
  ini : List (Nat × List Nat)
  spn : Nat
  lk : List V
def HS.hand (s : HS V) : Nat := s.m.row.getLastD 0
def HS.start (K : Kd V) (picks : List Int) : HS V := ⟨⟨[K.fresh], [0], [], picks⟩, 0, [], 0, []⟩
/-- The parent goes on; if the continuation is stolen, with a new view. -/
def HS.back (K : Kd V) (st : List Bool) (m : MS V) (s : HS V) : HS V :=
  match s.ini with
  | [] => { s with m := m }
  | t :: ini => if st.getD s.sp false = true then ⟨{ m with vs := m.vs ++ [K.fresh], row := t.2 ++ [m.vs.length] }, t.1, ini, s.spn, s.lk⟩
    else ⟨{ m with row := t.2 }, t.1, ini, s.spn, s.lk⟩
def HS.deed (K : Kd V) (st : List Bool) (n : Nat) (k loc : Int) (s : HS V) : HS V :=
  if k = 4 then { s with m := { s.m with vs := s.m.vs.set s.hand (K.put (s.m.vs.getD s.hand K.fresh) loc) } }
  else if k = 3 then { s with lk := s.lk ++ [s.m.vs.getD s.hand K.fresh] }
  else if k = 0 then ⟨{ s.m with row := [s.hand] }, s.spn, (s.sp, s.m.row) :: s.ini, s.spn + 1, s.lk⟩
  else if k = 2 then { s with m := s.m.all K n }
  else s.back K st (s.m.all K n)
def HS.run (K : Kd V) (st : List Bool) : List (Int × Int) → Nat → HS V → HS V
  | [], _, s => s
  | d :: ds, n, s => HS.run K st ds (n + 1) (s.deed K st n d.1 d.2)
/-- Behind the last deed. -/
def MS.ends (K : Kd V) (n : Nat) : List (Nat × List Nat) → MS V → MS V
  | [], m => m.all K n
  | t :: ini, m => MS.ends K n ini { m.all K n with row := t.2 }
def endHS (K : Kd V) (st : List Bool) (ds : List (Int × Int)) (picks : List Int) : HS V := (HS.start K picks).run K st ds 0
def endMS (K : Kd V) (st : List Bool) (ds : List (Int × Int)) (picks : List Int) : MS V :=
  MS.ends K ds.length (endHS K st ds picks).ini (endHS K st ds picks).m

/-! The line of views that are there: of each task above the row without the one that it lent, then the current row. -/
def preL : List (Nat × List Nat) → List Nat
  | [] => []
  | t :: ini => preL ini ++ t.2.dropLast
/-- A child's first view is its parent's last one. -/
def Lk : List Nat → List (Nat × List Nat) → Prop
  | row, [] => row.head? = some 0
  | row, t :: ini => row ≠ [] ∧ t.2.getLast? = row.head? ∧ Lk t.2 ini
def Asc (l : List Nat) : Prop := l.Pairwise (· < ·)
theorem Lk.ne : ∀ {row : List Nat} {ini : List (Nat × List Nat)}, Lk row ini → row ≠ []
  | row, [], h => by intro e; subst e; simp [Lk] at h
  | row, t :: ini, h => h.1
theorem Lk.same {row row' : List Nat} {ini : List (Nat × List Nat)} (h : Lk row ini) (he : row'.head? = row.head?) : Lk row' ini := by
  have hne := h.ne
  cases ini with
  | nil => unfold Lk at h ⊢; rw [he]; exact h
  | cons t ini =>
    refine ⟨?_, by rw [he]; exact h.2.1, h.2.2⟩
    intro e
    subst e
    cases row with
    | nil => exact hne rfl
    | cons a l => simp at he
/-- A row of at least two falls apart at any place that has one behind it. -/
theorem row_split {row : List Nat} {j : Nat} (hj : j + 1 < row.length) : ∃ A a b B, row = A ++ a :: b :: B ∧ A.length = j ∧ row.getD j 0 = a ∧ row.getD (j + 1) 0 = b ∧ row.eraseIdx (j + 1) = A ++ a :: B := by
  refine ⟨row.take j, row[j], row[j + 1], row.drop (j + 2), ?_, by simp; omega, ?_, ?_, ?_⟩
  · rw [← List.drop_eq_getElem_cons (by omega), ← List.drop_eq_getElem_cons (by omega), List.take_append_drop]
  · simp [List.getD, List.getElem?_eq_getElem (show j < row.length by omega)]
  · simp [List.getD, List.getElem?_eq_getElem hj]
  · rw [List.eraseIdx_eq_take_drop_succ, List.take_add_one, List.getElem?_eq_getElem (by omega), List.append_assoc]
    rfl
theorem MS.j_lt {s : MS V} (h : 1 < s.row.length) : s.j + 1 < s.row.length := by
  unfold MS.j
  have h1 := Int.emod_nonneg (s.pk.headD 0) (show ((s.row.length - 1 : Nat) : Int) ≠ 0 by omega)
  have h2 := Int.emod_lt_of_pos (s.pk.headD 0) (show (0 : Int) < ((s.row.length - 1 : Nat) : Int) by omega)
  omega
/-- What one merge does. -/
theorem MS.one_row (K : Kd V) (n : Nat) {s : MS V} (h : 1 < s.row.length) : ∃ A a b B, s.row = A ++ a :: b :: B ∧ (s.one K n).row = A ++ a :: B ∧ (s.one K n).vs = s.vs.set a (K.join (s.vs.getD a K.fresh) (s.vs.getD b K.fresh)) ∧ (s.one K n).mg = s.mg ++ [(n, a, b)] ∧ (s.one K n).pk = s.pk.tail := by
  obtain ⟨A, a, b, B, h1, h2, h3, h4, h5⟩ := row_split (MS.j_lt h)
  exact ⟨A, a, b, B, h1, h5, by unfold MS.one MS.l MS.r; rw [h3, h4], by unfold MS.one MS.l MS.r; rw [h3, h4], rfl⟩
theorem MS.one_len (K : Kd V) (n : Nat) {s : MS V} (h : 1 < s.row.length) : (s.one K n).row.length + 1 = s.row.length := by
  obtain ⟨A, a, b, B, h1, h2, -, -, -⟩ := s.one_row K n h
  rw [h1, h2]
  simp; omega
/-- An invariant of merges holds behind all of a row's, and one view is left. -/
theorem MS.all_ind (K : Kd V) (n : Nat) (P : MS V → Prop) (hP : ∀ s : MS V, 1 < s.row.length → P s → P (s.one K n)) (s : MS V) (h0 : 0 < s.row.length) (hs : P s) : P (s.all K n) ∧ (s.all K n).row.length = 1 := by
  have : ∀ (f : Nat) (s : MS V), s.row.length = f + 1 → P s → P (MS.go K n f s) ∧ (MS.go K n f s).row.length = 1 := by
    intro f
    induction f with
    | zero => intro s h h2; exact ⟨h2, by simpa [MS.go] using h⟩
    | succ f ih =>
      intro s h h2
      have h3 := s.one_len K n (by omega)
      exact ih _ (by omega) (hP s (by omega) h2)
  exact this _ s (by omega) hs
theorem head_split {A : List Nat} {a b : Nat} {B : List Nat} : (A ++ a :: B).head? = (A ++ a :: b :: B).head? := by cases A <;> rfl
theorem MS.all_head (K : Kd V) (n : Nat) (s : MS V) (h0 : 0 < s.row.length) : ∃ v, (s.all K n).row = [v] ∧ s.row.head? = some v := by
  obtain ⟨h1, h2⟩ := MS.all_ind K n (fun m => m.row.head? = s.row.head?) (fun m hm h => by
    obtain ⟨A, a, b, B, e1, e2, -⟩ := m.one_row K n hm
    rw [e2, ← h, e1]
    exact head_split) s h0 rfl
  generalize (s.all K n).row = r at h1 h2
  match r, h2 with
  | [v], _ => exact ⟨v, rfl, h1.symm.trans rfl⟩

/-! Lists: what the line holds is what was put. -/
def catL (vs : List (List Int)) (l : List Nat) : List Int := (l.map (fun v => vs.getD v [])).flatten
theorem catL_app (vs : List (List Int)) (a b : List Nat) : catL vs (a ++ b) = catL vs a ++ catL vs b := by simp [catL]
theorem catL_cons (vs : List (List Int)) (a : Nat) (b : List Nat) : catL vs (a :: b) = vs.getD a [] ++ catL vs b := by simp [catL]
theorem catL_set {vs : List (List Int)} {a : Nat} (x : List Int) {l : List Nat} (h : a ∉ l) : catL (vs.set a x) l = catL vs l := by
  unfold catL
  congr 1
  refine List.map_congr_left (fun v hv => ?_)
  have : a ≠ v := fun e => h (e ▸ hv)
  simp [List.getD, List.getElem?_set_ne this]
theorem getD_set {vs : List V} {a : Nat} (x d : V) (h : a < vs.length) : (vs.set a x).getD a d = x := by simp [List.getD, h]
theorem catL_grow {vs : List (List Int)} (x : List Int) {l : List Nat} (h : ∀ v ∈ l, v < vs.length) : catL (vs ++ [x]) l = catL vs l := by
  unfold catL
  congr 1
  refine List.map_congr_left (fun v hv => ?_)
  simp [List.getD, List.getElem?_append_left (h v hv)]

/-- The line is in order, all of it is there, and it holds what was put. -/
structure LineOk (pre : List Nat) (P : List Int) (m : MS (List Int)) : Prop where
  asc : Asc (pre ++ m.row)
  low : ∀ v ∈ pre ++ m.row, v < m.vs.length
  cat : catL m.vs (pre ++ m.row) = P
theorem asc_nodup {l : List Nat} (h : Asc l) : l.Nodup := h.imp (fun h => Nat.ne_of_lt h)
theorem LineOk.one {pre : List Nat} {P : List Int} {m : MS (List Int)} (n : Nat) (h1 : 1 < m.row.length) (h : LineOk pre P m) : LineOk pre P (m.one listK n) := by
  obtain ⟨A, a, b, B, e1, e2, e3, -, -⟩ := m.one_row listK n h1
  obtain ⟨h2, h3, h4⟩ := h
  rw [e1] at h2 h3 h4
  have hs : List.Sublist (pre ++ (A ++ a :: B)) (pre ++ (A ++ a :: b :: B)) := ((List.Sublist.refl pre).append ((List.Sublist.refl A).append ((List.sublist_cons_self b B).cons_cons a)))
  have hnd := asc_nodup h2
  have hal : a < m.vs.length := h3 a (by simp)
  have h5 : pre ++ (A ++ a :: b :: B) = (pre ++ A) ++ a :: (b :: B) := by simp
  rw [h5] at hnd h4
  have n1 : a ∉ pre ++ A := fun hm => (List.nodup_append.1 hnd).2.2 a hm a (by simp) rfl
  have n2 : a ∉ b :: B := (List.nodup_cons.1 (List.nodup_append.1 hnd).2.1).1
  refine ⟨by rw [e2]; exact h2.sublist hs, by rw [e2, e3]; intro v hv; rw [List.length_set]; exact h3 v (hs.subset hv), ?_⟩
  rw [e2, e3, show pre ++ (A ++ a :: B) = (pre ++ A) ++ a :: B by simp, catL_app, catL_cons, catL_set _ n1, catL_set _ (fun hm => n2 (by simp [hm])), getD_set _ _ hal]
  rw [catL_app, catL_cons, catL_cons] at h4
  rw [← h4]
  show _ ++ ((_ ++ _) ++ _) = _
  simp [listK]
theorem LineOk.all {pre : List Nat} {P : List Int} {m : MS (List Int)} (n : Nat) (h0 : 0 < m.row.length) (h : LineOk pre P m) : LineOk pre P (m.all listK n) :=
  (MS.all_ind listK n (LineOk pre P) (fun s hs hp => hp.one n hs) m h0 h).1
/-- What holds between two deeds. -/
structure HInv (P : List Int) (s : HS (List Int)) : Prop where
  lk : Lk s.m.row s.ini
  line : LineOk (preL s.ini) P s.m
theorem hand_split {row : List Nat} (h : row ≠ []) : row = row.dropLast ++ [row.getLastD 0] := by
  have := List.dropLast_concat_getLast h
  conv => lhs; rw [← this]
  congr 2
  cases row with
  | nil => exact (h rfl).elim
  | cons a l => rfl
theorem last_some {row : List Nat} {v : Nat} (h : row.getLast? = some v) : row = row.dropLast ++ [v] := by
  cases row with
  | nil => simp at h
  | cons a l =>
    have h1 := List.getLast?_eq_some_getLast (l := a :: l) (by simp)
    rw [h1] at h
    injection h with h
    conv => lhs; rw [← List.dropLast_concat_getLast (l := a :: l) (by simp), h]
theorem head_ne {row : List Nat} (h : row ≠ []) : ∃ v, row.head? = some v := by
  cases row with
  | nil => exact (h rfl).elim
  | cons a l => exact ⟨a, rfl⟩
theorem hinv_start (picks : List Int) : HInv [] (HS.start listK picks) :=
  ⟨rfl, ⟨List.pairwise_singleton _ _, by intro v hv; simp [HS.start, preL] at hv; subst hv; simp [HS.start], by simp [HS.start, preL, catL, listK]⟩⟩
/-- The line of a task that has ended goes on in its parent's row. -/
theorem line_back {P : List Int} {m : MS (List Int)} {row : List Nat} {t : Nat × List Nat} {ini : List (Nat × List Nat)} {v : Nat} (h : LineOk (preL (t :: ini)) P m) (hr : m.row = [v]) (ht : t.2.getLast? = some v) : LineOk (preL ini) P { m with row := t.2 } := by
  have e : preL (t :: ini) ++ m.row = preL ini ++ t.2 := by
    rw [hr, preL, List.append_assoc]
    rw [← last_some ht]
  obtain ⟨h1, h2, h3⟩ := h
  rw [e] at h1 h2 h3
  exact ⟨h1, h2, h3⟩
theorem asc_more {l : List Nat} {n : Nat} (h : Asc l) (hl : ∀ v ∈ l, v < n) : Asc (l ++ [n]) := by
  unfold Asc at *
  rw [List.pairwise_append]
  exact ⟨h, List.pairwise_singleton _ _, fun a ha b hb => by simp at hb; subst hb; exact hl a ha⟩
theorem line_new {pre : List Nat} {P : List Int} {m : MS (List Int)} (h : LineOk pre P m) : LineOk pre P { m with vs := m.vs ++ [[]], row := m.row ++ [m.vs.length] } := by
  obtain ⟨h1, h2, h3⟩ := h
  refine ⟨?_, ?_, ?_⟩
  · show Asc (pre ++ (m.row ++ [m.vs.length]))
    rw [← List.append_assoc]
    exact asc_more h1 h2
  · show ∀ v ∈ pre ++ (m.row ++ [m.vs.length]), v < (m.vs ++ [[]]).length
    intro v hv
    rw [← List.append_assoc, List.mem_append] at hv
    rw [List.length_append]
    rcases hv with hv | hv
    · have := h2 v hv; simp; omega
    · simp at hv; subst hv; simp
  · show catL (m.vs ++ [[]]) (pre ++ (m.row ++ [m.vs.length])) = P
    rw [← List.append_assoc, catL_app, catL_grow _ h2, h3]
    simp [catL]
theorem hinv_back {P : List Int} {s : HS (List Int)} (st : List Bool) (n : Nat) (h : HInv P s) : HInv P (s.back listK st (s.m.all listK n)) := by
  have hne := h.lk.ne
  have h0 : 0 < s.m.row.length := List.length_pos_iff.2 hne
  have hl := h.line.all n h0
  obtain ⟨v, hv, hh⟩ := s.m.all_head listK n h0
  generalize s.m.all listK n = m at hl hv
  unfold HS.back
  split
  · rename_i hi
    have hlk := h.lk
    rw [hi] at hl hlk
    exact ⟨by rw [hi]; show Lk m.row []; rw [hv]; exact hh.symm.trans hlk, by rw [hi]; exact hl⟩
  · rename_i t ini hi
    have hlk := h.lk
    rw [hi] at hl hlk
    have hb := line_back (row := []) hl hv (hlk.2.1.trans hh)
    split
    · refine ⟨?_, line_new hb⟩
      have hne2 := hlk.2.2.ne
      refine hlk.2.2.same ?_
      show (t.2 ++ [m.vs.length]).head? = _
      cases h3 : t.2 with
      | nil => exact (hne2 h3).elim
      | cons a l => rfl
    · exact ⟨hlk.2.2, hb⟩
theorem hinv_deed {P : List Int} {s : HS (List Int)} (st : List Bool) (n : Nat) (k loc : Int) (h : HInv P s) : HInv (P ++ if k = 4 then [loc] else []) (s.deed listK st n k loc) := by
  have hne := h.lk.ne
  have h0 : 0 < s.m.row.length := List.length_pos_iff.2 hne
  unfold HS.deed
  split
  · refine ⟨h.lk, ?_⟩
    obtain ⟨h1, h2, h3⟩ := h.line
    have hs := hand_split hne
    have e : preL s.ini ++ s.m.row = (preL s.ini ++ s.m.row.dropLast) ++ [s.hand] := by
      rw [List.append_assoc]
      conv => lhs; rw [hs]
      rfl
    have hal : s.hand < s.m.vs.length := h2 _ (by rw [e]; simp)
    refine ⟨h1, fun v hv => by simpa using h2 v hv, ?_⟩
    have hnd := asc_nodup h1
    show catL (s.m.vs.set s.hand _) (preL s.ini ++ s.m.row) = _
    rw [e] at h3 hnd ⊢
    have n1 : s.hand ∉ preL s.ini ++ s.m.row.dropLast := fun hm => (List.nodup_append.1 hnd).2.2 _ hm _ (by simp) rfl
    rw [catL_app, catL_set _ n1, ← h3, catL_app]
    simp only [catL, List.map_cons, List.map_nil, List.flatten_cons, List.flatten_nil, List.append_nil]
    rw [getD_set _ _ hal]
    show _ ++ (_ ++ _) = _
    simp [listK]
  · rename_i h4
    simp only [List.append_nil]
    split
    · exact ⟨h.lk, h.line⟩
    · split
      · refine ⟨⟨by simp, ?_, h.lk⟩, ?_⟩
        · show s.m.row.getLast? = [s.hand].head?
          have hs := hand_split hne
          conv => lhs; rw [hs]
          simp [HS.hand]
        · have hs := hand_split hne
          have e : preL ((s.sp, s.m.row) :: s.ini) ++ [s.hand] = preL s.ini ++ s.m.row := by
            rw [preL, List.append_assoc]
            conv => rhs; rw [hs]
            rfl
          obtain ⟨h1, h2, h3⟩ := h.line
          rw [← e] at h1 h2 h3
          exact ⟨h1, h2, h3⟩
      · split
        · refine ⟨?_, h.line.all n h0⟩
          obtain ⟨v, hv, hh⟩ := s.m.all_head listK n h0
          exact h.lk.same (by show (s.m.all listK n).row.head? = _; rw [hv, hh]; rfl)
        · exact hinv_back st n h
/-- What is put by deeds. -/
def putsL (ds : List (Int × Int)) : List Int := (ds.filter (fun d => d.1 == 4)).map (·.2)
theorem putsL_cons (d : Int × Int) (ds : List (Int × Int)) : putsL (d :: ds) = (if d.1 = 4 then [d.2] else []) ++ putsL ds := by
  unfold putsL
  by_cases h : d.1 = 4 <;> simp [h]
theorem hinv_run (st : List Bool) : ∀ (ds : List (Int × Int)) (n : Nat) (P : List Int) (s : HS (List Int)), HInv P s → HInv (P ++ putsL ds) (s.run listK st ds n) := by
  intro ds
  induction ds with
  | nil => intro n P s h; simpa [HS.run, putsL] using h
  | cons d ds ih =>
    intro n P s h
    have := ih (n + 1) _ _ (hinv_deed st n d.1 d.2 h)
    rw [putsL_cons, ← List.append_assoc]
    exact this
theorem ends_inv (n : Nat) : ∀ (ini : List (Nat × List Nat)) (P : List Int) (m : MS (List Int)), Lk m.row ini → LineOk (preL ini) P m → LineOk [] P (MS.ends listK n ini m) ∧ (MS.ends listK n ini m).row = [0] := by
  intro ini
  induction ini with
  | nil =>
    intro P m h1 h2
    have h0 : 0 < m.row.length := List.length_pos_iff.2 h1.ne
    obtain ⟨v, hv, hh⟩ := m.all_head listK n h0
    have : v = 0 := by
      have h3 : m.row.head? = some 0 := h1
      rw [h3] at hh
      injection hh with hh
      exact hh.symm
    subst this
    exact ⟨h2.all n h0, hv⟩
  | cons t ini ih =>
    intro P m h1 h2
    have h0 : 0 < m.row.length := List.length_pos_iff.2 h1.ne
    obtain ⟨v, hv, hh⟩ := m.all_head listK n h0
    exact ih P _ h1.2.2 (line_back (row := []) (h2.all n h0) hv (h1.2.1.trans hh))
/-- The reducer theorem: what is left is what was put, in its order. -/
theorem final_puts (st : List Bool) (ds : List (Int × Int)) (picks : List Int) : (endMS listK st ds picks).vs.getD 0 [] = putsL ds := by
  have h := hinv_run st ds 0 [] _ (hinv_start picks)
  obtain ⟨⟨h1, h2, h3⟩, h4⟩ := ends_inv ds.length (endHS listK st ds picks).ini _ _ h.lk h.line
  rw [h4] at h3
  have h5 : catL (endMS listK st ds picks).vs [0] = putsL ds := h3
  simpa [catL] using h5
end Go.Proofs.Ytdiabpoafennlaa
