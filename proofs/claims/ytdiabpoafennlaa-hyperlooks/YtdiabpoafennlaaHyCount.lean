import Derived.Test.YtdiabpoafennlaaHyPlain
/-! A reducer's play, plainly: how many views, which merges. -/
namespace Go.Proofs.Ytdiabpoafennlaa
set_option linter.unusedVariables false
set_option maxRecDepth 20000
set_option linter.unusedSimpArgs false
variable {V : Type}

/-- The merges up to now, where 'line' is there and there have been nv views. -/
structure MgOk (okat : Nat → Prop) (line : List Nat) (nv top : Nat) (mg : List (Nat × Nat × Nat)) : Prop where
  cnt : mg.length + line.length = nv
  each : ∀ x ∈ mg, x.2.1 < x.2.2 ∧ x.2.2 < nv ∧ x.1 ≤ top ∧ okat x.1
  pair : mg.Pairwise (fun x y => x.2.2 ≠ y.2.1 ∧ x.2.2 ≠ y.2.2 ∧ x.1 ≤ y.1)
  live : ∀ x ∈ mg, x.2.2 ∉ line
theorem MgOk.up {okat : Nat → Prop} {line : List Nat} {nv top top' : Nat} {mg : List (Nat × Nat × Nat)} (h : MgOk okat line nv top mg) (ht : top ≤ top') : MgOk okat line nv top' mg :=
  ⟨h.cnt, fun x hx => ⟨(h.each x hx).1, (h.each x hx).2.1, Nat.le_trans (h.each x hx).2.2.1 ht, (h.each x hx).2.2.2⟩, h.pair, h.live⟩
/-- The line and the merges. -/
structure CtOk (okat : Nat → Prop) (pre : List Nat) (top : Nat) (m : MS (List Int)) : Prop where
  asc : Asc (pre ++ m.row)
  low : ∀ v ∈ pre ++ m.row, v < m.vs.length
  mg : MgOk okat (pre ++ m.row) m.vs.length top m.mg
theorem CtOk.one {okat : Nat → Prop} {pre : List Nat} {top : Nat} {m : MS (List Int)} (hk : okat top) (h1 : 1 < m.row.length) (h : CtOk okat pre top m) : CtOk okat pre top (m.one listK top) := by
  obtain ⟨A, a, b, B, e1, e2, e3, e4, -⟩ := m.one_row listK top h1
  obtain ⟨h2, h3, ⟨h4, h5, h6, h7⟩⟩ := h
  rw [e1] at h2 h3 h4 h7
  have hs : List.Sublist (pre ++ (A ++ a :: B)) (pre ++ (A ++ a :: b :: B)) := ((List.Sublist.refl pre).append ((List.Sublist.refl A).append ((List.sublist_cons_self b B).cons_cons a)))
  have hnd := asc_nodup h2
  have hab : a < b := by
    have h8 : pre ++ (A ++ a :: b :: B) = (pre ++ A) ++ a :: b :: B := by simp
    unfold Asc at h2
    rw [h8, List.pairwise_append] at h2
    exact (List.pairwise_cons.1 h2.2.1).1 b (by simp)
  have hbn : b ∉ pre ++ (A ++ a :: B) := by
    have h8 : pre ++ (A ++ a :: b :: B) = (pre ++ A ++ [a]) ++ b :: B := by simp
    rw [h8] at hnd
    have h9 := List.nodup_append.1 hnd
    intro hm
    rw [show pre ++ (A ++ a :: B) = (pre ++ A ++ [a]) ++ B by simp, List.mem_append] at hm
    rcases hm with hm | hm
    · exact h9.2.2 b hm b (by simp) rfl
    · exact (List.nodup_cons.1 h9.2.1).1 hm
  have hbl := h3 b (by simp)
  refine ⟨by rw [e2]; exact h2.sublist hs, by rw [e2, e3]; intro v hv; rw [List.length_set]; exact h3 v (hs.subset hv), ?_⟩
  rw [e2, e3, e4, List.length_set]
  refine ⟨by simp at h4 ⊢; omega, ?_, ?_, ?_⟩
  · intro x hx
    rw [List.mem_append] at hx
    rcases hx with hx | hx
    · exact h5 x hx
    · simp at hx; subst hx; exact ⟨hab, hbl, Nat.le_refl _, hk⟩
  · rw [List.pairwise_append]
    refine ⟨h6, List.pairwise_singleton _ _, ?_⟩
    intro x hx y hy
    simp at hy; subst hy
    have h8 := h7 x hx
    exact ⟨fun e => h8 (by rw [e]; simp), fun e => h8 (by rw [e]; simp), (h5 x hx).2.2.1⟩
  · intro x hx
    rw [List.mem_append] at hx
    rcases hx with hx | hx
    · exact fun hm => h7 x hx (hs.subset hm)
    · simp at hx; subst hx; exact hbn
theorem CtOk.all {okat : Nat → Prop} {pre : List Nat} {top : Nat} {m : MS (List Int)} (hk : okat top) (h0 : 0 < m.row.length) (h : CtOk okat pre top m) : CtOk okat pre top (m.all listK top) :=
  (MS.all_ind listK top (CtOk okat pre top) (fun s hs hp => hp.one hk hs) m h0 h).1
theorem CtOk.up {okat : Nat → Prop} {pre : List Nat} {top top' : Nat} {m : MS (List Int)} (h : CtOk okat pre top m) (ht : top ≤ top') : CtOk okat pre top' m := ⟨h.asc, h.low, h.mg.up ht⟩
theorem ct_back {okat : Nat → Prop} {top : Nat} {m : MS (List Int)} {t : Nat × List Nat} {ini : List (Nat × List Nat)} {v : Nat} (h : CtOk okat (preL (t :: ini)) top m) (hr : m.row = [v]) (ht : t.2.getLast? = some v) : CtOk okat (preL ini) top { m with row := t.2 } := by
  have e : preL (t :: ini) ++ m.row = preL ini ++ t.2 := by
    rw [hr, preL, List.append_assoc]
    rw [← last_some ht]
  obtain ⟨h1, h2, h3⟩ := h
  rw [e] at h1 h2 h3
  exact ⟨h1, h2, h3⟩
theorem ct_new {okat : Nat → Prop} {pre : List Nat} {top : Nat} {m : MS (List Int)} (h : CtOk okat pre top m) : CtOk okat pre top { m with vs := m.vs ++ [[]], row := m.row ++ [m.vs.length] } := by
  obtain ⟨h1, h2, ⟨h4, h5, h6, h7⟩⟩ := h
  refine ⟨?_, ?_, ?_⟩
  · show Asc (pre ++ (m.row ++ [m.vs.length]))
    rw [← List.append_assoc]
    exact asc_more h1 h2
  · show ∀ v ∈ pre ++ (m.row ++ [m.vs.length]), v < (m.vs ++ [[]]).length
    intro v hv
    rw [← List.append_assoc, List.mem_append] at hv
    rw [List.length_append]
    rcases hv with hv | hv
    · have := h2 v hv; simp; omega
    · simp at hv; subst hv; simp
  · show MgOk okat (pre ++ (m.row ++ [m.vs.length])) (m.vs ++ [[]]).length top m.mg
    refine ⟨by simp at h4 ⊢; omega, ?_, h6, ?_⟩
    · intro x hx
      have := h5 x hx
      exact ⟨this.1, by simp; omega, this.2.2.1, this.2.2.2⟩
    · intro x hx hm
      rw [← List.append_assoc, List.mem_append] at hm
      rcases hm with hm | hm
      · exact h7 x hx hm
      · simp at hm
        have := (h5 x hx).2.1
        omega
/-- How many views are made: one, and one for each stolen spawn whose child returns; 'open' are the spawns of the tasks that have not returned, the nearest first. -/
def madeL (st : List Bool) : List (Int × Int) → Nat → List Nat → Nat
  | [], _, _ => 0
  | d :: ds, n, op =>
    if d.1 = 0 then madeL st ds (n + 1) (n :: op)
    else if d.1 = 1 then match op with
      | [] => madeL st ds n []
      | k :: op => (if st.getD k false = true then 1 else 0) + madeL st ds n op
    else madeL st ds n op
theorem madeL_cons (st : List Bool) (d : Int × Int) (ds : List (Int × Int)) (n : Nat) (op : List Nat) : madeL st (d :: ds) n op = if d.1 = 0 then madeL st ds (n + 1) (n :: op)
    else if d.1 = 1 then match op with
      | [] => madeL st ds n []
      | k :: op => (if st.getD k false = true then 1 else 0) + madeL st ds n op
    else madeL st ds n op := rfl
/-- The spawns of the tasks that are open. -/
def opsL : Nat → List (Nat × List Nat) → List Nat
  | _, [] => []
  | sp, t :: ini => sp :: opsL t.1 ini
theorem vs_one (K : Kd V) (n : Nat) (s : MS V) : (s.one K n).vs.length = s.vs.length := by simp [MS.one]
theorem vs_all (K : Kd V) (n : Nat) (s : MS V) : (s.all K n).vs.length = s.vs.length := by
  have : ∀ (f : Nat) (s : MS V), (MS.go K n f s).vs.length = s.vs.length := by
    intro f
    induction f with
    | zero => intro s; rfl
    | succ f ih => intro s; rw [MS.go, ih, vs_one]
  exact this _ s
theorem vs_ends (K : Kd V) (n : Nat) : ∀ (ini : List (Nat × List Nat)) (m : MS V), (MS.ends K n ini m).vs.length = m.vs.length := by
  intro ini
  induction ini with
  | nil => intro m; exact vs_all K n m
  | cons t ini ih => intro m; rw [MS.ends, ih]; exact vs_all K n m
/-- Are deeds such as may be played? -/
def KindsOk (ds : List (Int × Int)) : Prop := ∀ d ∈ ds, d.1 = 0 ∨ d.1 = 1 ∨ d.1 = 2 ∨ d.1 = 3 ∨ d.1 = 4
theorem made_run (K : Kd V) (st : List Bool) : ∀ (ds : List (Int × Int)) (n : Nat) (s : HS V), KindsOk ds → (s.run K st ds n).m.vs.length = s.m.vs.length + madeL st ds s.spn (opsL s.sp s.ini) := by
  intro ds
  induction ds with
  | nil => intro n s _; rfl
  | cons d ds ih =>
    intro n s hk
    rw [HS.run, ih _ _ (fun x hx => hk x (by simp [hx]))]
    obtain ⟨k, loc⟩ := d
    have h0 := hk (k, loc) (by simp)
    simp only at h0 ⊢
    rcases h0 with rfl | rfl | rfl | rfl | rfl
    · rw [madeL_cons, if_pos rfl]
      simp [HS.deed, opsL]
    · rw [madeL_cons, if_neg (by simp), if_pos rfl]
      have e : s.deed K st n 1 loc = s.back K st (s.m.all K n) := by simp [HS.deed]
      rw [e]
      unfold HS.back
      cases hi : s.ini with
      | nil => simp [opsL, vs_all, hi]
      | cons t ini =>
        simp only [opsL]
        by_cases hs : st.getD s.sp false = true
        · rw [if_pos hs, if_pos hs]; simp [vs_all]; omega
        · rw [if_neg hs, if_neg hs]; simp [vs_all]
    · rw [madeL_cons, if_neg (by simp), if_neg (by simp)]
      simp [HS.deed, vs_all]
    · rw [madeL_cons, if_neg (by simp), if_neg (by simp)]
      simp [HS.deed]
    · rw [madeL_cons, if_neg (by simp), if_neg (by simp)]
      simp [HS.deed]
theorem made_all (K : Kd V) (st : List Bool) (ds : List (Int × Int)) (picks : List Int) (hk : KindsOk ds) : (endMS K st ds picks).vs.length = 1 + madeL st ds 0 [] := by
  unfold endMS
  rw [vs_ends]
  exact made_run K st ds 0 _ hk
/-- At which deeds rows are merged. -/
def okAt (ds : List (Int × Int)) (i : Nat) : Prop := i < ds.length → ∃ d, ds[i]? = some d ∧ (d.1 = 2 ∨ d.1 = 1)
structure CInv (okat : Nat → Prop) (top : Nat) (s : HS (List Int)) : Prop where
  lk : Lk s.m.row s.ini
  ct : CtOk okat (preL s.ini) top s.m
theorem cinv_start (okat : Nat → Prop) (picks : List Int) : CInv okat 0 (HS.start listK picks) :=
  ⟨rfl, ⟨List.pairwise_singleton _ _, by intro v hv; simp [HS.start, preL] at hv; subst hv; simp [HS.start], ⟨rfl, by intro x hx; simp [HS.start] at hx, List.Pairwise.nil, by intro x hx; simp [HS.start] at hx⟩⟩⟩
theorem cinv_back {okat : Nat → Prop} {s : HS (List Int)} (st : List Bool) (n : Nat) (hk : okat n) (h : CInv okat n s) : CInv okat n (s.back listK st (s.m.all listK n)) := by
  have hne := h.lk.ne
  have h0 : 0 < s.m.row.length := List.length_pos_iff.2 hne
  have hl := h.ct.all hk h0
  obtain ⟨v, hv, hh⟩ := s.m.all_head listK n h0
  generalize s.m.all listK n = m at hl hv
  unfold HS.back
  split
  · rename_i hi
    have hlk := h.lk
    rw [hi] at hl hlk
    exact ⟨by rw [hi]; show Lk m.row []; rw [hv]; exact hh.symm.trans hlk, by rw [hi]; exact hl⟩
  · rename_i t ini hi
    have hlk := h.lk
    rw [hi] at hl hlk
    have hb := ct_back hl hv (hlk.2.1.trans hh)
    split
    · refine ⟨?_, ct_new hb⟩
      have hne2 := hlk.2.2.ne
      refine hlk.2.2.same ?_
      show (t.2 ++ [m.vs.length]).head? = _
      cases h3 : t.2 with
      | nil => exact (hne2 h3).elim
      | cons a l => rfl
    · exact ⟨hlk.2.2, hb⟩
theorem cinv_deed {okat : Nat → Prop} {s : HS (List Int)} (st : List Bool) (n : Nat) (k loc : Int) (hk : k = 0 ∨ k = 1 ∨ k = 2 ∨ k = 3 ∨ k = 4) (ho : k = 1 ∨ k = 2 → okat n) (h : CInv okat n s) : CInv okat n (s.deed listK st n k loc) := by
  have hne := h.lk.ne
  have h0 : 0 < s.m.row.length := List.length_pos_iff.2 hne
  rcases hk with rfl | rfl | rfl | rfl | rfl
  · have e : s.deed listK st n 0 loc = ⟨{ s.m with row := [s.hand] }, s.spn, (s.sp, s.m.row) :: s.ini, s.spn + 1, s.lk⟩ := by simp [HS.deed]
    rw [e]
    have hs := hand_split hne
    refine ⟨⟨by simp, ?_, h.lk⟩, ?_⟩
    · show s.m.row.getLast? = [s.hand].head?
      conv => lhs; rw [hs]
      simp [HS.hand]
    · have e : preL ((s.sp, s.m.row) :: s.ini) ++ [s.hand] = preL s.ini ++ s.m.row := by
        rw [preL, List.append_assoc]
        conv => rhs; rw [hs]
        rfl
      obtain ⟨h1, h2, h3⟩ := h.ct
      rw [← e] at h1 h2 h3
      exact ⟨h1, h2, h3⟩
  · have e : s.deed listK st n 1 loc = s.back listK st (s.m.all listK n) := by simp [HS.deed]
    rw [e]
    exact cinv_back st n (ho (.inl rfl)) h
  · have e : s.deed listK st n 2 loc = { s with m := s.m.all listK n } := by simp [HS.deed]
    rw [e]
    refine ⟨?_, h.ct.all (ho (.inr rfl)) h0⟩
    obtain ⟨v, hv, hh⟩ := s.m.all_head listK n h0
    exact h.lk.same (by show (s.m.all listK n).row.head? = _; rw [hv, hh]; rfl)
  · have e : s.deed listK st n 3 loc = { s with lk := s.lk ++ [s.m.vs.getD s.hand []] } := by simp [HS.deed, listK]
    rw [e]
    exact ⟨h.lk, h.ct⟩
  · have e : s.deed listK st n 4 loc = { s with m := { s.m with vs := s.m.vs.set s.hand (s.m.vs.getD s.hand [] ++ [loc]) } } := by simp [HS.deed, listK]
    rw [e]
    obtain ⟨h1, h2, h3⟩ := h.ct
    refine ⟨h.lk, h1, fun v hv => by simpa using h2 v hv, ?_⟩
    show MgOk okat (preL s.ini ++ s.m.row) (s.m.vs.set _ _).length n s.m.mg
    rw [List.length_set]
    exact h3
theorem CInv.up {okat : Nat → Prop} {top top' : Nat} {s : HS (List Int)} (h : CInv okat top s) (ht : top ≤ top') : CInv okat top' s := ⟨h.lk, h.ct.up ht⟩
theorem cinv_run {okat : Nat → Prop} (st : List Bool) : ∀ (ds : List (Int × Int)) (n : Nat) (s : HS (List Int)), KindsOk ds → (∀ i d, ds[i]? = some d → d.1 = 1 ∨ d.1 = 2 → okat (n + i)) → CInv okat n s → CInv okat (n + ds.length) (s.run listK st ds n) := by
  intro ds
  induction ds with
  | nil => intro n s _ _ h; exact h
  | cons d ds ih =>
    intro n s hk ho h
    have h1 := cinv_deed st n d.1 d.2 (hk d (by simp)) (fun e => by have := ho 0 d rfl e; simpa using this) h
    have h2 := ih (n + 1) _ (fun x hx => hk x (by simp [hx])) (fun i x hx e => by have := ho (i + 1) x (by simpa using hx) e; rwa [show n + (i + 1) = n + 1 + i by omega] at this) (h1.up (Nat.le_succ n))
    rw [HS.run, List.length_cons, show n + (ds.length + 1) = n + 1 + ds.length by omega]
    exact h2
theorem ends_ct {okat : Nat → Prop} (n : Nat) (hk : okat n) : ∀ (ini : List (Nat × List Nat)) (m : MS (List Int)), Lk m.row ini → CtOk okat (preL ini) n m → CtOk okat [] n (MS.ends listK n ini m) ∧ (MS.ends listK n ini m).row.length = 1 := by
  intro ini
  induction ini with
  | nil =>
    intro m h1 h2
    have h0 : 0 < m.row.length := List.length_pos_iff.2 h1.ne
    obtain ⟨v, hv, hh⟩ := m.all_head listK n h0
    exact ⟨h2.all hk h0, by show (m.all listK n).row.length = 1; rw [hv]; rfl⟩
  | cons t ini ih =>
    intro m h1 h2
    have h0 : 0 < m.row.length := List.length_pos_iff.2 h1.ne
    obtain ⟨v, hv, hh⟩ := m.all_head listK n h0
    exact ih _ h1.2.2 (ct_back (h2.all hk h0) hv (h1.2.1.trans hh))
/-- What 23.7 says: one merge less than views; each view but the first goes once; at syncs, returns and the end, in order. -/
theorem counts_all (st : List Bool) (ds : List (Int × Int)) (picks : List Int) (hk : KindsOk ds) : MgOk (okAt ds) [0] (endMS listK st ds picks).vs.length ds.length (endMS listK st ds picks).mg := by
  have h := cinv_run (okat := okAt ds) st ds 0 _ hk (fun i d hd e => by rw [Nat.zero_add]; exact fun _ => ⟨d, hd, e.symm⟩) (cinv_start (okAt ds) picks)
  rw [Nat.zero_add] at h
  obtain ⟨⟨h1, h2, h3⟩, h4⟩ := ends_ct (okat := okAt ds) ds.length (fun hl => absurd hl (Nat.lt_irrefl _)) (endHS listK st ds picks).ini _ h.lk h.ct
  have h5 := hinv_run st ds 0 [] _ (hinv_start picks)
  obtain ⟨-, h6⟩ := ends_inv ds.length (endHS listK st ds picks).ini _ _ h5.lk h5.line
  rw [h6] at h3
  exact h3
end Go.Proofs.Ytdiabpoafennlaa
