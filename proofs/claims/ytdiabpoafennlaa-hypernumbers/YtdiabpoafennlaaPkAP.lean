import Derived.Test.YtdiabpoafennlaaPkAB
import Derived.Test.YtdiabpoafennlaaPkAJ
import Derived.Test.YtdiabpoafennlaaPkAL
import Derived.Test.YtdiabpoafennlaaPkAN
import Derived.Test.YtdiabpoafennlaaPkAO
import Derived.Test.YtdiabpoafennlaaPkAI
import Derived.Test.YtdiabpoafennlaaPkAK
import Derived.Test.YtdiabpoafennlaaPkAM
import Derived.Deep.Cut
/-! A reducer's play, plainly: how many views, which merges. -/
namespace Go.Proofs.Ytdiabpoafennlaa
set_option linter.unusedVariables false
set_option maxRecDepth 20000
set_option linter.unusedSimpArgs false
variable {V : Type}

/-- The merges up to now, where 'line' is there and there have been nv views. -/
structure MgOk (okat : Nat → Prop) (line : List Nat) (nv top : Nat) (mg : List (Nat × Nat × Nat)) : Prop where
  cnt : mg.length + line.length = nv
  each : ∀ x ∈ mg, x.2.1 < x.2.2 ∧ x.2.2 < nv ∧ x.1 ≤ top ∧ okat x.1
  pair : mg.Pairwise (fun x y => x.2.2 ≠ y.2.1 ∧ x.2.2 ≠ y.2.2 ∧ x.1 ≤ y.1)
  live : ∀ x ∈ mg, x.2.2 ∉ line
theorem MgOk.up {okat : Nat → Prop} {line : List Nat} {nv top top' : Nat} {mg : List (Nat × Nat × Nat)} (h : MgOk okat line nv top mg) (ht : top ≤ top') : MgOk okat line nv top' mg :=
  ⟨h.cnt, fun x hx => ⟨(h.each x hx).1, (h.each x hx).2.1, Nat.le_trans (h.each x hx).2.2.1 ht, (h.each x hx).2.2.2⟩, h.pair, h.live⟩
/-- The line and the merges. -/
structure CtOk (okat : Nat → Prop) (pre : List Nat) (top : Nat) (m : MS (List Int)) : Prop where
  asc : Asc (pre ++ m.row)
  low : ∀ v ∈ pre ++ m.row, v < m.vs.length
  mg : MgOk okat (pre ++ m.row) m.vs.length top m.mg
theorem CtOk.one {okat : Nat → Prop} {pre : List Nat} {top : Nat} {m : MS (List Int)} (hk : okat top) (h1 : 1 < m.row.length) (h : CtOk okat pre top m) : CtOk okat pre top (m.one listK top) := by
  obtain ⟨A, a, b, B, e1, e2, e3, e4, -⟩ := m.one_row listK top h1
  obtain ⟨h2, h3, ⟨h4, h5, h6, h7⟩⟩ := h
  rw [e1] at h2 h3 h4 h7
  have hs : List.Sublist (pre ++ (A ++ a :: B)) (pre ++ (A ++ a :: b :: B)) := ((List.Sublist.refl pre).append ((List.Sublist.refl A).append ((List.sublist_cons_self b B).cons_cons a)))
  have hnd := asc_nodup h2
  have hab : a < b := by
    have h8 : pre ++ (A ++ a :: b :: B) = (pre ++ A) ++ a :: b :: B := by simp
    unfold Asc at h2
    rw [h8, List.pairwise_append] at h2
    exact (List.pairwise_cons.1 h2.2.1).1 b (by simp)
  have hbn : b ∉ pre ++ (A ++ a :: B) := by
    have h8 : pre ++ (A ++ a :: b :: B) = (pre ++ A ++ [a]) ++ b :: B := by simp
    rw [h8] at hnd
    have h9 := List.nodup_append.1 hnd
    intro hm
    rw [show pre ++ (A ++ a :: B) = (pre ++ A ++ [a]) ++ B by simp, List.mem_append] at hm
    rcases hm with hm | hm
    · exact h9.2.2 b hm b (by simp) rfl
    · exact (List.nodup_cons.1 h9.2.1).1 hm
  have hbl := h3 b (by simp)
  refine ⟨by rw [e2]; exact h2.sublist hs, by rw [e2, e3]; intro v hv; rw [List.length_set]; exact h3 v (hs.subset hv), ?_⟩
  rw [e2, e3, e4, List.length_set]
  refine ⟨by simp at h4 ⊢; omega, ?_, ?_, ?_⟩
  · intro x hx
    rw [List.mem_append] at hx
    rcases hx with hx | hx
    · exact h5 x hx
    · simp at hx; subst hx; exact ⟨hab, hbl, Nat.le_refl _, hk⟩
  · rw [List.pairwise_append]
    refine ⟨h6, List.pairwise_singleton _ _, ?_⟩
    intro x hx y hy
    simp at hy; subst hy
    have h8 := h7 x hx
    exact ⟨fun e => h8 (by rw [e]; simp), fun e => h8 (by rw [e]; simp), (h5 x hx).2.2.1⟩
  · intro x hx
    rw [List.mem_append] at hx
    rcases hx with hx | hx
    · exact fun hm => h7 x hx (hs.subset hm)
    · simp at hx; subst hx; exact hbn
theorem CtOk.all {okat : Nat → Prop} {pre : List Nat} {top : Nat} {m : MS (List Int)} (hk : okat top) (h0 : 0 < m.row.length) (h : CtOk okat pre top m) : CtOk okat pre top (m.all listK top) :=
  (MS.all_ind listK top (CtOk okat pre top) (fun s hs hp => hp.one hk hs) m h0 h).1
theorem CtOk.up {okat : Nat → Prop} {pre : List Nat} {top top' : Nat} {m : MS (List Int)} (h : CtOk okat pre top m) (ht : top ≤ top') : CtOk okat pre top' m := ⟨h.asc, h.low, h.mg.up ht⟩
theorem ct_back {okat : Nat → Prop} {top : Nat} {m : MS (List Int)} {t : Nat × List Nat} {ini : List (Nat × List Nat)} {v : Nat} (h : CtOk okat (preL (t :: ini)) top m) (hr : m.row = [v]) (ht : t.2.getLast? = some v) : CtOk okat (preL ini) top { m with row := t.2 } := by
  have e : preL (t :: ini) ++ m.row = preL ini ++ t.2 := by
    rw [hr, preL, List.append_assoc]
    rw [← last_some ht]
  obtain ⟨h1, h2, h3⟩ := h
  rw [e] at h1 h2 h3
  exact ⟨h1, h2, h3⟩
theorem ct_new {okat : Nat → Prop} {pre : List Nat} {top : Nat} {m : MS (List Int)} (h : CtOk okat pre top m) : CtOk okat pre top { m with vs := m.vs ++ [[]], row := m.row ++ [m.vs.length] } := by
  obtain ⟨h1, h2, ⟨h4, h5, h6, h7⟩⟩ := h
  refine ⟨?_, ?_, ?_⟩
  · show Asc (pre ++ (m.row ++ [m.vs.length]))
    rw [← List.append_assoc]
    exact asc_more h1 h2
  · show ∀ v ∈ pre ++ (m.row ++ [m.vs.length]), v < (m.vs ++ [[]]).length
    intro v hv
    rw [← List.append_assoc, List.mem_append] at hv
    rw [List.length_append]
    rcases hv with hv | hv
    · have := h2 v hv; simp; omega
    · simp at hv; subst hv; simp
  · show MgOk okat (pre ++ (m.row ++ [m.vs.length])) (m.vs ++ [[]]).length top m.mg
    refine ⟨by simp at h4 ⊢; omega, ?_, h6, ?_⟩
    · intro x hx
      have := h5 x hx
      exact ⟨this.1, by simp; omega, this.2.2.1, this.2.2.2⟩
    · intro x hx hm
      rw [← List.append_assoc, List.mem_append] at hm
      rcases hm with hm | hm
      · exact h7 x hx hm
      · simp at hm
        have := (h5 x hx).2.1
        omega
/-- How many views are made: one, and one for each stolen spawn whose child returns; 'open' are the spawns of the tasks that have not returned, the nearest first. -/
def madeL (st : List Bool) : List (Int × Int) → Nat → List Nat → Nat
  | [], _, _ => 0
  | d :: ds, n, op =>
    if d.1 = 0 then madeL st ds (n + 1) (n :: op)
    else if d.1 = 1 then match op with
      | [] => madeL st ds n []
      | k :: op => (if st.getD k false = true then 1 else 0) + madeL st ds n op
    else madeL st ds n op
theorem madeL_cons (st : List Bool) (d : Int × Int) (ds : List (Int × Int)) (n : Nat) (op : List Nat) : madeL st (d :: ds) n op = if d.1 = 0 then madeL st ds (n + 1) (n :: op)
    else if d.1 = 1 then match op with
      | [] => madeL st ds n []
      | k :: op => (if st.getD k false = true then 1 else 0) + madeL st ds n op
    else madeL st ds n op := rfl
/-- The spawns of the tasks that are open. -/
def opsL : Nat → List (Nat × List Nat) → List Nat
  | _, [] => []
  | sp, t :: ini => sp :: opsL t.1 ini
theorem vs_one (K : Kd V) (n : Nat) (s : MS V) : (s.one K n).vs.length = s.vs.length := by simp [MS.one]
theorem vs_all (K : Kd V) (n : Nat) (s : MS V) : (s.all K n).vs.length = s.vs.length := by
  have : ∀ (f : Nat) (s : MS V), (MS.go K n f s).vs.length = s.vs.length := by
    intro f
    induction f with
    | zero => intro s; rfl
    | succ f ih => intro s; rw [MS.go, ih, vs_one]
  exact this _ s
theorem vs_ends (K : Kd V) (n : Nat) : ∀ (ini : List (Nat × List Nat)) (m : MS V), (MS.ends K n ini m).vs.length = m.vs.length := by
  intro ini
  induction ini with
  | nil => intro m; exact vs_all K n m
  | cons t ini ih => intro m; rw [MS.ends, ih]; exact vs_all K n m
/-- Are deeds such as may be played? -/
def KindsOk (ds : List (Int × Int)) : Prop := ∀ d ∈ ds, d.1 = 0 ∨ d.1 = 1 ∨ d.1 = 2 ∨ d.1 = 3 ∨ d.1 = 4
theorem made_run (K : Kd V) (st : List Bool) : ∀ (ds : List (Int × Int)) (n : Nat) (s : HS V), KindsOk ds → (s.run K st ds n).m.vs.length = s.m.vs.length + madeL st ds s.spn (opsL s.sp s.ini) := by
  intro ds
  induction ds with
  | nil => intro n s _; rfl
  | cons d ds ih =>
    intro n s hk
    rw [HS.run, ih _ _ (fun x hx => hk x (by simp [hx]))]
    obtain ⟨k, loc⟩ := d
    have h0 := hk (k, loc) (by simp)
    simp only at h0 ⊢
    rcases h0 with rfl | rfl | rfl | rfl | rfl
    · rw [madeL_cons, if_pos rfl]
      simp [HS.deed, opsL]
    · rw [madeL_cons, if_neg (by simp), if_pos rfl]
      have e : s.deed K st n 1 loc = s.back K st (s.m.all K n) := by simp [HS.deed]
      rw [e]
      unfold HS.back
      cases hi : s.ini with
      | nil => simp [opsL, vs_all, hi]
      | cons t ini =>
        simp only [opsL]
        by_cases hs : st.getD s.sp false = true
        · rw [if_pos hs, if_pos hs]; simp [vs_all]; omega
        · rw [if_neg hs, if_neg hs]; simp [vs_all]
    · rw [madeL_cons, if_neg (by simp), if_neg (by simp)]
      simp [HS.deed, vs_all]
    · rw [madeL_cons, if_neg (by simp), if_neg (by simp)]
      simp [HS.deed]
    · rw [madeL_cons, if_neg (by simp), if_neg (by simp)]
      simp [HS.deed]
theorem made_all (K : Kd V) (st : List Bool) (ds : List (Int × Int)) (picks : List Int) (hk : KindsOk ds) : (endMS K st ds picks).vs.length = 1 + madeL st ds 0 [] := by
  unfold endMS
  rw [vs_ends]
  exact made_run K st ds 0 _ hk
/-- At which deeds rows are merged. -/
def okAt (ds : List (Int × Int)) (i : Nat) : Prop := i < ds.length → ∃ d, ds[i]? = some d ∧ (d.1 = 2 ∨ d.1 = 1)
structure CInv (okat : Nat → Prop) (top : Nat) (s : HS (List Int)) : Prop where
  lk : Lk s.m.row s.ini
  ct : CtOk okat (preL s.ini) top s.m
theorem cinv_start (okat : Nat → Prop) (picks : List Int) : CInv okat 0 (HS.start listK picks) :=
  ⟨rfl, ⟨List.pairwise_singleton _ _, by intro v hv; simp [HS.start, preL] at hv; subst hv; simp [HS.start], ⟨rfl, by intro x hx; simp [HS.start] at hx, List.Pairwise.nil, by intro x hx; simp [HS.start] at hx⟩⟩⟩
theorem cinv_back {okat : Nat → Prop} {s : HS (List Int)} (st : List Bool) (n : Nat) (hk : okat n) (h : CInv okat n s) : CInv okat n (s.back listK st (s.m.all listK n)) := by
  have hne := h.lk.ne
  have h0 : 0 < s.m.row.length := List.length_pos_iff.2 hne
  have hl := h.ct.all hk h0
  obtain ⟨v, hv, hh⟩ := s.m.all_head listK n h0
  generalize s.m.all listK n = m at hl hv
  unfold HS.back
  split
  · rename_i hi
    have hlk := h.lk
    rw [hi] at hl hlk
    exact ⟨by rw [hi]; show Lk m.row []; rw [hv]; exact hh.symm.trans hlk, by rw [hi]; exact hl⟩
  · rename_i t ini hi
    have hlk := h.lk
    rw [hi] at hl hlk
    have hb := ct_back hl hv (hlk.2.1.trans hh)
    split
    · refine ⟨?_, ct_new hb⟩
      have hne2 := hlk.2.2.ne
      refine hlk.2.2.same ?_
      show (t.2 ++ [m.vs.length]).head? = _
      cases h3 : t.2 with
      | nil => exact (hne2 h3).elim
      | cons a l => rfl
    · exact ⟨hlk.2.2, hb⟩
theorem cinv_deed {okat : Nat → Prop} {s : HS (List Int)} (st : List Bool) (n : Nat) (k loc : Int) (hk : k = 0 ∨ k = 1 ∨ k = 2 ∨ k = 3 ∨ k = 4) (ho : k = 1 ∨ k = 2 → okat n) (h : CInv okat n s) : CInv okat n (s.deed listK st n k loc) := by
  have hne := h.lk.ne
  have h0 : 0 < s.m.row.length := List.length_pos_iff.2 hne
  rcases hk with rfl | rfl | rfl | rfl | rfl
  · have e : s.deed listK st n 0 loc = ⟨{ s.m with row := [s.hand] }, s.spn, (s.sp, s.m.row) :: s.ini, s.spn + 1, s.lk⟩ := by simp [HS.deed]
    rw [e]
    have hs := hand_split hne
    refine ⟨⟨by simp, ?_, h.lk⟩, ?_⟩
    · show s.m.row.getLast? = [s.hand].head?
      conv => lhs; rw [hs]
      simp [HS.hand]
    · have e : preL ((s.sp, s.m.row) :: s.ini) ++ [s.hand] = preL s.ini ++ s.m.row := by
        rw [preL, List.append_assoc]
        conv => rhs; rw [hs]
        rfl
      obtain ⟨h1, h2, h3⟩ := h.ct
      rw [← e] at h1 h2 h3
      exact ⟨h1, h2, h3⟩
  · have e : s.deed listK st n 1 loc = s.back listK st (s.m.all listK n) := by simp [HS.deed]
    rw [e]
    exact cinv_back st n (ho (.inl rfl)) h
  · have e : s.deed listK st n 2 loc = { s with m := s.m.all listK n } := by simp [HS.deed]
    rw [e]
    refine ⟨?_, h.ct.all (ho (.inr rfl)) h0⟩
    obtain ⟨v, hv, hh⟩ := s.m.all_head listK n h0
    exact h.lk.same (by show (s.m.all listK n).row.head? = _; rw [hv, hh]; rfl)
  · have e : s.deed listK st n 3 loc = { s with lk := s.lk ++ [s.m.vs.getD s.hand []] } := by simp [HS.deed, listK]
    rw [e]
    exact ⟨h.lk, h.ct⟩
  · have e : s.deed listK st n 4 loc = { s with m := { s.m with vs := s.m.vs.set s.hand (s.m.vs.getD s.hand [] ++ [loc]) } } := by simp [HS.deed, listK]
    rw [e]
    obtain ⟨h1, h2, h3⟩ := h.ct
    refine ⟨h.lk, h1, fun v hv => by simpa using h2 v hv, ?_⟩
    show MgOk okat (preL s.ini ++ s.m.row) (s.m.vs.set _ _).length n s.m.mg
    rw [List.length_set]
    exact h3
theorem CInv.up {okat : Nat → Prop} {top top' : Nat} {s : HS (List Int)} (h : CInv okat top s) (ht : top ≤ top') : CInv okat top' s := ⟨h.lk, h.ct.up ht⟩
theorem cinv_run {okat : Nat → Prop} (st : List Bool) : ∀ (ds : List (Int × Int)) (n : Nat) (s : HS (List Int)), KindsOk ds → (∀ i d, ds[i]? = some d → d.1 = 1 ∨ d.1 = 2 → okat (n + i)) → CInv okat n s → CInv okat (n + ds.length) (s.run listK st ds n) := by
  intro ds
  induction ds with
  | nil => intro n s _ _ h; exact h
  | cons d ds ih =>
    intro n s hk ho h
    have h1 := cinv_deed st n d.1 d.2 (hk d (by simp)) (fun e => by have := ho 0 d rfl e; simpa using this) h
    have h2 := ih (n + 1) _ (fun x hx => hk x (by simp [hx])) (fun i x hx e => by have := ho (i + 1) x (by simpa using hx) e; rwa [show n + (i + 1) = n + 1 + i by omega] at this) (h1.up (Nat.le_succ n))
    rw [HS.run, List.length_cons, show n + (ds.length + 1) = n + 1 + ds.length by omega]
    exact h2
theorem ends_ct {okat : Nat → Prop} (n : Nat) (hk : okat n) : ∀ (ini : List (Nat × List Nat)) (m : MS (List Int)), Lk m.row ini → CtOk okat (preL ini) n m → CtOk okat [] n (MS.ends listK n ini m) ∧ (MS.ends listK n ini m).row.length = 1 := by
  intro ini
  induction ini with
  | nil =>
    intro m h1 h2
    have h0 : 0 < m.row.length := List.length_pos_iff.2 h1.ne
    obtain ⟨v, hv, hh⟩ := m.all_head listK n h0
    exact ⟨h2.all hk h0, by show (m.all listK n).row.length = 1; rw [hv]; rfl⟩
  | cons t ini ih =>
    intro m h1 h2
    have h0 : 0 < m.row.length := List.length_pos_iff.2 h1.ne
    obtain ⟨v, hv, hh⟩ := m.all_head listK n h0
    exact ih _ h1.2.2 (ct_back (h2.all hk h0) hv (h1.2.1.trans hh))
/-- What 23.7 says: one merge less than views; each view but the first goes once; at syncs, returns and the end, in order. -/
theorem counts_all (st : List Bool) (ds : List (Int × Int)) (picks : List Int) (hk : KindsOk ds) : MgOk (okAt ds) [0] (endMS listK st ds picks).vs.length ds.length (endMS listK st ds picks).mg := by
  have h := cinv_run (okat := okAt ds) st ds 0 _ hk (fun i d hd e => by rw [Nat.zero_add]; exact fun _ => ⟨d, hd, e.symm⟩) (cinv_start (okAt ds) picks)
  rw [Nat.zero_add] at h
  obtain ⟨⟨h1, h2, h3⟩, h4⟩ := ends_ct (okat := okAt ds) ds.length (fun hl => absurd hl (Nat.lt_irrefl _)) (endHS listK st ds picks).ini _ h.lk h.ct
  have h5 := hinv_run st ds 0 [] _ (hinv_start picks)
  obtain ⟨-, h6⟩ := ends_inv ds.length (endHS listK st ds picks).ini _ _ h5.lk h5.line
  rw [h6] at h3
  exact h3
end Go.Proofs.Ytdiabpoafennlaa
/-! A reducer's play, plainly: its sizes. -/
namespace Go.Proofs.Ytdiabpoafennlaa
set_option linter.unusedVariables false
set_option maxRecDepth 20000
set_option linter.unusedSimpArgs false

def yes : Nat → Prop := fun _ => True
/-- What holds behind n deeds, with d tasks above the current one. -/
structure Okd (n d : Nat) (P : List Int) (s : HS (List Int)) : Prop where
  inv : HInv P s
  ct : CInv yes n s
  nv : s.m.vs.length ≤ n + 1
  ni : s.ini.length = d
  nd : d ≤ n
  nl : s.lk.length ≤ n
  np : P.length ≤ n
  ns : s.spn ≤ n
  nt : s.sp ≤ n ∧ ∀ t ∈ s.ini, t.1 ≤ n
theorem okd_start (picks : List Int) : Okd 0 0 [] (HS.start listK picks) :=
  ⟨hinv_start picks, cinv_start _ picks, Nat.le_refl _, rfl, Nat.le_refl _, Nat.le_refl _, Nat.le_refl _, Nat.le_refl _, Nat.le_refl _, by intro t ht; simp [HS.start] at ht⟩
theorem Okd.rows {n d : Nat} {P : List Int} {s : HS (List Int)} (h : Okd n d P s) : s.m.mg.length + s.m.row.length ≤ n + 1 ∧ 0 < s.m.row.length ∧ s.hand < s.m.vs.length ∧ (s.m.vs.getD s.hand []).length ≤ n := by
  have h1 := h.ct.ct.mg.cnt
  rw [List.length_append] at h1
  have h2 := h.nv
  have hne := h.inv.lk.ne
  have hs := hand_split hne
  have hin : s.hand ∈ preL s.ini ++ s.m.row := by
    rw [List.mem_append]
    right
    rw [hs]
    exact List.mem_append_right _ (List.mem_singleton.2 rfl)
  refine ⟨by omega, List.length_pos_iff.2 hne, h.inv.line.low _ hin, ?_⟩
  obtain ⟨A, B, hAB⟩ := List.append_of_mem hin
  have hc := h.inv.line.cat
  rw [hAB, catL_app, catL_cons] at hc
  have hl := congrArg List.length hc
  simp only [List.length_append] at hl
  have := h.np
  omega
theorem Okd.parent {n d : Nat} {P : List Int} {s : HS (List Int)} (h : Okd n d P s) {t : Nat × List Nat} {ini : List (Nat × List Nat)} (hi : s.ini = t :: ini) : t.2.length ≤ n + 2 := by
  have h1 := h.ct.ct.mg.cnt
  rw [List.length_append, hi, preL, List.length_append, List.length_dropLast] at h1
  have h2 := h.nv
  omega
def nextD (k : Int) (d : Nat) : Nat := if k = 0 then d + 1 else if k = 1 then d - 1 else d
theorem Okd.deed {n d : Nat} {P : List Int} {s : HS (List Int)} (h : Okd n d P s) (st : List Bool) (k loc : Int) (hk : k = 0 ∨ k = 1 ∨ k = 2 ∨ k = 3 ∨ k = 4) (hd : ¬ (k = 1 ∧ d = 0)) : Okd (n + 1) (nextD k d) (P ++ if k = 4 then [loc] else []) (s.deed listK st n k loc) := by
  have h1 := hinv_deed st n k loc h.inv
  have h2 := (cinv_deed st n k loc hk (fun _ => trivial) h.ct).up (Nat.le_succ n)
  have hP : (P ++ if k = 4 then [loc] else []).length ≤ n + 1 := by
    rw [List.length_append]
    have := h.np
    split <;> simp <;> omega
  have hnv := h.nv
  have hni := h.ni
  have hnd := h.nd
  have hnl := h.nl
  have hns := h.ns
  have hnt := h.nt
  rcases hk with rfl | rfl | rfl | rfl | rfl
  · have e : s.deed listK st n 0 loc = ⟨{ s.m with row := [s.hand] }, s.spn, (s.sp, s.m.row) :: s.ini, s.spn + 1, s.lk⟩ := by simp [HS.deed]
    refine ⟨h1, h2, ?_, ?_, ?_, ?_, hP, ?_, ?_, ?_⟩
    · rw [e]; show s.m.vs.length ≤ _; omega
    · rw [e]; simp [nextD, hni]
    · simp [nextD]; omega
    · rw [e]; show s.lk.length ≤ _; omega
    · rw [e]; show s.spn + 1 ≤ _; omega
    · rw [e]; show s.spn ≤ _; omega
    · rw [e]
      intro t ht
      rcases List.mem_cons.1 ht with rfl | ht
      · exact Nat.le_trans hnt.1 (Nat.le_succ n)
      · exact Nat.le_trans (hnt.2 t ht) (Nat.le_succ n)
  · have e : s.deed listK st n 1 loc = s.back listK st (s.m.all listK n) := by simp [HS.deed]
    obtain ⟨t, ini, hi⟩ : ∃ t ini, s.ini = t :: ini := by
      cases hi : s.ini with
      | nil => rw [hi] at hni; simp at hni; omega
      | cons t ini => exact ⟨t, ini, rfl⟩
    have hv := vs_all listK n s.m
    rw [hi] at hni hnt
    simp at hni
    by_cases hs : st.getD s.sp false = true
    · have e2 : s.back listK st (s.m.all listK n) = ⟨{ s.m.all listK n with vs := (s.m.all listK n).vs ++ [listK.fresh], row := t.2 ++ [(s.m.all listK n).vs.length] }, t.1, ini, s.spn, s.lk⟩ := by
        unfold HS.back
        rw [hi]
        simp only
        rw [if_pos hs]
      refine ⟨h1, h2, ?_, ?_, ?_, ?_, hP, ?_, ?_, ?_⟩
      · rw [e, e2]; simp [hv]; omega
      · rw [e, e2]; simp [nextD]; omega
      · simp [nextD]; omega
      · rw [e, e2]; show s.lk.length ≤ _; omega
      · rw [e, e2]; show s.spn ≤ _; omega
      · rw [e, e2]; exact Nat.le_trans (hnt.2 t (by simp)) (Nat.le_succ n)
      · rw [e, e2]; intro t' ht; exact Nat.le_trans (hnt.2 t' (List.mem_cons_of_mem _ ht)) (Nat.le_succ n)
    · have e2 : s.back listK st (s.m.all listK n) = ⟨{ s.m.all listK n with row := t.2 }, t.1, ini, s.spn, s.lk⟩ := by
        unfold HS.back
        rw [hi]
        simp only
        rw [if_neg hs]
      refine ⟨h1, h2, ?_, ?_, ?_, ?_, hP, ?_, ?_, ?_⟩
      · rw [e, e2]; show (s.m.all listK n).vs.length ≤ _; omega
      · rw [e, e2]; simp [nextD]; omega
      · simp [nextD]; omega
      · rw [e, e2]; show s.lk.length ≤ _; omega
      · rw [e, e2]; show s.spn ≤ _; omega
      · rw [e, e2]; exact Nat.le_trans (hnt.2 t (by simp)) (Nat.le_succ n)
      · rw [e, e2]; intro t' ht; exact Nat.le_trans (hnt.2 t' (List.mem_cons_of_mem _ ht)) (Nat.le_succ n)
  · have e : s.deed listK st n 2 loc = { s with m := s.m.all listK n } := by simp [HS.deed]
    have hv := vs_all listK n s.m
    refine ⟨h1, h2, ?_, ?_, ?_, ?_, hP, ?_, ?_, ?_⟩
    · rw [e]; show (s.m.all listK n).vs.length ≤ _; omega
    · rw [e]; simp [nextD, hni]
    · simp [nextD]; omega
    · rw [e]; show s.lk.length ≤ _; omega
    · rw [e]; show s.spn ≤ _; omega
    · rw [e]; exact Nat.le_trans hnt.1 (Nat.le_succ n)
    · rw [e]; intro t' ht; exact Nat.le_trans (hnt.2 t' ht) (Nat.le_succ n)
  · have e : s.deed listK st n 3 loc = { s with lk := s.lk ++ [s.m.vs.getD s.hand []] } := by simp [HS.deed, listK]
    refine ⟨h1, h2, ?_, ?_, ?_, ?_, hP, ?_, ?_, ?_⟩
    · rw [e]; show s.m.vs.length ≤ _; omega
    · rw [e]; simp [nextD, hni]
    · simp [nextD]; omega
    · rw [e]; simp; omega
    · rw [e]; show s.spn ≤ _; omega
    · rw [e]; exact Nat.le_trans hnt.1 (Nat.le_succ n)
    · rw [e]; intro t' ht; exact Nat.le_trans (hnt.2 t' ht) (Nat.le_succ n)
  · have e : s.deed listK st n 4 loc = { s with m := { s.m with vs := s.m.vs.set s.hand (s.m.vs.getD s.hand [] ++ [loc]) } } := by simp [HS.deed, listK]
    refine ⟨h1, h2, ?_, ?_, ?_, ?_, hP, ?_, ?_, ?_⟩
    · rw [e]; simp; omega
    · rw [e]; simp [nextD, hni]
    · simp [nextD]; omega
    · rw [e]; show s.lk.length ≤ _; omega
    · rw [e]; show s.spn ≤ _; omega
    · rw [e]; exact Nat.le_trans hnt.1 (Nat.le_succ n)
    · rw [e]; intro t' ht; exact Nat.le_trans (hnt.2 t' ht) (Nat.le_succ n)
end Go.Proofs.Ytdiabpoafennlaa
/-! Every deed of a reducer's play. -/
namespace Go.Proofs.Ytdiabpoafennlaa
set_option linter.unusedVariables false
set_option maxRecDepth 20000
set_option linter.unusedSimpArgs false
open Go.RowKit Go.HeapKit

def psS (s : HS (List Int)) : PS := ⟨s.m.vs, s.ini.reverse ++ [(s.sp, s.m.row)], s.m.pk, s.spn, s.m.mg, s.lk⟩
theorem do_any (base pb n d : Nat) (st : List Bool) (X : PX) (K0 : Ky → Value) (R : Nat → Value) (s : HS (List Int)) (P : List Int) (w : World) (k loc : Int) (h : PM w base pb st X K0 R R (psS s)) (ho : Okd n d P s) (hn : n ≤ 4096) (hst : st.length ≤ 4096) (hk : k = 0 ∨ k = 1 ∨ k = 2 ∨ k = 3 ∨ k = 4) (hd : ¬ (k = 1 ∧ d = 0)) :
    Calls Try.prog 34 #[.pointer (some ⟨pb, 0, none⟩), .int .i64 n, .agg #[.int .i64 k, .int .i64 loc]] w fun e w' => e = .returned (.tuple #[]) ∧ (∃ X' K' R', PM w' base pb st X' K' R' R' (psS (s.deed listK st n k loc))) ∧ Keeps (fun i => base ≤ i) w w' := by
  obtain ⟨r1, r2, r3, r4⟩ := ho.rows
  have hne := ho.inv.lk.ne
  have hil : s.ini.reverse.length ≤ 4096 := by rw [List.length_reverse]; have := ho.ni; have := ho.nd; omega
  have hnv := ho.nv
  have hnt := ho.nt
  have hns := ho.ns
  rcases hk with rfl | rfl | rfl | rfl | rfl
  · have e : s.deed listK st n 0 loc = ⟨{ s.m with row := [s.hand] }, s.spn, (s.sp, s.m.row) :: s.ini, s.spn + 1, s.lk⟩ := by simp [HS.deed]
    refine (do_spawn base pb n st X K0 R (psS s) w s.ini.reverse s.sp s.m.row loc h rfl hne (by omega) (by omega) s.hand rfl (by show s.spn ≤ _; omega)).mono ?_
    rintro e' w' ⟨h1, ⟨X', K', R', h2⟩, h3⟩
    refine ⟨h1, ⟨X', K', R', ?_⟩, h3⟩
    rw [e]
    have e3 : psS ⟨{ s.m with row := [s.hand] }, s.spn, (s.sp, s.m.row) :: s.ini, s.spn + 1, s.lk⟩ = { psS s with tk := (psS s).tk ++ [((psS s).spn, [s.hand])], spn := (psS s).spn + 1 } := by
      unfold psS
      simp
    rw [e3]
    exact h2
  · obtain ⟨t, ini, hi⟩ : ∃ t ini, s.ini = t :: ini := by
      cases hi : s.ini with
      | nil => have := ho.ni; rw [hi] at this; simp at this; exact absurd ⟨rfl, this.symm⟩ hd
      | cons t ini => exact ⟨t, ini, rfl⟩
    have e : s.deed listK st n 1 loc = s.back listK st (s.m.all listK n) := by simp [HS.deed]
    have hp := ho.parent hi
    have hps : psS s = psOf (psS s) (ini.reverse ++ [(t.1, t.2)]) s.sp s.m := by
      unfold psS psOf
      simp [hi]
    rw [hps] at h
    have hil2 : ini.reverse.length ≤ 4000 ∨ True := .inr trivial
    rw [hi] at hil
    simp at hil
    refine (do_return base pb n st X K0 R (psS s) w ini.reverse t.1 t.2 s.sp s.m (preL s.ini) P loc h ho.inv.line (by have := ho.np; omega) r2 (by omega) (by simp; omega) (by omega) (by omega) (by omega) (by omega) (by omega) (s.m.all listK n) rfl).mono ?_
    rintro e' w' ⟨h1, ⟨X', K', R', h2⟩, h3⟩
    refine ⟨h1, ⟨X', K', R', ?_⟩, h3⟩
    rw [e]
    have e3 : psS (s.back listK st (s.m.all listK n)) = retPS (psS s) ini.reverse t.1 t.2 s.sp st (s.m.all listK n) := by
      unfold HS.back retPS
      rw [hi]
      simp only
      by_cases hs : st.getD s.sp false = true
      · rw [if_pos hs, if_pos hs]; rfl
      · rw [if_neg hs, if_neg hs]; rfl
    rw [e3]
    exact h2
  · have e : s.deed listK st n 2 loc = { s with m := s.m.all listK n } := by simp [HS.deed]
    refine (do_sync base pb n st X K0 R (psS s) w s.ini.reverse s.sp s.m (preL s.ini) P loc h h.sizeLe ho.inv.line (by have := ho.np; omega) r2 (by omega) (by omega) (by omega)).mono ?_
    rintro e' w' ⟨h1, ⟨X', K', R', h2⟩, h3⟩
    refine ⟨h1, ⟨X', K', R', ?_⟩, h3⟩
    rw [e]
    exact h2
  · have e : s.deed listK st n 3 loc = { s with lk := s.lk ++ [s.m.vs.getD s.hand []] } := by simp [HS.deed, listK]
    have hnl := ho.nl
    refine (do_look base pb n st X K0 R (psS s) w s.ini.reverse s.sp s.m.row loc h rfl hne (by omega) (by omega) s.hand rfl (s.m.vs.getD s.hand []) rfl r3 (by omega) (by show s.lk.length ≤ _; omega)).mono ?_
    rintro e' w' ⟨h1, ⟨X', K', R', h2⟩, h3⟩
    refine ⟨h1, ⟨X', K', R', ?_⟩, h3⟩
    rw [e]
    exact h2
  · have e : s.deed listK st n 4 loc = { s with m := { s.m with vs := s.m.vs.set s.hand (s.m.vs.getD s.hand [] ++ [loc]) } } := by simp [HS.deed, listK]
    refine (do_write base pb n st X K0 R (psS s) w s.ini.reverse s.sp s.m.row loc h rfl hne (by omega) (by omega) h.sizeLe s.hand rfl (s.m.vs.getD s.hand []) rfl r3 (by omega)).mono ?_
    rintro e' w' ⟨h1, ⟨X', K', R', h2⟩, h3⟩
    refine ⟨h1, ⟨X', K', R', ?_⟩, h3⟩
    rw [e]
    exact h2
end Go.Proofs.Ytdiabpoafennlaa
/-! Every deed of a play of numbers. -/
namespace Go.Proofs.Ytdiabpoafennlaa.Nm
set_option linter.unusedVariables false
set_option maxRecDepth 20000
set_option linter.unusedSimpArgs false
open Go.RowKit Go.HeapKit Go.PlainOps

theorem do_any (base pb n d : Nat) (st : List Bool) (X : PX) (K0 : NP) (R : Nat → Value) (s : HS (List Int)) (P : List Int) (w : World) (k loc : Int) (h : PM w base pb st X K0 R R (psS s)) (ho : Okd n d P s) (hn : n ≤ 4096) (hst : st.length ≤ 4096) (hk : k = 0 ∨ k = 1 ∨ k = 2 ∨ k = 3 ∨ k = 4) (hd : ¬ (k = 1 ∧ d = 0)) (hu : hasU K0.op = true) (hf : Fits P) :
    Calls Try.prog 43 #[.pointer (some ⟨pb, 0, none⟩), .int .i64 n, .agg #[.int .i64 k, .int .i64 loc]] w fun e w' => e = .returned (.tuple #[]) ∧ (∃ X' R', PM w' base pb st X' K0 R' R' (psS (s.deed listK st n k loc))) ∧ Keeps (fun i => base ≤ i) w w' := by
  obtain ⟨r1, r2, r3, r4⟩ := ho.rows
  have hne := ho.inv.lk.ne
  have hil : s.ini.reverse.length ≤ 4096 := by rw [List.length_reverse]; have := ho.ni; have := ho.nd; omega
  have hnv := ho.nv
  have hnt := ho.nt
  have hns := ho.ns
  rcases hk with rfl | rfl | rfl | rfl | rfl
  · have e : s.deed listK st n 0 loc = ⟨{ s.m with row := [s.hand] }, s.spn, (s.sp, s.m.row) :: s.ini, s.spn + 1, s.lk⟩ := by simp [HS.deed]
    refine (do_spawn base pb n st X K0 R (psS s) w s.ini.reverse s.sp s.m.row loc h rfl hne (by omega) (by omega) s.hand rfl (by show s.spn ≤ _; omega)).mono ?_
    rintro e' w' ⟨h1, ⟨X', R', h2⟩, h3⟩
    refine ⟨h1, ⟨X', R', ?_⟩, h3⟩
    rw [e]
    have e3 : psS ⟨{ s.m with row := [s.hand] }, s.spn, (s.sp, s.m.row) :: s.ini, s.spn + 1, s.lk⟩ = { psS s with tk := (psS s).tk ++ [((psS s).spn, [s.hand])], spn := (psS s).spn + 1 } := by
      unfold psS
      simp
    rw [e3]
    exact h2
  · obtain ⟨t, ini, hi⟩ : ∃ t ini, s.ini = t :: ini := by
      cases hi : s.ini with
      | nil => have := ho.ni; rw [hi] at this; simp at this; exact absurd ⟨rfl, this.symm⟩ hd
      | cons t ini => exact ⟨t, ini, rfl⟩
    have e : s.deed listK st n 1 loc = s.back listK st (s.m.all listK n) := by simp [HS.deed]
    have hp := ho.parent hi
    have hps : psS s = psOf (psS s) (ini.reverse ++ [(t.1, t.2)]) s.sp s.m := by
      unfold psS psOf
      simp [hi]
    rw [hps] at h
    have hil2 : ini.reverse.length ≤ 4000 ∨ True := .inr trivial
    rw [hi] at hil
    simp at hil
    refine (do_return base pb n st X K0 R (psS s) w ini.reverse t.1 t.2 s.sp s.m (preL s.ini) P loc h ho.inv.line (by have := ho.np; omega) r2 (by omega) (by simp; omega) (by omega) (by omega) (by omega) (by omega) (by omega) (s.m.all listK n) rfl hu hf).mono ?_
    rintro e' w' ⟨h1, ⟨X', R', h2⟩, h3⟩
    refine ⟨h1, ⟨X', R', ?_⟩, h3⟩
    rw [e]
    have e3 : psS (s.back listK st (s.m.all listK n)) = retPS (psS s) ini.reverse t.1 t.2 s.sp st (s.m.all listK n) := by
      unfold HS.back retPS
      rw [hi]
      simp only
      by_cases hs : st.getD s.sp false = true
      · rw [if_pos hs, if_pos hs]; rfl
      · rw [if_neg hs, if_neg hs]; rfl
    rw [e3]
    exact h2
  · have e : s.deed listK st n 2 loc = { s with m := s.m.all listK n } := by simp [HS.deed]
    refine (do_sync base pb n st X K0 R (psS s) w s.ini.reverse s.sp s.m (preL s.ini) P loc h h.sizeLe ho.inv.line (by have := ho.np; omega) r2 (by omega) (by omega) (by omega) hu hf).mono ?_
    rintro e' w' ⟨h1, ⟨X', R', h2⟩, h3⟩
    refine ⟨h1, ⟨X', R', ?_⟩, h3⟩
    rw [e]
    exact h2
  · have e : s.deed listK st n 3 loc = { s with lk := s.lk ++ [s.m.vs.getD s.hand []] } := by simp [HS.deed, listK]
    have hnl := ho.nl
    refine (do_look base pb n st X K0 R (psS s) w s.ini.reverse s.sp s.m.row loc h rfl hne (by omega) (by omega) s.hand rfl (s.m.vs.getD s.hand []) rfl r3 (by omega) (by show s.lk.length ≤ _; omega)).mono ?_
    rintro e' w' ⟨h1, ⟨X', R', h2⟩, h3⟩
    refine ⟨h1, ⟨X', R', ?_⟩, h3⟩
    rw [e]
    exact h2
  · have e : s.deed listK st n 4 loc = { s with m := { s.m with vs := s.m.vs.set s.hand (s.m.vs.getD s.hand [] ++ [loc]) } } := by simp [HS.deed, listK]
    refine (do_write base pb n st X K0 R (psS s) w s.ini.reverse s.sp s.m.row loc h rfl hne (by omega) (by omega) h.sizeLe s.hand rfl (s.m.vs.getD s.hand []) rfl r3 (by omega) hu).mono ?_
    rintro e' w' ⟨h1, ⟨X', R', h2⟩, h3⟩
    refine ⟨h1, ⟨X', R', ?_⟩, h3⟩
    rw [e]
    exact h2
end Go.Proofs.Ytdiabpoafennlaa.Nm
/-! A reducer's play, in memory. -/
namespace Go.Proofs.Ytdiabpoafennlaa
set_option linter.unusedVariables false
set_option maxRecDepth 20000
set_option linter.unusedSimpArgs false
open Go.RowKit Go.HeapKit

def dp (x : Dd) : Int × Int := (x.k, x.loc)
theorem badK_ok {k : Int} {d : Nat} (h : ¬ badK k d = true) : (k = 0 ∨ k = 1 ∨ k = 2 ∨ k = 3 ∨ k = 4) ∧ ¬ (k = 1 ∧ d = 0) := by
  unfold badK at h
  simp at h
  refine ⟨by omega, fun e => ?_⟩
  have := h.2 e.1
  omega
theorem nextD_eq (k : Int) (d : Nat) : nextD k d = nxtK k d := rfl
theorem chkL_ok {l : List Dd} {k d : Nat} {x : Dd} (hx : l[k]? = some x) (h : chkL (l.drop k) k d = none) : ¬ badK x.k d = true ∧ chkL (l.drop (k + 1)) (k + 1) (nxtK x.k d) = none := by
  rw [chkL_step hx] at h
  by_cases hb : badK x.k d = true
  · rw [if_pos hb] at h; cases h
  · rw [if_neg hb] at h; exact ⟨hb, h⟩
theorem run_step {l : List Dd} {k : Nat} {x : Dd} (hx : l[k]? = some x) (st : List Bool) (s : HS (List Int)) : s.run listK st ((l.drop k).map dp) k = (s.deed listK st k x.k x.loc).run listK st ((l.drop (k + 1)).map dp) (k + 1) := by
  obtain ⟨h1, h2⟩ := List.getElem?_eq_some_iff.1 hx
  rw [List.drop_eq_getElem_cons h1, h2]
  rfl
theorem PM.start {w : World} {base pb : Nat} {st : List Bool} {pk : List Int} {sa pa : Option Addr} {sc pc : Nat} (hb : w.heap[pb]? = some (.cells #[.func (.func 37) #[] #[], .func (.func 38) #[] #[], .func (.func 39) #[] #[], .func (.func 40) #[] #[],
    .slice sa st.length sc, .slice pa pk.length pc, .slice none 0 0, .slice none 0 0, .int .i64 0, .slice none 0 0, .slice none 0 0] 69 (0, 0))) (hl : base ≤ pb) (hA : Args w base sa pa pc st pk) :
    PM w base pb st ⟨sa, sc, pa, pc, none, 0, none, 0, none, 0, none, 0⟩ (fun _ => .slice none 0 0) (fun _ => .slice none 0 0) (fun _ => .slice none 0 0) ⟨[], [], pk, 0, [], []⟩ := by
  refine ⟨hb, hl, ⟨fun k => ?_, fun i j b _ e => by simp [Value.ownBlock] at e, row_nil _ _ _ _, row_nil _ _ _ _, fun b n c m d e => by simp [Value.ownBlock] at e⟩, ⟨row_nil _ _ _ _, fun i hi => by simp at hi, fun i j b hi => by simp at hi⟩, hA, row_nil _ _ _ _⟩
  have : Lf [] [] k = [] := by cases k <;> rfl
  rw [this]
  exact row_nil _ _ _ _
/-- The root begins. -/
theorem PM.firstTask {w w1 : World} {base pb : Nat} {st : List Bool} {X : PX} {K : Ky → Value} {H R : Nat → Value} {s : PS} (h : PM w base pb st X K H R s) (hs : s.tk = []) {x : Nat × List Nat} {V : Value} {g : Nat} (hk : Keeps None w w1) (hV : w1.ownsRow base 3 1 V x.2.length (nv x.2)) (hT : w1.ownsRow base 84 2 (.slice (some ⟨g, 0, none⟩) 1 1) 1 [.int .i64 x.1, V]) :
    PM (w1.setCell ⟨pb, 7, none⟩ (.slice (some ⟨g, 0, none⟩) 1 1)) base pb st { X with ta := some ⟨g, 0, none⟩, tc := 1 } K (fun _ => V) (fun _ => V) { s with tk := [x] } := by
  have h1 := h.more hk
  refine PM.put (c := X.cells st s) h1.blk h.low (by simp [PX.cells]) h1.vw ⟨?_, ?_, ?_⟩ h1.ar h1.mg
  · show w1.ownsRow base 84 2 (.slice (some ⟨g, 0, none⟩) 1 1) 1 ((List.range (1 * 2)).map (tkF [x] (fun _ => V)))
    have e : (List.range (1 * 2)).map (tkF [x] (fun _ => V)) = [.int .i64 x.1, V] := by simp [List.range_succ, tkF]
    rw [e]
    exact hT
  · intro i hi
    have hi0 : i = 0 := by have : i < [x].length := hi; simpa using this
    subst hi0
    exact hV
  · intro i j b hi hj hij
    have h1 : i < [x].length := hi
    have h2 : j < [x].length := hj
    simp at h1 h2
    omega
theorem own_task {w : World} {base : Nat} (a : Nat) (V : Value) (hb : base ≤ w.heap.size) : (w.alloc (.cells #[.int .i64 a, V] 84)).ownsRow base 84 2 (.slice (some ⟨w.heap.size, 0, none⟩) 1 1) 1 [.int .i64 a, V] :=
  ⟨rfl, .inr ⟨w.heap.size, 1, #[.int .i64 a, V], rfl, hb, heap_alloc_new w _, Nat.le_refl _, by unfold maxLen; omega, rfl, rfl⟩⟩
/-- What is left behind the last deed. -/
structure Left (N : Nat) (P : List Int) (ini : List (Nat × List Nat)) (m : MS (List Int)) : Prop where
  lk : Lk m.row ini
  line : LineOk (preL ini) P m
  ct : CtOk yes (preL ini) N m
  nv : m.vs.length ≤ 5000
theorem Left.next {N : Nat} {P : List Int} {t : Nat × List Nat} {ini : List (Nat × List Nat)} {m : MS (List Int)} (h : Left N P (t :: ini) m) : Left N P ini { m.all listK N with row := t.2 } := by
  have h0 : 0 < m.row.length := List.length_pos_iff.2 h.lk.ne
  obtain ⟨v, hv, hh⟩ := m.all_head listK N h0
  have hl := h.lk
  exact ⟨hl.2.2, line_back (row := []) (h.line.all N h0) hv (hl.2.1.trans hh), ct_back (h.ct.all trivial h0) hv (hl.2.1.trans hh), by show (m.all listK N).vs.length ≤ 5000; rw [vs_all]; exact h.nv⟩
theorem Left.rows {N : Nat} {P : List Int} {ini : List (Nat × List Nat)} {m : MS (List Int)} (h : Left N P ini m) : m.mg.length + m.row.length ≤ 5000 ∧ 0 < m.row.length := by
  have h1 := h.ct.mg.cnt
  rw [List.length_append] at h1
  have := h.nv
  exact ⟨by omega, List.length_pos_iff.2 h.lk.ne⟩
set_option maxHeartbeats 6400000 in
theorem play_ok (a : Option Addr) (n c : Nat) (l : List Dd) (sa : Option Addr) (sc : Nat) (st : List Bool) (pa : Option Addr) (pc : Nat) (pk : List Int) (w : World) (hS : Seen w a n l) (hT : SeenV w sa st.length (bv' st)) (hP : SeenV w pa pk.length (iv pk)) (hpc : pk.length ≤ pc) (hn : n ≤ 4096) (hst : st.length ≤ 4096) (hc : chkL l 0 0 = none) :
    Calls Try.prog 26 #[.agg #[.func (.func 37) #[] #[], .func (.func 38) #[] #[], .func (.func 39) #[] #[], .func (.func 40) #[] #[]], .slice a n c, .slice sa st.length sc, .slice pa pk.length pc] w fun e w' =>
      ∃ pb X K R, e = .returned (.pointer (some ⟨pb, 0, none⟩)) ∧ PM w' w.heap.size pb st X K R R ⟨(endMS listK st (l.map dp) pk).vs, [], (endMS listK st (l.map dp) pk).pk, (endHS listK st (l.map dp) pk).spn, (endMS listK st (l.map dp) pk).mg, (endHS listK st (l.map dp) pk).lk⟩ ∧ Keeps None w w' := by
  have HSS : Hid (Seen w a n l ∧ SeenV w sa st.length (bv' st) ∧ SeenV w pa pk.length (iv pk) ∧ pk.length ≤ pc ∧ n = l.length ∧ chkL l 0 0 = none) := ⟨hS, hT, hP, hpc, hS.len, hc⟩
  clear hS hT hP hpc hc
  go_enter Try.func26, Try.ntmps26
  go_upto_region 2 with fail
  obtain ⟨B, hB⟩ : ∃ B, B = w.heap.size := ⟨_, rfl⟩
  have hk0 := (Keeps.alloc None w (.cells #[.func (.func 37) #[] #[], .func (.func 38) #[] #[], .func (.func 39) #[] #[], .func (.func 40) #[] #[]] 65)).andAlloc (.cells #[.func (.func 37) #[] #[], .func (.func 38) #[] #[], .func (.func 39) #[] #[], .func (.func 40) #[] #[], .slice sa st.length sc, .slice pa pk.length pc, .slice none 0 0, .slice none 0 0, .int .i64 0, .slice none 0 0, .slice none 0 0] 69)
  have hb0 := blk_new (w.alloc (.cells #[.func (.func 37) #[] #[], .func (.func 38) #[] #[], .func (.func 39) #[] #[], .func (.func 40) #[] #[]] 65)) (.cells #[.func (.func 37) #[] #[], .func (.func 38) #[] #[], .func (.func 39) #[] #[], .func (.func 40) #[] #[], .slice sa st.length sc, .slice pa pk.length pc, .slice none 0 0, .slice none 0 0, .int .i64 0, .slice none 0 0, .slice none 0 0] 69) (B + 1) (by simp; omega)
  rw [← hB]
  have HB : Hid (B = w.heap.size) := hB
  generalize (w.alloc (.cells #[.func (.func 37) #[] #[], .func (.func 38) #[] #[], .func (.func 39) #[] #[], .func (.func 40) #[] #[]] 65)).alloc (.cells #[.func (.func 37) #[] #[], .func (.func 38) #[] #[], .func (.func 39) #[] #[], .func (.func 40) #[] #[], .slice sa st.length sc, .slice pa pk.length pc, .slice none 0 0, .slice none 0 0, .int .i64 0, .slice none 0 0, .slice none 0 0] 69) = wb at *
  have HP0 : Hid (PM wb B (B + 1) st ⟨sa, sc, pa, pc, none, 0, none, 0, none, 0, none, 0⟩ (fun _ => .slice none 0 0) (fun _ => .slice none 0 0) (fun _ => .slice none 0 0) ⟨[], [], pk, 0, [], []⟩ ∧ Keeps (fun i => B ≤ i) w wb) := by
    refine ⟨PM.start hb0 (by omega) ⟨HSS.out.2.1.more hk0, HSS.out.2.2.1.more hk0, fun b e h0 => ?_, fun b e h0 => ?_, HSS.out.2.2.2.1⟩, hk0.mono (fun _ f _ => f.elim)⟩
    · obtain ⟨b', off, e', hlt, _⟩ := HSS.out.2.1.ex h0
      rw [e'] at e
      simp [blockOf] at e
      omega
    · obtain ⟨b', off, e', hlt, _⟩ := HSS.out.2.2.1.ex h0
      rw [e'] at e
      simp [blockOf] at e
      omega
  clear hb0 hk0 hB
  go_wp2_with fail
  refine (newView_ok B (B + 1) st _ _ _ _ _ wb HP0.out.1 HP0.out.1.sizeLe (by simp)).mono ?_
  rintro e w2 ⟨rfl, ⟨X2, K2, hM2, hta2⟩, hk2⟩
  have hd2 := (Keeps.alloc None w2 (.cells #[.int .i64 (0 : Nat)] 3)).andAlloc (.cells #[.int .i64 (0 : Nat), .slice (some ⟨w2.heap.size, 0, none⟩) 1 1] 84)
  have ho1 := (own_one (w := w2) (base := B) 0 hM2.sizeLe).alloc (.cells #[.int .i64 (0 : Nat), .slice (some ⟨w2.heap.size, 0, none⟩) 1 1] 84)
  have ho2 := own_task (w := w2.alloc (.cells #[.int .i64 (0 : Nat)] 3)) (base := B) 0 (.slice (some ⟨w2.heap.size, 0, none⟩) 1 1) (by have := hM2.sizeLe; simp; omega)
  have hM3 := hM2.firstTask rfl (x := (0, [0])) hd2 ho1 ho2
  have f7 := (hM2.more hd2).free 7
  have z7 := (hM2.more hd2).c0.2.2.2.2.2.2.2.1
  rw [show (w2.alloc (.cells #[.int .i64 (0 : Nat)] 3)).heap.size = w2.heap.size + 1 by simp] at hM3
  simp only [Int.ofNat_zero, List.length_nil] at hM3 f7 z7 ⊢
  have hkw := (HP0.out.2.trans hk2 (fun i e _ => e)).trans hd2 (fun _ f _ => f.elim)
  simp only [Int.ofNat_zero] at hkw
  have HM3 : Hid _ := hM3
  have HKW : Hid _ := hkw
  clear hM3 hkw ho1 ho2 hd2 hk2 hM2 hta2
  go_wp2_with fail
  have HM4 : Hid ((∃ X R, PM (((w2.alloc (.cells #[.int .i64 0] 3)).alloc (.cells #[.int .i64 0, .slice (some ⟨w2.heap.size, 0, none⟩) 1 1] 84)).setCell ⟨B + 1, 7, none⟩ (.slice (some ⟨w2.heap.size + 1, 0, none⟩) 1 1)) B (B + 1) st X K2 R R (psS (HS.start listK pk))) ∧ Keeps (fun i => B ≤ i) w (((w2.alloc (.cells #[.int .i64 0] 3)).alloc (.cells #[.int .i64 0, .slice (some ⟨w2.heap.size, 0, none⟩) 1 1] 84)).setCell ⟨B + 1, 7, none⟩ (.slice (some ⟨w2.heap.size + 1, 0, none⟩) 1 1))) := ⟨⟨_, _, HM3.out⟩, HKW.out.andSet (x := ⟨B + 1, 7, none⟩) (.inl (by show B ≤ B + 1; omega)) _⟩
  generalize ((w2.alloc (.cells #[.int .i64 0] 3)).alloc (.cells #[.int .i64 0, .slice (some ⟨w2.heap.size, 0, none⟩) 1 1] 84)).setCell ⟨B + 1, 7, none⟩ (.slice (some ⟨w2.heap.size + 1, 0, none⟩) 1 1) = w4 at *
  clear f7 z7 HM3 HKW HP0
  go_loopw [10, 11, 27] (fun _ _ i wr => ∃ (k d : Nat) (s : HS (List Int)) (P : List Int) (X : PX) (K : Ky → Value) (R : Nat → Value), k ≤ n ∧ i = .int .i64 k ∧ PM wr B (B + 1) st X K R R (psS s) ∧ Okd k d P s ∧ s.run listK st ((l.drop k).map dp) k = endHS listK st (l.map dp) pk ∧ chkL (l.drop k) k d = none ∧ P ++ putsL ((l.drop k).map dp) = putsL (l.map dp) ∧ Keeps (fun i => B ≤ i) w wr) (fun _ _ i _ => n - (intOf i).toNat)
  case atStart =>
    obtain ⟨⟨X, R, h1⟩, h2⟩ := HM4.out
    exact ⟨0, 0, HS.start listK pk, [], X, K2, R, Nat.zero_le _, rfl, h1, okd_start pk, rfl, HSS.out.2.2.2.2.2, rfl, h2⟩
  case round =>
    clear HM4
    obtain ⟨k, d, s, P, X, K, R, hk, rfl, hM, hok, hrun, hchk, hput, hkp⟩ := hrel
    have hlen := HSS.out.2.2.2.2.1
    by_cases hkn : k < n
    · have hBw : w.heap.size ≤ B := by have := HB.out; omega
      obtain ⟨b, off, x, rfl, hb, hx, u0, u1⟩ := (HSS.out.1.below (hkp.mono (fun i e _ => e)) hBw).elem hkn
      obtain ⟨hbad, hchk2⟩ := chkL_ok hx hchk
      obtain ⟨hkk, hkd⟩ := badK_ok hbad
      have hi2 : (k : Int) < (n : Int) := by omega
      have HM : Hid (PM wr B (B + 1) st X K R R (psS s) ∧ Okd k d P s ∧ Keeps (fun i => B ≤ i) w wr) := ⟨hM, hok, hkp⟩
      have HN : Hid ((s.deed listK st k x.k x.loc).run listK st ((l.drop (k + 1)).map dp) (k + 1) = endHS listK st (l.map dp) pk ∧ chkL (l.drop (k + 1)) (k + 1) (nxtK x.k d) = none ∧ (P ++ if x.k = 4 then [x.loc] else []) ++ putsL ((l.drop (k + 1)).map dp) = putsL (l.map dp) ∧ (x.k = 0 ∨ x.k = 1 ∨ x.k = 2 ∨ x.k = 3 ∨ x.k = 4) ∧ ¬ (x.k = 1 ∧ d = 0)) := by
        refine ⟨by rw [← run_step hx]; exact hrun, hchk2, ?_, hkk, hkd⟩
        rw [← hput]
        obtain ⟨h1, h2⟩ := List.getElem?_eq_some_iff.1 hx
        conv => rhs; rw [List.drop_eq_getElem_cons h1, h2]
        rw [List.map_cons, putsL_cons, List.append_assoc]
        rfl
      clear hM hok hrun hchk hput hkp hlen hbad hchk2 hkk hkd hx hBw
      obtain ⟨xk, xl⟩ := x
      go_wp2_with fail
      have hkA := Keeps.alloc None wr (.cells #[.int .i64 xk, .int .i64 xl] 45)
      refine (do_any B (B + 1) k d st X K R s P _ xk xl (HM.out.1.more hkA) HM.out.2.1 (by omega) hst HN.out.2.2.2.1 HN.out.2.2.2.2).mono ?_
      rintro e w5 ⟨rfl, ⟨X5, K5, R5, hM5⟩, hk5⟩
      have HE : Hid (PM w5 B (B + 1) st X5 K5 R5 R5 (psS (s.deed listK st k xk xl)) ∧ Okd (k + 1) (nxtK xk d) (P ++ if xk = 4 then [xl] else []) (s.deed listK st k xk xl) ∧ Keeps (fun i => B ≤ i) w w5) := ⟨hM5, HM.out.2.1.deed st xk xl HN.out.2.2.2.1 HN.out.2.2.2.2, (HM.out.2.2.andAlloc _).trans hk5 (fun i e _ => e)⟩
      clear hM5 hk5 hkA
      go_wp2_with fail
      exact ⟨⟨k + 1, nxtK xk d, _, _, X5, K5, R5, by omega, by go_num, HE.out.1, HE.out.2.1, HN.out.1, HN.out.2.1, HN.out.2.2.1, HE.out.2.2⟩, by simp [intOf]; omega⟩
    · have hkn2 : k = n := by omega
      subst hkn2
      have hi2 : ¬ (k : Int) < (k : Int) := by omega
      rw [List.drop_eq_nil_of_le (by omega)] at hrun hput
      have hs : s = endHS listK st (l.map dp) pk := hrun
      have hPP : P = putsL (l.map dp) := by rw [← hput]; simp [putsL]
      have HM : Hid (PM wr B (B + 1) st X K R R (psS s) ∧ Okd k d P s ∧ Keeps (fun i => B ≤ i) w wr ∧ s = endHS listK st (l.map dp) pk ∧ k = l.length ∧ P.length ≤ 4096) := ⟨hM, hok, hkp, hs, hlen, by have := hok.np; omega⟩
      obtain ⟨tb, hta, -, -, -, -, -, -⟩ := hM.cur (tk := s.ini.reverse) (x := (s.sp, s.m.row)) rfl
      have q7 : wr.cell? ⟨B + 1, 7, none⟩ = some (.slice X.ta (s.ini.reverse ++ [(s.sp, s.m.row)]).length X.tc) := hM.c0.2.2.2.2.2.2.2.1
      have hT : (s.ini.reverse ++ [(s.sp, s.m.row)]).length = s.ini.length + 1 := by simp
      rw [hT] at q7
      obtain ⟨T, hTT⟩ : ∃ T, T = s.ini.length + 1 := ⟨_, rfl⟩
      rw [← hTT] at q7
      have HTT : Hid (T = s.ini.length + 1 ∧ T ≤ 5000) := ⟨hTT, by have := hok.ni; have := hok.nd; omega⟩
      clear hM hok hrun hchk hput hkp hlen hs hPP hta hT hTT
      go_wp2_with fail
      clear q7
      go_loopw [42] (fun i wq => ∃ (j : Nat) (X : PX) (K : Ky → Value) (R : Nat → Value) (tk : List (Nat × List Nat)) (m : MS (List Int)), i = .int .i64 j ∧ j + tk.length = T ∧ PM wq B (B + 1) st X K R R ⟨m.vs, tk, m.pk, s.spn, m.mg, s.lk⟩ ∧ Keeps (fun i => B ≤ i) w wq ∧ ((∃ sp ini, tk = ini.reverse ++ [(sp, m.row)] ∧ Left k P ini m ∧ MS.ends listK k ini m = endMS listK st (l.map dp) pk) ∨ (tk = [] ∧ m = endMS listK st (l.map dp) pk))) (fun i _ => T - (intOf i).toNat)
      case atStart =>
        refine ⟨0, X, K, R, s.ini.reverse ++ [(s.sp, s.m.row)], s.m, rfl, by simp [HTT.out.1], HM.out.1, HM.out.2.2.1, .inl ⟨s.sp, s.ini, rfl, ⟨HM.out.2.1.inv.lk, HM.out.2.1.inv.line, HM.out.2.1.ct.ct, by have := HM.out.2.1.nv; omega⟩, ?_⟩⟩
        unfold endMS
        rw [← HM.out.2.2.2.1, List.length_map, ← HM.out.2.2.2.2.1]
      case round =>
        obtain ⟨j, X6, K6, R6, tk, m, rfl, hjT, hM6, hk6, hcase⟩ := hrel
        have HEnd : Hid ((endHS listK st (l.map dp) pk).spn = s.spn ∧ (endHS listK st (l.map dp) pk).lk = s.lk) := by
          have h := HM.out.2.2.2.1
          exact ⟨by rw [← h], by rw [← h]⟩
        rcases hcase with ⟨sp, ini, rfl, hL, hends⟩ | ⟨rfl, rfl⟩
        · have hj : j < T := by rw [← hjT]; simp
          have hi5 : (j : Int) < (T : Int) := by omega
          obtain ⟨r1, r2⟩ := hL.rows
          have H6 : Hid (PM wr B (B + 1) st X6 K6 R6 R6 (psOf (psS s) ini.reverse sp m) ∧ Keeps (fun i => B ≤ i) w wr ∧ Left k P ini m ∧ MS.ends listK k ini m = endMS listK st (l.map dp) pk ∧ j + (ini.length + 1) = T) := ⟨hM6, hk6, hL, hends, by rw [← hjT]; simp⟩
          have hin : ini.length ≤ 5000 := by have := H6.out.2.2.2.2; have := HTT.out.2; omega
          clear hM6 hk6 hL hends hjT
          go_wp2_with fail
          refine (merge_ok B (B + 1) k st X6 K6 R6 (psS s) wr ini.reverse sp m (preL ini) P H6.out.1 H6.out.1.sizeLe H6.out.2.2.1.line (by have := HM.out.2.2.2.2.2; omega) r2 (by omega) (by simp; omega) (by omega)).mono ?_
          rintro e w6 ⟨rfl, ⟨X7, K7, R7, hM7⟩, hk7⟩
          have H7 : Hid (PM w6 B (B + 1) st X7 K7 R7 R7 (psOf (psS s) ini.reverse sp (m.all listK k)) ∧ Keeps (fun i => B ≤ i) w w6) := ⟨hM7, H6.out.2.1.trans hk7 (fun i e _ => e)⟩
          clear hM7 hk7
          go_wp2_with fail
          refine (end_ok B (B + 1) st X7 K7 R7 R7 _ w6 ini.reverse (sp, (m.all listK k).row) H7.out.1 rfl (by simp; omega)).mono ?_
          rintro e w7 ⟨rfl, hM8, hk8⟩
          have HE : Hid (∃ (X : PX) (K : Ky → Value) (R : Nat → Value) (tk : List (Nat × List Nat)) (m : MS (List Int)), j + 1 + tk.length = T ∧ PM w7 B (B + 1) st X K R R ⟨m.vs, tk, m.pk, s.spn, m.mg, s.lk⟩ ∧ Keeps (fun i => B ≤ i) w w7 ∧ ((∃ sp ini, tk = ini.reverse ++ [(sp, m.row)] ∧ Left k P ini m ∧ MS.ends listK k ini m = endMS listK st (l.map dp) pk) ∨ (tk = [] ∧ m = endMS listK st (l.map dp) pk))) := by
            have hkk : Keeps (fun i => B ≤ i) w w7 := H7.out.2.trans hk8 (fun i e _ => by omega)
            have hj5 := H6.out.2.2.2.2
            cases ini with
            | nil => exact ⟨X7, K7, R7, [], m.all listK k, by simp at hj5 ⊢; omega, hM8, hkk, .inr ⟨rfl, H6.out.2.2.2.1⟩⟩
            | cons t ini =>
              refine ⟨X7, K7, R7, ini.reverse ++ [(t.1, t.2)], { m.all listK k with row := t.2 }, by simp at hj5 ⊢; omega, ?_, hkk, .inl ⟨t.1, ini, rfl, H6.out.2.2.1.next, H6.out.2.2.2.1⟩⟩
              have e5 : (t :: ini).reverse = ini.reverse ++ [(t.1, t.2)] := by rw [List.reverse_cons]
              rw [e5] at hM8
              exact hM8
          clear hM8 hk8
          have hT5 := HTT.out.2
          go_wp2_with fail
          obtain ⟨X9, K9, R9, tk9, m9, h9⟩ := HE.out
          exact ⟨⟨j + 1, X9, K9, R9, tk9, m9, by go_num, h9⟩, by simp [intOf]; omega⟩
        · have hj : j = T := by rw [← hjT]; simp
          subst hj
          have hi5 : ¬ (j : Int) < (j : Int) := by omega
          have HE : Hid (PM wr B (B + 1) st X6 K6 R6 R6 ⟨(endMS listK st (l.map dp) pk).vs, [], (endMS listK st (l.map dp) pk).pk, (endHS listK st (l.map dp) pk).spn, (endMS listK st (l.map dp) pk).mg, (endHS listK st (l.map dp) pk).lk⟩ ∧ Keeps None w wr) := by
            refine ⟨by rw [HEnd.out.1, HEnd.out.2]; exact hM6, hk6.mono (fun i e hi => by have h1 := HB.out; have h2 : B ≤ i := e; omega)⟩
          clear hM6 hk6 hjT
          go_wp2_with fail
          go_ret
          rw [← HB.out]
          exact ⟨B + 1, rfl, ⟨X6, K6, R6, HE.out.1⟩, HE.out.2⟩
end Go.Proofs.Ytdiabpoafennlaa
