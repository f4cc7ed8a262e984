import Derived.Test.YtolhojagbiaamaaRcCheck
/-! Which deeds are ahead of which, plainly: the row in which a task goes on first and its children come behind, the youngest first. -/
namespace Go.Proofs.Ytolhojagbiaamaa
set_option linter.unusedVariables false
set_option maxRecDepth 20000
set_option linter.unusedSimpArgs false

/-- A task that has not returned: its deeds with those that it has waited for (P); those that it has to wait for (O); the returns of children for which it has not waited, in order (Out). -/
structure Tk where
  P : List Nat
  O : List Nat
  Out : List Nat
def stepT (i : Nat) (k : Int) : List Tk → List Tk
  | [] => []
  | t :: r =>
    if k = 0 then ⟨[], [], []⟩ :: ⟨t.P ++ [i], t.O, t.Out⟩ :: r
    else if k = 1 then match r with
      | [] => []
      | u :: r' => ⟨u.P, (t.P ++ t.O ++ [i]) ++ u.O, u.Out ++ [i]⟩ :: r'
    else if k = 2 then ⟨t.P ++ t.O ++ [i], [], []⟩ :: r
    else ⟨t.P ++ [i], t.O, t.Out⟩ :: r
theorem st0 (i : Nat) (t : Tk) (r : List Tk) : stepT i 0 (t :: r) = ⟨[], [], []⟩ :: ⟨t.P ++ [i], t.O, t.Out⟩ :: r := by simp [stepT]
theorem st1 (i : Nat) (t u : Tk) (r : List Tk) : stepT i 1 (t :: u :: r) = ⟨u.P, (t.P ++ t.O ++ [i]) ++ u.O, u.Out ++ [i]⟩ :: r := by simp [stepT]
theorem st2 (i : Nat) (t : Tk) (r : List Tk) : stepT i 2 (t :: r) = ⟨t.P ++ t.O ++ [i], [], []⟩ :: r := by simp [stepT]
theorem st3 (i : Nat) (k : Int) (t : Tk) (r : List Tk) (h0 : ¬ k = 0) (h1 : ¬ k = 1) (h2 : ¬ k = 2) : stepT i k (t :: r) = ⟨t.P ++ [i], t.O, t.Out⟩ :: r := by simp [stepT, h0, h1, h2]
def Cof : List Tk → List Nat
  | [] => []
  | t :: r => Cof r ++ t.P
def Oof : List Tk → List Nat
  | [] => []
  | t :: r => t.O ++ Oof r
def Lof (st : List Tk) : List Nat := Cof st ++ Oof st
def stN (ds : List Dd) : Nat → List Tk
  | 0 => [⟨[], [], []⟩]
  | n + 1 => stepT n ((ds.getD n ⟨3, 0⟩).k) (stN ds n)
def outOf (k : Int) : List Tk → List Nat
  | [] => []
  | t :: _ => if k = 1 ∨ k = 2 then t.Out else []
theorem out_cons (k : Int) (t : Tk) (r : List Tk) : outOf k (t :: r) = if k = 1 ∨ k = 2 then t.Out else [] := rfl
def frmN (ds : List Dd) (n : Nat) : List Nat := (Cof (stN ds n)).getLast?.toList ++ outOf ((ds.getD n ⟨3, 0⟩).k) (stN ds n)
/-- m is ahead of i. -/
inductive Ah (ds : List Dd) (m : Nat) : Nat → Prop
  | one {i : Nat} : m ∈ frmN ds i → Ah ds m i
  | more {i k : Nat} : k ∈ frmN ds i → Ah ds m k → Ah ds m i
theorem ah_iff (ds : List Dd) (m i : Nat) : Ah ds m i ↔ ∃ k ∈ frmN ds i, m = k ∨ Ah ds m k := by
  constructor
  · intro h
    cases h with
    | one h => exact ⟨m, h, .inl rfl⟩
    | more h1 h2 => exact ⟨_, h1, .inr h2⟩
  · rintro ⟨k, hk, rfl | h⟩
    · exact .one hk
    · exact .more hk h

/-- A number put into a row. -/
theorem idx_put {X Y : List Nat} {i a b : Nat} (hX : i ∉ X) (hY : i ∉ Y) (ha : a ∈ X ++ Y) (hb : b ∈ X ++ Y) :
    ((X ++ i :: Y).idxOf a < (X ++ i :: Y).idxOf b ↔ (X ++ Y).idxOf a < (X ++ Y).idxOf b) := by
  have hai : i ≠ a := fun e => by subst e; simp at ha; exact ha.elim hX hY
  have hbi : i ≠ b := fun e => by subst e; simp at hb; exact hb.elim hX hY
  have e1 : ∀ c, i ≠ c → (X ++ i :: Y).idxOf c = if c ∈ X then X.idxOf c else X.length + 1 + Y.idxOf c := by
    intro c hc
    rw [List.idxOf_append]
    split
    · rfl
    · rw [List.idxOf_cons, show (i == c) = false by simpa using hc]; simp only [cond_false]; omega
  have e2 : ∀ c, (X ++ Y).idxOf c = if c ∈ X then X.idxOf c else X.length + Y.idxOf c := by
    intro c
    rw [List.idxOf_append]
    split
    · rfl
    · omega
  rw [e1 a hai, e1 b hbi, e2 a, e2 b]
  have l1 : ∀ c, c ∈ X → X.idxOf c < X.length := fun c h => List.idxOf_lt_length_iff.2 h
  by_cases h1 : a ∈ X <;> by_cases h2 : b ∈ X <;> simp only [h1, h2, if_true, if_false]
  · have := l1 a h1; constructor <;> intro <;> omega
  · have := l1 b h2; constructor <;> intro <;> omega
  · constructor <;> intro <;> omega
theorem idx_new {X Y : List Nat} {i a : Nat} (hX : i ∉ X) (hai : a ≠ i) : ((X ++ i :: Y).idxOf a < (X ++ i :: Y).idxOf i ↔ a ∈ X) := by
  rw [List.idxOf_append, List.idxOf_append, if_neg hX]
  simp only [List.idxOf_cons_self, Nat.zero_add]
  by_cases h : a ∈ X
  · simp only [h, if_true, iff_true]
    exact List.idxOf_lt_length_iff.2 h
  · simp only [h, if_false, iff_false]
    omega

/-- What holds of a task and those above it. -/
def GoodT (A : Nat → Nat → Prop) : List Tk → Prop
  | [] => True
  | t :: r => (∀ p, (Cof (t :: r)).getLast? = some p → ∀ m, (m = p ∨ A m p) ↔ m ∈ Cof (t :: r)) ∧
      (∀ m, (m ∈ Cof (t :: r) ∨ ∃ q ∈ t.Out, m = q ∨ A m q) ↔ (m ∈ Cof (t :: r) ∨ m ∈ t.O)) ∧ GoodT A r
/-- The state behind the first n deeds. -/
structure Inv (ds : List Dd) (n : Nat) : Prop where
  nd : (Lof (stN ds n)).Nodup
  all : ∀ a, a ∈ Lof (stN ds n) ↔ a < n
  ah : ∀ i, i < n → ∀ m, Ah ds m i ↔ (m < i ∧ (Lof (stN ds n)).idxOf m < (Lof (stN ds n)).idxOf i)
  good : GoodT (Ah ds) (stN ds n)
/-- Who is ahead of the next deed. -/
theorem next_ah {ds : List Dd} {n : Nat} {t : Tk} {r : List Tk} (hst : stN ds n = t :: r) (hg : GoodT (Ah ds) (t :: r)) (m : Nat) :
    Ah ds m n ↔ (m ∈ Cof (t :: r) ∨ (((ds.getD n ⟨3, 0⟩).k = 1 ∨ (ds.getD n ⟨3, 0⟩).k = 2) ∧ m ∈ t.O)) := by
  obtain ⟨h1, h2, _⟩ := hg
  have hC : (∃ k ∈ (Cof (t :: r)).getLast?.toList, m = k ∨ Ah ds m k) ↔ m ∈ Cof (t :: r) := by
    cases hl : (Cof (t :: r)).getLast? with
    | none =>
      have : Cof (t :: r) = [] := List.getLast?_eq_none_iff.1 hl
      simp [this]
    | some p =>
      rw [← h1 p hl m]
      simp
  rw [ah_iff]
  unfold frmN
  rw [hst]
  constructor
  · rintro ⟨k, hk, hm⟩
    rcases List.mem_append.1 hk with hk | hk
    · exact .inl (hC.1 ⟨k, hk, hm⟩)
    · rw [out_cons] at hk
      split at hk
      · rename_i hw
        rcases (h2 m).1 (.inr ⟨k, hk, hm⟩) with h | h
        · exact .inl h
        · exact .inr ⟨hw, h⟩
      · cases hk
  · intro h
    have hin : m ∈ Cof (t :: r) → ∃ k ∈ (Cof (t :: r)).getLast?.toList ++ outOf ((ds.getD n ⟨3, 0⟩).k) (t :: r), m = k ∨ Ah ds m k := by
      intro h
      obtain ⟨k, hk, hm⟩ := hC.2 h
      exact ⟨k, List.mem_append.2 (.inl hk), hm⟩
    rcases h with h | ⟨hw, h⟩
    · exact hin h
    · rcases (h2 m).2 (.inr h) with h | ⟨q, hq, hm⟩
      · exact hin h
      · exact ⟨q, List.mem_append.2 (.inr (by rw [out_cons, if_pos hw]; exact hq)), hm⟩
/-- The row behind a deed: it is put in behind what is ahead of it. -/
theorem row_put {ds : List Dd} {n : Nat} {X Y : List Nat} (hI : Inv ds n) (hL : Lof (stN ds n) = X ++ Y) (hL' : Lof (stN ds (n + 1)) = X ++ n :: Y) (hA : ∀ m, Ah ds m n ↔ m ∈ X) :
    (Lof (stN ds (n + 1))).Nodup ∧ (∀ a, a ∈ Lof (stN ds (n + 1)) ↔ a < n + 1) ∧ ∀ i, i < n + 1 → ∀ m, Ah ds m i ↔ (m < i ∧ (Lof (stN ds (n + 1))).idxOf m < (Lof (stN ds (n + 1))).idxOf i) := by
  have hnL : n ∉ X ++ Y := fun h => by rw [← hL] at h; have := (hI.all n).1 h; omega
  have hnX : n ∉ X := fun h => hnL (List.mem_append.2 (.inl h))
  have hnY : n ∉ Y := fun h => hnL (List.mem_append.2 (.inr h))
  have hnd := hI.nd
  have hall := hI.all
  have hah := hI.ah
  rw [hL] at hnd hall hah
  rw [hL']
  have hmem : ∀ a, a ∈ X ++ n :: Y ↔ a < n + 1 := by
    intro a
    have h1 := hall a
    simp only [List.mem_append, List.mem_cons] at h1 ⊢
    constructor
    · rintro (h | rfl | h)
      · have := h1.1 (.inl h); omega
      · omega
      · have := h1.1 (.inr h); omega
    · intro h
      by_cases e : a = n
      · exact .inr (.inl e)
      · rcases h1.2 (by omega) with h | h
        · exact .inl h
        · exact .inr (.inr h)
  refine ⟨?_, hmem, ?_⟩
  · have hp : (X ++ n :: Y).Perm (n :: (X ++ Y)) := List.perm_middle
    exact hp.nodup_iff.2 (List.nodup_cons.2 ⟨hnL, hnd⟩)
  · intro i hi m
    by_cases hin : i = n
    · subst hin
      rw [hA m]
      constructor
      · intro h
        have hmi : m < i := (hall m).1 (List.mem_append.2 (.inl h))
        exact ⟨hmi, (idx_new hnX (by omega)).2 h⟩
      · rintro ⟨h1, h2⟩
        exact (idx_new hnX (by omega)).1 h2
    · have hi' : i < n := by omega
      rw [hah i hi' m]
      constructor
      · rintro ⟨h1, h2⟩
        exact ⟨h1, (idx_put hnX hnY ((hall m).2 (by omega)) ((hall i).2 hi')).2 h2⟩
      · rintro ⟨h1, h2⟩
        exact ⟨h1, (idx_put hnX hnY ((hall m).2 (by omega)) ((hall i).2 hi')).1 h2⟩
theorem last_app (l : List Nat) (i : Nat) : (l ++ [i]).getLast? = some i := by simp
theorem cof_cons (t : Tk) (r : List Tk) : Cof (t :: r) = Cof r ++ t.P := rfl
theorem oof_cons (t : Tk) (r : List Tk) : Oof (t :: r) = t.O ++ Oof r := rfl
theorem inv_zero (ds : List Dd) : Inv ds 0 := by
  refine ⟨by simp [Lof, stN, Cof, Oof], by simp [Lof, stN, Cof, Oof], fun i hi => by omega, ?_⟩
  simp [stN, GoodT, Cof]
theorem inv_step {ds : List Dd} {n : Nat} (hI : Inv ds n) (hst : stN ds n ≠ []) (hk : (ds.getD n ⟨3, 0⟩).k = 1 → 2 ≤ (stN ds n).length) : Inv ds (n + 1) := by
  cases hs : stN ds n with
  | nil => exact (hst hs).elim
  | cons t r =>
    have hg := hI.good
    rw [hs] at hg
    have hA := next_ah hs hg
    have hL : Lof (stN ds n) = Cof r ++ t.P ++ (t.O ++ Oof r) := by rw [hs]; rfl
    have hs' : stN ds (n + 1) = stepT n ((ds.getD n ⟨3, 0⟩).k) (t :: r) := by rw [← hs]; rfl
    by_cases k0 : (ds.getD n ⟨3, 0⟩).k = 0
    · have e : stN ds (n + 1) = ⟨[], [], []⟩ :: ⟨t.P ++ [n], t.O, t.Out⟩ :: r := by rw [hs', k0, st0]
      have hA' : ∀ m, Ah ds m n ↔ m ∈ Cof r ++ t.P := fun m => by rw [hA m, cof_cons]; constructor
                                                                  · rintro (h | ⟨h, _⟩)
                                                                    · exact h
                                                                    · omega
                                                                  · exact .inl
      obtain ⟨p1, p2, p3⟩ := row_put hI hL (by rw [e]; simp [Lof, Cof, Oof]) hA'
      refine ⟨p1, p2, p3, ?_⟩
      rw [e]
      have hC : Cof (⟨t.P ++ [n], t.O, t.Out⟩ :: r) = Cof r ++ t.P ++ [n] := by simp [Cof]
      have hC2 : Cof (⟨[], [], []⟩ :: ⟨t.P ++ [n], t.O, t.Out⟩ :: r) = Cof r ++ t.P ++ [n] := by simp [Cof]
      have g1 : ∀ p, (Cof r ++ t.P ++ [n]).getLast? = some p → ∀ m, (m = p ∨ Ah ds m p) ↔ m ∈ Cof r ++ t.P ++ [n] := by
        intro p hp m
        rw [last_app] at hp
        injection hp with hp
        subst hp
        rw [hA' m, List.mem_append (t := [_])]
        simp [or_comm]
      refine ⟨by rw [hC2]; exact g1, by rw [hC2]; simp, by rw [hC]; exact g1, ?_, hg.2.2⟩
      rw [hC]
      intro m
      have := hg.2.1 m
      rw [cof_cons] at this
      simp only [List.mem_append, List.mem_singleton] at this ⊢
      constructor
      · rintro ((h | h) | h)
        · exact .inl (.inl h)
        · exact .inl (.inr h)
        · rcases this.1 (.inr h) with h | h
          · exact .inl (.inl h)
          · exact .inr h
      · rintro (h | h)
        · exact .inl h
        · rcases this.2 (.inr h) with h | h
          · exact .inl (.inl h)
          · exact .inr h
    · by_cases k1 : (ds.getD n ⟨3, 0⟩).k = 1
      · have h2 := hk k1
        rw [hs] at h2
        obtain ⟨u, r', hr⟩ : ∃ u r', r = u :: r' := by
          cases r with
          | nil => simp at h2
          | cons u r' => exact ⟨u, r', rfl⟩
        subst hr
        have e : stN ds (n + 1) = ⟨u.P, (t.P ++ t.O ++ [n]) ++ u.O, u.Out ++ [n]⟩ :: r' := by rw [hs', k1, st1]
        have hA' : ∀ m, Ah ds m n ↔ m ∈ Cof (u :: r') ++ t.P ++ t.O := fun m => by
          rw [hA m, List.mem_append (t := t.O), cof_cons t]
          constructor
          · rintro (h | ⟨_, h⟩)
            · exact .inl h
            · exact .inr h
          · rintro (h | h)
            · exact .inl h
            · exact .inr ⟨.inl k1, h⟩
        obtain ⟨p1, p2, p3⟩ := row_put (X := Cof (u :: r') ++ t.P ++ t.O) (Y := Oof (u :: r')) hI (by rw [hL]; simp) (by rw [e]; simp [Lof, Cof, Oof]) hA'
        refine ⟨p1, p2, p3, ?_⟩
        rw [e]
        have hC : Cof (⟨u.P, (t.P ++ t.O ++ [n]) ++ u.O, u.Out ++ [n]⟩ :: r') = Cof (u :: r') := rfl
        obtain ⟨gu1, gu2, gu3⟩ := hg.2.2
        refine ⟨by rw [hC]; exact gu1, ?_, gu3⟩
        rw [hC]
        intro m
        have h3 := gu2 m
        have h4 := hA' m
        simp only [List.mem_append, List.mem_singleton] at h3 h4 ⊢
        constructor
        · rintro (h | ⟨q, hq | rfl, hm⟩)
          · exact .inl h
          · rcases h3.1 (.inr ⟨q, hq, hm⟩) with h | h
            · exact .inl h
            · exact .inr (.inr h)
          · rcases hm with rfl | hm
            · exact .inr (.inl (.inr rfl))
            · rcases h4.1 hm with (h | h) | h
              · exact .inl h
              · exact .inr (.inl (.inl (.inl h)))
              · exact .inr (.inl (.inl (.inr h)))
        · rintro (h | ((h | h) | rfl) | h)
          · exact .inl h
          · exact .inr ⟨n, .inr rfl, .inr (h4.2 (.inl (.inr h)))⟩
          · exact .inr ⟨n, .inr rfl, .inr (h4.2 (.inr h))⟩
          · exact .inr ⟨m, .inr rfl, .inl rfl⟩
          · rcases h3.2 (.inr h) with h | ⟨q, hq, hm⟩
            · exact .inl h
            · exact .inr ⟨q, .inl hq, hm⟩
      · by_cases k2 : (ds.getD n ⟨3, 0⟩).k = 2
        · have e : stN ds (n + 1) = ⟨t.P ++ t.O ++ [n], [], []⟩ :: r := by rw [hs', k2, st2]
          have hA' : ∀ m, Ah ds m n ↔ m ∈ Cof r ++ t.P ++ t.O := fun m => by
            rw [hA m, List.mem_append (t := t.O), cof_cons t]
            constructor
            · rintro (h | ⟨_, h⟩)
              · exact .inl h
              · exact .inr h
            · rintro (h | h)
              · exact .inl h
              · exact .inr ⟨.inr k2, h⟩
          obtain ⟨p1, p2, p3⟩ := row_put (X := Cof r ++ t.P ++ t.O) (Y := Oof r) hI (by rw [hL]; simp) (by rw [e]; simp [Lof, Cof, Oof]) hA'
          refine ⟨p1, p2, p3, ?_⟩
          rw [e]
          have hC : Cof (⟨t.P ++ t.O ++ [n], [], []⟩ :: r) = Cof r ++ t.P ++ t.O ++ [n] := by simp [Cof]
          refine ⟨?_, by rw [hC]; simp, hg.2.2⟩
          rw [hC]
          intro p hp m
          rw [last_app] at hp
          injection hp with hp
          subst hp
          rw [hA' m, List.mem_append (t := [_])]
          simp [or_comm]
        · have e : stN ds (n + 1) = ⟨t.P ++ [n], t.O, t.Out⟩ :: r := by rw [hs', st3 _ _ _ _ k0 k1 k2]
          have hA' : ∀ m, Ah ds m n ↔ m ∈ Cof r ++ t.P := fun m => by
            rw [hA m, cof_cons]
            constructor
            · rintro (h | ⟨h, _⟩)
              · exact h
              · omega
            · exact .inl
          obtain ⟨p1, p2, p3⟩ := row_put hI hL (by rw [e]; simp [Lof, Cof, Oof]) hA'
          refine ⟨p1, p2, p3, ?_⟩
          rw [e]
          have hC : Cof (⟨t.P ++ [n], t.O, t.Out⟩ :: r) = Cof r ++ t.P ++ [n] := by simp [Cof]
          refine ⟨?_, ?_, hg.2.2⟩
          · rw [hC]
            intro p hp m
            rw [last_app] at hp
            injection hp with hp
            subst hp
            rw [hA' m, List.mem_append (t := [_])]
            simp [or_comm]
          · rw [hC]
            intro m
            have := hg.2.1 m
            rw [cof_cons] at this
            simp only [List.mem_append, List.mem_singleton] at this ⊢
            constructor
            · rintro ((h | h) | h)
              · exact .inl (.inl h)
              · exact .inl (.inr h)
              · rcases this.1 (.inr h) with h | h
                · exact .inl (.inl h)
                · exact .inr h
            · rintro (h | h)
              · exact .inl h
              · rcases this.2 (.inr h) with h | h
                · exact .inl (.inl h)
                · exact .inr h
/-- Depths: a list without a fault never leaves the root. -/
theorem step_len (i : Nat) (k : Int) (st : List Tk) (d : Nat) (hl : st.length = d + 1) (hb : badK k d = false) : (stepT i k st).length = nxtK k d + 1 := by
  cases st with
  | nil => simp at hl
  | cons t r =>
    unfold stepT nxtK
    by_cases k0 : k = 0
    · simp [k0] at hl ⊢; omega
    · by_cases k1 : k = 1
      · subst k1
        have hd : d ≠ 0 := fun e => by subst e; revert hb; decide
        cases r with
        | nil => simp at hl; omega
        | cons u r' => simp at hl ⊢; omega
      · by_cases k2 : k = 2
        · simp [k0, k1, k2] at hl ⊢; omega
        · simp [k0, k1, k2] at hl ⊢; omega
theorem getD_of {ds : List Dd} {k : Nat} {x : Dd} (hx : ds[k]? = some x) : ds.getD k ⟨3, 0⟩ = x := by rw [List.getD_eq_getElem?_getD, hx]; rfl
/-- A list without a fault: its states. -/
structure Fine (ds : List Dd) : Prop where
  chk : chkL ds 0 0 = none
theorem Fine.at {ds : List Dd} (h : Fine ds) : ∀ n, n ≤ ds.length → ∃ d, (stN ds n).length = d + 1 ∧ chkL (ds.drop n) n d = none ∧ Inv ds n := by
  intro n
  induction n with
  | zero => intro _; exact ⟨0, rfl, h.chk, inv_zero ds⟩
  | succ n ih =>
    intro hn
    obtain ⟨d, h1, h2, h3⟩ := ih (by omega)
    obtain ⟨x, hx⟩ : ∃ x, ds[n]? = some x := ⟨ds[n]'(by omega), by simp⟩
    rw [chkL_step hx] at h2
    split at h2
    · cases h2
    · rename_i hb
      have hb' : badK x.k d = false := by simpa using hb
      refine ⟨nxtK x.k d, ?_, h2, inv_step h3 (fun e => by rw [e] at h1; simp at h1) ?_⟩
      · show (stepT n ((ds.getD n ⟨3, 0⟩).k) (stN ds n)).length = _
        rw [getD_of hx]
        exact step_len n x.k _ d h1 hb'
      · rw [getD_of hx]
        intro e
        rw [e] at hb'
        have : d ≠ 0 := fun e => by subst e; revert hb'; decide
        omega
end Go.Proofs.Ytolhojagbiaamaa
