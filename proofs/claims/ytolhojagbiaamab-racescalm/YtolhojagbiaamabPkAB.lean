import Derived.Test.YtolhojagbiaamabPkAA
import Derived.Deep.RegionHeld3
import Derived.Deep.DeepCutAuto
import Derived.Deep.Cut
/-! Which deeds are ahead of which, plainly: the row in which a task goes on first and its children come behind, the youngest first. -/
namespace Go.Proofs.Ytolhojagbiaamab
set_option linter.unusedVariables false
set_option maxRecDepth 20000
set_option linter.unusedSimpArgs false

/-- A task that has not returned: its deeds with those that it has waited for (P); those that it has to wait for (O); the returns of children for which it has not waited, in order (Out). -/
structure Tk where
  P : List Nat
  O : List Nat
  Out : List Nat
def stepT (i : Nat) (k : Int) : List Tk → List Tk
  | [] => []
  | t :: r =>
    if k = 0 then ⟨[], [], []⟩ :: ⟨t.P ++ [i], t.O, t.Out⟩ :: r
    else if k = 1 then match r with
      | [] => []
      | u :: r' => ⟨u.P, (t.P ++ t.O ++ [i]) ++ u.O, u.Out ++ [i]⟩ :: r'
    else if k = 2 then ⟨t.P ++ t.O ++ [i], [], []⟩ :: r
    else ⟨t.P ++ [i], t.O, t.Out⟩ :: r
theorem st0 (i : Nat) (t : Tk) (r : List Tk) : stepT i 0 (t :: r) = ⟨[], [], []⟩ :: ⟨t.P ++ [i], t.O, t.Out⟩ :: r := by simp [stepT]
theorem st1 (i : Nat) (t u : Tk) (r : List Tk) : stepT i 1 (t :: u :: r) = ⟨u.P, (t.P ++ t.O ++ [i]) ++ u.O, u.Out ++ [i]⟩ :: r := by simp [stepT]
theorem st2 (i : Nat) (t : Tk) (r : List Tk) : stepT i 2 (t :: r) = ⟨t.P ++ t.O ++ [i], [], []⟩ :: r := by simp [stepT]
theorem st3 (i : Nat) (k : Int) (t : Tk) (r : List Tk) (h0 : ¬ k = 0) (h1 : ¬ k = 1) (h2 : ¬ k = 2) : stepT i k (t :: r) = ⟨t.P ++ [i], t.O, t.Out⟩ :: r := by simp [stepT, h0, h1, h2]
def Cof : List Tk → List Nat
  | [] => []
  | t :: r => Cof r ++ t.P
def Oof : List Tk → List Nat
  | [] => []
  | t :: r => t.O ++ Oof r
def Lof (st : List Tk) : List Nat := Cof st ++ Oof st
def stN (ds : List Dd) : Nat → List Tk
  | 0 => [⟨[], [], []⟩]
  | n + 1 => stepT n ((ds.getD n ⟨3, 0⟩).k) (stN ds n)
def outOf (k : Int) : List Tk → List Nat
  | [] => []
  | t :: _ => if k = 1 ∨ k = 2 then t.Out else []
theorem out_cons (k : Int) (t : Tk) (r : List Tk) : outOf k (t :: r) = if k = 1 ∨ k = 2 then t.Out else [] := rfl
def frmN (ds : List Dd) (n : Nat) : List Nat := (Cof (stN ds n)).getLast?.toList ++ outOf ((ds.getD n ⟨3, 0⟩).k) (stN ds n)
/-- m is ahead of i. -/
inductive Ah (ds : List Dd) (m : Nat) : Nat → Prop
  | one {i : Nat} : m ∈ frmN ds i → Ah ds m i
  | more {i k : Nat} : k ∈ frmN ds i → Ah ds m k → Ah ds m i
theorem ah_iff (ds : List Dd) (m i : Nat) : Ah ds m i ↔ ∃ k ∈ frmN ds i, m = k ∨ Ah ds m k := by
  constructor
  · intro h
    cases h with
    | one h => exact ⟨m, h, .inl rfl⟩
    | more h1 h2 => exact ⟨_, h1, .inr h2⟩
  · rintro ⟨k, hk, rfl | h⟩
    · exact .one hk
    · exact .more hk h

/-- A number put into a row. -/
theorem idx_put {X Y : List Nat} {i a b : Nat} (hX : i ∉ X) (hY : i ∉ Y) (ha : a ∈ X ++ Y) (hb : b ∈ X ++ Y) :
    ((X ++ i :: Y).idxOf a < (X ++ i :: Y).idxOf b ↔ (X ++ Y).idxOf a < (X ++ Y).idxOf b) := by
  have hai : i ≠ a := fun e => by subst e; simp at ha; exact ha.elim hX hY
  have hbi : i ≠ b := fun e => by subst e; simp at hb; exact hb.elim hX hY
  have e1 : ∀ c, i ≠ c → (X ++ i :: Y).idxOf c = if c ∈ X then X.idxOf c else X.length + 1 + Y.idxOf c := by
    intro c hc
    rw [List.idxOf_append]
    split
    · rfl
    · rw [List.idxOf_cons, show (i == c) = false by simpa using hc]; simp only [cond_false]; omega
  have e2 : ∀ c, (X ++ Y).idxOf c = if c ∈ X then X.idxOf c else X.length + Y.idxOf c := by
    intro c
    rw [List.idxOf_append]
    split
    · rfl
    · omega
  rw [e1 a hai, e1 b hbi, e2 a, e2 b]
  have l1 : ∀ c, c ∈ X → X.idxOf c < X.length := fun c h => List.idxOf_lt_length_iff.2 h
  by_cases h1 : a ∈ X <;> by_cases h2 : b ∈ X <;> simp only [h1, h2, if_true, if_false]
  · have := l1 a h1; constructor <;> intro <;> omega
  · have := l1 b h2; constructor <;> intro <;> omega
  · constructor <;> intro <;> omega
theorem idx_new {X Y : List Nat} {i a : Nat} (hX : i ∉ X) (hai : a ≠ i) : ((X ++ i :: Y).idxOf a < (X ++ i :: Y).idxOf i ↔ a ∈ X) := by
  rw [List.idxOf_append, List.idxOf_append, if_neg hX]
  simp only [List.idxOf_cons_self, Nat.zero_add]
  by_cases h : a ∈ X
  · simp only [h, if_true, iff_true]
    exact List.idxOf_lt_length_iff.2 h
  · simp only [h, if_false, iff_false]
    omega

/-- What holds of a task and those above it. -/
def GoodT (A : Nat → Nat → Prop) : List Tk → Prop
  | [] => True
  | t :: r => (∀ p, (Cof (t :: r)).getLast? = some p → ∀ m, (m = p ∨ A m p) ↔ m ∈ Cof (t :: r)) ∧
      (∀ m, (m ∈ Cof (t :: r) ∨ ∃ q ∈ t.Out, m = q ∨ A m q) ↔ (m ∈ Cof (t :: r) ∨ m ∈ t.O)) ∧ GoodT A r
/-- The state behind the first n deeds. -/
structure Inv (ds : List Dd) (n : Nat) : Prop where
  nd : (Lof (stN ds n)).Nodup
  all : ∀ a, a ∈ Lof (stN ds n) ↔ a < n
  ah : ∀ i, i < n → ∀ m, Ah ds m i ↔ (m < i ∧ (Lof (stN ds n)).idxOf m < (Lof (stN ds n)).idxOf i)
  good : GoodT (Ah ds) (stN ds n)
/-- Who is ahead of the next deed. -/
theorem next_ah {ds : List Dd} {n : Nat} {t : Tk} {r : List Tk} (hst : stN ds n = t :: r) (hg : GoodT (Ah ds) (t :: r)) (m : Nat) :
    Ah ds m n ↔ (m ∈ Cof (t :: r) ∨ (((ds.getD n ⟨3, 0⟩).k = 1 ∨ (ds.getD n ⟨3, 0⟩).k = 2) ∧ m ∈ t.O)) := by
  obtain ⟨h1, h2, _⟩ := hg
  have hC : (∃ k ∈ (Cof (t :: r)).getLast?.toList, m = k ∨ Ah ds m k) ↔ m ∈ Cof (t :: r) := by
    cases hl : (Cof (t :: r)).getLast? with
    | none =>
      have : Cof (t :: r) = [] := List.getLast?_eq_none_iff.1 hl
      simp [this]
    | some p =>
      rw [← h1 p hl m]
      simp
  rw [ah_iff]
  unfold frmN
  rw [hst]
  constructor
  · rintro ⟨k, hk, hm⟩
    rcases List.mem_append.1 hk with hk | hk
    · exact .inl (hC.1 ⟨k, hk, hm⟩)
    · rw [out_cons] at hk
      split at hk
      · rename_i hw
        rcases (h2 m).1 (.inr ⟨k, hk, hm⟩) with h | h
        · exact .inl h
        · exact .inr ⟨hw, h⟩
      · cases hk
  · intro h
    have hin : m ∈ Cof (t :: r) → ∃ k ∈ (Cof (t :: r)).getLast?.toList ++ outOf ((ds.getD n ⟨3, 0⟩).k) (t :: r), m = k ∨ Ah ds m k := by
      intro h
      obtain ⟨k, hk, hm⟩ := hC.2 h
      exact ⟨k, List.mem_append.2 (.inl hk), hm⟩
    rcases h with h | ⟨hw, h⟩
    · exact hin h
    · rcases (h2 m).2 (.inr h) with h | ⟨q, hq, hm⟩
      · exact hin h
      · exact ⟨q, List.mem_append.2 (.inr (by rw [out_cons, if_pos hw]; exact hq)), hm⟩
/-- The row behind a deed: it is put in behind what is ahead of it. -/
theorem row_put {ds : List Dd} {n : Nat} {X Y : List Nat} (hI : Inv ds n) (hL : Lof (stN ds n) = X ++ Y) (hL' : Lof (stN ds (n + 1)) = X ++ n :: Y) (hA : ∀ m, Ah ds m n ↔ m ∈ X) :
    (Lof (stN ds (n + 1))).Nodup ∧ (∀ a, a ∈ Lof (stN ds (n + 1)) ↔ a < n + 1) ∧ ∀ i, i < n + 1 → ∀ m, Ah ds m i ↔ (m < i ∧ (Lof (stN ds (n + 1))).idxOf m < (Lof (stN ds (n + 1))).idxOf i) := by
  have hnL : n ∉ X ++ Y := fun h => by rw [← hL] at h; have := (hI.all n).1 h; omega
  have hnX : n ∉ X := fun h => hnL (List.mem_append.2 (.inl h))
  have hnY : n ∉ Y := fun h => hnL (List.mem_append.2 (.inr h))
  have hnd := hI.nd
  have hall := hI.all
  have hah := hI.ah
  rw [hL] at hnd hall hah
  rw [hL']
  have hmem : ∀ a, a ∈ X ++ n :: Y ↔ a < n + 1 := by
    intro a
    have h1 := hall a
    simp only [List.mem_append, List.mem_cons] at h1 ⊢
    constructor
    · rintro (h | rfl | h)
      · have := h1.1 (.inl h); omega
      · omega
      · have := h1.1 (.inr h); omega
    · intro h
      by_cases e : a = n
      · exact .inr (.inl e)
      · rcases h1.2 (by omega) with h | h
        · exact .inl h
        · exact .inr (.inr h)
  refine ⟨?_, hmem, ?_⟩
  · have hp : (X ++ n :: Y).Perm (n :: (X ++ Y)) := List.perm_middle
    exact hp.nodup_iff.2 (List.nodup_cons.2 ⟨hnL, hnd⟩)
  · intro i hi m
    by_cases hin : i = n
    · subst hin
      rw [hA m]
      constructor
      · intro h
        have hmi : m < i := (hall m).1 (List.mem_append.2 (.inl h))
        exact ⟨hmi, (idx_new hnX (by omega)).2 h⟩
      · rintro ⟨h1, h2⟩
        exact (idx_new hnX (by omega)).1 h2
    · have hi' : i < n := by omega
      rw [hah i hi' m]
      constructor
      · rintro ⟨h1, h2⟩
        exact ⟨h1, (idx_put hnX hnY ((hall m).2 (by omega)) ((hall i).2 hi')).2 h2⟩
      · rintro ⟨h1, h2⟩
        exact ⟨h1, (idx_put hnX hnY ((hall m).2 (by omega)) ((hall i).2 hi')).1 h2⟩
theorem last_app (l : List Nat) (i : Nat) : (l ++ [i]).getLast? = some i := by simp
theorem cof_cons (t : Tk) (r : List Tk) : Cof (t :: r) = Cof r ++ t.P := rfl
theorem oof_cons (t : Tk) (r : List Tk) : Oof (t :: r) = t.O ++ Oof r := rfl
theorem inv_zero (ds : List Dd) : Inv ds 0 := by
  refine ⟨by simp [Lof, stN, Cof, Oof], by simp [Lof, stN, Cof, Oof], fun i hi => by omega, ?_⟩
  simp [stN, GoodT, Cof]
theorem inv_step {ds : List Dd} {n : Nat} (hI : Inv ds n) (hst : stN ds n ≠ []) (hk : (ds.getD n ⟨3, 0⟩).k = 1 → 2 ≤ (stN ds n).length) : Inv ds (n + 1) := by
  cases hs : stN ds n with
  | nil => exact (hst hs).elim
  | cons t r =>
    have hg := hI.good
    rw [hs] at hg
    have hA := next_ah hs hg
    have hL : Lof (stN ds n) = Cof r ++ t.P ++ (t.O ++ Oof r) := by rw [hs]; rfl
    have hs' : stN ds (n + 1) = stepT n ((ds.getD n ⟨3, 0⟩).k) (t :: r) := by rw [← hs]; rfl
    by_cases k0 : (ds.getD n ⟨3, 0⟩).k = 0
    · have e : stN ds (n + 1) = ⟨[], [], []⟩ :: ⟨t.P ++ [n], t.O, t.Out⟩ :: r := by rw [hs', k0, st0]
      have hA' : ∀ m, Ah ds m n ↔ m ∈ Cof r ++ t.P := fun m => by rw [hA m, cof_cons]; constructor
                                                                  · rintro (h | ⟨h, _⟩)
                                                                    · exact h
                                                                    · omega
                                                                  · exact .inl
      obtain ⟨p1, p2, p3⟩ := row_put hI hL (by rw [e]; simp [Lof, Cof, Oof]) hA'
      refine ⟨p1, p2, p3, ?_⟩
      rw [e]
      have hC : Cof (⟨t.P ++ [n], t.O, t.Out⟩ :: r) = Cof r ++ t.P ++ [n] := by simp [Cof]
      have hC2 : Cof (⟨[], [], []⟩ :: ⟨t.P ++ [n], t.O, t.Out⟩ :: r) = Cof r ++ t.P ++ [n] := by simp [Cof]
      have g1 : ∀ p, (Cof r ++ t.P ++ [n]).getLast? = some p → ∀ m, (m = p ∨ Ah ds m p) ↔ m ∈ Cof r ++ t.P ++ [n] := by
        intro p hp m
        rw [last_app] at hp
        injection hp with hp
        subst hp
        rw [hA' m, List.mem_append (t := [_])]
        simp [or_comm]
      refine ⟨by rw [hC2]; exact g1, by rw [hC2]; simp, by rw [hC]; exact g1, ?_, hg.2.2⟩
      rw [hC]
      intro m
      have := hg.2.1 m
      rw [cof_cons] at this
      simp only [List.mem_append, List.mem_singleton] at this ⊢
      constructor
      · rintro ((h | h) | h)
        · exact .inl (.inl h)
        · exact .inl (.inr h)
        · rcases this.1 (.inr h) with h | h
          · exact .inl (.inl h)
          · exact .inr h
      · rintro (h | h)
        · exact .inl h
        · rcases this.2 (.inr h) with h | h
          · exact .inl (.inl h)
          · exact .inr h
    · by_cases k1 : (ds.getD n ⟨3, 0⟩).k = 1
      · have h2 := hk k1
        rw [hs] at h2
        obtain ⟨u, r', hr⟩ : ∃ u r', r = u :: r' := by
          cases r with
          | nil => simp at h2
          | cons u r' => exact ⟨u, r', rfl⟩
        subst hr
        have e : stN ds (n + 1) = ⟨u.P, (t.P ++ t.O ++ [n]) ++ u.O, u.Out ++ [n]⟩ :: r' := by rw [hs', k1, st1]
        have hA' : ∀ m, Ah ds m n ↔ m ∈ Cof (u :: r') ++ t.P ++ t.O := fun m => by
          rw [hA m, List.mem_append (t := t.O), cof_cons t]
          constructor
          · rintro (h | ⟨_, h⟩)
            · exact .inl h
            · exact .inr h
          · rintro (h | h)
            · exact .inl h
            · exact .inr ⟨.inl k1, h⟩
        obtain ⟨p1, p2, p3⟩ := row_put (X := Cof (u :: r') ++ t.P ++ t.O) (Y := Oof (u :: r')) hI (by rw [hL]; simp) (by rw [e]; simp [Lof, Cof, Oof]) hA'
        refine ⟨p1, p2, p3, ?_⟩
        rw [e]
        have hC : Cof (⟨u.P, (t.P ++ t.O ++ [n]) ++ u.O, u.Out ++ [n]⟩ :: r') = Cof (u :: r') := rfl
        obtain ⟨gu1, gu2, gu3⟩ := hg.2.2
        refine ⟨by rw [hC]; exact gu1, ?_, gu3⟩
        rw [hC]
        intro m
        have h3 := gu2 m
        have h4 := hA' m
        simp only [List.mem_append, List.mem_singleton] at h3 h4 ⊢
        constructor
        · rintro (h | ⟨q, hq | rfl, hm⟩)
          · exact .inl h
          · rcases h3.1 (.inr ⟨q, hq, hm⟩) with h | h
            · exact .inl h
            · exact .inr (.inr h)
          · rcases hm with rfl | hm
            · exact .inr (.inl (.inr rfl))
            · rcases h4.1 hm with (h | h) | h
              · exact .inl h
              · exact .inr (.inl (.inl (.inl h)))
              · exact .inr (.inl (.inl (.inr h)))
        · rintro (h | ((h | h) | rfl) | h)
          · exact .inl h
          · exact .inr ⟨n, .inr rfl, .inr (h4.2 (.inl (.inr h)))⟩
          · exact .inr ⟨n, .inr rfl, .inr (h4.2 (.inr h))⟩
          · exact .inr ⟨m, .inr rfl, .inl rfl⟩
          · rcases h3.2 (.inr h) with h | ⟨q, hq, hm⟩
            · exact .inl h
            · exact .inr ⟨q, .inl hq, hm⟩
      · by_cases k2 : (ds.getD n ⟨3, 0⟩).k = 2
        · have e : stN ds (n + 1) = ⟨t.P ++ t.O ++ [n], [], []⟩ :: r := by rw [hs', k2, st2]
          have hA' : ∀ m, Ah ds m n ↔ m ∈ Cof r ++ t.P ++ t.O := fun m => by
            rw [hA m, List.mem_append (t := t.O), cof_cons t]
            constructor
            · rintro (h | ⟨_, h⟩)
              · exact .inl h
              · exact .inr h
            · rintro (h | h)
              · exact .inl h
              · exact .inr ⟨.inr k2, h⟩
          obtain ⟨p1, p2, p3⟩ := row_put (X := Cof r ++ t.P ++ t.O) (Y := Oof r) hI (by rw [hL]; simp) (by rw [e]; simp [Lof, Cof, Oof]) hA'
          refine ⟨p1, p2, p3, ?_⟩
          rw [e]
          have hC : Cof (⟨t.P ++ t.O ++ [n], [], []⟩ :: r) = Cof r ++ t.P ++ t.O ++ [n] := by simp [Cof]
          refine ⟨?_, by rw [hC]; simp, hg.2.2⟩
          rw [hC]
          intro p hp m
          rw [last_app] at hp
          injection hp with hp
          subst hp
          rw [hA' m, List.mem_append (t := [_])]
          simp [or_comm]
        · have e : stN ds (n + 1) = ⟨t.P ++ [n], t.O, t.Out⟩ :: r := by rw [hs', st3 _ _ _ _ k0 k1 k2]
          have hA' : ∀ m, Ah ds m n ↔ m ∈ Cof r ++ t.P := fun m => by
            rw [hA m, cof_cons]
            constructor
            · rintro (h | ⟨h, _⟩)
              · exact h
              · omega
            · exact .inl
          obtain ⟨p1, p2, p3⟩ := row_put hI hL (by rw [e]; simp [Lof, Cof, Oof]) hA'
          refine ⟨p1, p2, p3, ?_⟩
          rw [e]
          have hC : Cof (⟨t.P ++ [n], t.O, t.Out⟩ :: r) = Cof r ++ t.P ++ [n] := by simp [Cof]
          refine ⟨?_, ?_, hg.2.2⟩
          · rw [hC]
            intro p hp m
            rw [last_app] at hp
            injection hp with hp
            subst hp
            rw [hA' m, List.mem_append (t := [_])]
            simp [or_comm]
          · rw [hC]
            intro m
            have := hg.2.1 m
            rw [cof_cons] at this
            simp only [List.mem_append, List.mem_singleton] at this ⊢
            constructor
            · rintro ((h | h) | h)
              · exact .inl (.inl h)
              · exact .inl (.inr h)
              · rcases this.1 (.inr h) with h | h
                · exact .inl (.inl h)
                · exact .inr h
            · rintro (h | h)
              · exact .inl h
              · rcases this.2 (.inr h) with h | h
                · exact .inl (.inl h)
                · exact .inr h
/-- Depths: a list without a fault never leaves the root. -/
theorem step_len (i : Nat) (k : Int) (st : List Tk) (d : Nat) (hl : st.length = d + 1) (hb : badK k d = false) : (stepT i k st).length = nxtK k d + 1 := by
  cases st with
  | nil => simp at hl
  | cons t r =>
    unfold stepT nxtK
    by_cases k0 : k = 0
    · simp [k0] at hl ⊢; omega
    · by_cases k1 : k = 1
      · subst k1
        have hd : d ≠ 0 := fun e => by subst e; revert hb; decide
        cases r with
        | nil => simp at hl; omega
        | cons u r' => simp at hl ⊢; omega
      · by_cases k2 : k = 2
        · simp [k0, k1, k2] at hl ⊢; omega
        · simp [k0, k1, k2] at hl ⊢; omega
theorem getD_of {ds : List Dd} {k : Nat} {x : Dd} (hx : ds[k]? = some x) : ds.getD k ⟨3, 0⟩ = x := by rw [List.getD_eq_getElem?_getD, hx]; rfl
/-- A list without a fault: its states. -/
structure Fine (ds : List Dd) : Prop where
  chk : chkL ds 0 0 = none
theorem Fine.at {ds : List Dd} (h : Fine ds) : ∀ n, n ≤ ds.length → ∃ d, (stN ds n).length = d + 1 ∧ chkL (ds.drop n) n d = none ∧ Inv ds n := by
  intro n
  induction n with
  | zero => intro _; exact ⟨0, rfl, h.chk, inv_zero ds⟩
  | succ n ih =>
    intro hn
    obtain ⟨d, h1, h2, h3⟩ := ih (by omega)
    obtain ⟨x, hx⟩ : ∃ x, ds[n]? = some x := ⟨ds[n]'(by omega), by simp⟩
    rw [chkL_step hx] at h2
    split at h2
    · cases h2
    · rename_i hb
      have hb' : badK x.k d = false := by simpa using hb
      refine ⟨nxtK x.k d, ?_, h2, inv_step h3 (fun e => by rw [e] at h1; simp at h1) ?_⟩
      · show (stepT n ((ds.getD n ⟨3, 0⟩).k) (stN ds n)).length = _
        rw [getD_of hx]
        exact step_len n x.k _ d h1 hb'
      · rw [getD_of hx]
        intro e
        rw [e] at hb'
        have : d ≠ 0 := fun e => by subst e; revert hb'; decide
        omega
end Go.Proofs.Ytolhojagbiaamab
/-! The row of deeds in memory. -/
namespace Go.Proofs.Ytolhojagbiaamab
set_option linter.unusedVariables false
set_option maxRecDepth 20000
set_option linter.unusedSimpArgs false
open Go.RowKit Go.HeapKit

theorem two_elem {w : World} {base : Nat} {t : TypeId} {a : Option Addr} {n c : Nat} {l : List Dd} {k : Nat} {x : Dd} (h : w.ownsRow base t 2 (.slice a n c) n (ddVals l)) (hx : l[k]? = some x) :
    ∃ g, a = some ⟨g, 0, none⟩ ∧ base ≤ g ∧ g < w.heap.size ∧ n ≤ c ∧ C2 w g (k * 2) x ∧ ∀ i, w.frozen? ⟨g, i, none⟩ = false := by
  have hlen : l.length * 2 = n * 2 := by have := h.1; rw [ddVals_length] at this; exact this
  have hk := (List.getElem?_eq_some_iff.1 hx).1
  rcases h.2 with ⟨_, h1⟩ | ⟨g, cap, cur, hv, hbg, hg, hnc, hcm, hcs, htake⟩
  · omega
  · injection hv with e1 e2 e3
    subst e1 e3
    have hcell : ∀ j u, x.vals[j]? = some u → w.cell? ⟨g, k * 2 + j, none⟩ = some u := by
      intro j u hu
      have := ddVals_at l k x hx j u hu
      rw [blk_cell hg]
      rw [← htake, List.getElem?_take] at this
      split at this
      · simpa using this
      · cases this
    exact ⟨g, rfl, hbg, (Array.getElem?_eq_some_iff.1 hg).1, hnc, ⟨hcell 0 _ rfl, hcell 1 _ rfl⟩, fun i => blk_free hg i⟩
theorem two_take {w : World} {base : Nat} {t : TypeId} {g n c m : Nat} {l : List Dd} (h : w.ownsRow base t 2 (.slice (some ⟨g, 0, none⟩) n c) n (ddVals l)) (hm : m ≤ n) : w.ownsRow base t 2 (.slice (some ⟨g, 0, none⟩) m c) m (ddVals (l.take m)) := by
  have hl : l.length = n := by have := h.1; rw [ddVals_length] at this; omega
  have he : ddVals (l.take m) = (ddVals l).take (m * 2) := by
    have e : ddVals l = ddVals (l.take m) ++ ddVals (l.drop m) := by rw [← ddVals_append, List.take_append_drop]
    rw [e, List.take_append_of_le_length (by rw [ddVals_length, List.length_take]; omega), List.take_of_length_le (l := ddVals (l.take m)) (by rw [ddVals_length, List.length_take]; omega)]
  refine ⟨by rw [ddVals_length]; simp; omega, ?_⟩
  rcases h.2 with ⟨h0, _⟩ | ⟨g', cap', cur, hv, hbg, hg, hnc, hcm, hcs, htake⟩
  · cases h0
  · injection hv with e1 e2 e3
    injection e1 with e1
    injection e1 with e1
    subst e1 e3
    refine .inr ⟨g, c, cur, rfl, hbg, hg, by omega, hcm, hcs, ?_⟩
    rw [he, ← htake, List.take_take, Nat.min_eq_left (by omega)]
theorem Try.infoWhere : (Try.prog.info? 99).map (fun i => (i.zero, i.size, i.bytes)) = some (some (.agg #[.int .i64 0, .int .i64 0]), 2, 16) := by kernel_rfl
/-- 'append(s, x)' of a task's place. -/
theorem wh_more (base : Nat) (s : Value) (l : List Dd) (x : Dd) (n ty : Nat) (w : World) (hn : n = l.length) (h : w.ownsRow base 99 2 s n (ddVals l)) (hb : base ≤ w.heap.size) (hlen : (n + 1) * 16 ≤ 140737488355328) {g0 : Nat}
    (hg0 : w.heap[g0]? = some (.cells #[.int .i64 x.k, .int .i64 x.loc] 99 (0, 0))) :
    ∃ g cap w', (Builtin.append_ #[95, 95] ty #[s, .slice (some ⟨g0, 0, none⟩) 1 1]).run Try.prog w = .ok (.slice (some ⟨g, 0, none⟩) (n + 1) cap) w' ∧
      w'.ownsRow base 99 2 (.slice (some ⟨g, 0, none⟩) (n + 1) cap) (n + 1) (ddVals (l ++ [x])) ∧ Keeps (fun k => s.ownBlock = some k) w w' ∧ (s.ownBlock = some g ∨ w.heap.size ≤ g) := by
  obtain ⟨i0, hi, hz0, hz1, hz2⟩ := info_parts Try.infoWhere
  obtain ⟨v', w1, hr, ho, hgr, hm, -⟩ := run_append_moved (P := Try.prog) w base 95 ty 99 i0 _ 2 16 Try.underlying95 hi hz0 hz1 hz2 rfl (by decide) s n _ h
    ⟨g0, 0, none⟩ 1 1 x.vals rfl (by
      intro j u hu
      rw [show (⟨g0, 0, none⟩ : Addr).add j = ⟨g0, j, none⟩ by unfold Addr.add; split <;> simp_all, blk_cell hg0]
      simpa [Dd.vals] using hu) (by
      intro u hu
      simp [Dd.vals] at hu
      rcases hu with rfl | rfl <;> rfl) (by unfold maxLen; omega) hlen hb
  obtain ⟨g, cap, rfl⟩ : ∃ g cap, v' = .slice (some ⟨g, 0, none⟩) (n + 1) cap := by
    rcases ho.2 with ⟨_, h0⟩ | ⟨b, cap, cur, rfl, _⟩
    · omega
    · exact ⟨b, cap, rfl⟩
  refine ⟨g, cap, w1, hr, by rw [ddVals_append, ddVals_one]; exact ho, (Keeps.refl _ w).andGrown hgr (fun k e => .inl e), ?_⟩
  rcases hm with hm | ⟨g', e, hg⟩
  · exact .inl (hm.symm.trans rfl)
  · simp [Value.ownBlock] at e; exact .inr (by omega)
/-- One place of a pair is written. -/
theorem two_fst {w : World} {base : Nat} {t : TypeId} {g n c k : Nat} {l : List Dd} {x : Dd} (h : w.ownsRow base t 2 (.slice (some ⟨g, 0, none⟩) n c) n (ddVals l)) (hx : l[k]? = some x) (v : Int) : (w.setCell ⟨g, k * 2, none⟩ (.int .i64 v)).ownsRow base t 2 (.slice (some ⟨g, 0, none⟩) n c) n (ddVals (l.set k ⟨v, x.loc⟩)) := by
  have hk := (List.getElem?_eq_some_iff.1 hx).1
  have h1 := row_set h (k * 2) (.int .i64 v)
  rw [← ddVals_set l k ⟨v, x.loc⟩ hk]
  have : ((ddVals l).set (k * 2) (.int .i64 v)).set (k * 2 + 1) (.int .i64 x.loc) = (ddVals l).set (k * 2) (.int .i64 v) := by
    apply List.ext_getElem?
    intro j
    rw [List.getElem?_set]
    split
    · rename_i e
      subst e
      rw [List.getElem?_set_ne (by omega), ddVals_at l k x hx 1 _ rfl]
      simp [ddVals_length]; omega
    · rfl
  rw [this]
  exact h1
theorem two_snd {w : World} {base : Nat} {t : TypeId} {g n c k : Nat} {l : List Dd} {x : Dd} (h : w.ownsRow base t 2 (.slice (some ⟨g, 0, none⟩) n c) n (ddVals l)) (hx : l[k]? = some x) (v : Int) : (w.setCell ⟨g, k * 2 + 1, none⟩ (.int .i64 v)).ownsRow base t 2 (.slice (some ⟨g, 0, none⟩) n c) n (ddVals (l.set k ⟨x.k, v⟩)) := by
  have hk := (List.getElem?_eq_some_iff.1 hx).1
  have h1 := row_set h (k * 2 + 1) (.int .i64 v)
  rw [← ddVals_set l k ⟨x.k, v⟩ hk]
  have : (ddVals l).set (k * 2) (.int .i64 x.k) = ddVals l := by
    apply List.ext_getElem?
    intro j
    rw [List.getElem?_set]
    split
    · rename_i e
      subst e
      have := ddVals_at l k x hx 0 _ rfl
      rw [Nat.add_zero] at this
      rw [this]
      simp [ddVals_length]; omega
    · rfl
  show (w.setCell ⟨g, k * 2 + 1, none⟩ (.int .i64 v)).ownsRow base t 2 (.slice (some ⟨g, 0, none⟩) n c) n (((ddVals l).set (k * 2) (.int .i64 x.k)).set (k * 2 + 1) (.int .i64 v))
  rw [this]
  exact h1
def numsA (n : Nat) (N : Nat → Int) : Array Value := ((List.range n).map (fun j => Value.int .i64 (N j))).toArray
def upd (N : Nat → Int) (k : Nat) (v : Int) : Nat → Int := fun j => if j = k then v else N j
theorem nums_at (n : Nat) (N : Nat → Int) {k : Nat} (hk : k < n) : (numsA n N)[k]? = some (.int .i64 (N k)) := by simp [numsA, hk]
theorem nums_set (n : Nat) (N : Nat → Int) (k : Nat) (v : Int) : (numsA n N).setIfInBounds k (.int .i64 v) = numsA n (upd N k v) := by
  unfold numsA upd
  apply Array.ext
  · simp
  · intro i h1 h2
    by_cases h : k = i
    · simp [h]
    · simp [h, Ne.symm h]
/-- The row in memory: the numbers of the next ones, the tasks. -/
structure RowM (w : World) (base R n : Nat) (N : Nat → Int) (acts : List Dd) (gN gA cap : Nat) : Prop where
  blk : w.heap[R]? = some (.cells #[.slice (some ⟨gN, 0, none⟩) (n + 1) (n + 1), .slice (some ⟨gA, 0, none⟩) acts.length cap] 97 (0, 0))
  nums : w.heap[gN]? = some (.cells (numsA (n + 1) N) 3 (0, 0))
  act : w.ownsRow base 99 2 (.slice (some ⟨gA, 0, none⟩) acts.length cap) acts.length (ddVals acts)
  lowR : base ≤ R
  lowN : base ≤ gN
section
variable {w w' : World} {base R n gN gA cap : Nat} {N : Nat → Int} {acts : List Dd}
theorem RowM.ne1 (h : RowM w base R n N acts gN gA cap) : R ≠ gN := by
  intro e
  have h1 := h.blk
  rw [e, h.nums] at h1
  injection h1 with h1
  injection h1 with _ h1
  revert h1
  decide
theorem RowM.ne2 (h : RowM w base R n N acts gN gA cap) : R ≠ gA := by
  intro e
  obtain ⟨cur, hc⟩ := own_block h.act rfl
  have h1 := h.blk
  rw [e, hc] at h1
  injection h1 with h1
  injection h1 with _ h1
  revert h1
  decide
theorem RowM.ne3 (h : RowM w base R n N acts gN gA cap) : gN ≠ gA := by
  intro e
  obtain ⟨cur, hc⟩ := own_block h.act rfl
  have h1 := h.nums
  rw [e, hc] at h1
  injection h1 with h1
  injection h1 with _ h1
  revert h1
  decide
theorem RowM.lowA (h : RowM w base R n N acts gN gA cap) : base ≤ gA := row_low h.act rfl
theorem RowM.kept {S : Nat → Prop} (h : RowM w base R n N acts gN gA cap) (hk : Keeps S w w') (h1 : ¬ S R) (h2 : ¬ S gN) (h3 : ¬ S gA) : RowM w' base R n N acts gN gA cap :=
  ⟨blk_kept h.blk hk h1, blk_kept h.nums hk h2, row_kept h.act hk (fun g e => by simp [Value.ownBlock] at e; subst e; exact h3), h.lowR, h.lowN⟩
theorem RowM.more (h : RowM w base R n N acts gN gA cap) (hk : Keeps None w w') : RowM w' base R n N acts gN gA cap := h.kept hk (fun f => f) (fun f => f) (fun f => f)
end
/-- What a task has to wait for, behind a child's return. -/
def endE (p : Dd) (a : Nat) : Int := if p.loc = -1 then a else p.loc
set_option maxHeartbeats 1600000 in
theorem returned_ok (w : World) (base R n gN gA cap a : Nat) (N : Nat → Int) (A : List Dd) (p x : Dd) (h : RowM w base R n N (A ++ [p, x]) gN gA cap) (hA : A.length ≤ 5000) :
    Calls Try.prog 54 #[.pointer (some ⟨R, 0, none⟩), .int .i64 a] w fun e w' => e = .returned (.tuple #[]) ∧ RowM w' base R n N (A ++ [⟨p.k, endE p a⟩]) gN gA cap ∧ Keeps (fun i => base ≤ i) w w' := by
  have HM : Hid (RowM w base R n N (A ++ [p, x]) gN gA cap) := h
  have hlen : (A ++ [p, x]).length = A.length + 2 := by simp
  have b1 := h.blk
  rw [hlen] at b1
  have r0 := cell_of_heap b1 1
  have f0 := blk_free b1 1
  have r1 : w.cell? ⟨R, 1, none⟩ = some (.slice (some ⟨gA, 0, none⟩) (A.length + 2) cap) := r0
  have hw : wrap64 (((A.length + 2 : Nat) : Int) - 1) = ((A.length + 1 : Nat) : Int) := by unfold wrap64; omega
  have hfit : A.length + 2 ≤ cap := by
    have := h.act
    rw [hlen] at this
    obtain ⟨_, _, _, _, h5, _⟩ := two_elem (k := A.length) (x := p) this (by simp)
    exact h5
  obtain ⟨q, hq⟩ : ∃ q, q = A.length + 1 := ⟨_, rfl⟩
  have HQ : Hid (q = A.length + 1) := hq
  have r2 : w.cell? ⟨R, 1, none⟩ = some (.slice (some ⟨gA, 0, none⟩) (q + 1) cap) := by rw [hq]; exact r1
  have hw1 : IntKind.i64.wrap (q : Int) = (q : Int) := by rw [IntWalk.i64_left]; unfold wrap64; omega
  have hw2 : IntKind.i64.wrap (((q + 1 : Nat) : Int) - 1) = (q : Int) := by rw [IntWalk.i64_left]; unfold wrap64; omega
  have q1 : (q : Int) ≤ (cap : Int) := by omega
  have q2 : q ≤ cap := by omega
  clear h r0 b1 r1 hw hfit hq hlen
  go_enter Try.func54, Try.ntmps54
  go_wp2_with fail
  go_cut [2] (fun _ wx => RowM wx base R n N (A ++ [p]) gN gA cap ∧ Keeps (fun i => base ≤ i) w wx)
  case first =>
    go_region
    go_wp2_with fail
    go_meet
    have h := HM.out
    have hk : Keeps (· = R) w (w.setCell ⟨R, 1, none⟩ (.slice (some ⟨gA, 0, none⟩) q cap)) := keeps_one (Keeps.refl _ w) _
    have h1 := two_take (m := q) h.act (by rw [HQ.out]; simp)
    rw [HQ.out, show (A ++ [p, x]).take (A.length + 1) = A ++ [p] by rw [show A ++ [p, x] = (A ++ [p]) ++ [x] by simp, List.take_append_of_le_length (by simp), List.take_of_length_le (by simp)]] at h1
    refine ⟨RowM.more ⟨?_, blk_kept h.nums hk (fun e => h.ne1 e.symm), ?_, h.lowR, h.lowN⟩ (Keeps.drew None _), (hk.mono (fun i e _ => by have := h.lowR; omega)).andDrew⟩
    · have := blk_set (i := 1) h.blk (.slice (some ⟨gA, 0, none⟩) q cap)
      rw [this, HQ.out]
      simp
    · have := row_kept h1 hk (fun g e => by simp [Value.ownBlock] at e; subst e; intro e2; exact h.ne2 e2.symm)
      simpa using this
  case rest =>
  obtain ⟨hR1, hk1⟩ := hcut
  obtain ⟨w1, hw1⟩ : ∃ w1, w1 = wc := ⟨_, rfl⟩
  rw [← hw1] at hR1 hk1 ⊢
  clear hw1 HM r2
  have hl1 : (A ++ [p]).length = q := by simp [HQ.out]
  have b1 := hR1.blk
  rw [hl1] at b1
  have r1 : w1.cell? ⟨R, 1, none⟩ = some (.slice (some ⟨gA, 0, none⟩) q cap) := cell_of_heap b1 1
  have hq1 : 1 ≤ q := by have := HQ.out; omega
  have hq2 : q ≤ 5001 := by have := HQ.out; omega
  have hw3 : IntKind.i64.wrap ((q : Int) - 1) = ((q - 1 : Nat) : Int) := by rw [IntWalk.i64_left]; unfold wrap64; omega
  have hi : (A ++ [p])[q - 1]? = some p := by rw [HQ.out]; simp
  obtain ⟨g', e, _, _, _, ⟨u0, u1⟩, hf⟩ := two_elem hR1.act hi
  injection e with e
  injection e with e
  subst e
  have f1 := hf ((q - 1) * 2 + 1)
  have HM1 : Hid (RowM w1 base R n N (A ++ [p]) gN gA cap ∧ Keeps (fun i => base ≤ i) w w1 ∧ (A ++ [p])[q - 1]? = some p) := ⟨hR1, hk1, hi⟩
  have hw4 : ((q - 1 : Nat) : Int) < (q : Int) := by omega
  have hw5 : q - 1 < q := by omega
  clear hR1 hk1 b1 hi hf hl1
  go_wp2_with fail
  go_cut [4] (fun s4 wx => s4 = .pointer (some ⟨gA, (q - 1) * 2, none⟩) ∧ wx = w1.drew)
  case first =>
    go_region
    go_wp2_with fail
    go_meet
    exact ⟨rfl, rfl⟩
  case rest =>
  obtain ⟨rfl, hwc⟩ := hcut
  have hwc' := hwc.symm
  subst hwc'
  have v1 : w1.drew.cell? ⟨gA, (q - 1) * 2 + 1, none⟩ = some (.int .i64 p.loc) := u1
  have f2 : w1.drew.frozen? ⟨gA, (q - 1) * 2 + 1, none⟩ = false := f1
  by_cases hp : p.loc = -1
  · have HN : Hid (RowM (w1.drew.setCell ⟨gA, (q - 1) * 2 + 1, none⟩ (.int .i64 a)) base R n N (A ++ [⟨p.k, endE p a⟩]) gN gA cap ∧ Keeps (fun i => base ≤ i) w (w1.drew.setCell ⟨gA, (q - 1) * 2 + 1, none⟩ (.int .i64 a))) := by
      obtain ⟨h, hk, hi⟩ := HM1.out
      have h2 := h.more (Keeps.drew None w1)
      have hk2 : Keeps (· = gA) w1.drew (w1.drew.setCell ⟨gA, (q - 1) * 2 + 1, none⟩ (.int .i64 a)) := keeps_one (Keeps.refl _ _) _
      have h3 := two_snd h2.act hi a
      rw [show endE p a = a from if_pos hp]
      have e : (A ++ [p]).set (q - 1) ⟨p.k, a⟩ = A ++ [⟨p.k, a⟩] := by rw [HQ.out, List.set_append_right _ _ (by omega)]; simp
      rw [e] at h3
      have b := blk_kept h2.blk hk2 h.ne2
      refine ⟨⟨by simpa using b, blk_kept h2.nums hk2 h.ne3, by simpa using h3, h.lowR, h.lowN⟩, (hk.andDrew).trans hk2 (fun i e _ => by have := h.lowA; omega)⟩
    clear HM1
    have hp2 : (p.loc == -1) = true := by simp [hp]
    go_wp2
    go_end0
    exact ⟨rfl, HN.out⟩
  · have HN : Hid (RowM w1.drew base R n N (A ++ [⟨p.k, endE p a⟩]) gN gA cap ∧ Keeps (fun i => base ≤ i) w w1.drew) := by
      rw [show endE p a = p.loc from if_neg hp]
      exact ⟨HM1.out.1.more (Keeps.drew None w1), HM1.out.2.1.andDrew⟩
    clear HM1
    have hp2 : (p.loc == -1) = false := by simp [hp]
    go_wp2
    go_end0
    exact ⟨rfl, HN.out⟩
end Go.Proofs.Ytolhojagbiaamab
/-! A deed put into the row. -/
namespace Go.Proofs.Ytolhojagbiaamab
set_option linter.unusedVariables false
set_option maxRecDepth 20000
set_option linter.unusedSimpArgs false
open Go.RowKit Go.HeapKit

def waitB (kd : Int) : Bool := decide (kd = 2) || decide (kd = 1)
/-- Behind which one a deed comes; what its task has still to wait for. -/
def behN (kd : Int) (l : Nat) (o : Option Nat) : Nat := if waitB kd = true then o.getD l else l
def endO (o : Option Nat) : Int := match o with | some e => (e : Int) | none => -1
def leftO (kd : Int) (o : Option Nat) : Option Nat := if waitB kd = true then none else o
theorem endO_ne (e : Nat) : ¬ endO (some e) = -1 := by unfold endO; simp only; omega
theorem last_at (A : List Dd) (x : Dd) : (A ++ [x])[A.length]? = some x := by simp
theorem last_set (A : List Dd) (x y : Dd) : (A ++ [x]).set A.length y = A ++ [y] := by simp
section
variable {w : World} {base R n gN gA cap : Nat} {N : Nat → Int} {A : List Dd} {x : Dd}
theorem RowM.top (h : RowM w base R n N (A ++ [x]) gN gA cap) : C2 w gA (A.length * 2) x ∧ (∀ i, w.frozen? ⟨gA, i, none⟩ = false) ∧ A.length + 1 ≤ cap := by
  obtain ⟨g', e, _, _, h5, h6, h7⟩ := two_elem (k := A.length) (x := x) h.act (last_at A x)
  injection e with e
  injection e with e
  subst e
  exact ⟨h6, h7, by simpa using h5⟩
theorem RowM.putK (h : RowM w base R n N (A ++ [x]) gN gA cap) (v : Int) : RowM (w.setCell ⟨gA, A.length * 2, none⟩ (.int .i64 v)) base R n N (A ++ [⟨v, x.loc⟩]) gN gA cap ∧ Keeps (fun i => base ≤ i) w (w.setCell ⟨gA, A.length * 2, none⟩ (.int .i64 v)) := by
  have hk2 : Keeps (· = gA) w (w.setCell ⟨gA, A.length * 2, none⟩ (.int .i64 v)) := keeps_one (Keeps.refl _ _) _
  have h3 := two_fst h.act (last_at A x) v
  rw [last_set] at h3
  have b := blk_kept h.blk hk2 h.ne2
  exact ⟨⟨by simpa using b, blk_kept h.nums hk2 h.ne3, by simpa using h3, h.lowR, h.lowN⟩, hk2.mono (fun i e _ => by have := h.lowA; omega)⟩
theorem RowM.putL (h : RowM w base R n N (A ++ [x]) gN gA cap) (v : Int) : RowM (w.setCell ⟨gA, A.length * 2 + 1, none⟩ (.int .i64 v)) base R n N (A ++ [⟨x.k, v⟩]) gN gA cap ∧ Keeps (fun i => base ≤ i) w (w.setCell ⟨gA, A.length * 2 + 1, none⟩ (.int .i64 v)) := by
  have hk2 : Keeps (· = gA) w (w.setCell ⟨gA, A.length * 2 + 1, none⟩ (.int .i64 v)) := keeps_one (Keeps.refl _ _) _
  have h3 := two_snd h.act (last_at A x) v
  rw [last_set] at h3
  have b := blk_kept h.blk hk2 h.ne2
  exact ⟨⟨by simpa using b, blk_kept h.nums hk2 h.ne3, by simpa using h3, h.lowR, h.lowN⟩, hk2.mono (fun i e _ => by have := h.lowA; omega)⟩
theorem RowM.putN {acts : List Dd} (h : RowM w base R n N acts gN gA cap) (k : Nat) (v : Int) : RowM (w.setCell ⟨gN, k, none⟩ (.int .i64 v)) base R n (upd N k v) acts gN gA cap ∧ Keeps (fun i => base ≤ i) w (w.setCell ⟨gN, k, none⟩ (.int .i64 v)) := by
  have hk2 : Keeps (· = gN) w (w.setCell ⟨gN, k, none⟩ (.int .i64 v)) := keeps_one (Keeps.refl _ _) _
  refine ⟨⟨blk_kept h.blk hk2 h.ne1, by rw [← nums_set]; exact blk_set h.nums _, row_kept h.act hk2 (fun g e => by simp [Value.ownBlock] at e; subst e; intro e2; exact h.ne3 e2.symm), h.lowR, h.lowN⟩, hk2.mono (fun i e _ => by have := h.lowN; omega)⟩
end
/-- What the tasks are behind a deed. -/
def actsN (kd : Int) (k : Nat) (A : List Dd) (o : Option Nat) : List Dd :=
  if kd = 0 then A ++ [⟨k, endO o⟩, ⟨k, -1⟩]
  else if kd = 1 then A.dropLast ++ [⟨(A.getLastD ⟨0, 0⟩).k, endE (A.getLastD ⟨0, 0⟩) k⟩]
  else A ++ [⟨k, endO (leftO kd o)⟩]
-- WAYS
end Go.Proofs.Ytolhojagbiaamab
/-! The links of the row, plainly. -/
namespace Go.Proofs.Ytolhojagbiaamab
set_option linter.unusedVariables false
set_option maxRecDepth 20000
set_option linter.unusedSimpArgs false

def Lnk (N : Nat → Int) : List Nat → Prop
  | [] => True
  | [a] => N a = -1
  | a :: b :: r => N a = (b : Int) ∧ Lnk N (b :: r)
theorem lnk_same {N N' : Nat → Int} : ∀ {M : List Nat}, (∀ a ∈ M, N' a = N a) → Lnk N M → Lnk N' M
  | [], _, _ => trivial
  | [a], h, hl => (h a (by simp)).trans hl
  | a :: b :: r, h, hl => ⟨(h a (by simp)).trans hl.1, lnk_same (fun x hx => h x (List.mem_cons_of_mem _ hx)) hl.2⟩
theorem upd_ne {N : Nat → Int} {k j : Nat} {v : Int} (h : j ≠ k) : upd N k v j = N j := by unfold upd; rw [if_neg h]
theorem upd_eq (N : Nat → Int) (k : Nat) (v : Int) : upd N k v k = v := by unfold upd; rw [if_pos rfl]
theorem lnk_put {N : Nat → Int} {k b : Nat} : ∀ {X Y : List Nat}, (X ++ b :: Y).Nodup → k ∉ X ++ b :: Y → Lnk N (X ++ b :: Y) → Lnk (upd (upd N k (N b)) b k) (X ++ b :: k :: Y)
  | [], Y, hnd, hk, hl => by
    have hbk : b ≠ k := fun e => hk (by simp [e])
    show Lnk _ (b :: k :: Y)
    refine ⟨upd_eq _ _ _, ?_⟩
    have hkb : upd (upd N k (N b)) b k k = N b := by rw [upd_ne (Ne.symm hbk), upd_eq]
    have hrest : ∀ a ∈ Y, upd (upd N k (N b)) b k a = N a := by
      intro a ha
      rw [upd_ne, upd_ne]
      · exact fun e => hk (by subst e; simp [ha])
      · intro e
        subst e
        exact (List.nodup_cons.1 hnd).1 ha
    match Y, hl, hrest with
    | [], hl, _ => exact hkb.trans hl
    | y :: Y', hl, hrest => exact ⟨hkb.trans hl.1, lnk_same hrest hl.2⟩
  | [x], Y, hnd, hk, hl => by
    have hx : x ≠ b := fun e => by subst e; exact (List.nodup_cons.1 hnd).1 (by simp)
    have hxk : x ≠ k := fun e => hk (by subst e; simp)
    exact ⟨by rw [upd_ne hx, upd_ne hxk]; exact hl.1, lnk_put (X := []) (List.nodup_cons.1 hnd).2 (fun h => hk (List.mem_cons_of_mem _ h)) hl.2⟩
  | x :: z :: X, Y, hnd, hk, hl => by
    have hx : x ≠ b := fun e => by subst e; exact (List.nodup_cons.1 hnd).1 (by simp)
    have hxk : x ≠ k := fun e => hk (by subst e; simp)
    exact ⟨by rw [upd_ne hx, upd_ne hxk]; exact hl.1, lnk_put (X := z :: X) (List.nodup_cons.1 hnd).2 (fun h => hk (List.mem_cons_of_mem _ h)) hl.2⟩
/-- Put in behind the last of a beginning. -/
theorem lnk_behind {N : Nat → Int} {n k : Nat} {X Y : List Nat} (hnd : (n :: (X ++ Y)).Nodup) (hk : k ∉ n :: (X ++ Y)) (hl : Lnk N (n :: (X ++ Y))) :
    Lnk (upd (upd N k (N (X.getLast?.getD n))) (X.getLast?.getD n) k) (n :: (X ++ k :: Y)) := by
  rcases List.eq_nil_or_concat X with rfl | ⟨Z, b, rfl⟩
  · exact lnk_put (X := []) hnd hk hl
  · have e : (Z.concat b).getLast?.getD n = b := by simp
    rw [e]
    have e1 : ∀ W : List Nat, n :: (Z.concat b ++ W) = (n :: Z) ++ b :: W := by intro W; simp
    rw [e1] at hnd hk hl
    rw [e1]
    exact lnk_put hnd hk hl
def lastN (n : Nat) (st : List Tk) : Nat := (Cof st).getLast?.getD n
def actL (n : Nat) : List Tk → List Dd
  | [] => []
  | t :: r => actL n r ++ [⟨lastN n (t :: r), endO t.O.getLast?⟩]
theorem act_len (n : Nat) (st : List Tk) : (actL n st).length = st.length := by
  induction st with
  | nil => rfl
  | cons t r ih => simp [actL, ih]
theorem step_le (i : Nat) (k : Int) (st : List Tk) : (stepT i k st).length ≤ st.length + 1 := by
  cases st with
  | nil => simp [stepT]
  | cons t r =>
    by_cases k0 : k = 0
    · subst k0; rw [st0]; simp
    · by_cases k1 : k = 1
      · subst k1
        cases r with
        | nil => simp [stepT]
        | cons u r' => rw [st1]; simp <;> omega
      · by_cases k2 : k = 2
        · subst k2; rw [st2]; simp
        · rw [st3 _ _ _ _ k0 k1 k2]; simp
theorem st_le (ds : List Dd) (n : Nat) : (stN ds n).length ≤ n + 1 := by
  induction n with
  | zero => simp [stN]
  | succ n ih => have := step_le n ((ds.getD n ⟨3, 0⟩).k) (stN ds n); show (stepT _ _ _).length ≤ _; omega
theorem last_two (a b : List Nat) (n : Nat) : b.getLast?.getD (a.getLast?.getD n) = (a ++ b).getLast?.getD n := by
  rw [List.getLast?_append]
  cases b.getLast? <;> rfl
theorem end_ret (t u : Tk) (k : Nat) : endE ⟨0, endO u.O.getLast?⟩ k = endO ((t.P ++ t.O ++ [k]) ++ u.O).getLast? := by
  rw [List.getLast?_append]
  cases h : u.O.getLast? with
  | none => simp [endE, endO]
  | some q => exact (if_neg (by show ¬ ((q : Nat) : Int) = -1; omega)).trans rfl
end Go.Proofs.Ytolhojagbiaamab
namespace Go.Proofs.Ytolhojagbiaamab
set_option linter.unusedVariables false
set_option maxRecDepth 20000
set_option linter.unusedSimpArgs false
open Go.RowKit Go.HeapKit
set_option maxHeartbeats 4000000 in
theorem add_2s (w : World) (base R n gN gA cap k l : Nat) (ee : Nat)  (N : Nat → Int) (A : List Dd)  (h : RowM w base R n N (A ++ [⟨l, endO (some ee)⟩]) gN gA cap) (hA : A.length ≤ 4999) (hk : k < n) (hn : n ≤ 4096) (hl : l ≤ n) (he : ee ≤ n) (hb : base ≤ w.heap.size) :
    Calls Try.prog 43 #[.pointer (some ⟨R, 0, none⟩), .int .i64 k, .int .i64 2] w fun e w' => e = .returned (.tuple #[]) ∧ (∃ gA' cap', RowM w' base R n (upd (upd N k (N ee)) ee k) (A ++ [⟨k, -1⟩]) gN gA' cap') ∧ Keeps (fun i => base ≤ i) w w' := by
  have HM : Hid (RowM w base R n N (A ++ [⟨l, endO (some ee)⟩]) gN gA cap) := h
  obtain ⟨q, hq⟩ : ∃ q, q = A.length := ⟨_, rfl⟩
  have HQ : Hid (q = A.length) := hq
  obtain ⟨⟨u0, u1⟩, hf, hc⟩ := h.top
  rw [← hq] at u0 u1 hc hA
  have b1 := h.blk
  have hlen : (A ++ [(⟨l, endO (some ee)⟩ : Dd)]).length = q + 1 := by simp [hq]
  rw [hlen] at b1
  have r0 : w.cell? ⟨R, 0, none⟩ = some (.slice (some ⟨gN, 0, none⟩) (n + 1) (n + 1)) := cell_of_heap b1 0
  have r1 : w.cell? ⟨R, 1, none⟩ = some (.slice (some ⟨gA, 0, none⟩) (q + 1) cap) := cell_of_heap b1 1
  have hw1 : IntKind.i64.wrap (q : Int) = (q : Int) := by rw [IntWalk.i64_left]; unfold wrap64; omega
  have hw2 : IntKind.i64.wrap (((q + 1 : Nat) : Int) - 1) = (q : Int) := by rw [IntWalk.i64_left]; unfold wrap64; omega
  have q1 : (q : Int) < ((q + 1 : Nat) : Int) := by omega
  clear h b1 hlen hq
  go_enter Try.func43, Try.ntmps43
  go_wp2_with fail
  go_cut [6] (fun s6 wx => s6 = .pointer (some ⟨gA, q * 2, none⟩) ∧ wx = w.drew)
  case first =>
    go_region
    go_wp2_with fail
    go_meet
    exact ⟨rfl, rfl⟩
  case rest =>
  obtain ⟨rfl, hwc⟩ := hcut
  have hwc' := hwc.symm
  subst hwc'
  have v0 : w.drew.cell? ⟨gA, q * 2, none⟩ = some (.int .i64 l) := u0
  have v1 : w.drew.cell? ⟨gA, q * 2 + 1, none⟩ = some (.int .i64 ee) := u1
  have en : ¬ (ee : Int) = -1 := by omega
  have f0 : w.drew.frozen? ⟨gA, q * 2, none⟩ = false := hf _
  have f1 : w.drew.frozen? ⟨gA, q * 2 + 1, none⟩ = false := hf _
  have f2 : (w.setCell ⟨gA, q * 2, none⟩ (.int .i64 ee)).drew.frozen? ⟨gA, q * 2 + 1, none⟩ = false := by have := (HM.out.putK ee).1.top.2.1 (q * 2 + 1); rw [← HQ.out] at this; exact this
  have f3 : (w.setCell ⟨gA, q * 2, none⟩ (.int .i64 ee)).frozen? ⟨gA, q * 2 + 1, none⟩ = false := f2
  have v2 : (w.setCell ⟨gA, q * 2, none⟩ (.int .i64 ee)).drew.cell? ⟨gA, q * 2 + 1, none⟩ = some (.int .i64 ee) := by have := (HM.out.putK ee).1.top.1.c1; rw [← HQ.out] at this; exact this
  have v3 : (w.setCell ⟨gA, q * 2, none⟩ (.int .i64 ee)).cell? ⟨gA, q * 2 + 1, none⟩ = some (.int .i64 ee) := v2
  clear r0 r1 u0 u1 hf
  go_upto_region 3 with fail
  have hR : RowM ((w.setCell ⟨gA, q * 2, none⟩ (.int .i64 ee)).setCell ⟨gA, q * 2 + 1, none⟩ (.int .i64 (-1))) base R n N (A ++ [⟨ee, -1⟩]) gN gA cap ∧ Keeps (fun i => base ≤ i) w ((w.setCell ⟨gA, q * 2, none⟩ (.int .i64 ee)).setCell ⟨gA, q * 2 + 1, none⟩ (.int .i64 (-1))) := by
    have h1 := HM.out.putK ee
    have h2 := h1.1.putL (-1)
    rw [HQ.out]
    exact ⟨h2.1, h1.2.trans h2.2 (fun _ e _ => e)⟩
  obtain ⟨w1, hw⟩ : ∃ w1, w1 = ((w.setCell ⟨gA, q * 2, none⟩ (.int .i64 ee)).setCell ⟨gA, q * 2 + 1, none⟩ (.int .i64 (-1))).drew := ⟨_, rfl⟩
  have hR1 : RowM w1 base R n N (A ++ [⟨ee, -1⟩]) gN gA cap ∧ Keeps (fun i => base ≤ i) w w1 := by rw [hw]; exact ⟨hR.1.more (Keeps.drew None _), hR.2.andDrew⟩
  rw [← hw]
  obtain ⟨⟨u0, u1⟩, hf, _⟩ := hR1.1.top
  rw [← HQ.out] at u0 u1
  have r0 : w1.cell? ⟨R, 0, none⟩ = some (.slice (some ⟨gN, 0, none⟩) (n + 1) (n + 1)) := cell_of_heap hR1.1.blk 0
  have nb : w1.cell? ⟨gN, ee, none⟩ = some (.int .i64 (N ee)) := (cell_of_heap hR1.1.nums _).trans (nums_at _ _ (by omega))
  have nk : w1.cell? ⟨gN, k, none⟩ = some (.int .i64 (N k)) := (cell_of_heap hR1.1.nums _).trans (nums_at _ _ (by omega))
  have g0 := blk_free hR1.1.nums k
  have g1 := blk_free hR1.1.nums ee
  have i0 : (k : Int) < ((n + 1 : Nat) : Int) := by omega
  have i1 : (ee : Int) < ((n + 1 : Nat) : Int) := by omega
  have i2 : k < n + 1 := by omega
  have i3 : ee < n + 1 := by omega
  have hP := (hR1.1.putN k (N ee)).1
  have nb2 : (w1.setCell ⟨gN, k, none⟩ (.int .i64 (N ee))).cell? ⟨gN, ee, none⟩ = some (.int .i64 (N ee)) := (cell_of_heap hP.nums _).trans ((nums_at _ _ (by omega)).trans (by unfold upd; split <;> rfl))
  have g2 := blk_free hP.nums ee
  have nb3 : (w1.setCell ⟨gN, k, none⟩ (.int .i64 (N ee))).drew.cell? ⟨gN, ee, none⟩ = some (.int .i64 (N ee)) := nb2
  have g3 : (w1.setCell ⟨gN, k, none⟩ (.int .i64 (N ee))).drew.frozen? ⟨gN, ee, none⟩ = false := g2
  have HR1 : Hid _ := hR1
  clear hR hR1 hw v0 v1 f0 f1 HM hf hP
  have HI : Hid (∀ w2 : World, w2 = ((w1.setCell ⟨gN, k, none⟩ (.int .i64 (N ee))).setCell ⟨gN, ee, none⟩ (.int .i64 k)) → RowM w2.drew base R n (upd (upd N k (N ee)) ee k) (A ++ [⟨ee, -1⟩]) gN gA cap ∧ Keeps (fun i => base ≤ i) w w2.drew) := by
    intro w2 e
    have h1 := HR1.out.1.putN k (N ee)
    have h2 := h1.1.putN ee k
    rw [e]
    exact ⟨h2.1.more (Keeps.drew None _), ((HR1.out.2.trans h1.2 (fun _ e _ => e)).trans h2.2 (fun _ e _ => e)).andDrew⟩
  go_cut [6] (fun s6 wx => s6 = .pointer (some ⟨gA, q * 2, none⟩) ∧ RowM wx base R n (upd (upd N k (N ee)) ee k) (A ++ [⟨ee, -1⟩]) gN gA cap ∧ Keeps (fun i => base ≤ i) w wx)
  case first =>
    go_region
    go_wp2_with fail
    go_meet
    exact ⟨rfl, HI.out _ rfl⟩
  case rest =>
  obtain ⟨rfl, hR2, hk2⟩ := hcut
  obtain ⟨w2, hw2⟩ : ∃ w2, w2 = wc := ⟨_, rfl⟩
  rw [← hw2] at hR2 hk2 ⊢
  clear hw2 HI HR1 r0 nb nk g0 g1 u0 u1 nb2 nb3 g2 g3
  obtain ⟨⟨u0, u1⟩, hf, _⟩ := hR2.top
  rw [← HQ.out] at u0 u1
  have f0 := hf (q * 2)
  have hR3 := hR2.putK k
  rw [← HQ.out] at hR3
  clear hf
  go_upto_region 5 with fail
  obtain ⟨w3, hw3⟩ : ∃ w3, w3 = w2.setCell ⟨gA, q * 2, none⟩ (.int .i64 k) := ⟨_, rfl⟩
  rw [← hw3] at hR3
  rw [← hw3]
  clear hw3 u0 u1 f0
  have HN : Hid _ := hR3
  have HK : Hid _ := hk2.trans hR3.2 (fun _ e _ => e)
  clear hR2 hk2 hR3
  go_wp2
  go_end0
  exact ⟨rfl, ⟨_, _, HN.out.1⟩, HK.out⟩
set_option maxHeartbeats 4000000 in
theorem add_2n (w : World) (base R n gN gA cap k l : Nat)   (N : Nat → Int) (A : List Dd)  (h : RowM w base R n N (A ++ [⟨l, endO none⟩]) gN gA cap) (hA : A.length ≤ 4999) (hk : k < n) (hn : n ≤ 4096) (hl : l ≤ n) (hb : base ≤ w.heap.size) :
    Calls Try.prog 43 #[.pointer (some ⟨R, 0, none⟩), .int .i64 k, .int .i64 2] w fun e w' => e = .returned (.tuple #[]) ∧ (∃ gA' cap', RowM w' base R n (upd (upd N k (N l)) l k) (A ++ [⟨k, -1⟩]) gN gA' cap') ∧ Keeps (fun i => base ≤ i) w w' := by
  have HM : Hid (RowM w base R n N (A ++ [⟨l, endO none⟩]) gN gA cap) := h
  obtain ⟨q, hq⟩ : ∃ q, q = A.length := ⟨_, rfl⟩
  have HQ : Hid (q = A.length) := hq
  obtain ⟨⟨u0, u1⟩, hf, hc⟩ := h.top
  rw [← hq] at u0 u1 hc hA
  have b1 := h.blk
  have hlen : (A ++ [(⟨l, endO none⟩ : Dd)]).length = q + 1 := by simp [hq]
  rw [hlen] at b1
  have r0 : w.cell? ⟨R, 0, none⟩ = some (.slice (some ⟨gN, 0, none⟩) (n + 1) (n + 1)) := cell_of_heap b1 0
  have r1 : w.cell? ⟨R, 1, none⟩ = some (.slice (some ⟨gA, 0, none⟩) (q + 1) cap) := cell_of_heap b1 1
  have hw1 : IntKind.i64.wrap (q : Int) = (q : Int) := by rw [IntWalk.i64_left]; unfold wrap64; omega
  have hw2 : IntKind.i64.wrap (((q + 1 : Nat) : Int) - 1) = (q : Int) := by rw [IntWalk.i64_left]; unfold wrap64; omega
  have q1 : (q : Int) < ((q + 1 : Nat) : Int) := by omega
  clear h b1 hlen hq
  go_enter Try.func43, Try.ntmps43
  go_wp2_with fail
  go_cut [6] (fun s6 wx => s6 = .pointer (some ⟨gA, q * 2, none⟩) ∧ wx = w.drew)
  case first =>
    go_region
    go_wp2_with fail
    go_meet
    exact ⟨rfl, rfl⟩
  case rest =>
  obtain ⟨rfl, hwc⟩ := hcut
  have hwc' := hwc.symm
  subst hwc'
  have v0 : w.drew.cell? ⟨gA, q * 2, none⟩ = some (.int .i64 l) := u0
  have v1 : w.drew.cell? ⟨gA, q * 2 + 1, none⟩ = some (.int .i64 (-1)) := u1
  have f0 : w.drew.frozen? ⟨gA, q * 2, none⟩ = false := hf _
  have f1 : w.drew.frozen? ⟨gA, q * 2 + 1, none⟩ = false := hf _
  clear r0 r1 u0 u1 hf
  go_upto_region 3 with fail
  have hR : RowM w base R n N (A ++ [⟨l, -1⟩]) gN gA cap ∧ Keeps (fun i => base ≤ i) w w := ⟨HM.out, Keeps.refl _ _⟩
  obtain ⟨w1, hw⟩ : ∃ w1, w1 = w.drew := ⟨_, rfl⟩
  have hR1 : RowM w1 base R n N (A ++ [⟨l, -1⟩]) gN gA cap ∧ Keeps (fun i => base ≤ i) w w1 := by rw [hw]; exact ⟨hR.1.more (Keeps.drew None _), hR.2.andDrew⟩
  rw [← hw]
  obtain ⟨⟨u0, u1⟩, hf, _⟩ := hR1.1.top
  rw [← HQ.out] at u0 u1
  have r0 : w1.cell? ⟨R, 0, none⟩ = some (.slice (some ⟨gN, 0, none⟩) (n + 1) (n + 1)) := cell_of_heap hR1.1.blk 0
  have nb : w1.cell? ⟨gN, l, none⟩ = some (.int .i64 (N l)) := (cell_of_heap hR1.1.nums _).trans (nums_at _ _ (by omega))
  have nk : w1.cell? ⟨gN, k, none⟩ = some (.int .i64 (N k)) := (cell_of_heap hR1.1.nums _).trans (nums_at _ _ (by omega))
  have g0 := blk_free hR1.1.nums k
  have g1 := blk_free hR1.1.nums l
  have i0 : (k : Int) < ((n + 1 : Nat) : Int) := by omega
  have i1 : (l : Int) < ((n + 1 : Nat) : Int) := by omega
  have i2 : k < n + 1 := by omega
  have i3 : l < n + 1 := by omega
  have hP := (hR1.1.putN k (N l)).1
  have nb2 : (w1.setCell ⟨gN, k, none⟩ (.int .i64 (N l))).cell? ⟨gN, l, none⟩ = some (.int .i64 (N l)) := (cell_of_heap hP.nums _).trans ((nums_at _ _ (by omega)).trans (by unfold upd; split <;> rfl))
  have g2 := blk_free hP.nums l
  have nb3 : (w1.setCell ⟨gN, k, none⟩ (.int .i64 (N l))).drew.cell? ⟨gN, l, none⟩ = some (.int .i64 (N l)) := nb2
  have g3 : (w1.setCell ⟨gN, k, none⟩ (.int .i64 (N l))).drew.frozen? ⟨gN, l, none⟩ = false := g2
  have HR1 : Hid _ := hR1
  clear hR hR1 hw v0 v1 f0 f1 HM hf hP
  have HI : Hid (∀ w2 : World, w2 = ((w1.setCell ⟨gN, k, none⟩ (.int .i64 (N l))).setCell ⟨gN, l, none⟩ (.int .i64 k)) → RowM w2.drew base R n (upd (upd N k (N l)) l k) (A ++ [⟨l, -1⟩]) gN gA cap ∧ Keeps (fun i => base ≤ i) w w2.drew) := by
    intro w2 e
    have h1 := HR1.out.1.putN k (N l)
    have h2 := h1.1.putN l k
    rw [e]
    exact ⟨h2.1.more (Keeps.drew None _), ((HR1.out.2.trans h1.2 (fun _ e _ => e)).trans h2.2 (fun _ e _ => e)).andDrew⟩
  go_cut [6] (fun s6 wx => s6 = .pointer (some ⟨gA, q * 2, none⟩) ∧ RowM wx base R n (upd (upd N k (N l)) l k) (A ++ [⟨l, -1⟩]) gN gA cap ∧ Keeps (fun i => base ≤ i) w wx)
  case first =>
    go_region
    go_wp2_with fail
    go_meet
    exact ⟨rfl, HI.out _ rfl⟩
  case rest =>
  obtain ⟨rfl, hR2, hk2⟩ := hcut
  obtain ⟨w2, hw2⟩ : ∃ w2, w2 = wc := ⟨_, rfl⟩
  rw [← hw2] at hR2 hk2 ⊢
  clear hw2 HI HR1 r0 nb nk g0 g1 u0 u1 nb2 nb3 g2 g3
  obtain ⟨⟨u0, u1⟩, hf, _⟩ := hR2.top
  rw [← HQ.out] at u0 u1
  have f0 := hf (q * 2)
  have hR3 := hR2.putK k
  rw [← HQ.out] at hR3
  clear hf
  go_upto_region 5 with fail
  obtain ⟨w3, hw3⟩ : ∃ w3, w3 = w2.setCell ⟨gA, q * 2, none⟩ (.int .i64 k) := ⟨_, rfl⟩
  rw [← hw3] at hR3
  rw [← hw3]
  clear hw3 u0 u1 f0
  have HN : Hid _ := hR3
  have HK : Hid _ := hk2.trans hR3.2 (fun _ e _ => e)
  clear hR2 hk2 hR3
  go_wp2
  go_end0
  exact ⟨rfl, ⟨_, _, HN.out.1⟩, HK.out⟩
end Go.Proofs.Ytolhojagbiaamab
