import Derived.Test.YtheginjjncnheaaHrKnown
/-! The document's search for an order, plainly: row by row. -/
namespace Go.Proofs.Ytheginjjncnheaa
set_option linter.unusedVariables false
set_option maxRecDepth 20000
set_option linter.unusedSimpArgs false
open Go.RowKit Go.HeapKit

abbrev LL := List (C4 × List Int)
def stepC (l : List Cl) (most : Nat) (x : C4) (zs : List Int) (T : LL) (i : Nat) (y : Cl) : Prop := inB l x y 4 = true ∧ alwB most zs y = true ∧ lookM (toM T) (x.inc i) = none
instance (l : List Cl) (most : Nat) (x : C4) (zs : List Int) (T : LL) (i : Nat) (y : Cl) : Decidable (stepC l most x zs T i y) := by unfold stepC; infer_instance
def stepL (l : List Cl) (most : Nat) (x : C4) (zs : List Int) (T : LL) (i : Nat) : LL := match nxt l x i with
  | none => T
  | some j => if stepC l most x zs T i (clAt l j) then T ++ [(x.inc i, alwZ most zs (clAt l j))] else T
theorem stepL_none {l : List Cl} {most : Nat} {x : C4} {zs : List Int} {T : LL} {i : Nat} (h : nxt l x i = none) : stepL l most x zs T i = T := by unfold stepL; rw [h]
theorem stepL_not {l : List Cl} {most : Nat} {x : C4} {zs : List Int} {T : LL} {i q : Nat} {y : Cl} (h : nxt l x i = some (q : Int)) (hy : l[q]? = some y) (hn : ¬ stepC l most x zs T i y) : stepL l most x zs T i = T := by
  unfold stepL
  rw [h]
  show (if stepC l most x zs T i (clAt l ((q : Nat) : Int)) then _ else _) = _
  rw [clAt_of hy, if_neg hn]
theorem stepL_yes {l : List Cl} {most : Nat} {x : C4} {zs : List Int} {T : LL} {i q : Nat} {y : Cl} (h : nxt l x i = some (q : Int)) (hy : l[q]? = some y) (hn : stepC l most x zs T i y) : stepL l most x zs T i = T ++ [(x.inc i, alwZ most zs y)] := by
  unfold stepL
  rw [h]
  show (if stepC l most x zs T i (clAt l ((q : Nat) : Int)) then T ++ [(x.inc i, alwZ most zs (clAt l ((q : Nat) : Int)))] else _) = _
  rw [clAt_of hy, if_pos hn]
theorem toM_app (T : LL) (t : C4 × List Int) : toM (T ++ [t]) = toM T ++ [(t.1, 0)] := by simp [toM]
/-- What holds of a row of states. -/
structure Lev (l : List Cl) (most k : Nat) (T : LL) : Prop where
  ok : ∀ t ∈ T, Rch l most t.1 t.2 ∧ InC l t.1 ∧ t.1.sum = k
  few : T.length + unmet (toM T) ≤ 2825761
theorem Lev.nil (l : List Cl) (most k : Nat) : Lev l most k [] := ⟨(fun t ht => by cases ht), by rw [List.length_nil, Nat.zero_add]; exact unmet_le _⟩
theorem Lev.step {l : List Cl} {most k : Nat} {T : LL} (h : Lev l most (k + 1) T) (h40 : l.length ≤ 40) {x : C4} {zs : List Int} (hr : Rch l most x zs) (hx : InC l x) (hs : x.sum = k) {i : Nat} (hi : i < 4) : Lev l most (k + 1) (stepL l most x zs T i) := by
  cases hn : nxt l x i with
  | none => rw [stepL_none hn]; exact h
  | some j =>
    obtain ⟨q, rfl, hq, hqw⟩ := nxt_is hn
    obtain ⟨y, hy⟩ : ∃ y, l[q]? = some y := ⟨l[q], by simp⟩
    by_cases hc : stepC l most x zs T i y
    · rw [stepL_yes hn hy hc]
      have hin := hx.inc hi hn
      refine ⟨fun t ht => ?_, ?_⟩
      · rcases List.mem_append.1 ht with ht | ht
        · exact h.ok t ht
        · rw [List.mem_singleton] at ht
          subst ht
          exact ⟨.more hr hi hn hy hc.1 hc.2.1, hin, by rw [C4.sum_inc _ hi, hs]⟩
      · rw [toM_app]
        have h1 := unmet_push (v := 0) hc.2.2 (hin.small h40)
        have := h.few
        simp only [List.length_append, List.length_singleton]
        omega
    · rw [stepL_not hn hy hc]
      exact h
theorem stepL_mono {l : List Cl} {most : Nat} {x : C4} {zs : List Int} {T : LL} {i : Nat} {y : C4} (h : Met (toM T) y) : Met (toM (stepL l most x zs T i)) y := by
  unfold stepL
  split
  · exact h
  · split
    · rw [toM_app]; exact look_some_push h
    · exact h
theorem stepL_new {l : List Cl} {most : Nat} {x : C4} {zs : List Int} {T : LL} {i q : Nat} {y : Cl} (h1 : nxt l x i = some (q : Int)) (h2 : l[q]? = some y) (h3 : inB l x y 4 = true) (h4 : alwB most zs y = true) : Met (toM (stepL l most x zs T i)) (x.inc i) := by
  cases hq : lookM (toM T) (x.inc i) with
  | some z => exact stepL_mono (by unfold Met; rw [hq]; rfl)
  | none =>
    rw [stepL_yes h1 h2 ⟨h3, h4, hq⟩, toM_app]
    unfold Met
    rw [look_push, hq]
    simp
/-- What has been looked at: the states ahead of number i, and of the state number i the actors below u. -/
structure Cov (l : List Cl) (most : Nat) (R T : LL) (i u : Nat) : Prop where
  thr : ∀ j t, j < i ∨ (j = i ∧ 0 < u) → R[j]? = some t → thrB l t.1 4 = false
  all : ∀ j t, j < i → R[j]? = some t → Succ l most t.1 t.2 (Met (toM T))
  part : ∀ t, R[i]? = some t → ∀ a, a < u → ∀ (q : Nat) (y : Cl), nxt l t.1 a = some (q : Int) → l[q]? = some y → inB l t.1 y 4 = true → alwB most t.2 y = true → Met (toM T) (t.1.inc a)
theorem Cov.nil (l : List Cl) (most : Nat) (R : LL) : Cov l most R [] 0 0 := ⟨fun j t h => absurd h (by omega), fun j t h => absurd h (by omega), fun t _ a h => absurd h (by omega)⟩
theorem Cov.step {l : List Cl} {most : Nat} {R T : LL} {i u : Nat} {x : C4} {zs : List Int} (h : Cov l most R T i u) (hR : R[i]? = some (x, zs)) (ht : thrB l x 4 = false) : Cov l most R (stepL l most x zs T u) i (u + 1) := by
  refine ⟨fun j t hj hjt => ?_, fun j t hj hjt => (h.all j t hj hjt).mono (fun _ hm => stepL_mono hm), fun t htt a ha q y h1 h2 h3 h4 => ?_⟩
  · rcases hj with hj | hj
    · exact h.thr j t (.inl hj) hjt
    · rw [hj.1, hR] at hjt
      injection hjt with hjt
      subst hjt
      exact ht
  · have e : t = (x, zs) := by rw [hR] at htt; injection htt with htt; exact htt.symm
    subst e
    by_cases ea : a = u
    · subst ea
      exact stepL_new h1 h2 h3 h4
    · exact stepL_mono (h.part _ htt a (by omega) q y h1 h2 h3 h4)
theorem Cov.next {l : List Cl} {most : Nat} {R T : LL} {i : Nat} (h : Cov l most R T i 4) : Cov l most R T (i + 1) 0 := by
  refine ⟨fun j t hj hjt => ?_, fun j t hj hjt => ?_, fun t _ a ha => absurd ha (by omega)⟩
  · exact h.thr j t (by omega) hjt
  · by_cases e : j = i
    · subst e
      exact fun a ha q y h1 h2 h3 h4 => h.part t hjt a ha q y h1 h2 h3 h4
    · exact h.all j t (by omega) hjt
/-- A row that has all states with so many calls done, where none ahead of it is through. -/
structure Row (l : List Cl) (most k : Nat) (T : LL) : Prop where
  lev : Lev l most k T
  all : ∀ x zs, Rch l most x zs → x.sum = k → Met (toM T) x
  old : ∀ x zs, Rch l most x zs → x.sum < k → thrB l x 4 = false
theorem Row.first (l : List Cl) (most : Nat) : Row l most 0 [(c0, [])] := by
  refine ⟨⟨fun t ht => ?_, ?_⟩, fun x zs hr hs => ?_, fun x zs _ hs => absurd hs (by omega)⟩
  · rw [List.mem_singleton] at ht
    subst ht
    refine ⟨.nil, fun i hi => ?_, rfl⟩
    rcases i with _ | _ | _ | _ | i
    · simp [c0, C4.at]
    · simp [c0, C4.at]
    · simp [c0, C4.at]
    · simp [c0, C4.at]
    · omega
  · have h1 := unmet_push (M := []) (k := c0) (v := 0) rfl (by decide)
    have h2 := unmet_le []
    have e : toM [(c0, [])] = [] ++ [(c0, 0)] := rfl
    rw [e, List.length_singleton]
    generalize unmet ([] ++ [(c0, 0)]) = A at *
    generalize unmet [] = B at *
    omega
  · cases hr with
    | nil => simp [Met, lookM, toM]
    | more _ hi => rw [C4.sum_inc _ hi] at hs; omega
theorem Met.mem {T : LL} {x : C4} (h : Met (toM T) x) : ∃ (j : Nat) (t : C4 × List Int), T[j]? = some t ∧ t.1 = x := by
  obtain ⟨t, h1, h2⟩ := look_mem.1 h
  obtain ⟨j, hj⟩ := List.mem_iff_getElem?.1 h1
  exact ⟨j, t, hj, h2⟩
theorem Row.later {l : List Cl} {most k : Nat} {R T : LL} (hh : histB l = true) (h : Row l most k R) (hl : Lev l most (k + 1) T) (hc : Cov l most R T R.length 0) : Row l most (k + 1) T := by
  refine ⟨hl, fun x zs hr hs => ?_, fun x zs hr hs => ?_⟩
  · cases hr with
    | nil => simp [c0, C4.sum] at hs
    | @more x zs i q y hr hi hn hy hin ha =>
      rw [C4.sum_inc _ hi] at hs
      obtain ⟨j, t, hj, rfl⟩ := (h.all _ _ hr (by omega)).mem
      have e := hr.same hh (h.lev.ok t (List.mem_of_getElem? hj)).1
      subst e
      exact hc.all j t (List.getElem?_eq_some_iff.1 hj).1 hj i hi q y hn hy hin ha
  · by_cases e : x.sum < k
    · exact h.old x zs hr e
    · obtain ⟨j, t, hj, rfl⟩ := (h.all x zs hr (by omega)).mem
      exact hc.thr j t (.inl (List.getElem?_eq_some_iff.1 hj).1) hj
theorem Row.none {l : List Cl} {most k : Nat} (h : Row l most k []) : ∀ x zs, Rch l most x zs → thrB l x 4 = false := by
  have hk : ∀ x zs, Rch l most x zs → x.sum < k := fun x zs hr => by
    induction hr with
    | nil =>
      rcases Nat.eq_zero_or_pos k with e | e
      · subst e
        have := h.all _ _ .nil rfl
        simp [Met, lookM, toM] at this
      · exact e
    | @more x zs i q y hr hi hn hy hin ha ih =>
      rcases Nat.lt_or_ge (x.inc i).sum k with e | e
      · exact e
      · have e2 : (x.inc i).sum = k := by rw [C4.sum_inc _ hi] at e ⊢; omega
        have := h.all _ _ (.more hr hi hn hy hin ha) e2
        simp [Met, lookM, toM] at this
  exact fun x zs hr => h.old x zs hr (hk x zs hr)
end Go.Proofs.Ytheginjjncnheaa
