import Derived.Test.YtheginjjncnheaaHoPlain
/-! The search for an order, plainly: what is met and not to be done is done with. -/
namespace Go.Proofs.Ytheginjjncnheaa
set_option linter.unusedVariables false
set_option maxRecDepth 20000
open Go.RowKit Go.HeapKit

/-- Every step from here leads to what is met. -/
def Succ (l : List Cl) (most : Nat) (x : C4) (zs : List Int) (Q : C4 → Prop) : Prop := ∀ i, i < 4 → ∀ (q : Nat) (y : Cl), nxt l x i = some (q : Int) → l[q]? = some y → inB l x y 4 = true → alwB most zs y = true → Q (x.inc i)
def Met (M : List (C4 × Int)) (y : C4) : Prop := (lookM M y).isSome = true
/-- How each state that is met was come to. -/
def Path (l : List Cl) (most : Nat) (M : List (C4 × Int)) : Prop := ∀ k j, lookM M k = some j → (k = c0 ∧ j = -1) ∨ ∃ (k' : C4) (i q : Nat) (y : Cl) (zs : List Int), i < 4 ∧ k = k'.inc i ∧ j = (q : Int) ∧ nxt l k' i = some (q : Int) ∧ l[q]? = some y ∧ Rch l most k' zs ∧ inB l k' y 4 = true ∧ alwB most zs y = true
structure Full (l : List Cl) (most : Nat) (P : Pl2) : Prop where
  path : Path l most P.1
  start : Met P.1 c0
  all : ∀ y, Met P.1 y → (∃ zs, (y, zs) ∈ P.2) ∨ (thrB l y 4 = false ∧ ∃ zs, Rch l most y zs ∧ Succ l most y zs (Met P.1))
/-- A search that found nothing. -/
def Shut (l : List Cl) (most : Nat) : Prop := ∃ Q : C4 → Prop, Q c0 ∧ ∀ y, Q y → thrB l y 4 = false ∧ ∃ zs, Rch l most y zs ∧ Succ l most y zs Q
theorem Succ.mono {l : List Cl} {most : Nat} {x : C4} {zs : List Int} {Q R : C4 → Prop} (h : Succ l most x zs Q) (hq : ∀ y, Q y → R y) : Succ l most x zs R := fun i hi q y h1 h2 h3 h4 => hq _ (h i hi q y h1 h2 h3 h4)
theorem Full.shut {l : List Cl} {most : Nat} {M : List (C4 × Int)} (h : Full l most (M, [])) : Shut l most := ⟨Met M, h.start, fun y hy => by
  rcases h.all y hy with ⟨zs, hz⟩ | h1
  · cases hz
  · exact h1⟩
theorem goI_cases (l : List Cl) (most : Nat) (x : C4) (zs : List Int) (P : Pl2) (i : Nat) : goI l most x zs P i = P ∨ ∃ j v, goI l most x zs P i = (P.1 ++ [(x.inc i, j)], P.2 ++ [(x.inc i, v)]) := by
  unfold goI
  split
  · exact .inl rfl
  · split
    · exact .inr ⟨_, _, rfl⟩
    · exact .inl rfl
theorem goI_met {l : List Cl} {most : Nat} {x : C4} {zs : List Int} {P : Pl2} {i : Nat} {y : C4} (h : Met P.1 y) : Met (goI l most x zs P i).1 y := by
  rcases goI_cases l most x zs P i with e | ⟨j, v, e⟩
  · rw [e]; exact h
  · rw [e]; exact look_some_push h
theorem goI_todo {l : List Cl} {most : Nat} {x : C4} {zs : List Int} {P : Pl2} {i : Nat} {t : C4 × List Int} (h : t ∈ P.2) : t ∈ (goI l most x zs P i).2 := by
  rcases goI_cases l most x zs P i with e | ⟨j, v, e⟩
  · rw [e]; exact h
  · rw [e]; exact List.mem_append_left _ h
theorem goI_new {l : List Cl} {most : Nat} {x : C4} {zs : List Int} {P : Pl2} {i : Nat} {y : C4} (h : Met (goI l most x zs P i).1 y) : Met P.1 y ∨ ∃ v, (y, v) ∈ (goI l most x zs P i).2 := by
  rcases goI_cases l most x zs P i with e | ⟨j, v, e⟩
  · rw [e] at h; exact .inl h
  · rw [e] at h ⊢
    unfold Met at h ⊢
    simp only at h ⊢
    rw [look_push] at h
    cases hq : lookM P.1 y with
    | some z => exact .inl rfl
    | none =>
      rw [hq] at h
      simp only at h
      split at h
      · rename_i ey
        subst ey
        exact .inr ⟨v, by simp⟩
      · cases h
theorem goI_succ {l : List Cl} {most : Nat} {x : C4} {zs : List Int} {P : Pl2} {i q : Nat} {y : Cl} (h1 : nxt l x i = some (q : Int)) (h2 : l[q]? = some y) (h3 : inB l x y 4 = true) (h4 : alwB most zs y = true) : Met (goI l most x zs P i).1 (x.inc i) := by
  cases hq : lookM P.1 (x.inc i) with
  | some z => exact goI_met (by unfold Met; rw [hq]; rfl)
  | none =>
    rw [goI_yes h1 h2 ⟨h3, hq, h4⟩]
    unfold Met
    simp only
    rw [look_push, hq]
    simp
theorem goK_all (l : List Cl) (most : Nat) (x : C4) (zs : List Int) (P : Pl2) : ∀ k, k ≤ 4 → (∀ y, Met P.1 y → Met (goK l most x zs P k).1 y) ∧ (∀ t, t ∈ P.2 → t ∈ (goK l most x zs P k).2) ∧ (∀ y, Met (goK l most x zs P k).1 y → Met P.1 y ∨ ∃ v, (y, v) ∈ (goK l most x zs P k).2) ∧ (∀ i, i < k → ∀ (q : Nat) (y : Cl), nxt l x i = some (q : Int) → l[q]? = some y → inB l x y 4 = true → alwB most zs y = true → Met (goK l most x zs P k).1 (x.inc i))
  | 0, _ => ⟨fun _ h => h, fun _ h => h, fun _ h => .inl h, fun i hi => absurd hi (by omega)⟩
  | k + 1, hk => by
    obtain ⟨h1, h2, h3, h4⟩ := goK_all l most x zs P k (by omega)
    rw [goK_more]
    refine ⟨fun y h => goI_met (h1 y h), fun t h => goI_todo (h2 t h), fun y h => ?_, fun i hi q y e1 e2 e3 e4 => ?_⟩
    · rcases goI_new h with h | h
      · rcases h3 y h with h | ⟨v, h⟩
        · exact .inl h
        · exact .inr ⟨v, goI_todo h⟩
      · exact .inr h
    · by_cases e : i = k
      · subst e
        exact goI_succ e1 e2 e3 e4
      · exact goI_met (h4 i (by omega) q y e1 e2 e3 e4)
theorem goI_path {l : List Cl} {most : Nat} {x : C4} {zs : List Int} {P : Pl2} {i : Nat} (hi : i < 4) (hr : Rch l most x zs) (h : Path l most P.1) : Path l most (goI l most x zs P i).1 := by
  cases hn : nxt l x i with
  | none => rw [goI_none hn]; exact h
  | some j =>
    obtain ⟨q, rfl, hq, hqw⟩ := nxt_is hn
    obtain ⟨y, hy⟩ : ∃ y, l[q]? = some y := ⟨l[q], by simp⟩
    by_cases hc : inB l x y 4 = true ∧ lookM P.1 (x.inc i) = none ∧ alwB most zs y = true
    · rw [goI_yes hn hy hc]
      intro k j hk
      simp only at hk
      rw [look_push] at hk
      cases hq2 : lookM P.1 k with
      | some z =>
        rw [hq2] at hk
        simp at hk
        subst hk
        exact h k _ hq2
      | none =>
        rw [hq2] at hk
        simp at hk
        obtain ⟨rfl, rfl⟩ := hk
        exact .inr ⟨x, i, q, y, zs, hi, rfl, rfl, hn, hy, hr, hc.1, hc.2.2⟩
    · rw [goI_not hn hy hc]
      exact h
theorem goK_path {l : List Cl} {most : Nat} {x : C4} {zs : List Int} {P : Pl2} (hr : Rch l most x zs) (h : Path l most P.1) : ∀ k, k ≤ 4 → Path l most (goK l most x zs P k).1
  | 0, _ => h
  | k + 1, hk => by
    rw [goK_more]
    exact goI_path (by omega) hr (goK_path hr h k (by omega))
theorem Full.goK {l : List Cl} {most : Nat} {x : C4} {zs : List Int} {M : List (C4 × Int)} {T : List (C4 × List Int)} (h : Full l most (M, T ++ [(x, zs)])) (hr : Rch l most x zs) (ht : thrB l x 4 = false) : Full l most (Go.Proofs.Ytheginjjncnheaa.goK l most x zs (M, T) 4) := by
  obtain ⟨h1, h2, h3, h4⟩ := goK_all l most x zs (M, T) 4 (by omega)
  refine ⟨goK_path (P := (M, T)) hr h.path 4 (by omega), h1 _ h.start, fun y hy => ?_⟩
  rcases h3 y hy with hy | hy
  · rcases h.all y hy with ⟨v, hv⟩ | ⟨q1, z, q2, q3⟩
    · rcases List.mem_append.1 hv with hv | hv
      · exact .inl ⟨v, h2 _ hv⟩
      · rw [List.mem_singleton, Prod.mk.injEq] at hv
        obtain ⟨rfl, rfl⟩ := hv
        exact .inr ⟨ht, v, hr, h4⟩
    · exact .inr ⟨q1, z, q2, q3.mono h1⟩
  · exact .inl hy
theorem shut_nil {most : Nat} (h : Shut [] most) : False := by
  obtain ⟨Q, h1, h2⟩ := h
  have h3 := (h2 _ h1).1
  revert h3
  decide
end Go.Proofs.Ytheginjjncnheaa
