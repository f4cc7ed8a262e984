import Derived.Test.YtheginjjncnheaaHoGo
import Derived.Test.YtheginjjncnheaaHoWay
/-! The search for an order, plainly: what is met can be reached; the search ends. -/
namespace Go.Proofs.Ytheginjjncnheaa
set_option linter.unusedVariables false
set_option maxRecDepth 20000
open Go.RowKit Go.HeapKit

inductive Rch (l : List Cl) (most : Nat) : C4 → List Int → Prop
  | nil : Rch l most c0 []
  | more {x : C4} {zs : List Int} {i q : Nat} {y : Cl} : Rch l most x zs → i < 4 → nxt l x i = some (q : Int) → l[q]? = some y → inB l x y 4 = true → alwB most zs y = true → Rch l most (x.inc i) (alwZ most zs y)
theorem alwZ_len (most : Nat) (zs : List Int) (y : Cl) : (alwZ most zs y).length ≤ zs.length + 1 := by
  unfold alwZ ansD
  repeat' split
  all_goals simp
  all_goals omega
theorem Rch.len {l : List Cl} {most : Nat} {x : C4} {zs : List Int} (h : Rch l most x zs) : zs.length ≤ x.sum := by
  induction h with
  | nil => simp [c0, C4.sum]
  | more h1 hi hn hy hin ha ih =>
    have := alwZ_len most ‹List Int› ‹Cl›
    rw [C4.sum_inc _ hi]
    omega
theorem InC.inc {l : List Cl} {x : C4} {i : Nat} {j : Int} (h : InC l x) (hi : i < 4) (hn : nxt l x i = some j) : InC l (x.inc i) := fun k hk => by
  rw [C4.at_inc x hi hk]
  have h1 := (List.getElem?_eq_some_iff.1 hn).1
  split
  · rename_i e
    subst e
    omega
  · exact h k hk
theorem InC.small {l : List Cl} {x : C4} (h : InC l x) (h40 : l.length ≤ 40) : x.a ≤ 40 ∧ x.b ≤ 40 ∧ x.c ≤ 40 ∧ x.d ≤ 40 := by
  have hb : ∀ i, i < 4 → x.at i ≤ 40 := fun i hi => Nat.le_trans (h i hi) (Nat.le_trans (mineL_length _ _ _) h40)
  exact ⟨hb 0 (by omega), hb 1 (by omega), hb 2 (by omega), hb 3 (by omega)⟩
theorem InC.sum {l : List Cl} {x : C4} (h : InC l x) (h40 : l.length ≤ 40) : x.sum ≤ 160 := by
  have := h.small h40
  unfold C4.sum
  omega
/-! ### The search ends -/
def decC (k : Nat) : C4 := ⟨k % 41, k / 41 % 41, k / 1681 % 41, k / 68921⟩
def encC (x : C4) : Nat := x.a + 41 * x.b + 1681 * x.c + 68921 * x.d
theorem dec_enc {x : C4} (h : x.a ≤ 40 ∧ x.b ≤ 40 ∧ x.c ≤ 40 ∧ x.d ≤ 40) : decC (encC x) = x ∧ encC x < 2825761 := by
  obtain ⟨a, b, c, d⟩ := x
  simp only at h
  refine ⟨?_, by unfold encC; simp only; omega⟩
  unfold decC encC
  simp only
  congr 1
  all_goals omega
def unmet (M : List (C4 × Int)) : Nat := (List.range 2825761).countP (fun k => (lookM M (decC k)).isNone)
theorem countP_less {p q : Nat → Bool} (h : ∀ x, q x = true → p x = true) {e : Nat} (hp : p e = true) (hq : q e = false) : ∀ {l : List Nat}, e ∈ l → l.countP q < l.countP p
  | [], he => by cases he
  | x :: l, he => by
    have hle : l.countP q ≤ l.countP p := List.countP_mono_left (fun y _ hy => h y hy)
    rw [List.countP_cons, List.countP_cons]
    by_cases ex : x = e
    · subst ex
      rw [hp, hq]
      simp
      omega
    · have h1 := countP_less h hp hq (l := l) (by rcases List.mem_cons.1 he with h2 | h2; exact absurd h2.symm ex; exact h2)
      by_cases hqx : q x = true
      · rw [hqx, h x hqx]
        simp
        omega
      · simp [hqx]
        split <;> omega
theorem unmet_push {M : List (C4 × Int)} {k : C4} {v : Int} (hk : lookM M k = none) (hb : k.a ≤ 40 ∧ k.b ≤ 40 ∧ k.c ≤ 40 ∧ k.d ≤ 40) : unmet (M ++ [(k, v)]) < unmet M := by
  obtain ⟨h1, h2⟩ := dec_enc hb
  refine countP_less (e := encC k) (fun x hx => ?_) (by rw [h1, hk]; rfl) (by rw [h1, look_push, hk]; simp) (List.mem_range.2 h2)
  rw [look_push] at hx
  cases hq : lookM M (decC x) with
  | none => rfl
  | some y => rw [hq] at hx; cases hx
theorem unmet_le (M : List (C4 × Int)) : unmet M ≤ 2825761 := by
  have := List.countP_le_length (p := fun k => (lookM M (decC k)).isNone) (l := List.range 2825761)
  rw [List.length_range] at this
  exact this
/-- What holds of what was met and of what is to be done. -/
structure Good (l : List Cl) (most : Nat) (P : Pl2) : Prop where
  chain : Chain l P.1
  todo : ∀ t ∈ P.2, Rch l most t.1 t.2 ∧ InC l t.1 ∧ (lookM P.1 t.1).isSome = true
def muP (P : Pl2) : Nat := 2 * unmet P.1 + P.2.length
theorem look_some_push {M : List (C4 × Int)} {k k' : C4} {v : Int} (h : (lookM M k').isSome = true) : (lookM (M ++ [(k, v)]) k').isSome = true := by
  rw [look_push]
  cases hq : lookM M k' with
  | none => rw [hq] at h; cases h
  | some y => rfl
theorem Good.goI {l : List Cl} {most : Nat} {x : C4} {zs : List Int} {P : Pl2} {i : Nat} (h40 : l.length ≤ 40) (hi : i < 4) (hx : Rch l most x zs ∧ InC l x) (hm : (lookM P.1 x).isSome = true) (h : Good l most P) : Good l most (goI l most x zs P i) ∧ muP (goI l most x zs P i) ≤ muP P ∧ (lookM (Go.Proofs.Ytheginjjncnheaa.goI l most x zs P i).1 x).isSome = true := by
  cases hn : nxt l x i with
  | none => rw [goI_none hn]; exact ⟨h, Nat.le_refl _, hm⟩
  | some j =>
    obtain ⟨q, rfl, hq, hqw⟩ := nxt_is hn
    obtain ⟨y, hy⟩ : ∃ y, l[q]? = some y := ⟨l[q], by simp⟩
    by_cases hc : inB l x y 4 = true ∧ lookM P.1 (x.inc i) = none ∧ alwB most zs y = true
    · rw [goI_yes hn hy hc]
      have hin := hx.2.inc hi hn
      have hr : Rch l most (x.inc i) (alwZ most zs y) := .more hx.1 hi hn hy hc.1 hc.2.2
      refine ⟨⟨fun k j hk => ?_, fun t ht => ?_⟩, ?_, look_some_push hm⟩
      · simp only at hk ⊢
        rw [look_push] at hk
        cases hq2 : lookM P.1 k with
        | some z =>
          rw [hq2] at hk
          simp at hk
          subst hk
          rcases h.chain k _ hq2 with h1 | ⟨k', i', q', h1, h2, h3, h4, h5, h6⟩
          · exact .inl h1
          · exact .inr ⟨k', i', q', h1, h2, h3, h4, h5, look_some_push h6⟩
        | none =>
          rw [hq2] at hk
          simp at hk
          obtain ⟨rfl, rfl⟩ := hk
          exact .inr ⟨x, i, q, hi, rfl, rfl, hq, hqw, look_some_push hm⟩
      · simp only at ht ⊢
        rcases List.mem_append.1 ht with ht | ht
        · obtain ⟨h1, h2, h3⟩ := h.todo t ht
          exact ⟨h1, h2, look_some_push h3⟩
        · simp at ht
          subst ht
          refine ⟨hr, hin, ?_⟩
          rw [look_push, hc.2.1]
          simp
      · have := unmet_push (v := (q : Int)) hc.2.1 (hin.small h40)
        unfold muP
        simp only [List.length_append, List.length_singleton]
        omega
    · rw [goI_not hn hy hc]
      exact ⟨h, Nat.le_refl _, hm⟩
theorem Good.goK {l : List Cl} {most : Nat} {x : C4} {zs : List Int} {P : Pl2} (h40 : l.length ≤ 40) (hx : Rch l most x zs ∧ InC l x) (hm : (lookM P.1 x).isSome = true) (h : Good l most P) : ∀ k, k ≤ 4 → Good l most (Go.Proofs.Ytheginjjncnheaa.goK l most x zs P k) ∧ muP (Go.Proofs.Ytheginjjncnheaa.goK l most x zs P k) ≤ muP P ∧ (lookM (Go.Proofs.Ytheginjjncnheaa.goK l most x zs P k).1 x).isSome = true
  | 0, _ => ⟨h, Nat.le_refl _, hm⟩
  | k + 1, hk => by
    obtain ⟨h1, h2, h3⟩ := Good.goK h40 hx hm h k (by omega)
    rw [goK_more]
    obtain ⟨q1, q2, q3⟩ := h1.goI (i := k) h40 (by omega) hx h3
    exact ⟨q1, by omega, q3⟩
end Go.Proofs.Ytheginjjncnheaa
