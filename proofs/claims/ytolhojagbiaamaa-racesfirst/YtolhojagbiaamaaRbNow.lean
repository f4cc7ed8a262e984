import Derived.Test.YtolhojagbiaamaaRbTouch
/-! Where a list of deeds without a fault stands behind its first n deeds, plainly. -/
namespace Go.Proofs.Ytolhojagbiaamaa
set_option linter.unusedVariables false
set_option maxRecDepth 20000
set_option linter.unusedSimpArgs false

structure Now (ds : List Dd) (n : Nat) : Prop where
  inv : Inv ds n
  bin : BInv ds n
  ne : stN ds n ≠ []
  all : ∀ x, x < cntB ds n → x ∈ allB (bgN ds n)
  cnt : cntB ds n ≤ n + 1
theorem Fine.kind {ds : List Dd} (h : Fine ds) {n : Nat} (hn : n < ds.length) : 0 ≤ kdN ds n ∧ kdN ds n ≤ 4 ∧ (kdN ds n = 1 → 2 ≤ (stN ds n).length) := by
  obtain ⟨d, h1, h2, h3⟩ := h.at n (by omega)
  obtain ⟨x, hx⟩ : ∃ x, ds[n]? = some x := ⟨ds[n]'(by omega), by simp⟩
  rw [chkL_step hx] at h2
  have hb : badK x.k d = false := by
    cases hb : badK x.k d with
    | false => rfl
    | true => rw [hb] at h2; simp at h2
  unfold kdN
  rw [getD_of hx]
  unfold badK at hb
  simp at hb
  obtain ⟨⟨b1, b2⟩, b3⟩ := hb
  refine ⟨b1, b2, fun e => ?_⟩
  have := b3 e
  omega
theorem all_step {ds : List Dd} {n : Nat} (hb : BInv ds n) (hk : kdN ds n = 1 → 2 ≤ (stN ds n).length) (h : ∀ x, x < cntB ds n → x ∈ allB (bgN ds n)) : ∀ x, x < cntB ds (n + 1) → x ∈ allB (bgN ds (n + 1)) := by
  have hb' : bgN ds (n + 1) = stepB (kdN ds n) (cntB ds n) (bgN ds n) := rfl
  have hc' : cntB ds (n + 1) = if kdN ds n = 0 then cntB ds n + 1 else cntB ds n := rfl
  have hl := Prs.len hb.prs
  intro x hx
  rw [hb']
  rw [hc'] at hx
  cases hbg : bgN ds n with
  | nil => obtain ⟨A, e, hA, _⟩ := hb.bot; rw [hbg] at hA; simp at hA
  | cons b bs =>
    rw [hbg] at h hl
    by_cases k0 : kdN ds n = 0
    · rw [if_pos k0] at hx
      rw [k0, sb0, allB_cons]
      by_cases e : x = cntB ds n
      · subst e; simp
      · have := h x (by omega)
        simp [this]
    · rw [if_neg k0] at hx
      have hm := h x hx
      by_cases k1 : kdN ds n = 1
      · have h2 := hk k1
        obtain ⟨u, br, rfl⟩ : ∃ u br, bs = u :: br := by
          cases bs with
          | nil => simp at hl; omega
          | cons u br => exact ⟨u, br, rfl⟩
        rw [k1, sb1, allB_cons]
        rw [allB_cons, allB_cons] at hm
        simp only [List.mem_append] at hm ⊢
        rcases hm with (hm | hm) | (hm | hm) | hm
        · exact .inl (.inr (.inl (.inl hm)))
        · exact .inl (.inr (.inl (.inr hm)))
        · exact .inl (.inl hm)
        · exact .inl (.inr (.inr hm))
        · exact .inr hm
      · by_cases k2 : kdN ds n = 2
        · rw [k2, sb2, allB_cons]
          rw [allB_cons] at hm
          simpa using hm
        · rw [sb3 _ _ _ _ k0 k1 k2]
          exact hm
theorem Fine.now {ds : List Dd} (h : Fine ds) : ∀ n, n ≤ ds.length → Now ds n := by
  intro n
  induction n with
  | zero =>
    intro _
    obtain ⟨d, h1, _, h3⟩ := h.at 0 (by omega)
    refine ⟨h3, binv_zero ds, fun e => by rw [e] at h1; simp at h1, fun x hx => ?_, Nat.le_refl _⟩
    have hx' : x < 1 := hx
    have : x = 0 := by omega
    subst this
    show 0 ∈ allB [⟨0, [0], []⟩]
    simp [allB]
  | succ n ih =>
    intro hn
    have hN := ih (by omega)
    obtain ⟨k1, k2, k3⟩ := h.kind (n := n) (by omega)
    obtain ⟨d, h1, _, h3⟩ := h.at (n + 1) hn
    refine ⟨h3, binv_step hN.inv hN.bin hN.ne k3, fun e => by rw [e] at h1; simp at h1, all_step hN.bin k3 hN.all, ?_⟩
    have hc' : cntB ds (n + 1) = if kdN ds n = 0 then cntB ds n + 1 else cntB ds n := rfl
    have := hN.cnt
    rw [hc']
    split <;> omega
/-- The tasks that have not returned, the root first; whose each deed is. -/
def actN (ds : List Dd) (n : Nat) : List Nat := ((bgN ds n).map Bg.id).reverse
def dnN (ds : List Dd) (m : Nat) : List Nat := (List.range m).map (doer ds)
theorem dnN_succ (ds : List Dd) (m : Nat) : dnN ds (m + 1) = dnN ds m ++ [doer ds m] := by simp [dnN, List.range_succ]
theorem dnN_len (ds : List Dd) (m : Nat) : (dnN ds m).length = m := by simp [dnN]
theorem act_top {ds : List Dd} {n : Nat} {t : Bg} {r : List Bg} (h : bgN ds n = t :: r) : actN ds n = (r.map Bg.id).reverse ++ [t.id] := by simp [actN, h]
theorem Now.top {ds : List Dd} {n : Nat} (h : Now ds n) : ∃ t r, bgN ds n = t :: r ∧ t.id ∈ t.P ∧ doer ds n = t.id := bg_top h.bin h.ne
theorem allB_len : ∀ (B : List Bg), (∀ b ∈ B, b.id ∈ b.P) → B.length ≤ (allB B).length
  | [], _ => Nat.le_refl _
  | b :: B, h => by
    have h1 := allB_len B (fun c hc => h c (by simp [hc]))
    have h2 : 1 ≤ b.P.length := by
      have := h b (by simp)
      cases hp : b.P with
      | nil => rw [hp] at this; simp at this
      | cons _ _ => simp
    rw [allB_cons]
    simp
    omega
theorem nodup_bound : ∀ (T : Nat) (l : List Nat), l.Nodup → (∀ x ∈ l, x < T) → l.length ≤ T := by
  intro T l hn hl
  have := List.Nodup.length_le_of_subset (l₂ := List.range T) hn (fun x hx => List.mem_range.2 (hl x hx))
  simpa using this
end Go.Proofs.Ytolhojagbiaamaa
