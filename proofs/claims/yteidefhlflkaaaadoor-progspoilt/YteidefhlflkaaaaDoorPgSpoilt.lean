import Derived.Test.YteidefhlflkaaaaDoorPgBad
import Derived.Test.YteidefhlflkaaaaDoorPgEnc2
/-! ProgSpoilt: a word that is changed is not lost in the sum. -/
namespace Go.Proofs.YteidefhlflkaaaaDoor
set_option linter.unusedVariables false
open Go.RowKit Go.HeapKit

theorem step_range (h x : Int) : okI (stepS h x) := by unfold okI stepS wrap64; omega
theorem wrap_mod (y : Int) : ∃ k, wrap64 y = y + 18446744073709551616 * k := by
  unfold wrap64
  exact ⟨-((y + 9223372036854775808) / 18446744073709551616), by omega⟩
theorem fin_zero (d t : Int) (e : d = 18446744073709551616 * t) (h1 : -18446744073709551616 < d) (h2 : d < 18446744073709551616) : d = 0 := by omega
theorem lin_two (d p q : Int) (e : d + 18446744073709551616 * q = 18446744073709551616 * p) : d = 18446744073709551616 * (p - q) := by omega
theorem lin_four (M h h' a b c d x : Int) (e : h * 31 + M * a + x + M * c = h' * 31 + M * b + x + M * d) : 31 * (h - h') = M * (b + d - a - c) := by
  rw [Int.mul_sub M, Int.mul_sub M, Int.mul_add M]
  generalize M * a = A at *
  generalize M * b = B at *
  generalize M * c = C at *
  generalize M * d = D at *
  omega
theorem odd_zero (d c : Int) (h : 31 * d = 18446744073709551616 * c) (h1 : -18446744073709551616 < d) (h2 : d < 18446744073709551616) : d = 0 := by
  have e1 : 17256631552825064415 * (31 * d) = 17256631552825064415 * (18446744073709551616 * c) := by rw [h]
  have e2 : (17256631552825064415 : Int) * (31 * d) = (1 + 18446744073709551616 * 29) * d := by rw [← Int.mul_assoc]; rfl
  have e3 : (17256631552825064415 : Int) * (18446744073709551616 * c) = 18446744073709551616 * (17256631552825064415 * c) := Int.mul_left_comm ..
  rw [e2, e3, Int.add_mul, Int.one_mul, Int.mul_assoc] at e1
  exact fin_zero d _ (lin_two d _ _ e1) h1 h2
theorem sub_range {h h' : Int} (h1 : okI h) (h2 : okI h') : -18446744073709551616 < h - h' ∧ h - h' < 18446744073709551616 := by
  unfold okI at h1 h2
  omega
theorem step_inj {h h' x : Int} (e : stepS h x = stepS h' x) (h1 : okI h) (h2 : okI h') : h = h' := by
  unfold stepS at e
  obtain ⟨a, ha⟩ := wrap_mod (h * 31)
  obtain ⟨b, hb⟩ := wrap_mod (h' * 31)
  rw [ha, hb] at e
  obtain ⟨c, hc⟩ := wrap_mod (h * 31 + 18446744073709551616 * a + x)
  obtain ⟨d, hd⟩ := wrap_mod (h' * 31 + 18446744073709551616 * b + x)
  rw [hc, hd] at e
  have hr := sub_range h1 h2
  have := odd_zero (h - h') _ (lin_four _ h h' a b c d x e) hr.1 hr.2
  exact Int.sub_eq_zero.1 this
theorem step_inj2 {h x x' : Int} (e : stepS h x = stepS h x') (h1 : okI x) (h2 : okI x') : x = x' := by
  unfold stepS wrap64 at e
  unfold okI at h1 h2
  omega
theorem fold_range (l : List Int) (h : Int) (hh : okI h) : okI (l.foldl stepS h) := by
  induction l generalizing h with
  | nil => exact hh
  | cons x l ih => exact ih _ (step_range _ _)
theorem fold_inj (l : List Int) (h h' : Int) (h1 : okI h) (h2 : okI h') (e : l.foldl stepS h = l.foldl stepS h') : h = h' := by
  induction l generalizing h h' with
  | nil => exact e
  | cons x l ih => exact step_inj (ih _ _ (step_range _ _) (step_range _ _) e) h1 h2
theorem sum_range (l : List Int) : okI (sumV l) := fold_range l 0 (by simp [okI])
theorem sum_set (l : List Int) (k : Nat) (x y : Int) (hx : l[k]? = some x) (h1 : okI x) (h2 : okI y) (e : sumV (l.set k y) = sumV l) : y = x := by
  have hk := (List.getElem?_eq_some_iff.1 hx).1
  have hxe := (List.getElem?_eq_some_iff.1 hx).2
  have s1 : l.set k y = l.take k ++ (y :: l.drop (k + 1)) := by rw [List.set_eq_take_append_cons_drop, if_pos hk]
  have s2 : l = l.take k ++ (x :: l.drop (k + 1)) := by
    conv => lhs; rw [← List.take_append_drop k l]
    rw [List.drop_eq_getElem_cons hk, hxe]
  rw [s1] at e
  unfold sumV at e
  conv at e => rhs; rw [s2]
  rw [List.foldl_append, List.foldl_append, List.foldl_cons, List.foldl_cons] at e
  exact step_inj2 (fold_inj _ _ _ (step_range _ _) (step_range _ _) e) h2 h1
/-- The image with one word changed has a wrong sum. -/
theorem spoilt_sum {l : List Fn} {k : Nat} {x y : Int} (hx : (encV l)[k]? = some x) (h1 : okI x) (h2 : okI y) (hne : y ≠ x) : ∃ z, ((encV l).set k y)[(encV l).length - 1]? = some z ∧ ¬ z = sumV (((encV l).set k y).take ((encV l).length - 1)) := by
  have hl : (encV l).length = (imageV l).length + 1 := by simp [encV]
  have hk := (List.getElem?_eq_some_iff.1 hx).1
  rw [hl, Nat.add_sub_cancel]
  by_cases e : k = (imageV l).length
  · refine ⟨y, ?_, ?_⟩
    · rw [e, List.getElem?_set_self (by omega)]
    · rw [e, List.take_set_of_le (Nat.le_refl _)]
      unfold encV at hx ⊢
      rw [List.take_left]
      rw [e, List.getElem?_append_right (Nat.le_refl _)] at hx
      simp at hx
      rw [hx]
      exact hne
  · have hlt : k < (imageV l).length := by omega
    refine ⟨sumV (imageV l), ?_, ?_⟩
    · rw [List.getElem?_set_ne e]
      unfold encV
      rw [List.getElem?_append_right (Nat.le_refl _)]
      simp
    · unfold encV at hx ⊢
      rw [List.getElem?_append_left hlt] at hx
      rw [List.set_append_left k y hlt, List.take_left' (by simp)]
      intro e2
      exact hne (sum_set (imageV l) k x y hx h1 h2 e2.symm)
theorem enc_ok {l : List Fn} (hok : ∀ f ∈ l, f.Ok) (hc : ∀ f ∈ l, f.code.length ≤ 512) (hl : l.length ≤ 32) : ∀ x ∈ encV l, okI x := by
  intro x hx
  unfold encV at hx
  rcases List.mem_append.1 hx with hx | hx
  · exact image_ok hok hc hl x hx
  · simp at hx
    rw [hx]
    exact sum_range _
theorem enc_len {l : List Fn} (hc : ∀ f ∈ l, f.code.length ≤ 512) (hl : l.length ≤ 32) : 3 ≤ (encV l).length ∧ (encV l).length ≤ 90000 := by
  have := fns_len l hc
  have e : (encV l).length = 3 + (l.flatMap fnW).length := by simp [encV, imageV]; omega
  omega
theorem own_set {w : World} {base g n cap : Nat} {zs : List Int} (h : w.ownsRow base 2 1 (.slice (some ⟨g, 0, none⟩) n cap) n (zs.map (Value.int .i64))) (k : Nat) (hk : k < n) (x : Int) :
    (w.setCell ⟨g, k, none⟩ (.int .i64 x)).ownsRow base 2 1 (.slice (some ⟨g, 0, none⟩) n cap) n ((zs.set k x).map (Value.int .i64)) ∧ (∃ u, w.cell? ⟨g, k, none⟩ = some u) ∧ w.frozen? ⟨g, k, none⟩ = false := by
  rcases h.2 with ⟨h0, _⟩ | ⟨g', cap', cur, e, hb, hg, hn, hm, hs, ht⟩
  · simp at h0
  · simp only [Value.slice.injEq, Option.some.injEq, Addr.mk.injEq, and_true, true_and] at e
    obtain ⟨rfl, rfl⟩ := e
    refine ⟨⟨by simpa using h.1, .inr ⟨g, cap, _, rfl, hb, blk_set hg _, hn, hm, by simpa using hs, ?_⟩⟩, ?_, blk_free hg k⟩
    · rw [List.map_set, ← ht]
      apply List.ext_getElem?
      intro j
      simp only [Array.toList_setIfInBounds, List.getElem?_take, Nat.mul_one]
      by_cases hj : j < n
      · simp only [hj, if_true]
        by_cases e : k = j
        · subst e
          rw [List.getElem?_set_self (by simp; omega), List.getElem?_set_self (by simp; omega)]
        · rw [List.getElem?_set_ne e, List.getElem?_set_ne e, List.getElem?_take, if_pos hj]
      · simp only [hj, if_false]
        rw [List.getElem?_eq_none (by simp; omega)]
    · rw [blk_cell hg]
      exact ⟨_, Array.getElem?_eq_getElem (by omega)⟩
theorem mod_big (x : Int) (n : Nat) (w : World) (hx : okI x) (h0 : 0 < n) (h1 : n ≤ 1000000) : Calls Tryd.prog 11 #[.int .i64 x, .int .i64 n] w fun e w' => e = .returned (.int .i64 (modV x n)) ∧ w' = w := by
  have hm : (modV x n : Int) = x % (n : Int) := by
    unfold modV
    have h2 := Int.emod_nonneg x (show (n : Int) ≠ 0 by omega)
    omega
  have h2 := Go.PlainOps.tmod_mod x n (by omega)
  obtain ⟨b0, b1⟩ := Go.PlainOps.tmod_bounds x n (by omega)
  have E : Hid ((modV x n : Int) = (if x.tmod n < 0 then x.tmod n + n else x.tmod n)) := by unfold Hid; rw [hm, h2]
  have hn : ¬ (n : Int) = 0 := by omega
  have hn2 : (n : Int) ≤ 1000000 := by omega
  have b2 : -1000001 ≤ x.tmod n := by omega
  clear hm h2
  unfold okI at hx
  obtain ⟨R, hR⟩ : ∃ R, R = modV x n := ⟨_, rfl⟩
  rw [← hR] at E ⊢
  clear hR
  by_cases hr : x.tmod n < 0
  · go_enter Tryd.func11, Tryd.ntmps11
    go_wp2
    go_ret
    exact ⟨by rw [E.out, if_pos hr]; rfl, rfl⟩
  · go_enter Tryd.func11, Tryd.ntmps11
    go_wp2
    go_ret
    exact ⟨by rw [E.out, if_neg (by omega)]; rfl, rfl⟩
end Go.Proofs.YteidefhlflkaaaaDoor
