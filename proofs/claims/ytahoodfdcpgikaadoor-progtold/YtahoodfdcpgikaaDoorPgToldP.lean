import Derived.Test.YtahoodfdcpgikaaDoorPgShow
/-! ProgTold, plainly: a program that is refused for its slots has a slot that is met in a wrong state. -/
namespace Go.Proofs.YtahoodfdcpgikaaDoor
set_option linter.unusedVariables false
set_option maxRecDepth 20000
open Go.RowKit Go.HeapKit
def ToldAt (f : Fn) (i : Ins) (e : Int) (s t : Nat) : Prop :=
  (e = 54 ∧ i.kind = 5 ∧ i.a = s ∧ metV (searchV f s (0, 0)) ((t : Int), 2) = true) ∨
  (e = 55 ∧ i.kind = 7 ∧ i.b = s ∧ (metV (searchV f s (0, 0)) ((t : Int), 2) = true ∨ metV (searchV f s (0, 0)) ((t : Int), 1) = true)) ∨
  (e = 56 ∧ i.kind = 9 ∧ metV (searchV f s (0, 0)) ((t : Int), 2) = true)
theorem misuse_told {fs : List Fn} {f : Fn} {i : Ins} {t : Nat} (hsh : shapeV f = true) (hcf : codeFault false fs f = none) (hi : f.code[t]? = some i) (h0 : ¬ misuseV i (rowV f t) = 0) :
    ∃ s : Nat, (s : Int) < f.slots ∧ ToldAt f i (misuseV i (rowV f t)) s t := by
  have hG := good_of hsh hcf
  obtain ⟨w1, w2, w3⟩ := fits_ways ((code_parts hcf).1 _ _ hi)
  have hlt : t < f.code.length := (List.getElem?_eq_some_iff.1 hi).1
  unfold misuseV at h0 ⊢
  by_cases h5 : i.kind = 5
  · rw [if_pos h5] at h0 ⊢
    rw [h5] at w1
    obtain ⟨b0, b1⟩ := (belowV_iff _ _).1 (show belowV i.a f.slots = true from w1)
    rw [row_get _ i.a.toNat (by omega), sum_has2 (search_bare hG _ _) _ hlt] at h0 ⊢
    cases hm : metV (searchV f ((i.a.toNat : Nat) : Int) (0, 0)) ((t : Int), 2) with
    | false => rw [hm] at h0; exact absurd rfl h0
    | true => exact ⟨i.a.toNat, by omega, .inl ⟨rfl, h5, by omega, hm⟩⟩
  · rw [if_neg h5] at h0 ⊢
    by_cases h7 : i.kind = 7
    · rw [if_pos h7] at h0 ⊢
      rw [h7] at w2
      obtain ⟨b0, b1⟩ := (belowV_iff _ _).1 (show belowV i.b f.slots = true from w2)
      rw [row_get _ i.b.toNat (by omega), sum_less (search_bare hG _ _) _ hlt] at h0 ⊢
      cases hm : metV (searchV f ((i.b.toNat : Nat) : Int) (0, 0)) ((t : Int), 2) with
      | true =>
        exact ⟨i.b.toNat, by omega, .inr (.inl ⟨by simp, h7, by omega, .inl hm⟩)⟩
      | false =>
        cases hm1 : metV (searchV f ((i.b.toNat : Nat) : Int) (0, 0)) ((t : Int), 1) with
        | true => exact ⟨i.b.toNat, by omega, .inr (.inl ⟨by simp, h7, by omega, .inr hm1⟩)⟩
        | false => rw [hm, hm1] at h0; exact absurd rfl h0
    · rw [if_neg h7] at h0 ⊢
      by_cases h9 : i.kind = 9
      · rw [if_pos h9] at h0 ⊢
        cases ha : (rowV f t).any has2 with
        | false => rw [ha] at h0; exact absurd rfl h0
        | true =>
          obtain ⟨x, hx, hx2⟩ := List.any_eq_true.1 ha
          unfold rowV at hx
          obtain ⟨s, hs, rfl⟩ := List.mem_map.1 hx
          have hs' := List.mem_range.1 hs
          rw [sum_has2 (search_bare hG _ _) _ hlt] at hx2
          exact ⟨s, by omega, .inr (.inr ⟨by simp, h9, hx2⟩)⟩
      · rw [if_neg h9] at h0
        exact absurd rfl h0
theorem check_told {fs : List Fn} {e k a : Int} (h : checkV fs = (e, k, a)) (he : e = 54 ∨ e = 55 ∨ e = 56) :
    fs.length ≤ 32 ∧ ∃ (j t s : Nat) (f : Fn) (i : Ins), fs[j]? = some f ∧ k = j ∧ a = t ∧ (∀ g ∈ fs, shapeV g = true) ∧ (∀ g ∈ fs, codeFault false fs g = none) ∧ f.code[t]? = some i ∧ (s : Int) < f.slots ∧ ToldAt f i e s t := by
  unfold checkV at h
  split at h
  · simp only [Prod.mk.injEq] at h; omega
  · rename_i hl
    refine ⟨by omega, ?_⟩
    split at h
    · simp only [Prod.mk.injEq] at h; omega
    · rename_i h1
      have hsh : ∀ g ∈ fs, shapeV g = true := fun g hg => by
        obtain ⟨j, hj, e⟩ := List.mem_iff_getElem.1 hg
        have := firstAt_all _ _ _ h1 j g (by rw [List.getElem?_eq_getElem hj, e])
        split at this
        · assumption
        · cases this
      split at h
      · rename_i r h2
        obtain ⟨j, g, -, -, h3, -⟩ := firstAt_was _ _ _ _ h2
        simp only [Prod.mk.injEq] at h
        unfold codeFault at h3
        split at h3
        · have := Option.some.inj h3
          rw [← this] at h
          simp only at h
          omega
        · split at h3
          · have := Option.some.inj h3
            rw [← this] at h
            simp only at h
            omega
          · cases h3
      · rename_i h2
        have hcf : ∀ g ∈ fs, codeFault false fs g = none := fun g hg => by
          obtain ⟨j, hj, e⟩ := List.mem_iff_getElem.1 hg
          exact firstAt_all _ _ _ h2 j g (by rw [List.getElem?_eq_getElem hj, e])
        split at h
        · rename_i r h3
          obtain ⟨j, f, hf, hr, h4, -⟩ := firstAt_was _ _ _ _ h3
          simp only [Prod.mk.injEq] at h
          simp only [slotFault, Option.map_eq_some_iff] at h4
          obtain ⟨r2, h5, h6⟩ := h4
          obtain ⟨t, i, hi, ht, h7, -⟩ := firstAt_was _ _ _ _ h5
          have hm := List.mem_of_getElem? hf
          simp only [Nat.zero_add] at h7 ht hr
          split at h7
          · cases h7
          · rename_i h0
            obtain ⟨s, hs, hto⟩ := misuse_told (hsh f hm) (hcf f hm) hi h0
            have h8 := Option.some.inj h7
            rw [h8] at hto
            rw [← h6] at h
            simp only at h
            obtain ⟨rfl, rfl, rfl⟩ := h
            exact ⟨j, t, s, f, i, hf, by rw [hr], by rw [ht], hsh, hcf, hi, hs, hto⟩
        · simp only [Prod.mk.injEq] at h; omega
end Go.Proofs.YtahoodfdcpgikaaDoor
