import Derived.Test.YtnhoedodnbifdaaDgJudgedP
/-! The document's verdict on times, plainly. -/
namespace Go.Proofs.Ytnhoedodnbifdaa
set_option linter.unusedVariables false
set_option maxRecDepth 20000
open Go.RowKit Go.HeapKit

structure SchR (p : Nat) (zs : List Int) (l : List Ed) : Prop where
  one : ∀ x ∈ zs, 1 ≤ x
  most : ∀ x ∈ zs, zs.count x ≤ p
  edge : ∀ e ∈ l, tm zs e.f.toNat < tm zs e.t.toNat
theorem tm_at {zs : List Int} {i : Nat} {x : Int} (h : zs[i]? = some x) : tm zs i = x := by simp [tm, h]
theorem tm_mem {zs : List Int} {i : Nat} (h : i < zs.length) : tm zs i ∈ zs := by
  rw [tm_at (List.getElem?_eq_getElem h)]
  exact List.getElem_mem h
theorem schR_iff {p : Nat} {zs : List Int} {l : List Ed} : isSched p zs l ↔ SchR p zs l := by
  constructor
  · intro h
    have hS := sched_of h
    refine ⟨fun x hx => ?_, fun x hx => ?_, hS.edge⟩
    · obtain ⟨i, hi, rfl⟩ := List.mem_iff_getElem.1 hx
      have := hS.one i hi
      rwa [tm_at (List.getElem?_eq_getElem hi)] at this
    · have := hS.most x
      rwa [cnt_zs] at this
  · intro h
    refine of_sched ⟨fun i hi => h.one _ (tm_mem hi), fun t => ?_, h.edge⟩
    rw [cnt_zs]
    by_cases ht : t ∈ zs
    · exact h.most t ht
    · rw [List.count_eq_zero.2 ht]; omega
def GrR (n p : Nat) (zs : List Int) (l : List Ed) : Prop := grt zs ≤ (n : Int) ∧ ∀ t : Nat, 1 ≤ t → (t : Int) ≤ grt zs → zs.count (t : Int) = p ∨ ∀ i, i < n → (t : Int) < tm zs i → ¬ ahead l (tm zs) i t
theorem grR_iff {n p : Nat} {zs : List Int} {l : List Ed} (hp : 1 ≤ p) (hl : zs.length = n) (hd : Dag (n : Int) l) (h : isSched p zs l) : grOk p zs l zs.length ↔ GrR n p zs l := by
  have hd' : Dag (zs.length : Int) l := by rw [hl]; exact hd
  constructor
  · intro hg
    obtain ⟨t9, ht9⟩ : ∃ t : Nat, grt zs = t := Int.eq_ofNat_of_zero_le (grt_ge zs).1
    obtain ⟨S9, hS9⟩ : ∃ S : Nat, spanV n l = S := Int.eq_ofNat_of_zero_le (crit_len n l).1
    have h1 := (judged_gr hd hl hp h hg t9 S9 ht9 hS9).1
    refine ⟨by omega, fun t h2 h3 => ?_⟩
    by_cases e : zs.count (t : Int) = p
    · exact .inl e
    · refine .inr (fun i hi h4 h5 => e ?_)
      have := (gr_iff hp hd' h).1 hg i t (by omega) ((since_iff zs l i t).2 ⟨by omega, h5⟩) h4
      rwa [cnt_zs] at this
  · rintro ⟨h1, h2⟩
    refine (gr_iff hp hd' h).2 (fun v t hv h3 h4 => ?_)
    obtain ⟨h5, h6⟩ := (since_iff zs l v t).1 h3
    obtain ⟨t', rfl⟩ := Int.eq_ofNat_of_zero_le (show 0 ≤ t by omega)
    have h7 := (grt_ge zs).2 _ (tm_mem hv)
    rw [cnt_zs]
    rcases h2 t' (by omega) (by omega) with h8 | h8
    · exact h8
    · exact absurd h6 (h8 v (by omega) h4)
theorem ready_iff {n : Nat} {zs : List Int} {l : List Ed} (hl : zs.length = n) (hd : Dag (n : Int) l) (h1 : ∀ x ∈ zs, 1 ≤ x) (i : Nat) (t : Int) : readyV (tm zs) t (bef l i) = true ↔ ahead l (tm zs) i t := by
  unfold readyV ahead
  rw [List.all_eq_true]
  constructor
  · intro h a ha
    have := h a ha
    simp at this
    exact this.2
  · intro h a ha
    obtain ⟨e, he, e1, e2⟩ := mem_bef.1 ha
    have hok := hd.ok e he
    have h2 := h1 _ (tm_mem (zs := zs) (i := a.toNat) (by omega))
    have h3 := h a ha
    simp
    omega
end Go.Proofs.Ytnhoedodnbifdaa
