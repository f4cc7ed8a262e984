import Derived.Test.YtpofffbookhinaaDgListed
import Derived.Test.YtpofffbookhinaaDgBrentLaw
/-! A greedy schedule that is put off; one with two times swapped: plainly. -/
namespace Go.Proofs.Ytpofffbookhinaa
set_option linter.unusedVariables false
set_option maxRecDepth 20000
open Go.RowKit Go.HeapKit

theorem cnt_shift (n : Nat) (T : Nat → Int) (k s : Int) : cntAt n (fun i => T i + k) s = cntAt n T (s - k) := by
  unfold cntAt
  congr 1
  apply List.filter_congr
  intro i _
  have : (T i + k = s) ↔ (T i = s - k) := by omega
  simp [this]
section
variable {n P : Nat} {l : List Ed} {T : Nat → Int} {t0 : Nat} (hd : Dag (n : Int) l) (h1 : 1 ≤ P) (hL : Lst n P l T t0 0) (hz0 : ∀ i, i < n → T i ≠ 0)
include hd h1 hL hz0
omit h1 in
theorem lazy_grdy : Grdy n P l T t0 := hL.grdy hd hz0 t0 (fun i hi => by have := hL.rng i hi; have := hL.t1; omega)
theorem lazy_one (k : Nat) (hk : 1 ≤ k) (zs : List Int) (hz : zs = (List.range n).map (fun i => T i + (k : Int))) : isSched P zs l ∧ (0 < n → ¬ grOk P zs l zs.length) ∧ (n = 0 → grOk P zs l zs.length) := by
  have hG := lazy_grdy hd hL hz0
  have hlen : zs.length = n := by rw [hz]; simp
  have htm : ∀ i, i < n → tm zs i = T i + k := fun i hi => by rw [hz]; exact tm_map n _ i hi
  have hd' : Dag (zs.length : Int) l := by rw [hlen]; exact hd
  have hS : Sched zs.length P l (tm zs) := by
    refine ⟨fun i hi => ?_, fun s => ?_, fun e he => ?_⟩
    · rw [htm i (by omega)]
      have := hG.sch.one i (by omega)
      omega
    · rw [hlen, cnt_congr (T := fun i => T i + (k : Int)) htm s, cnt_shift]
      exact hG.sch.most _
    · have hok := hd.ok e he
      rw [htm _ (by omega), htm _ (by omega)]
      have := hG.sch.edge e he
      omega
  have hI := of_sched hS
  refine ⟨hI, fun h0 hg => ?_, fun h0 => ?_⟩
  · have ha : ahead l (tm zs) 0 1 := by
      intro a ha
      obtain ⟨e, he, e1, e2⟩ := mem_bef.1 ha
      have hok := hd.ok e he
      omega
    have h2 := hG.sch.one 0 h0
    have h3 := (gr_iff h1 hd' hI).1 hg 0 1 (by omega) ((since_iff zs l 0 1).2 ⟨by omega, ha⟩) (by rw [htm 0 h0]; omega)
    have h4 : cntAt zs.length (tm zs) 1 = 0 := by
      unfold cntAt
      rw [List.length_eq_zero_iff, List.filter_eq_nil_iff]
      intro i hi h5
      have h6 := List.mem_range.1 hi
      have h7 := hG.sch.one i (by omega)
      simp at h5
      rw [htm i (by omega)] at h5
      omega
    omega
  · have hG2 : Grdy zs.length P l (tm zs) 0 := ⟨hS, fun i hi => by omega, fun t h1 h2 => by omega⟩
    exact (gr_of h1 hd' hG2).2
omit h1 in
theorem lazy_two (x : Ed) (hx : x ∈ l) (f t : Nat) (hf : x.f = (f : Int)) (ht : x.t = (t : Int)) (zs : List Int) (hz : zs = (List.range n).map (upd (upd T f (T t)) t (T f))) : ¬ isSched P zs l := by
  intro h
  have hG := lazy_grdy hd hL hz0
  have hok := hd.ok x hx
  have h2 := hG.sch.edge x hx
  have h3 := (sched_of h).edge x hx
  have htm : ∀ i, i < n → tm zs i = upd (upd T f (T t)) t (T f) i := fun i hi => by rw [hz]; exact tm_map n _ i hi
  have e1 : x.f.toNat = f := by omega
  have e2 : x.t.toNat = t := by omega
  rw [htm _ (by omega), htm _ (by omega), e1, e2] at h3
  rw [e1, e2] at h2
  have hne : ¬ f = t := by omega
  unfold upd at h3
  rw [if_neg hne, if_pos rfl, if_pos rfl] at h3
  omega
end
end Go.Proofs.Ytpofffbookhinaa
