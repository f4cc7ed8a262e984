import Derived.Test.YtnhoedodnbifdaaDgGrahamWalk
/-! DagJudged: its plain part, and 'rank'. -/
namespace Go.Proofs.Ytnhoedodnbifdaa
set_option linter.unusedVariables false
set_option maxRecDepth 20000
open Go.RowKit Go.HeapKit

def rowV (n : Nat) : List Int := (List.range n).map (fun (i : Nat) => (i : Int) + 1)
theorem row_count (n : Nat) (t : Int) : (rowV n).count t = if 1 ≤ t ∧ t ≤ n then 1 else 0 := by
  have hn : (rowV n).Nodup := List.Pairwise.map _ (fun a b h => by omega) List.nodup_range
  rw [hn.count]
  have : t ∈ rowV n ↔ 1 ≤ t ∧ t ≤ n := by
    unfold rowV
    rw [List.mem_map]
    constructor
    · rintro ⟨i, hi, rfl⟩
      have := List.mem_range.1 hi
      omega
    · intro h
      exact ⟨(t - 1).toNat, List.mem_range.2 (by omega), by omega⟩
  by_cases h : t ∈ rowV n
  · rw [if_pos h, if_pos (this.1 h)]
  · rw [if_neg h, if_neg (fun h2 => h (this.2 h2))]
theorem row_len (n : Nat) : (rowV n).length = n := by simp [rowV]
theorem row_tm (n i : Nat) (hi : i < n) : tm (rowV n) i = i + 1 := tm_map n _ i hi
theorem row_sched {n P : Nat} {l : List Ed} (hd : Dag (n : Int) l) (hP : 1 ≤ P) : Sched n P l (tm (rowV n)) := by
  refine ⟨fun i hi => by rw [row_tm n i hi]; omega, fun t => ?_, fun e he => ?_⟩
  · have := cnt_zs (rowV n) t
    rw [row_len] at this
    rw [this, row_count]
    split <;> omega
  · have := hd.ok e he
    rw [row_tm n _ (by omega), row_tm n _ (by omega)]
    omega
theorem row_is {n P : Nat} {l : List Ed} (hd : Dag (n : Int) l) (hP : 1 ≤ P) : isSched P (rowV n) l := of_sched (by rw [row_len]; exact row_sched hd hP)
theorem row_gr {n : Nat} {l : List Ed} (hd : Dag (n : Int) l) : grOk 1 (rowV n) l (rowV n).length := by
  refine (gr_of (len := n) (Nat.le_refl 1) (by rw [row_len]; exact hd) ⟨by rw [row_len]; exact row_sched hd (Nat.le_refl 1), fun i hi => ?_, fun t h1 h2 => ?_⟩).2
  · rw [row_len] at hi
    rw [row_tm n i hi]; omega
  · left
    rw [cnt_zs, row_count, if_pos (by omega)]
theorem upto_busy {n : Nat} {T : Nat → Int} : ∀ m, (∀ t : Nat, 1 ≤ t → t ≤ m → 1 ≤ cntAt n T t) → m ≤ upto n T m := by
  intro m
  induction m with
  | zero => intro _; omega
  | succ m ih =>
    intro h
    have h1 := ih (fun t h1 h2 => h t h1 (by omega))
    have h2 := h (m + 1) (by omega) (by omega)
    rw [upto_succ]
    have e : ((m + 1 : Nat) : Int) = (m : Int) + 1 := by omega
    rw [e] at h2
    omega
theorem judged_sched {n P : Nat} {l : List Ed} {zs : List Int} (hd : Dag (n : Int) l) (hl : zs.length = n) (hP : 1 ≤ P) (h : isSched P zs l) (t S : Nat) (ht : grt zs = t) (hS : spanV n l = S) : S ≤ t ∧ n ≤ P * t ∧ (n + P - 1) / P ≤ t := by
  have hG := sched_of h
  rw [hl] at hG
  have hT : ∀ i, i < n → tm zs i ≤ t := by
    intro i hi
    have := (grt_ge zs).2 (tm zs i) (by simp [tm, hl, hi])
    omega
  have hSt : S ≤ t := by
    unfold spanV at hS
    rcases grt_eq (earV n l) with h | h
    · omega
    · rw [ear_ok (dag_check hd), List.mem_map] at h
      obtain ⟨i, hi, h⟩ := h
      have h2 := sched_rank hd hG i (List.mem_range.1 hi)
      have h3 := hT i (List.mem_range.1 hi)
      rw [ear_ok (dag_check hd)] at hS
      omega
  have hw := sched_work hG hT
  refine ⟨hSt, hw, ?_⟩
  have : n + P - 1 < P * (t + 1) := by rw [Nat.mul_add]; omega
  exact Nat.le_of_lt_succ (Nat.div_lt_of_lt_mul this)
theorem judged_gr {n P : Nat} {l : List Ed} {zs : List Int} (hd : Dag (n : Int) l) (hl : zs.length = n) (hP : 1 ≤ P) (h : isSched P zs l) (hg : grOk P zs l zs.length) (t S : Nat) (ht : grt zs = t) (hS : spanV n l = S) : t ≤ n ∧ P * t ≤ n + (P - 1) * S := by
  have hT : ∀ i, i < zs.length → tm zs i ≤ t := by
    intro i hi
    have := (grt_ge zs).2 (tm zs i) (by simp [tm, hi])
    omega
  have hG := grdy_of hP (by rw [hl]; exact hd) h hg t hT
  rw [hl] at hG
  have hR : ∀ i, i < n → R l i ≤ S := by
    intro i hi
    have e : earV n l = (List.range n).map (R l) := ear_ok (dag_check hd)
    have := (grt_ge (earV n l)).2 (R l i) (by rw [e]; exact List.mem_map.2 ⟨i, List.mem_range.2 hi, rfl⟩)
    unfold spanV at hS
    omega
  rcases grt_eq zs with h0 | h0
  · have : t = 0 := by omega
    rw [this]; simp
  · obtain ⟨i, hi, h1⟩ := List.mem_iff_getElem.1 h0
    have hx : ∃ i, i < n ∧ tm zs i = t := ⟨i, by omega, by simp [tm, hi, h1, ht]⟩
    refine ⟨?_, brent hd hG hP hx S hR⟩
    have h2 := upto_busy t (grdy_busy hd hG hP hx)
    have h3 : upto n (tm zs) t ≤ n := by
      unfold upto
      have := List.length_filter_le (fun i => decide (1 ≤ tm zs i ∧ tm zs i ≤ (t : Int))) (List.range n)
      simpa using this
    omega
theorem rank_any (a : Option Addr) (n c : Nat) (ts : List Int) (i : Nat) (w : World) (h : SeenZ w a n ts) : Calls Try.prog 28 #[.slice a n c, .int .i64 i] w fun e w' => e = .returned (.int .i64 (ts.getD i 0)) ∧ w' = w := by
  by_cases hi : i < n
  · have i1 : (i : Int) < (n : Int) := by omega
    have n0 : ¬ n = 0 := by omega
    obtain ⟨b, off, x, rfl, hx, _, e0⟩ := h.at hi
    have HX : Hid (ts.getD i 0 = x) := by show _ = _; rw [List.getD_eq_getElem?_getD, hx]; rfl
    clear h hx
    rw [HX.out]
    go_enter Try.func28, Try.ntmps28
    go_wp2_with fail
    go_ret
    exact ⟨rfl, rfl⟩
  · have i1 : ¬ (i : Int) < (n : Int) := by omega
    have HX : Hid (ts.getD i 0 = 0) := by show _ = _; rw [List.getD_eq_getElem?_getD, List.getElem?_eq_none (by have := h.len; omega)]; rfl
    clear h
    rw [HX.out]
    go_enter Try.func28, Try.ntmps28
    go_wp2_with fail
    go_ret
    exact ⟨rfl, rfl⟩
theorem judge_one (n : Nat) (a : Option Addr) (m c : Nat) (l : List Ed) (ap : Option Addr) (cp : Nat) (zs : List Int) (w : World) (h : SeenE w a m l) (hz : SeenZ w ap n zs) (hc : checkV (n : Int) l = 0) :
    Calls Try.prog 10 #[dagV n a m c, .int .i64 1, .slice ap n cp] w fun e w' => JudAns 1 zs l w e w' := judge_any n a m c l 1 (by omega) ap cp zs w h hz hc
theorem seenZ_of {w : World} {a : Option Addr} {len cap : Nat} {zs : List Int} (h : (a = none ∧ len = 0 ∧ cap = 0 ∧ zs = []) ∨ ∃ x, a = some x ∧ len ≤ cap ∧ cap ≤ maxLen ∧ zs.length = cap ∧ (∀ i, i < zs.length → w.cell? (x.add i) = some (.int .i64 (zs.getD i 0))) ∧ ∀ n ∈ zs, (Lit.int .i64 n).wf = true) :
    SeenZ w a len (zs.take len) := by
  rcases h with ⟨rfl, rfl, rfl, rfl⟩ | ⟨x, rfl, h1, h2, h3, h4, h5⟩
  · exact ⟨rfl, fun x hx => by simp at hx, fun h => by omega⟩
  · refine ⟨by simp; omega, fun y hy => okI_of_wf (h5 y (List.mem_of_mem_take hy)), fun h0 => ?_⟩
    have hspot : x.spot = none := by
      have := h4 0 (by omega)
      have e : x.add 0 = x := by unfold Addr.add; simp
      rw [e] at this
      exact spot_none this
    obtain ⟨b0, off, sp⟩ := x
    simp only at hspot
    subst hspot
    have hc0 := h4 0 (by omega)
    refine ⟨b0, off, rfl, ?_, fun k y hy => ?_⟩
    · have e : (⟨b0, off, none⟩ : Addr).add 0 = ⟨b0, off, none⟩ := by unfold Addr.add; simp
      rw [e] at hc0
      exact lt_of_cell hc0
    · rw [List.getElem?_take] at hy
      split at hy
      · have := h4 k (by omega)
        rw [List.getD_eq_getElem?_getD, hy] at this
        have e : (⟨b0, off, none⟩ : Addr).add k = ⟨b0, off + k, none⟩ := by
          unfold Addr.add
          split <;> simp_all
        rw [e] at this
        exact this
      · cases hy
end Go.Proofs.Ytnhoedodnbifdaa
