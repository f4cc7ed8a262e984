import Derived.Test.YtnhoedodnbifdaaDgJudge
import Derived.Test.YtnhoedodnbifdaaDgBrentP
/-! What Judge finds is what the bounds are about. -/
namespace Go.Proofs.Ytnhoedodnbifdaa
set_option linter.unusedVariables false
set_option maxRecDepth 20000

theorem sorted_lt (x : Int) : ∀ (s : List Int), s.Pairwise (· ≤ ·) → ∀ j, j < s.length → (s.getD j 0 < x ↔ j < s.countP (· < x)) := by
  intro s
  induction s with
  | nil => intro _ j hj; simp at hj
  | cons a s ih =>
    intro hs j hj
    rw [List.pairwise_cons] at hs
    rw [List.countP_cons]
    by_cases ha : a < x
    · have e : (decide (a < x)) = true := by simpa using ha
      rw [if_pos e]
      cases j with
      | zero => simp [ha]
      | succ j =>
        have := ih hs.2 j (by simp at hj; omega)
        simp only [List.getD_cons_succ]
        rw [this]; omega
    · have e : ¬ (decide (a < x)) = true := by simpa using ha
      rw [if_neg e]
      have h0 : s.countP (· < x) = 0 := by
        rw [List.countP_eq_zero]
        intro b hb h
        have := hs.1 b hb
        simp at h
        omega
      rw [h0]
      cases j with
      | zero => simp; omega
      | succ j =>
        simp only [List.getD_cons_succ]
        have hj2 : j < s.length := by simp at hj; omega
        have h1 : s.getD j 0 ∈ s := by rw [List.getD_eq_getElem?_getD, List.getElem?_eq_getElem hj2]; exact List.getElem_mem hj2
        have := hs.1 _ h1
        omega
theorem cnt_split (x : Int) (s : List Int) : s.countP (· < x + 1) = s.countP (· < x) + s.count x := by
  induction s with
  | nil => rfl
  | cons a s ih =>
    rw [List.countP_cons, List.countP_cons, List.count_cons, ih]
    by_cases h1 : a < x
    · have h2 : a < x + 1 := by omega
      have h3 : ¬ a = x := by omega
      simp [h1, h2, h3]; omega
    · by_cases h2 : a = x
      · subst h2
        rw [if_pos (decide_eq_true (show a < a + 1 by omega)), if_neg (by simp), if_pos (by simp)]
        omega
      · have h3 : ¬ a < x + 1 := by omega
        simp [h1, h2, h3]
theorem at_iff {s : List Int} (hs : s.Pairwise (· ≤ ·)) (x : Int) (j : Nat) (hj : j < s.length) : s.getD j 0 = x ↔ s.countP (· < x) ≤ j ∧ j < s.countP (· < x) + s.count x := by
  have h1 := sorted_lt x s hs j hj
  have h2 := sorted_lt (x + 1) s hs j hj
  rw [cnt_split] at h2
  omega
theorem mem_full {p : Nat} {s : List Int} {x : Int} (K : Nat) : x ∈ fullL p s K ↔ ∃ k, k < K ∧ fullC p s k = true ∧ s.getD k 0 = x := by
  induction K with
  | zero => simp [fullL]
  | succ K ih =>
    rw [fullL, List.mem_append, ih]
    constructor
    · rintro (⟨k, h1, h2, h3⟩ | h)
      · exact ⟨k, by omega, h2, h3⟩
      · split at h
        · rename_i hc
          rw [List.mem_singleton] at h
          exact ⟨K, by omega, hc, h.symm⟩
        · cases h
    · rintro ⟨k, h1, h2, h3⟩
      by_cases e : k = K
      · subst e
        right
        rw [if_pos h2, List.mem_singleton]
        exact h3.symm
      · exact .inl ⟨k, by omega, h2, h3⟩
theorem fullC_iff {p : Nat} {s : List Int} {k : Nat} : fullC p s k = true ↔ k + p - 1 < s.length ∧ s.getD (k + p - 1) 0 = s.getD k 0 := by
  simp [fullC]
theorem full_iff {p : Nat} {s : List Int} (hs : s.Pairwise (· ≤ ·)) (hp : 1 ≤ p) (hc : ∀ x, s.count x ≤ p) (x : Int) : x ∈ fullL p s s.length ↔ s.count x = p := by
  have hcx := hc x
  rw [mem_full]
  constructor
  · rintro ⟨k, h1, h2, h3⟩
    obtain ⟨h4, h5⟩ := fullC_iff.1 h2
    have h6 := (at_iff hs x k h1).1 h3
    have h7 := (at_iff hs x (k + p - 1) h4).1 (h5.trans h3)
    omega
  · intro h
    have h1 : s.countP (· < x + 1) ≤ s.length := List.countP_le_length
    rw [cnt_split] at h1
    refine ⟨s.countP (· < x), by omega, fullC_iff.2 ⟨by omega, ?_⟩, (at_iff hs x _ (by omega)).2 ⟨by omega, by omega⟩⟩
    rw [(at_iff hs x (s.countP (· < x) + p - 1) (by omega)).2 ⟨by omega, by omega⟩, (at_iff hs x _ (by omega)).2 ⟨by omega, by omega⟩]
theorem full_strict {p : Nat} {s : List Int} (hs : s.Pairwise (· ≤ ·)) (hp : 1 ≤ p) (hc : ∀ x, s.count x ≤ p) (K : Nat) (hK : K ≤ s.length) : (fullL p s K).Pairwise (· < ·) := by
  induction K with
  | zero => exact List.Pairwise.nil
  | succ K ih =>
    rw [fullL, List.pairwise_append]
    refine ⟨ih (by omega), ?_, ?_⟩
    · split <;> simp
    · intro a ha b hb
      split at hb
      · rename_i hC
        rw [List.mem_singleton] at hb
        obtain ⟨k, h1, h2, h3⟩ := (mem_full K).1 ha
        obtain ⟨h4, h5⟩ := fullC_iff.1 hC
        have hcb := hc b
        have e1 := (at_iff hs b K (by omega)).1 hb.symm
        have e2 := (at_iff hs b (K + p - 1) h4).1 (h5.trans hb.symm)
        have e3 := at_iff hs b k (by omega)
        have e4 := sorted_lt b s hs k (by omega)
        rw [h3] at e3 e4
        omega
      · cases hb
theorem cb_succ {F : List Int} (hF : F.Pairwise (· < ·)) (x : Int) : cb F (x + 1) = cb F x + if x ∈ F then 1 else 0 := by
  have hn : F.Nodup := hF.imp (fun h => by omega)
  unfold cb
  rw [cnt_split, hn.count]
theorem cb_run {F : List Int} (hF : F.Pairwise (· < ·)) (a : Int) : ∀ d : Nat, cb F (a + d) ≤ cb F a + d ∧ (cb F (a + d) = cb F a + d ↔ ∀ t, a ≤ t → t < a + d → t ∈ F) := by
  intro d
  induction d with
  | zero =>
    refine ⟨by simp, ⟨fun _ t h1 h2 => by simp at h2; omega, fun _ => by simp⟩⟩
  | succ d ih =>
    have e : a + ((d + 1 : Nat) : Int) = (a + d) + 1 := by omega
    rw [e, cb_succ hF]
    by_cases hm : a + (d : Int) ∈ F
    · rw [if_pos hm]
      refine ⟨by omega, ⟨fun h t h1 h2 => ?_, fun h => ?_⟩⟩
      · by_cases e2 : t = a + d
        · rw [e2]; exact hm
        · exact ih.2.1 (by omega) t h1 (by omega)
      · have := ih.2.2 (fun t h1 h2 => h t h1 (by omega))
        omega
    · rw [if_neg hm]
      refine ⟨by omega, ⟨fun h t h1 h2 => by omega, fun h => absurd (h (a + d) (by omega) (by omega)) hm⟩⟩
theorem zs_map (zs : List Int) : (List.range zs.length).map (tm zs) = zs := by
  apply List.ext_getElem
  · simp
  · intro i h1 h2
    simp [tm, h2]
theorem cnt_zs (zs : List Int) (t : Int) : cntAt zs.length (tm zs) t = zs.count t := by
  have h : ((List.range zs.length).map (tm zs)).count t = zs.count t := by rw [zs_map]
  rw [← h, List.count_eq_countP, List.countP_map, List.countP_eq_length_filter]
  unfold cntAt
  rfl
theorem fold_le (g : Ed → Int) (t : Int) : ∀ (L : List Ed) (m : Int), L.foldl (fun a e => max a (g e)) m ≤ t ↔ m ≤ t ∧ ∀ e ∈ L, g e ≤ t := by
  intro L
  induction L with
  | nil => intro m; simp
  | cons e L ih =>
    intro m
    rw [List.foldl_cons, ih]
    simp only [List.mem_cons, forall_eq_or_imp]
    rw [Int.max_le, and_assoc]
theorem since_iff (zs : List Int) (l : List Ed) (v : Nat) (t : Int) : sinceF zs l l.length v ≤ t ↔ 1 ≤ t ∧ ahead l (tm zs) v t := by
  unfold sinceF ahead
  rw [List.take_length, fold_le (fun e => tm zs e.f.toNat + 1)]
  constructor
  · rintro ⟨h1, h2⟩
    refine ⟨h1, fun a ha => ?_⟩
    obtain ⟨e, he, e1, e2⟩ := mem_bef.1 ha
    have := h2 e (List.mem_filter.2 ⟨he, by simpa using e1⟩)
    rw [e2] at this
    omega
  · rintro ⟨h1, h2⟩
    refine ⟨h1, fun e he => ?_⟩
    rw [List.mem_filter] at he
    have := h2 e.f (mem_bef.2 ⟨e, he.1, by simpa using he.2, rfl⟩)
    omega
theorem last_at (t : Int) : ∀ zs : List Int, t ∈ zs → ∃ i, i < zs.length ∧ zs[i]? = some t ∧ (zs.take (i + 1)).count t = zs.count t := by
  intro zs
  induction zs with
  | nil => intro h; cases h
  | cons a zs ih =>
    intro h
    by_cases hm : t ∈ zs
    · obtain ⟨i, h1, h2, h3⟩ := ih hm
      refine ⟨i + 1, by simp; omega, by simpa using h2, ?_⟩
      rw [List.take_succ_cons, List.count_cons, List.count_cons, h3]
    · rw [List.mem_cons] at h
      rcases h with h | h
      · subst h
        refine ⟨0, by simp, by simp, ?_⟩
        rw [List.take_succ_cons, List.count_cons, List.count_cons, List.count_eq_zero.2 hm]
        simp
      · exact absurd h hm
theorem sched_of {p : Nat} {zs : List Int} {l : List Ed} (h : isSched p zs l) : Sched zs.length p l (tm zs) := by
  refine ⟨fun i hi => ?_, fun t => ?_, fun e he => ?_⟩
  · have := (h.1 i zs[i] hi (by simp)).1
    simp [tm, hi]
    exact this
  · rw [cnt_zs]
    by_cases h0 : t ∈ zs
    · obtain ⟨i, hi, hx, hmax⟩ := last_at t zs h0
      have := (h.1 i t hi hx).2
      rw [hmax] at this
      omega
    · rw [List.count_eq_zero.2 h0]; omega
  · obtain ⟨i, hi, rfl⟩ := List.mem_iff_getElem.1 he
    exact h.2 i _ hi (by simp)
theorem of_sched {p : Nat} {zs : List Int} {l : List Ed} (h : Sched zs.length p l (tm zs)) : isSched p zs l := by
  refine ⟨fun i x hi hx => ⟨?_, ?_⟩, fun i e hi he => h.edge e (List.mem_of_getElem? he)⟩
  · have := h.one i hi
    unfold tm at this
    rw [List.getD_eq_getElem?_getD, hx] at this
    exact this
  · have h1 := h.most x
    rw [cnt_zs] at h1
    have h2 := (List.take_sublist (i + 1) zs).count_le x
    omega
/-- Greedy: a node waits through full times only. -/
theorem gr_iff {p : Nat} {zs : List Int} {l : List Ed} (hp : 1 ≤ p) (hd : Dag (zs.length : Int) l) (h : isSched p zs l) :
    grOk p zs l zs.length ↔ ∀ v t, v < zs.length → sinceF zs l l.length v ≤ t → t < tm zs v → cntAt zs.length (tm zs) t = p := by
  have hS := sched_of h
  have hc : ∀ x, (srt zs).count x ≤ p := by
    intro x
    have h1 := hS.most x
    rw [cnt_zs] at h1
    have h2 : (srt zs).count x = zs.count x := (List.mergeSort_perm zs _).count_eq x
    omega
  have hF : (fullV p zs).Pairwise (· < ·) := full_strict (srt_sorted zs) hp hc _ (by rw [srt_len]; omega)
  have hM : ∀ t, t ∈ fullV p zs ↔ cntAt zs.length (tm zs) t = p := by
    intro t
    have h1 := full_iff (srt_sorted zs) hp hc t
    rw [srt_len] at h1
    unfold fullV
    have h2 : (srt zs).count t = zs.count t := (List.mergeSort_perm zs _).count_eq t
    rw [h1, cnt_zs, h2]
  have key : ∀ v, v < zs.length → ((cb (fullV p zs) (tm zs v) : Int) - cb (fullV p zs) (sinceF zs l l.length v) = tm zs v - sinceF zs l l.length v ↔ ∀ t, sinceF zs l l.length v ≤ t → t < tm zs v → cntAt zs.length (tm zs) t = p) := by
    intro v hv
    have h1 := since_le rfl hd h v hv l.length
    obtain ⟨d, hd2⟩ := Int.eq_ofNat_of_zero_le (show 0 ≤ tm zs v - sinceF zs l l.length v by omega)
    have e : tm zs v = sinceF zs l l.length v + (d : Int) := by omega
    have h2 := cb_run hF (sinceF zs l l.length v) d
    rw [← e] at h2
    constructor
    · intro h3 t h4 h5
      exact (hM t).1 (h2.2.1 (by omega) t h4 h5)
    · intro h3
      have := h2.2.2 (fun t h4 h5 => (hM t).2 (h3 t h4 h5))
      omega
  constructor
  · intro hg v t hv h1 h2
    exact (key v hv).1 (hg v hv) t h1 h2
  · intro hg v hv
    exact (key v hv).2 (fun t h1 h2 => hg v t hv h1 h2)
theorem grdy_of {p : Nat} {zs : List Int} {l : List Ed} (hp : 1 ≤ p) (hd : Dag (zs.length : Int) l) (h : isSched p zs l) (hg : grOk p zs l zs.length) (len : Nat) (hlen : ∀ i, i < zs.length → tm zs i ≤ len) : Grdy zs.length p l (tm zs) len := by
  refine ⟨sched_of h, hlen, fun t h1 h2 => ?_⟩
  by_cases e : cntAt zs.length (tm zs) t = p
  · exact .inl e
  · refine .inr (fun i hi h3 h4 => e ((gr_iff hp hd h).1 hg i t hi ((since_iff zs l i t).2 ⟨by omega, h4⟩) h3))
theorem gr_of {p : Nat} {zs : List Int} {l : List Ed} (hp : 1 ≤ p) (hd : Dag (zs.length : Int) l) {len : Nat} (hG : Grdy zs.length p l (tm zs) len) : isSched p zs l ∧ grOk p zs l zs.length := by
  have h := of_sched hG.sch
  refine ⟨h, (gr_iff hp hd h).2 (fun v t hv h1 h2 => ?_)⟩
  obtain ⟨h3, h4⟩ := (since_iff zs l v t).1 h1
  have h5 := hG.top v hv
  obtain ⟨t', rfl⟩ := Int.eq_ofNat_of_zero_le (show 0 ≤ t by omega)
  rcases hG.full t' (by omega) (by omega) with h6 | h6
  · exact h6
  · exact absurd h4 (h6 v hv h2)
end Go.Proofs.Ytnhoedodnbifdaa
