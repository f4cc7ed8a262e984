import Derived.Test.YtheginjjncnheaaHwOrds
import Derived.Test.YtheginjjncnheaaHiSerial
/-! A plain run whose calls are drawn apart: it is a history, its own order is one, and what is cut of it has one. -/
namespace Go.Proofs.Ytheginjjncnheaa
set_option linter.unusedVariables false
set_option maxRecDepth 20000
set_option linter.unusedSimpArgs false
open Go.RowKit Go.HeapKit

/-- Calls about moments of their own that answer what a plain run answers. -/
structure Wd (most : Nat) (ts : List (Int × Int)) (mom : Nat → Int) (l : List Cl) : Prop where
  len : l.length = ts.length
  ok : ∀ (k : Nat) (x : Cl) (t : Int × Int), l[k]? = some x → ts[k]? = some t → x.kind = t.1 ∧ x.arg = argOf t ∧ x.code = (ansD most (serS most ts k).2 t.1 (argOf t)).1.1 ∧ x.v = (ansD most (serS most ts k).2 t.1 (argOf t)).1.2 ∧ 0 ≤ x.beg ∧ x.beg ≤ mom k ∧ mom k ≤ x.fin ∧ (t.1 = 2 → 1 ≤ x.who ∧ x.who < 4) ∧ (t.1 ≠ 2 → x.who = 0)
  apart : l.Pairwise (fun y x => y.who = x.who → y.fin < x.beg)
theorem ans_code (most : Nat) (zs : List Int) {kind : Int} (arg : Int) (hk : kind = 0 ∨ kind = 1 ∨ kind = 2) : ansB kind (ansD most zs kind arg).1.1 = true ∧ (ansD most zs kind arg).1.1 ≠ 0 ∧ (ansD most zs kind arg).1.1 ≠ 6 ∧ ((ansD most zs kind arg).1.1 = 3 ∨ (ansD most zs kind arg).1.1 = 5 → (ansD most zs kind arg).2 = zs) ∧ (¬ ((ansD most zs kind arg).1.1 = 3 ∨ (ansD most zs kind arg).1.1 = 5) → (ansD most zs kind arg).1.1 = 2 ∨ (ansD most zs kind arg).1.1 = 4) := by
  unfold ansD ansB
  rcases hk with rfl | rfl | rfl
  · by_cases he : most ≤ zs.length <;> simp [he]
  · by_cases he : zs = [] <;> simp [he]
  · cases zs <;> simp
theorem todo_kind {t : Int × Int} (h : todoOk t = true) : t.1 = 0 ∨ t.1 = 1 ∨ t.1 = 2 := decide_eq_true_iff.1 h
theorem hist_pair {l : List Cl} (h1 : ∀ x ∈ l, fitsB x = true) (h2 : l.Pairwise (fun y x => behind y x = true)) : histB l = true := histB_all fun k hk => by
  have hx : l[k]? = some l[k] := by simp
  rw [okB_of hx, h1 _ (List.mem_of_getElem? hx), Bool.true_and]
  refine List.all_eq_true.2 fun y hy => ?_
  obtain ⟨j, hj⟩ := List.mem_iff_getElem?.1 hy
  rw [List.getElem?_take] at hj
  split at hj
  · rename_i hlt
    obtain ⟨hjl, e⟩ := List.getElem?_eq_some_iff.1 hj
    rw [← e]
    exact List.pairwise_iff_getElem.1 h2 j k hjl hk hlt
  · cases hj
section
variable {most : Nat} {ts : List (Int × Int)} {mom : Nat → Int} {l : List Cl}
theorem Wd.at (h : Wd most ts mom l) {k : Nat} {x : Cl} (hx : l[k]? = some x) : ∃ t, ts[k]? = some t := ⟨ts[k]'(by have := (List.getElem?_eq_some_iff.1 hx).1; have := h.len; omega), by simp⟩
theorem Wd.fits (h : Wd most ts mom l) (ht : ts.all todoOk = true) {k : Nat} {x : Cl} (hx : l[k]? = some x) : fitsB x = true ∧ x.code ≠ 0 ∧ x.code ≠ 6 := by
  obtain ⟨t, htt⟩ := h.at hx
  obtain ⟨e1, e2, e3, e4, b0, b1, b2, w1, w2⟩ := h.ok k x t hx htt
  have hk := todo_kind (ok_at ht htt)
  obtain ⟨a1, a2, a3, a4, a5⟩ := ans_code most (serS most ts k).2 (argOf t) hk
  refine ⟨?_, by rw [e3]; exact a2, by rw [e3]; exact a3⟩
  unfold fitsB
  have hmk : mkB x.who x.kind = true := by
    unfold mkB
    rw [e1]
    by_cases h2 : t.1 = 2
    · have := w1 h2
      rw [if_neg (by omega), if_pos h2, decide_eq_true_iff]
      omega
    · rw [if_pos (by omega), decide_eq_true_iff]
      exact w2 h2
  rw [if_neg (by omega), hmk, if_neg (by decide), if_neg (by rw [e3]; exact a2), if_pos (by omega), e1, e3]
  exact a1
theorem Wd.ended (h : Wd most ts mom l) (ht : ts.all todoOk = true) : ∀ x ∈ l, x.code ≠ 0 := fun x hx => by
  obtain ⟨k, hk⟩ := List.mem_iff_getElem?.1 hx
  exact (h.fits ht hk).2.1
theorem Wd.hist (h : Wd most ts mom l) (ht : ts.all todoOk = true) : histB l = true := by
  refine hist_pair (fun x hx => ?_) ?_
  · obtain ⟨k, hk⟩ := List.mem_iff_getElem?.1 hx
    exact (h.fits ht hk).1
  · refine List.pairwise_iff_getElem.2 fun i j hi hj hij => ?_
    have h1 := List.pairwise_iff_getElem.1 h.apart i j hi hj hij
    have hx : l[i]? = some l[i] := by simp
    obtain ⟨t, htt⟩ := h.at hx
    obtain ⟨_, _, _, _, b0, b1, b2, _, _⟩ := h.ok i _ t hx htt
    unfold behind
    rw [decide_eq_true_iff]
    exact fun e => ⟨by omega, h1 e⟩
/-! ### What is cut -/
theorem cut_mem {p : Int} {l : List Cl} {z : Cl} (h : z ∈ cutL p l) : ∃ x ∈ l, x.beg < p ∧ z = x.shut p := by
  induction l with
  | nil => cases h
  | cons x l ih =>
    simp only [cutL] at h
    split at h
    · obtain ⟨x', h1, h2⟩ := ih h
      exact ⟨x', List.mem_cons_of_mem _ h1, h2⟩
    · rcases List.mem_cons.1 h with h | h
      · exact ⟨x, List.mem_cons_self, by omega, h⟩
      · obtain ⟨x', h1, h2⟩ := ih h
        exact ⟨x', List.mem_cons_of_mem _ h1, h2⟩
theorem shut_same (p : Int) (x : Cl) : (x.shut p).who = x.who ∧ (x.shut p).kind = x.kind ∧ (x.shut p).arg = x.arg ∧ (x.shut p).beg = x.beg := by
  unfold Cl.shut
  split <;> exact ⟨rfl, rfl, rfl, rfl⟩
theorem shut_pos {p : Int} {x : Cl} (h : p ≤ x.fin) : (x.shut p).code = 0 ∧ (x.shut p).fin = -1 := by
  unfold Cl.shut
  rw [if_pos h]
  exact ⟨rfl, rfl⟩
theorem shut_neg {p : Int} {x : Cl} (h : ¬ p ≤ x.fin) : x.shut p = x := by
  unfold Cl.shut
  rw [if_neg h]
theorem shut_fits {p : Int} {x : Cl} (h : fitsB x = true) : fitsB (x.shut p) = true := by
  by_cases hp : p ≤ x.fin
  · obtain ⟨s1, s2, s3, s4⟩ := shut_same p x
    obtain ⟨s5, s6⟩ := shut_pos hp
    obtain ⟨_, _, _, f4, _, _, f7⟩ := fits_ended h
    unfold fitsB
    rw [s4, s1, s2, s5, s6, if_neg (by omega), f7]
    simp
  · rw [shut_neg hp]
    exact h
theorem cut_pair {p : Int} {l : List Cl} (h : l.Pairwise (fun y x => behind y x = true)) : (cutL p l).Pairwise (fun y x => behind y x = true) := by
  induction l with
  | nil => exact List.Pairwise.nil
  | cons x l ih =>
    obtain ⟨h1, h2⟩ := List.pairwise_cons.1 h
    simp only [cutL]
    split
    · exact ih h2
    · refine List.pairwise_cons.2 ⟨fun z hz => ?_, ih h2⟩
      obtain ⟨x', hx', hb, rfl⟩ := cut_mem hz
      have h3 := h1 x' hx'
      unfold behind at h3 ⊢
      rw [decide_eq_true_iff] at h3 ⊢
      obtain ⟨s1, _, _, _⟩ := shut_same p x
      obtain ⟨t1, _, _, t4⟩ := shut_same p x'
      rw [s1, t1, t4]
      intro e
      obtain ⟨b1, b2⟩ := h3 e
      rw [shut_neg (by omega)]
      exact ⟨b1, b2⟩
theorem hist_behind {l : List Cl} (h : histB l = true) : l.Pairwise (fun y x => behind y x = true) := List.pairwise_iff_getElem.2 fun i j hi hj hij => by
  have h1 := histB_at h hj
  have hx : l[j]? = some l[j] := by simp
  rw [okB_of hx, Bool.and_eq_true] at h1
  exact List.all_eq_true.1 h1.2 _ (List.mem_of_getElem? (i := i) (by rw [List.getElem?_take, if_pos hij]; simp))
theorem cut_hist {p : Int} {l : List Cl} (h : histB l = true) : histB (cutL p l) = true := by
  refine hist_pair (fun z hz => ?_) (cut_pair (hist_behind h))
  obtain ⟨x, hx, _, rfl⟩ := cut_mem hz
  obtain ⟨k, hk⟩ := List.mem_iff_getElem?.1 hx
  exact shut_fits (hist_fits h hk)
theorem cut_all {p : Int} {l : List Cl} (h : ∀ x ∈ l, x.beg < p) : cutL p l = l.map (Cl.shut p) := by
  induction l with
  | nil => rfl
  | cons x l ih =>
    have h1 := h x List.mem_cons_self
    simp only [cutL]
    rw [if_neg (by omega), ih (fun y hy => h y (List.mem_cons_of_mem _ hy)), List.map_cons]
theorem mom_split (mom : Nat → Int) (hm : ∀ i j, i < j → mom i < mom j) (p : Int) : ∀ n, ∃ K, K ≤ n ∧ (∀ i, i < K → mom i < p) ∧ ∀ i, K ≤ i → i < n → p ≤ mom i
  | 0 => ⟨0, Nat.le_refl _, fun i h => absurd h (by omega), fun i _ h => absurd h (by omega)⟩
  | n + 1 => by
    obtain ⟨K, h1, h2, h3⟩ := mom_split mom hm p n
    by_cases e : K = n
    · subst e
      by_cases hp : mom K < p
      · exact ⟨K + 1, Nat.le_refl _, fun i hi => by
          by_cases e2 : i = K
          · subst e2; exact hp
          · exact h2 i (by omega), fun i hi1 hi2 => absurd hi2 (by omega)⟩
      · exact ⟨K, by omega, h2, fun i hi1 hi2 => by
          have : i = K := by omega
          subst this
          omega⟩
    · refine ⟨K, by omega, h2, fun i hi1 hi2 => ?_⟩
      by_cases e2 : i = n
      · subst e2
        have h4 := h3 K (Nat.le_refl _) (by omega)
        have h5 := hm K i (by omega)
        omega
      · exact h3 i hi1 (by omega)
/-- Whether a call stays in the order of what is cut. -/
def stays (p : Int) (x : Cl) : Bool := !decide (p ≤ x.fin ∧ (x.code = 3 ∨ x.code = 5))
def cutO (p : Int) (l : List Cl) : Nat → List Int
  | 0 => []
  | k + 1 => cutO p l k ++ (if stays p (clAt l k) then [(k : Int)] else [])
theorem cutO_mem {p : Int} {l : List Cl} : ∀ {k : Nat} {z : Int}, z ∈ cutO p l k → ∃ q : Nat, z = q ∧ q < k ∧ stays p (clAt l q) = true
  | 0, z, h => by cases h
  | k + 1, z, h => by
    simp only [cutO] at h
    rcases List.mem_append.1 h with h | h
    · obtain ⟨q, h1, h2, h3⟩ := cutO_mem h
      exact ⟨q, h1, by omega, h3⟩
    · split at h
      · rename_i hs
        rw [List.mem_singleton] at h
        exact ⟨k, h, by omega, hs⟩
      · cases h
theorem cutO_has {p : Int} {l : List Cl} {q : Nat} (hs : stays p (clAt l q) = true) : ∀ {k : Nat}, q < k → (q : Int) ∈ cutO p l k
  | 0, h => absurd h (by omega)
  | k + 1, h => by
    simp only [cutO]
    by_cases e : q = k
    · subst e
      rw [hs]
      simp
    · exact List.mem_append_left _ (cutO_has hs (by omega))
theorem cutO_sorted {p : Int} {l : List Cl} : ∀ k : Nat, (cutO p l k).Pairwise (· < ·)
  | 0 => List.Pairwise.nil
  | k + 1 => by
    simp only [cutO]
    refine List.pairwise_append.2 ⟨cutO_sorted k, by split <;> simp, fun a ha b hb => ?_⟩
    obtain ⟨q, rfl, hq, _⟩ := cutO_mem ha
    split at hb
    · rw [List.mem_singleton] at hb
      omega
    · cases hb
/-- What is cut of it has an order. -/
theorem Wd.cut (h : Wd most ts mom l) (ht : ts.all todoOk = true) (hm : ∀ i j, i < j → mom i < mom j) (p : Int) : ∃ os, LegOk (cutL p l) most os ∧ ((∀ x ∈ l, x.fin < p) → cutL p l = l ∧ os = cutO p l l.length) := by
  obtain ⟨K, hK, hK1, hK2⟩ := mom_split mom hm p l.length
  have hbeg : ∀ (i : Nat) (x : Cl), i < K → l[i]? = some x → x.beg < p := fun i x hi hx => by
    obtain ⟨t, htt⟩ := h.at hx
    obtain ⟨_, _, _, _, _, b1, _⟩ := h.ok i x t hx htt
    have := hK1 i hi
    omega
  have hfin : ∀ (i : Nat) (x : Cl), K ≤ i → l[i]? = some x → p ≤ x.fin := fun i x hi hx => by
    obtain ⟨t, htt⟩ := h.at hx
    obtain ⟨_, _, _, _, _, _, b2, _⟩ := h.ok i x t hx htt
    have := hK2 i hi (List.getElem?_eq_some_iff.1 hx).1
    omega
  have hsplit : cutL p l = (l.take K).map (Cl.shut p) ++ cutL p (l.drop K) := by
    conv => lhs; rw [← List.take_append_drop K l, cutL_append]
    congr 1
    refine cut_all fun x hx => ?_
    obtain ⟨i, hi⟩ := List.mem_iff_getElem?.1 hx
    rw [List.getElem?_take] at hi
    split at hi
    · rename_i hlt
      exact hbeg i x hlt hi
    · cases hi
  have hlt : ((l.take K).map (Cl.shut p)).length = K := by simp; omega
  have hat : ∀ (i : Nat) (x : Cl), i < K → l[i]? = some x → (cutL p l)[i]? = some (x.shut p) := fun i x hi hx => by
    rw [hsplit, List.getElem?_append_left (by omega), List.getElem?_map, List.getElem?_take, if_pos hi, hx]
    rfl
  have hplen : K ≤ (cutL p l).length := by rw [hsplit, List.length_append]; omega
  have hrest : ∀ (q : Nat) (z : Cl), K ≤ q → (cutL p l)[q]? = some z → z.code = 0 := fun q z hq hz => by
    rw [hsplit, List.getElem?_append_right (by omega)] at hz
    obtain ⟨x, hx, _, rfl⟩ := cut_mem (List.mem_of_getElem? hz)
    obtain ⟨i, hi⟩ := List.mem_iff_getElem?.1 hx
    rw [List.getElem?_drop] at hi
    exact (shut_pos (hfin (K + i) x (by omega) hi)).1
  have hget : ∀ q : Nat, q < K → ∃ x, l[q]? = some x := fun q hq => ⟨l[q]'(by omega), by simp⟩
  have hmem : ∀ {j : Nat} {z : Int}, (cutO p l K)[j]? = some z → ∃ q : Nat, z = q ∧ q < K ∧ stays p (clAt l q) = true := fun hz => cutO_mem (List.mem_of_getElem? hz)
  have hrun : ∀ k, k ≤ K → runD most (cutL p l) (cutO p l k) = some (serS most ts k).2 := fun k => by
    induction k with
    | zero => intro _; rfl
    | succ k ih =>
      intro hk
      obtain ⟨x, hx⟩ := hget k (by omega)
      obtain ⟨t, htt⟩ := h.at hx
      obtain ⟨e1, e2, e3, e4, _, _, _, _, _⟩ := h.ok k x t hx htt
      have hkd := todo_kind (ok_at ht htt)
      obtain ⟨a1, a2, a3, a4, a5⟩ := ans_code most (serS most ts k).2 (argOf t) hkd
      have hs := serS_more most htt
      have ih := ih (by omega)
      simp only [cutO, clAt_of hx]
      by_cases hst : stays p x = true
      · rw [hst, if_pos rfl]
        unfold runD at ih ⊢
        rw [List.foldl_append, ih]
        simp only [List.foldl_cons, List.foldl_nil]
        unfold stepD
        rw [clAt_of (hat k x (by omega) hx)]
        obtain ⟨s1, s2, s3, s4⟩ := shut_same p x
        have hz : alwZ most (serS most ts k).2 (x.shut p) = (serS most ts (k + 1)).2 := by
          rw [hs]
          unfold alwZ
          have h6 : (x.shut p).code ≠ 6 := by
            by_cases hp : p ≤ x.fin
            · rw [(shut_pos hp).1]; decide
            · rw [shut_neg hp, e3]; exact a3
          rw [if_neg h6, s2, s3, e1, e2]
        have hb : alwB most (serS most ts k).2 (x.shut p) = true := by
          unfold alwB
          by_cases hp : p ≤ x.fin
          · rw [(shut_pos hp).1, if_neg (by decide), if_pos rfl, s2, s3, e1, e2, decide_eq_true_iff]
            refine a5 fun h35 => ?_
            unfold stays at hst
            rw [e3, decide_eq_true ⟨hp, h35⟩] at hst
            cases hst
          · rw [shut_neg hp, if_neg (by rw [e3]; exact a3), if_neg (by rw [e3]; exact a2), e1, e2]
            split
            · rename_i h4
              rw [e3] at h4
              rw [decide_eq_true_iff]
              exact ⟨h4, e4.symm⟩
            · rw [decide_eq_true_iff]
              exact e3.symm
        simp [hb, hz]
      · have hst2 : stays p x = false := by simpa using hst
        rw [hst2, if_neg (by decide), List.append_nil, ih, hs]
        simp only
        rw [a4 (by
          unfold stays at hst2
          simp only [Bool.not_eq_false', decide_eq_true_iff] at hst2
          rw [← e3]
          exact hst2.2)]
  refine ⟨cutO p l K, ⟨?_, ?_, ?_, ⟨_, hrun K (Nat.le_refl _)⟩⟩, fun hall => ?_⟩
  · refine List.all_eq_true.2 fun k hk => ?_
    have hkl := List.mem_range.1 hk
    obtain ⟨z, hz⟩ : ∃ z, (cutO p l K)[k]? = some z := ⟨(cutO p l K)[k], by simp⟩
    obtain ⟨q, rfl, hq, _⟩ := hmem hz
    unfold idxB
    rw [getD_of hz]
    have hnc : ¬ (q : Int) ∈ (cutO p l K).take k := fun hm2 => absurd (take_less (cutO_sorted K) hm2 hz) (Int.lt_irrefl _)
    simp [hnc]
    omega
  · refine List.all_eq_true.2 fun q hq => ?_
    have hql := List.mem_range.1 hq
    obtain ⟨z, hz⟩ : ∃ z, (cutL p l)[q]? = some z := ⟨(cutL p l)[q], by simp⟩
    rw [clAt_of hz]
    by_cases hqK : q < K
    · obtain ⟨x, hx⟩ := hget q hqK
      have e : z = x.shut p := by rw [hat q x hqK hx] at hz; injection hz with hz; exact hz.symm
      by_cases hp : p ≤ x.fin
      · rw [e, (shut_pos hp).1]
        simp
      · have hst : stays p (clAt l q) = true := by
          rw [clAt_of hx]
          unfold stays
          rw [decide_eq_false (fun h => hp h.1)]
          rfl
        have := cutO_has hst hqK
        simp [this]
    · rw [hrest q z (by omega) hz]
      simp
  · refine List.all_eq_true.2 fun k hk => ?_
    have hkl := List.mem_range.1 hk
    obtain ⟨z, hz⟩ : ∃ z, (cutO p l K)[k]? = some z := ⟨(cutO p l K)[k], by simp⟩
    obtain ⟨q, rfl, hq, _⟩ := hmem hz
    obtain ⟨x, hx⟩ := hget q hq
    obtain ⟨t, htt⟩ := h.at hx
    obtain ⟨_, _, _, _, _, _, b2, _⟩ := h.ok q x t hx htt
    unfold tmB
    rw [getD_of hz]
    refine List.all_eq_true.2 fun y hy => ?_
    have hlt2 := take_less (cutO_sorted K) hy hz
    obtain ⟨q', rfl, hq', _⟩ := cutO_mem (List.mem_of_mem_take hy)
    obtain ⟨x', hx'⟩ := hget q' hq'
    obtain ⟨t', htt'⟩ := h.at hx'
    obtain ⟨_, _, _, _, _, b1', _⟩ := h.ok q' x' t' hx' htt'
    rw [clAt_of (hat q x hq hx), clAt_of (hat q' x' hq' hx')]
    have hmm := hm q' q (by omega)
    unfold aheadB
    simp only [Bool.not_eq_true', decide_eq_false_iff_not]
    rintro ⟨c1, c2⟩
    rw [(shut_same p x').2.2.2] at c2
    by_cases hp : p ≤ x.fin
    · exact c1 (shut_pos hp).1
    · rw [shut_neg hp] at c2
      omega
  · have hKl : K = l.length := by
      rcases Nat.lt_or_ge K l.length with e | e
      · have hx : l[K]? = some l[K] := by simp
        have h1 := hfin K _ (Nat.le_refl _) hx
        have h2 := hall _ (List.mem_of_getElem? hx)
        omega
      · omega
    refine ⟨?_, by rw [hKl]⟩
    rw [hsplit, hKl, List.take_length, List.drop_length]
    simp only [cutL, List.append_nil]
    refine (List.map_congr_left (g := id) fun x hx => ?_).trans (List.map_id _)
    have := hall x hx
    exact shut_neg (by omega)
end
end Go.Proofs.Ytheginjjncnheaa
