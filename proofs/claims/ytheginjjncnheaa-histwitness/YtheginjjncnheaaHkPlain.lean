import Derived.Test.YtheginjjncnheaaHoFull
/-! What an order that was found tells of a history: no element comes out more often than it went in, none before it went in. -/
namespace Go.Proofs.Ytheginjjncnheaa
set_option linter.unusedVariables false
set_option maxRecDepth 20000
open Go.RowKit Go.HeapKit

theorem mine_mem (l : List Cl) (i q : Nat) (hw : (clAt l q).who = i) : ∀ k, q < k → (q : Int) ∈ mineL l k i
  | 0, h => absurd h (by omega)
  | k + 1, h => by
    unfold mineL
    by_cases e : q = k
    · subst e
      rw [if_pos hw]
      simp
    · exact List.mem_append_left _ (mine_mem l i q hw k (by omega))
theorem mine_sorted (l : List Cl) (i : Nat) : ∀ k, (mineL l k i).Pairwise (· < ·)
  | 0 => List.Pairwise.nil
  | k + 1 => by
    unfold mineL
    refine List.pairwise_append.2 ⟨mine_sorted l i k, by split <;> simp, fun a ha b hb => ?_⟩
    obtain ⟨q, rfl, hq, _⟩ := mine_lt l i k a ha
    split at hb
    · rw [List.mem_singleton] at hb
      omega
    · cases hb
theorem take_less {L : List Int} (h : L.Pairwise (· < ·)) {n : Nat} {z j : Int} (hz : z ∈ L.take n) (hj : L[n]? = some j) : z < j := by
  rw [← List.take_append_drop n L] at h
  refine (List.pairwise_append.1 h).2.2 z hz j ?_
  exact List.mem_of_getElem? (i := 0) (by rw [List.getElem?_drop]; simpa using hj)
theorem drop_least {L : List Int} (h : L.Pairwise (· < ·)) {n : Nat} {z : Int} (hz : z ∈ L) (hn : z ∉ L.take n) : ∃ j, L[n]? = some j ∧ j ≤ z := by
  rw [← List.take_append_drop n L] at h hz
  have hd := (List.mem_append.1 hz).resolve_left hn
  have hp := (List.pairwise_append.1 h).2.1
  have h0 : L[n]? = (L.drop n)[0]? := by rw [List.getElem?_drop]; simp
  rw [h0]
  cases e : L.drop n with
  | nil => rw [e] at hd; cases hd
  | cons j r =>
    rw [e] at hd hp
    refine ⟨j, rfl, ?_⟩
    rcases List.mem_cons.1 hd with e1 | e1
    · omega
    · exact Int.le_of_lt ((List.pairwise_cons.1 hp).1 z e1)
/-- Whether a call is done. -/
def dn (l : List Cl) (x : C4) (q : Nat) : Bool := (List.range 4).any fun i => ((ownL l i).take (x.at i)).contains (q : Int)
theorem dn_iff {l : List Cl} {x : C4} {q : Nat} : dn l x q = true ↔ ∃ i, i < 4 ∧ (q : Int) ∈ (ownL l i).take (x.at i) := by simp [dn]
theorem dn_inc {l : List Cl} {x : C4} {i q : Nat} (hi : i < 4) (hn : nxt l x i = some (q : Int)) (q' : Nat) : dn l (x.inc i) q' = (dn l x q' || decide (q' = q)) := by
  have ht : (ownL l i).take (x.at i + 1) = (ownL l i).take (x.at i) ++ [(q : Int)] := by
    rw [List.take_add_one]
    unfold nxt at hn
    rw [hn]
    rfl
  rw [Bool.eq_iff_iff, Bool.or_eq_true, dn_iff, dn_iff, decide_eq_true_iff]
  constructor
  · rintro ⟨k, hk, hm⟩
    rw [C4.at_inc x hi hk] at hm
    by_cases e : k = i
    · subst e
      simp only [if_true] at hm
      rw [ht] at hm
      rcases List.mem_append.1 hm with h | h
      · exact .inl ⟨k, hk, h⟩
      · rw [List.mem_singleton] at h
        exact .inr (by omega)
    · rw [if_neg (by omega)] at hm
      exact .inl ⟨k, hk, hm⟩
  · rintro (⟨k, hk, hm⟩ | rfl)
    · refine ⟨k, hk, ?_⟩
      rw [C4.at_inc x hi hk]
      by_cases e : k = i
      · subst e
        simp only [if_true]
        rw [ht]
        exact List.mem_append_left _ hm
      · rw [if_neg (by omega)]
        exact hm
    · refine ⟨i, hi, ?_⟩
      rw [C4.at_inc x hi hi]
      simp only [if_true]
      rw [ht]
      simp
theorem dn_not {l : List Cl} {x : C4} {i q : Nat} (hn : nxt l x i = some (q : Int)) : dn l x q = false := by
  cases e : dn l x q with
  | false => rfl
  | true =>
    obtain ⟨k, hk, hm⟩ := dn_iff.1 e
    obtain ⟨q1, e1, _, hw1⟩ := mine_lt l k _ _ (List.mem_of_mem_take hm)
    obtain ⟨q2, e2, _, hw2⟩ := nxt_is hn
    have h1 : q1 = q := by omega
    have h2 : q2 = q := by omega
    subst h1
    subst h2
    have hki : k = i := by omega
    subst hki
    exact absurd (take_less (mine_sorted l k _) hm hn) (Int.lt_irrefl _)
theorem dn_start (l : List Cl) (q : Nat) : dn l c0 q = false := by
  cases e : dn l c0 q with
  | false => rfl
  | true =>
    obtain ⟨k, hk, hm⟩ := dn_iff.1 e
    have : c0.at k = 0 := by
      rcases k with _ | _ | _ | _ | k
      · rfl
      · rfl
      · rfl
      · rfl
      · omega
    rw [this] at hm
    cases hm
/-- The call that waits ahead of one that is not done. -/
theorem waits {l : List Cl} {x : C4} {q : Nat} {c : Cl} (hh : histB l = true) (hc : l[q]? = some c) (hd : dn l x q = false) : ∃ (i j : Nat) (d : Cl), i < 4 ∧ nxt l x i = some (j : Int) ∧ l[j]? = some d ∧ (j = q ∧ d = c ∨ (d.code ≠ 0 ∧ d.fin < c.beg)) := by
  have hf := hist_fits hh hc
  obtain ⟨_, _, _, _, w0, w3, _⟩ := fits_ended hf
  have hlt := (List.getElem?_eq_some_iff.1 hc).1
  have hi : c.who.toNat < 4 := by omega
  have hw : (clAt l q).who = (c.who.toNat : Nat) := by rw [clAt_of hc]; omega
  have hn : (q : Int) ∉ (ownL l c.who.toNat).take (x.at c.who.toNat) := fun h => by
    rw [dn_iff.2 ⟨_, hi, h⟩] at hd
    cases hd
  obtain ⟨j, hj, hle⟩ := drop_least (mine_sorted l _ _) (mine_mem l _ q hw _ hlt) hn
  obtain ⟨j, rfl, hjl, hjw⟩ := nxt_is (x := x) hj
  obtain ⟨d, hd2⟩ : ∃ d, l[j]? = some d := ⟨l[j], by simp⟩
  refine ⟨_, j, d, hi, hj, hd2, ?_⟩
  by_cases e : j = q
  · subst e
    rw [hc] at hd2
    injection hd2 with e2
    exact .inl ⟨rfl, e2.symm⟩
  · right
    have hok := histB_at hh hlt
    rw [okB_of hc, Bool.and_eq_true, List.all_eq_true] at hok
    have hb := hok.2 d (List.mem_of_getElem? (i := j) (by rw [List.getElem?_take, if_pos (by omega)]; exact hd2))
    unfold behind at hb
    rw [decide_eq_true_iff] at hb
    rw [clAt_of hd2] at hjw
    obtain ⟨b1, b2⟩ := hb (by omega)
    obtain ⟨_, f2, _⟩ := fits_ended (hist_fits hh hd2)
    exact ⟨fun h => b1 (f2 h), b2⟩
/-! ### What goes in and what comes out -/
def gotB (V : Int) (c : Cl) : Bool := decide (c.kind ≠ 0 ∧ c.code = 4 ∧ c.v = V)
def pshB (V : Int) (c : Cl) : Bool := decide (c.kind = 0 ∧ c.code ≠ 3 ∧ c.arg = V)
theorem count_last {zs : List Int} (h : ¬ zs = []) (V : Int) : zs.count V = zs.dropLast.count V + (if zs.getLastD 0 = V then 1 else 0) := by
  conv => lhs; rw [last_split h]
  rw [List.count_append, List.count_singleton]
  simp only [beq_iff_eq]
theorem alw_count {most : Nat} {zs : List Int} {c : Cl} (h : alwB most zs c = true) (V : Int) : (alwZ most zs c).count V + (if gotB V c then 1 else 0) ≤ zs.count V + (if pshB V c then 1 else 0) := by
  unfold alwB at h
  unfold alwZ gotB pshB
  by_cases h6 : c.code = 6
  · rw [if_pos h6]
    simp only [decide_eq_true_iff]
    rw [if_neg (by omega)]
    omega
  · rw [if_neg h6] at h ⊢
    unfold ansD at h ⊢
    by_cases hk : c.kind = 0
    · simp only [hk, if_true] at h ⊢
      by_cases hm : most ≤ zs.length
      · simp only [hm, if_true, decide_eq_true_iff] at h ⊢
        rw [if_neg (by simp)]
        omega
      · simp only [hm, if_false, decide_eq_true_iff] at h ⊢
        rw [if_neg (by simp), List.count_append, List.count_singleton]
        have h3 : c.code ≠ 3 := by
          intro e
          rw [e] at h
          simp at h
        simp [h3]
    · simp only [hk, if_false] at h ⊢
      by_cases h1 : c.kind = 1
      · simp only [h1, if_true] at h ⊢
        by_cases hz : zs = []
        · simp only [hz, if_true, decide_eq_true_iff] at h ⊢
          have h4 : c.code ≠ 4 := by
            intro e
            rw [e] at h
            simp at h
          simp [h4]
        · simp only [hz, if_false, decide_eq_true_iff] at h ⊢
          rw [count_last hz V]
          by_cases e : c.code = 4
          · simp [e] at h ⊢
            rw [h]
            simp
          · simp [e]
      · simp only [h1, if_false] at h ⊢
        cases zs with
        | nil =>
          simp only [decide_eq_true_iff] at h ⊢
          have h4 : c.code ≠ 4 := by
            intro e
            rw [e] at h
            simp at h
          simp [h4]
        | cons z r =>
          simp only [decide_eq_true_iff] at h ⊢
          rw [List.count_cons]
          by_cases e : c.code = 4
          · simp [e] at h ⊢
            rw [h]
            simp [hk]
          · simp [e]
def numP (l : List Cl) (x : C4) (p : Cl → Bool) : Nat := (List.range l.length).countP (fun q => dn l x q && p (clAt l q))
theorem countP_one {p p' : Nat → Bool} {q : Nat} (b : Bool) (hq : p q = false) (h : ∀ e, p' e = (p e || (decide (e = q) && b))) : ∀ {L : List Nat}, L.Nodup → q ∈ L → L.countP p' = L.countP p + (if b then 1 else 0)
  | [], _, h2 => by cases h2
  | e :: L, h1, h2 => by
    rw [List.countP_cons, List.countP_cons]
    have hnd := List.nodup_cons.1 h1
    by_cases ee : e = q
    · subst ee
      have hs : L.countP p' = L.countP p := List.countP_congr (fun y hy => by
        rw [h y]
        have : ¬ y = e := fun e2 => hnd.1 (e2 ▸ hy)
        simp [this])
      rw [hs, h e, hq]
      simp
    · have h3 := countP_one b hq h hnd.2 ((List.mem_cons.1 h2).resolve_left (fun e2 => ee e2.symm))
      rw [h3, h e]
      simp [ee]
      omega
theorem num_inc {l : List Cl} {x : C4} {i q : Nat} {y : Cl} (hi : i < 4) (hn : nxt l x i = some (q : Int)) (hy : l[q]? = some y) (p : Cl → Bool) : numP l (x.inc i) p = numP l x p + (if p y then 1 else 0) := by
  refine countP_one (q := q) (p y) (by rw [dn_not hn]; rfl) (fun e => ?_) List.nodup_range (List.mem_range.2 (List.getElem?_eq_some_iff.1 hy).1)
  rw [dn_inc hi hn]
  by_cases e2 : e = q
  · subst e2
    rw [dn_not hn, clAt_of hy]
    simp
  · simp [e2]
/-- What an order that was gone so far tells. -/
structure Told (l : List Cl) (x : C4) (zs : List Int) : Prop where
  cnt : ∀ V, zs.count V + numP l x (gotB V) ≤ numP l x (pshB V)
  time : ∀ (p q : Nat) (a c : Cl), l[p]? = some a → l[q]? = some c → dn l x p = true → dn l x q = false → c.code ≠ 0 → a.beg ≤ c.fin
  early : ∀ (q : Nat) (c : Cl), l[q]? = some c → dn l x q = true → gotB c.v c = true → ∃ (p : Nat) (a : Cl), l[p]? = some a ∧ pshB c.v a = true ∧ a.beg ≤ c.fin
theorem num_pos {l : List Cl} {x : C4} {p : Cl → Bool} (h : 0 < numP l x p) : ∃ (q : Nat) (a : Cl), l[q]? = some a ∧ dn l x q = true ∧ p a = true := by
  obtain ⟨q, hq, h2⟩ := List.countP_pos_iff.1 h
  rw [Bool.and_eq_true] at h2
  have hlt := List.mem_range.1 hq
  refine ⟨q, l[q], by simp, h2.1, ?_⟩
  rw [← clAt_of (l := l) (j := q) (x := l[q]) (by simp)]
  exact h2.2
theorem Rch.told {l : List Cl} {most : Nat} (hh : histB l = true) {x : C4} {zs : List Int} (h : Rch l most x zs) : Told l x zs := by
  induction h with
  | nil => exact ⟨fun V => by simp [numP, dn_start], fun p q a c _ _ hd => (by rw [dn_start] at hd; cases hd), fun q c _ hd => (by rw [dn_start] at hd; cases hd)⟩
  | @more x zs i q y h1 hi hn hy hin ha ih =>
    refine ⟨fun V => ?_, fun p q' a c hp hq hdp hdq hc => ?_, fun q' c hq hd hg => ?_⟩
    · have e1 := ih.cnt V
      have e2 := alw_count ha V
      rw [num_inc hi hn hy, num_inc hi hn hy]
      omega
    · rw [dn_inc hi hn, Bool.or_eq_false_iff] at hdq
      rw [dn_inc hi hn, Bool.or_eq_true] at hdp
      rcases hdp with hdp | hdp
      · exact ih.time p q' a c hp hq hdp hdq.1 hc
      · have e : p = q := by simpa using hdp
        subst e
        rw [hy] at hp
        injection hp with hp
        subst hp
        obtain ⟨i', j, d, hi', hj, hdj, hw⟩ := waits hh hq hdq.1
        have hII : inI l x y i' = true := List.all_eq_true.1 hin i' (List.mem_range.2 hi')
        rw [inI_some hj hdj] at hII
        have hna : ¬ (d.code ≠ 0 ∧ d.fin < y.beg) := fun hx => by
          unfold aheadB at hII
          rw [decide_eq_true hx] at hII
          cases hII
        rcases hw with ⟨_, rfl⟩ | ⟨w1, w2⟩
        · have : ¬ d.fin < y.beg := fun h => hna ⟨hc, h⟩
          omega
        · have h1 : ¬ d.fin < y.beg := fun h => hna ⟨w1, h⟩
          obtain ⟨_, _, f3, _⟩ := fits_ended (hist_fits hh hq)
          have := f3 hc
          omega
    · rw [dn_inc hi hn, Bool.or_eq_true] at hd
      rcases hd with hd | hd
      · exact ih.early q' c hq hd hg
      · have e : q' = q := by simpa using hd
        subst e
        rw [hy] at hq
        injection hq with hq
        subst hq
        have hp0 : pshB y.v y = false := by
          unfold gotB at hg
          rw [decide_eq_true_iff] at hg
          unfold pshB
          simp [hg.1]
        have e1 := ih.cnt y.v
        have e2 := alw_count ha y.v
        rw [hg, hp0] at e2
        simp only [if_true] at e2
        obtain ⟨p, a, hpa, hdp, hpb⟩ := num_pos (l := l) (x := x) (p := pshB y.v) (by simp at e2; omega)
        refine ⟨p, a, hpa, hpb, ih.time p q' a y hpa hy hdp (dn_not hn) ?_⟩
        unfold gotB at hg
        rw [decide_eq_true_iff] at hg
        omega
theorem thr_ended {l : List Cl} {x : C4} {q : Nat} {c : Cl} (hh : histB l = true) (ht : thrB l x 4 = true) (hq : l[q]? = some c) (hd : dn l x q = false) : c.code = 0 := by
  obtain ⟨i, j, d, hi, hj, hdj, hw⟩ := waits hh hq hd
  have h1 : thrI l x i = true := List.all_eq_true.1 ht i (List.mem_range.2 hi)
  rw [thrI_some hj hdj, decide_eq_true_iff] at h1
  rcases hw with ⟨_, rfl⟩ | ⟨w1, _⟩
  · exact h1
  · exact absurd h1 w1
/-- What the law asks. -/
def cntL (p : Cl → Bool) (l : List Cl) (k : Nat) : Nat := (l.take k).countP p
def earL (c : Cl) (l : List Cl) (k : Nat) : Bool := (l.take k).any (fun d => pshB c.v d && decide (d.beg ≤ c.fin))
theorem numP_all (l : List Cl) (p : Cl → Bool) : l.countP p = (List.range l.length).countP (fun (q : Nat) => p (clAt l q)) := by
  have h : l = (List.range l.length).map (fun (q : Nat) => clAt l q) := by
    refine List.ext_getElem (by simp) (fun n h1 h2 => ?_)
    simp only [List.getElem_map, List.getElem_range]
    exact (clAt_of (by simp)).symm
  conv => lhs; rw [h]
  rw [List.countP_map]
  rfl
theorem keeps_plain {l : List Cl} {most : Nat} {x : C4} {zs : List Int} (hh : histB l = true) (h : Rch l most x zs) (ht : thrB l x 4 = true) {q : Nat} {c : Cl} (hq : l[q]? = some c) (hg : c.kind ≠ 0 ∧ c.code = 4) : cntL (gotB c.v) l l.length ≤ cntL (pshB c.v) l l.length ∧ earL c l l.length = true := by
  have hT := h.told hh
  have hgB : gotB c.v c = true := by simp [gotB, hg]
  unfold cntL earL
  rw [List.take_length]
  constructor
  · have h1 : l.countP (gotB c.v) = numP l x (gotB c.v) := by
      rw [numP_all]
      unfold numP
      refine List.countP_congr (fun e he => ?_)
      have hlt := List.mem_range.1 he
      cases hd : dn l x e with
      | true => simp
      | false =>
        have h0 := thr_ended hh ht (q := e) (c := l[e]) (by simp) hd
        rw [clAt_of (l := l) (j := e) (x := l[e]) (by simp)]
        simp [gotB, h0]
    have h2 : numP l x (pshB c.v) ≤ l.countP (pshB c.v) := by
      rw [numP_all]
      unfold numP
      exact List.countP_mono_left (fun e _ he => by rw [Bool.and_eq_true] at he; exact he.2)
    have h3 := hT.cnt c.v
    omega
  · have hd : dn l x q = true := by
      cases hd : dn l x q with
      | true => rfl
      | false => have := thr_ended hh ht hq hd; omega
    obtain ⟨p, a, hpa, hpb, hle⟩ := hT.early q c hq hd hgB
    exact List.any_eq_true.2 ⟨a, List.mem_of_getElem? hpa, by rw [hpb]; simpa using hle⟩
end Go.Proofs.Ytheginjjncnheaa
