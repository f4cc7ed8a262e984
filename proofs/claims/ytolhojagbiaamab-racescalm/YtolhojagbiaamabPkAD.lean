import Derived.Test.YtolhojagbiaamabPkAC
/-! The document's steps, in memory: rows of numbers, the open tasks. -/
namespace Go.Proofs.Ytolhojagbiaamab
set_option linter.unusedVariables false
set_option maxRecDepth 20000
set_option linter.unusedSimpArgs false
open Go.RowKit Go.HeapKit

def updF {α : Type} (K : Nat → α) (k : Nat) (v : α) : Nat → α := fun j => if j = k then v else K j
theorem updF_eq {α : Type} (K : Nat → α) (k : Nat) (v : α) : updF K k v k = v := by unfold updF; rw [if_pos rfl]
theorem updF_ne {α : Type} {K : Nat → α} {k j : Nat} {v : α} (h : j ≠ k) : updF K k v j = K j := by unfold updF; rw [if_neg h]
/-- Rows of numbers, in blocks of their own. -/
structure Rs (w : World) (base : Nat) (K : Nat → Value) (L : Nat → List Nat) : Prop where
  row : ∀ k, w.ownsRow base 3 1 (K k) (L k).length (ivN (L k))
  apart : ∀ i j b, i ≠ j → (K i).ownBlock = some b → (K j).ownBlock ≠ some b
section
variable {w w' : World} {base : Nat} {K : Nat → Value} {L : Nat → List Nat}
theorem Rs.kept {S : Nat → Prop} (h : Rs w base K L) (hk : Keeps S w w') (hS : ∀ k b, (K k).ownBlock = some b → ¬ S b) : Rs w' base K L :=
  ⟨fun k => row_kept (h.row k) hk (hS k), h.apart⟩
theorem Rs.more (h : Rs w base K L) (hk : Keeps None w w') : Rs w' base K L := h.kept hk (fun _ _ _ f => f)
theorem Rs.clear (h : Rs w base K L) (k : Nat) : Rs w base (updF K k (.slice none 0 0)) (updF L k []) := by
  refine ⟨fun j => ?_, fun i j b hij hb => ?_⟩
  · by_cases hj : j = k
    · subst hj; rw [updF_eq, updF_eq]; exact row_nil _ _ _ _
    · rw [updF_ne hj, updF_ne hj]; exact h.row j
  · by_cases hi : i = k
    · subst hi; rw [updF_eq] at hb; simp [Value.ownBlock] at hb
    · rw [updF_ne hi] at hb
      by_cases hj : j = k
      · subst hj; rw [updF_eq]; simp [Value.ownBlock]
      · rw [updF_ne hj]; exact h.apart i j b hij hb
theorem Rs.typ (h : Rs w base K L) {k b : Nat} (hb : (K k).ownBlock = some b) : ∃ cur, w.heap[b]? = some (.cells cur 3 (0, 0)) := own_block (h.row k) hb
theorem Rs.ne (h : Rs w base K L) {k b p : Nat} (hb : (K k).ownBlock = some b) {c : Array Value} {t : TypeId} {fz : Nat × Nat} (hp : w.heap[p]? = some (.cells c t fz)) (ht : t ≠ 3) : b ≠ p := by
  intro e
  subst e
  obtain ⟨cur, hc⟩ := h.typ hb
  rw [hp] at hc
  injection hc with hc
  injection hc with _ hc
  exact ht hc
/-- 'append' to one of the rows. -/
theorem Rs.app (h : Rs w base K L) (k x : Nat) (hb : base ≤ w.heap.size) (hlen : (L k).length ≤ 100000) {g0 : Nat} (hg0 : w.heap[g0]? = some (.cells #[.int .i64 x] 3 (0, 0))) (hfree : ∀ j, (K j).ownBlock ≠ some g0) :
    ∃ g cap w', (Builtin.append_ #[35, 35] 35 #[K k, .slice (some ⟨g0, 0, none⟩) 1 1]).run Try.prog w = .ok (.slice (some ⟨g, 0, none⟩) ((L k).length + 1) cap) w' ∧
      Rs w' base (updF K k (.slice (some ⟨g, 0, none⟩) ((L k).length + 1) cap)) (updF L k (L k ++ [x])) ∧ Keeps (fun i => (K k).ownBlock = some i) w w' := by
  obtain ⟨g, cap, w1, hr, ho, hk, hm⟩ := int_more base (K k) (L k) x (L k).length 35 w rfl (h.row k) hb (by omega) hg0
  refine ⟨g, cap, w1, hr, ⟨fun j => ?_, ?_⟩, hk⟩
  · by_cases hj : j = k
    · subst hj; rw [updF_eq, updF_eq]; simpa using ho
    · rw [updF_ne hj, updF_ne hj]
      exact row_kept (h.row j) hk (fun b e e2 => h.apart j k b hj e e2)
  · have hnew : ∀ j, j ≠ k → (K j).ownBlock ≠ some g := by
      intro j hj e
      rcases hm with hm | hm
      · exact h.apart j k g hj e hm
      · have := own_lt (h.row j) e; omega
    intro i j b hij hb
    by_cases hi : i = k
    · subst hi
      rw [updF_eq] at hb
      simp [Value.ownBlock] at hb
      subst hb
      rw [updF_ne (Ne.symm hij)]
      exact hnew j (Ne.symm hij)
    · rw [updF_ne hi] at hb
      by_cases hj : j = k
      · subst hj
        rw [updF_eq]
        simp [Value.ownBlock]
        intro e
        subst e
        exact hnew i hi hb
      · rw [updF_ne hj]; exact h.apart i j b hij hb
end
/-- The open tasks' cells. -/
def tkVals (K : Nat → Value) (j : Nat) : List (Int × Int) → List Value
  | [] => []
  | x :: r => [.int .i64 x.1, .int .i64 x.2, K (2 * j + 1)] ++ tkVals K (j + 1) r
theorem tk_len (K : Nat → Value) (j : Nat) (ts : List (Int × Int)) : (tkVals K j ts).length = ts.length * 3 := by
  induction ts generalizing j with
  | nil => rfl
  | cons x r ih => simp [tkVals, ih]; omega
theorem tk_app (K : Nat → Value) (j : Nat) (a b : List (Int × Int)) : tkVals K j (a ++ b) = tkVals K j a ++ tkVals K (j + a.length) b := by
  induction a generalizing j with
  | nil => simp [tkVals]
  | cons x r ih => simp [tkVals, ih, Nat.add_assoc, Nat.add_comm 1]
theorem tk_congr {K K' : Nat → Value} (j : Nat) (ts : List (Int × Int)) (h : ∀ i, j ≤ i → i < j + ts.length → K' (2 * i + 1) = K (2 * i + 1)) : tkVals K' j ts = tkVals K j ts := by
  induction ts generalizing j with
  | nil => rfl
  | cons x r ih =>
    have h1 := h j (Nat.le_refl _) (by simp)
    simp only [tkVals, h1]
    rw [ih (j + 1) (fun i h2 h3 => h i (by omega) (by simp; omega))]
theorem Try.infoTask : (Try.prog.info? 102).map (fun i => (i.zero, i.size, i.bytes)) = some (some (.agg #[.int .i64 0, .int .i64 0, .slice none 0 0]), 3, 40) := by kernel_rfl
theorem Try.infoIntsR : (Try.prog.info? 35).map (fun i => (i.zero, i.size, i.bytes)) = some (some (.slice none 0 0), 1, 24) := by kernel_rfl
/-- The state of the steps. -/
structure StM (w : World) (base n F gO cap : Nat) (K : Nat → Value) (L : Nat → List Nat) (ts : List (Int × Int)) : Prop where
  rs : Rs w base K L
  fr : w.heap[F]? = some (.cells ((List.range n).map (fun k => K (2 * k))).toArray 35 (0, 0))
  op : w.ownsRow base 102 3 (.slice (some ⟨gO, 0, none⟩) ts.length cap) ts.length (tkVals K 0 ts)
  low : base ≤ F
section
variable {w w' : World} {base n F gO cap : Nat} {K : Nat → Value} {L : Nat → List Nat} {ts : List (Int × Int)} {x : Int × Int}
theorem StM.more (h : StM w base n F gO cap K L ts) (hk : Keeps None w w') : StM w' base n F gO cap K L ts :=
  ⟨h.rs.more hk, blk_kept h.fr hk (fun f => f), row_kept h.op hk (fun _ _ f => f), h.low⟩
theorem StM.opb (h : StM w base n F gO cap K L ts) : ∃ cur, w.heap[gO]? = some (.cells cur 102 (0, 0)) := own_block h.op rfl
theorem StM.lowO (h : StM w base n F gO cap K L ts) : base ≤ gO := row_low h.op rfl
theorem StM.neFO (h : StM w base n F gO cap K L ts) : F ≠ gO := by
  intro e
  obtain ⟨cur, hc⟩ := h.opb
  have h1 := h.fr
  rw [e, hc] at h1
  injection h1 with h1
  injection h1 with _ h1
  revert h1
  decide
/-- The cells of an open task. -/
theorem StM.at (h : StM w base n F gO cap K L (ts ++ [x])) : w.cell? ⟨gO, ts.length * 3, none⟩ = some (.int .i64 x.1) ∧ w.cell? ⟨gO, ts.length * 3 + 1, none⟩ = some (.int .i64 x.2) ∧ w.cell? ⟨gO, ts.length * 3 + 2, none⟩ = some (K (2 * ts.length + 1)) ∧ (∀ i, w.frozen? ⟨gO, i, none⟩ = false) ∧ ts.length + 1 ≤ cap := by
  have hv : ∀ j u, ([.int .i64 x.1, .int .i64 x.2, K (2 * ts.length + 1)] : List Value)[j]? = some u → (tkVals K 0 (ts ++ [x]))[ts.length * 3 + j]? = some u := by
    intro j u hu
    rw [tk_app, List.getElem?_append_right (by rw [tk_len]; omega), tk_len, show ts.length * 3 + j - ts.length * 3 = j by omega]
    simpa [tkVals] using hu
  rcases h.op.2 with ⟨h0, _⟩ | ⟨g', cap', cur, he, hb, hg, hn, hm, hcs, ht⟩
  · cases h0
  · injection he with e1 e2 e3
    injection e1 with e1
    injection e1 with e1
    subst e1 e3
    have hc : ∀ j u, ([.int .i64 x.1, .int .i64 x.2, K (2 * ts.length + 1)] : List Value)[j]? = some u → w.cell? ⟨gO, ts.length * 3 + j, none⟩ = some u := by
      intro j u hu
      have := hv j u hu
      rw [blk_cell hg]
      rw [← ht, List.getElem?_take] at this
      split at this
      · simpa using this
      · cases this
    exact ⟨hc 0 _ rfl, hc 1 _ rfl, hc 2 _ rfl, fun i => blk_free hg i, by simpa using hn⟩
theorem range_putR (n k : Nat) (K : Nat → Value) (v : Value) : (((List.range n).map (fun k => K (2 * k))).toArray.setIfInBounds k v) = ((List.range n).map (fun j => updF K (2 * k) v (2 * j))).toArray := by
  apply Array.ext
  · simp
  · intro i h1 h2
    by_cases h : k = i
    · subst h; simp [updF]
    · simp [h]
      rw [updF_ne (by omega)]
theorem range_getR (n k : Nat) (K : Nat → Value) (hk : k < n) : ((List.range n).map (fun k => K (2 * k))).toArray[k]? = some (K (2 * k)) := by simp [hk]
/-- A number more for a deed's row. -/
theorem StM.from (h : StM w base n F gO cap K L ts) (k z : Nat) (hk : k < n) (hb : base ≤ w.heap.size) (hlen : (L (2 * k)).length ≤ 100000) {g0 : Nat} (hg0 : w.heap[g0]? = some (.cells #[.int .i64 z] 3 (0, 0))) (hfree : ∀ j, (K j).ownBlock ≠ some g0) :
    ∃ g c w', (Builtin.append_ #[35, 35] 35 #[K (2 * k), .slice (some ⟨g0, 0, none⟩) 1 1]).run Try.prog w = .ok (.slice (some ⟨g, 0, none⟩) ((L (2 * k)).length + 1) c) w' ∧ w'.cell? ⟨F, k, none⟩ = some (K (2 * k)) ∧ w'.frozen? ⟨F, k, none⟩ = false ∧
      StM (w'.setCell ⟨F, k, none⟩ (.slice (some ⟨g, 0, none⟩) ((L (2 * k)).length + 1) c)) base n F gO cap (updF K (2 * k) (.slice (some ⟨g, 0, none⟩) ((L (2 * k)).length + 1) c)) (updF L (2 * k) (L (2 * k) ++ [z])) ts ∧
      Keeps (fun i => (K (2 * k)).ownBlock = some i ∨ i = F) w (w'.setCell ⟨F, k, none⟩ (.slice (some ⟨g, 0, none⟩) ((L (2 * k)).length + 1) c)) := by
  obtain ⟨g, c, w1, hr, hrs, hkp⟩ := h.rs.app (2 * k) z hb hlen hg0 hfree
  have hF : ∀ j b, (K j).ownBlock = some b → b ≠ F := fun j b hb => h.rs.ne hb h.fr (by decide)
  have f1 := blk_kept h.fr hkp (fun e => hF _ _ e rfl)
  have hk2 : Keeps (· = F) w1 (w1.setCell ⟨F, k, none⟩ (.slice (some ⟨g, 0, none⟩) ((L (2 * k)).length + 1) c)) := keeps_one (Keeps.refl _ _) _
  have f2 := blk_set (i := k) f1 (.slice (some ⟨g, 0, none⟩) ((L (2 * k)).length + 1) c)
  rw [range_putR] at f2
  refine ⟨g, c, w1, hr, (cell_of_heap f1 k).trans (range_getR _ _ _ hk), blk_free f1 k, ⟨?_, f2, ?_, h.low⟩, (hkp.mono (fun i e _ => .inl e)).trans hk2 (fun i e _ => .inr e)⟩
  · exact hrs.kept hk2 (fun j b hb e => hrs.ne hb f1 (by decide) e)
  · have hO : ∀ b, (K (2 * k)).ownBlock = some b → b ≠ gO := fun b hb => by
      obtain ⟨cur, hc⟩ := h.opb
      exact h.rs.ne hb hc (by decide)
    have o1 := row_kept h.op hkp (fun b e e2 => by simp [Value.ownBlock] at e; subst e; exact hO _ e2 rfl)
    have o2 := row_kept o1 hk2 (fun b e e2 => by simp [Value.ownBlock] at e; subst e; exact h.neFO e2.symm)
    rw [tk_congr 0 ts (K := K) (K' := updF K (2 * k) _) (fun i _ _ => updF_ne (by omega))]
    exact o2
def set3 (w : World) (g o : Nat) (a b : Int) (v : Value) : World := ((w.setCell ⟨g, o, none⟩ (.int .i64 a)).setCell ⟨g, o + 1, none⟩ (.int .i64 b)).setCell ⟨g, o + 2, none⟩ v
theorem keeps_set3 (w : World) (g o : Nat) (a b : Int) (v : Value) : Keeps (· = g) w (set3 w g o a b v) := keeps_one (keeps_one (keeps_one (Keeps.refl _ w) _) _) _
theorem range_congr {n : Nat} {K K' : Nat → Value} (h : ∀ j, K' (2 * j) = K (2 * j)) : ((List.range n).map (fun k => K' (2 * k))).toArray = ((List.range n).map (fun k => K (2 * k))).toArray := by
  rw [show (fun k => K' (2 * k)) = (fun k => K (2 * k)) from funext h]
theorem tk_last (K : Nat → Value) (ts : List (Int × Int)) (x : Int × Int) : tkVals K 0 (ts ++ [x]) = tkVals K 0 ts ++ [.int .i64 x.1, .int .i64 x.2, K (2 * ts.length + 1)] := by
  rw [tk_app]
  simp [tkVals]
/-- The last open task is another one. -/
theorem StM.put (h : StM w base n F gO cap K L (ts ++ [x])) (y : Int × Int) {K' : Nat → Value} {L' : Nat → List Nat} (hr : Rs w base K' L') (hK : ∀ j, j ≠ 2 * ts.length + 1 → K' j = K j) :
    StM (set3 w gO (ts.length * 3) y.1 y.2 (K' (2 * ts.length + 1))) base n F gO cap K' L' (ts ++ [y]) := by
  have hk := keeps_set3 w gO (ts.length * 3) y.1 y.2 (K' (2 * ts.length + 1))
  obtain ⟨cur, hc⟩ := h.opb
  refine ⟨hr.kept hk (fun j b hb e => hr.ne hb hc (by decide) e), ?_, ?_, h.low⟩
  · rw [range_congr (K := K) (fun j => hK _ (by omega))]
    exact blk_kept h.fr hk h.neFO
  · have h1 := row_set (row_set (row_set h.op (ts.length * 3) (.int .i64 y.1)) (ts.length * 3 + 1) (.int .i64 y.2)) (ts.length * 3 + 2) (K' (2 * ts.length + 1))
    have e : (((tkVals K 0 (ts ++ [x])).set (ts.length * 3) (.int .i64 y.1)).set (ts.length * 3 + 1) (.int .i64 y.2)).set (ts.length * 3 + 2) (K' (2 * ts.length + 1)) = tkVals K' 0 (ts ++ [y]) := by
      rw [tk_last, tk_last, tk_congr 0 ts (K := K) (K' := K') (fun i _ hi => hK _ (by omega))]
      have hl := tk_len K 0 ts
      rw [List.set_append_right _ _ (by omega), List.set_append_right _ _ (by omega), List.set_append_right _ _ (by omega), hl]
      simp
    rw [e] at h1
    simp only [List.length_append, List.length_singleton] at h1 ⊢
    exact h1
/-- One open task less. -/
theorem StM.pop (h : StM w base n F gO cap K L (ts ++ [x])) : StM w base n F gO cap K L ts := by
  refine ⟨h.rs, h.fr, ⟨tk_len _ _ _, ?_⟩, h.low⟩
  rcases h.op.2 with ⟨h0, _⟩ | ⟨g', cap', cur, hv, hbg, hg, hnc, hcm, hcs, htake⟩
  · cases h0
  · injection hv with e1 e2 e3
    injection e1 with e1
    injection e1 with e1
    subst e1 e3
    refine .inr ⟨gO, cap, cur, rfl, hbg, hg, by simp at hnc; omega, hcm, hcs, ?_⟩
    have : cur.toList.take (ts.length * 3) = (cur.toList.take ((ts ++ [x]).length * 3)).take (ts.length * 3) := by rw [List.take_take, Nat.min_eq_left (by simp; omega)]
    rw [this, htake, tk_last, List.take_append_of_le_length (by rw [tk_len]; omega), List.take_of_length_le (by rw [tk_len]; omega)]
/-- One open task more. -/
theorem StM.push (h : StM w base n F gO cap K L ts) (y : Int × Int) (hb : base ≤ w.heap.size) (hlen : ts.length ≤ 100000) {g0 : Nat} (hg0 : w.heap[g0]? = some (.cells #[.int .i64 y.1, .int .i64 y.2, .slice none 0 0] 102 (0, 0))) :
    ∃ g c w', (Builtin.append_ #[103, 103] 103 #[.slice (some ⟨gO, 0, none⟩) ts.length cap, .slice (some ⟨g0, 0, none⟩) 1 1]).run Try.prog w = .ok (.slice (some ⟨g, 0, none⟩) (ts.length + 1) c) w' ∧
      StM w' base n F g c (updF K (2 * ts.length + 1) (.slice none 0 0)) (updF L (2 * ts.length + 1) []) (ts ++ [y]) ∧ Keeps (· = gO) w w' := by
  obtain ⟨i0, hi, hz0, hz1, hz2⟩ := info_parts Try.infoTask
  obtain ⟨v', w1, hr, ho, hgr, hm, -⟩ := run_append_moved (P := Try.prog) w base 103 103 102 i0 _ 3 40 Try.underlying103 hi hz0 hz1 hz2 rfl (by decide) (.slice (some ⟨gO, 0, none⟩) ts.length cap) ts.length _ h.op
    ⟨g0, 0, none⟩ 1 1 [.int .i64 y.1, .int .i64 y.2, .slice none 0 0] rfl (by
      intro j u hu
      rw [show (⟨g0, 0, none⟩ : Addr).add j = ⟨g0, j, none⟩ by unfold Addr.add; split <;> simp_all, blk_cell hg0]
      simpa using hu) (by
      intro u hu
      simp at hu
      rcases hu with rfl | rfl | rfl <;> rfl) (by unfold maxLen; omega) (by omega) hb
  obtain ⟨g, c, rfl⟩ : ∃ g c, v' = .slice (some ⟨g, 0, none⟩) (ts.length + 1) c := by
    rcases ho.2 with ⟨_, h0⟩ | ⟨b, cap, cur, rfl, _⟩
    · omega
    · exact ⟨b, cap, rfl⟩
  have hkp : Keeps (· = gO) w w1 := (Keeps.refl _ w).andGrown hgr (fun k e => .inl (by simp [Value.ownBlock] at e; exact e.symm))
  obtain ⟨cur, hc⟩ := h.opb
  have hrs := (h.rs.kept hkp (fun j b hb e => h.rs.ne hb hc (by decide) e)).clear (2 * ts.length + 1)
  refine ⟨g, c, w1, hr, ⟨hrs, ?_, ?_, h.low⟩, hkp⟩
  · rw [range_congr (K := K) (fun j => updF_ne (by omega))]
    exact blk_kept h.fr hkp h.neFO
  · rw [tk_last, tk_congr 0 ts (K := K) (fun i _ hi => updF_ne (by omega)), updF_eq]
    simpa using ho
/-- A number more for what the last open task has to wait for. -/
theorem StM.out (h : StM w base n F gO cap K L (ts ++ [x])) (z : Nat) (hb : base ≤ w.heap.size) (hlen : (L (2 * ts.length + 1)).length ≤ 100000) {g0 : Nat} (hg0 : w.heap[g0]? = some (.cells #[.int .i64 z] 3 (0, 0))) (hfree : ∀ j, (K j).ownBlock ≠ some g0) :
    ∃ g c w', (Builtin.append_ #[35, 35] 35 #[K (2 * ts.length + 1), .slice (some ⟨g0, 0, none⟩) 1 1]).run Try.prog w = .ok (.slice (some ⟨g, 0, none⟩) ((L (2 * ts.length + 1)).length + 1) c) w' ∧ w'.cell? ⟨gO, ts.length * 3 + 2, none⟩ = some (K (2 * ts.length + 1)) ∧ w'.frozen? ⟨gO, ts.length * 3 + 2, none⟩ = false ∧
      StM (w'.setCell ⟨gO, ts.length * 3 + 2, none⟩ (.slice (some ⟨g, 0, none⟩) ((L (2 * ts.length + 1)).length + 1) c)) base n F gO cap (updF K (2 * ts.length + 1) (.slice (some ⟨g, 0, none⟩) ((L (2 * ts.length + 1)).length + 1) c)) (updF L (2 * ts.length + 1) (L (2 * ts.length + 1) ++ [z])) (ts ++ [x]) ∧
      Keeps (fun i => base ≤ i) w (w'.setCell ⟨gO, ts.length * 3 + 2, none⟩ (.slice (some ⟨g, 0, none⟩) ((L (2 * ts.length + 1)).length + 1) c)) := by
  obtain ⟨g, c, w1, hr, hrs, hkp⟩ := h.rs.app (2 * ts.length + 1) z hb hlen hg0 hfree
  obtain ⟨cur, hc⟩ := h.opb
  have hF : ∀ j b, (K j).ownBlock = some b → b ≠ F := fun j b hb => h.rs.ne hb h.fr (by decide)
  have hO : ∀ j b, (K j).ownBlock = some b → b ≠ gO := fun j b hb => h.rs.ne hb hc (by decide)
  have f1 := blk_kept h.fr hkp (fun e => hF _ _ e rfl)
  have o1 := row_kept h.op hkp (fun b e e2 => by simp [Value.ownBlock] at e; subst e; exact hO _ _ e2 rfl)
  obtain ⟨_, _, c2, hfz, _⟩ := h.at
  have hk2 : Keeps (· = gO) w1 (w1.setCell ⟨gO, ts.length * 3 + 2, none⟩ (.slice (some ⟨g, 0, none⟩) ((L (2 * ts.length + 1)).length + 1) c)) := keeps_one (Keeps.refl _ _) _
  have hc1 := blk_kept hc hkp (fun e => hO _ _ e rfl)
  refine ⟨g, c, w1, hr, hkp.cell c2 (fun e => hO _ _ e rfl), blk_free hc1 _, ⟨hrs.kept hk2 (fun j b hb e => hrs.ne hb hc1 (by decide) e), ?_, ?_, h.low⟩, (hkp.mono (fun i e _ => row_low (h.rs.row _) e)).trans hk2 (fun i e _ => by have := h.lowO; omega)⟩
  · rw [range_congr (K := K) (fun j => updF_ne (by omega))]
    exact blk_kept f1 hk2 h.neFO
  · have h1 := row_set o1 (ts.length * 3 + 2) (.slice (some ⟨g, 0, none⟩) ((L (2 * ts.length + 1)).length + 1) c)
    have e : (tkVals K 0 (ts ++ [x])).set (ts.length * 3 + 2) (.slice (some ⟨g, 0, none⟩) ((L (2 * ts.length + 1)).length + 1) c) = tkVals (updF K (2 * ts.length + 1) (.slice (some ⟨g, 0, none⟩) ((L (2 * ts.length + 1)).length + 1) c)) 0 (ts ++ [x]) := by
      rw [tk_last, tk_last, tk_congr 0 ts (K := K) (K' := updF K (2 * ts.length + 1) _) (fun i _ hi => updF_ne (by omega)), updF_eq]
      have hl := tk_len K 0 ts
      rw [List.set_append_right _ _ (by omega), hl]
      simp
    rw [e] at h1
    exact h1
/-- A box of the call's own is written. -/
theorem StM.box (h : StM w base n F gO cap K L ts) {B : Nat} {c : Array Value} (hb : w.heap[B]? = some (.cells c 102 (0, 0))) (hB : gO ≠ B) (i : Nat) (v : Value) : StM (w.setCell ⟨B, i, none⟩ v) base n F gO cap K L ts := by
  have hk : Keeps (· = B) w (w.setCell ⟨B, i, none⟩ v) := keeps_one (Keeps.refl _ _) _
  refine ⟨h.rs.kept hk (fun j b hb' e => h.rs.ne hb' hb (by decide) e), blk_kept h.fr hk (fun e => ?_), row_kept h.op hk (fun g e e2 => by simp [Value.ownBlock] at e; subst e; exact hB e2), h.low⟩
  have h1 := h.fr
  rw [e, hb] at h1
  injection h1 with h1
  injection h1 with _ h1
  revert h1
  decide
end
end Go.Proofs.Ytolhojagbiaamab
/-! The document's steps, plainly held against the states. -/
namespace Go.Proofs.Ytolhojagbiaamab
set_option linter.unusedVariables false
set_option maxRecDepth 20000
set_option linter.unusedSimpArgs false

def prO (la b : Int) : Option Nat := if 0 ≤ la then some la.toNat else if 0 ≤ b then some b.toNat else none
/-- The open tasks (root first) are those of the state. -/
def RelO : List Tk → List (Int × Int) → (Nat → List Nat) → Prop
  | [], ts, _ => ts = []
  | t :: r, ts, L => ∃ ts' la b, ts = ts' ++ [(la, b)] ∧ L (2 * ts'.length + 1) = t.Out ∧ prO la b = (Cof (t :: r)).getLast? ∧ RelO r ts' L
theorem RelO.congr {L L' : Nat → List Nat} : ∀ {st : List Tk} {ts : List (Int × Int)}, RelO st ts L → (∀ j, j < ts.length → L' (2 * j + 1) = L (2 * j + 1)) → RelO st ts L'
  | [], ts, h, _ => h
  | t :: r, ts, ⟨ts', la, b, e, h1, h2, h3⟩, hc => by
    subst e
    exact ⟨ts', la, b, rfl, (hc _ (by simp)).trans h1, h2, RelO.congr h3 (fun j hj => hc j (by simp; omega))⟩
theorem RelO.len {L : Nat → List Nat} : ∀ {st : List Tk} {ts : List (Int × Int)}, RelO st ts L → ts.length = st.length
  | [], ts, h => by rw [show ts = [] from h]; rfl
  | t :: r, ts, ⟨ts', la, b, e, h1, h2, h3⟩ => by
    subst e
    have := RelO.len h3
    simp [this]
def outSum : List Tk → Nat
  | [] => 0
  | t :: r => t.Out.length + outSum r
theorem out_step (i : Nat) (k : Int) (st : List Tk) : outSum (stepT i k st) ≤ outSum st + 1 := by
  cases st with
  | nil => simp [stepT, outSum]
  | cons t r =>
    by_cases k0 : k = 0
    · subst k0; rw [st0]; simp [outSum]
    · by_cases k1 : k = 1
      · subst k1
        cases r with
        | nil => simp [stepT, outSum]
        | cons u r' => rw [st1]; simp [outSum]; omega
      · by_cases k2 : k = 2
        · subst k2; rw [st2]; simp [outSum]; omega
        · rw [st3 _ _ _ _ k0 k1 k2]; simp [outSum]
theorem out_le (ds : List Dd) (n : Nat) : outSum (stN ds n) ≤ n := by
  induction n with
  | zero => simp [stN, outSum]
  | succ n ih => have := out_step n ((ds.getD n ⟨3, 0⟩).k) (stN ds n); show outSum (stepT _ _ _) ≤ _; omega
theorem prO_k (k : Nat) (b : Int) : prO k b = some k := by unfold prO; rw [if_pos (by omega)]; simp
theorem prO_b (k : Nat) : prO (-1) k = some k := by unfold prO; rw [if_neg (by omega), if_pos (by omega)]; simp
section
variable {t : Tk} {r : List Tk} {ts : List (Int × Int)} {L : Nat → List Nat} {la b : Int} {k : Nat}
/-- A spawn. -/
theorem rel0 (h : RelO (t :: r) (ts ++ [(la, b)]) L) : RelO (stepT k 0 (t :: r)) (ts ++ [((k : Int), b)] ++ [(-1, (k : Int))]) (updF L (2 * (ts.length + 1) + 1) []) := by
  obtain ⟨ts', la', b', e, h1, h2, h3⟩ := h
  obtain ⟨rfl, e2⟩ := List.append_inj' e rfl
  rw [st0]
  refine ⟨ts ++ [((k : Int), b)], -1, k, rfl, by rw [show (ts ++ [((k : Int), b)]).length = ts.length + 1 by simp, updF_eq], ?_, ts, k, b, rfl, by rw [updF_ne (by omega)]; exact h1, ?_, h3.congr (fun j hj => updF_ne (by omega))⟩
  · rw [prO_b]; simp [Cof]
  · rw [prO_k]; simp [Cof]
/-- A return. -/
theorem rel1 {u : Tk} (h : RelO (t :: u :: r) (ts ++ [(la, b)]) L) : ∃ ts' la' b', ts = ts' ++ [(la', b')] ∧ L (2 * ts'.length + 1) = u.Out ∧ ∀ L' : Nat → List Nat, L' (2 * ts'.length + 1) = u.Out ++ [k] → (∀ j, j < ts'.length → L' (2 * j + 1) = L (2 * j + 1)) → RelO (stepT k 1 (t :: u :: r)) ts L' := by
  obtain ⟨ts0, la0, b0, e, h1, h2, ts', la', b', e', h4, h5, h6⟩ := h
  obtain ⟨rfl, e2⟩ := List.append_inj' e rfl
  subst e'
  refine ⟨ts', la', b', rfl, h4, fun L' g1 g2 => ?_⟩
  rw [st1]
  exact ⟨ts', la', b', rfl, g1, h5, h6.congr g2⟩
/-- A sync. -/
theorem rel2 (h : RelO (t :: r) (ts ++ [(la, b)]) L) : RelO (stepT k 2 (t :: r)) (ts ++ [((k : Int), b)]) (updF L (2 * ts.length + 1) []) := by
  obtain ⟨ts', la', b', e, h1, h2, h3⟩ := h
  obtain ⟨rfl, e2⟩ := List.append_inj' e rfl
  rw [st2]
  refine ⟨ts, k, b, rfl, by rw [updF_eq], ?_, h3.congr (fun j hj => updF_ne (by omega))⟩
  rw [prO_k]; simp [Cof]
theorem rel3 {kd : Int} (h0 : ¬ kd = 0) (h1' : ¬ kd = 1) (h2' : ¬ kd = 2) (h : RelO (t :: r) (ts ++ [(la, b)]) L) : RelO (stepT k kd (t :: r)) (ts ++ [((k : Int), b)]) L := by
  obtain ⟨ts', la', b', e, h1, h2, h3⟩ := h
  obtain ⟨rfl, e2⟩ := List.append_inj' e rfl
  rw [st3 _ _ _ _ h0 h1' h2']
  refine ⟨ts, k, b, rfl, h1, ?_, h3⟩
  rw [prO_k]; simp [Cof]
end
/-- All of it behind the first k deeds. -/
structure RelS (ds : List Dd) (k : Nat) (ts : List (Int × Int)) (L : Nat → List Nat) : Prop where
  done : ∀ j, j < k → L (2 * j) = frmN ds j
  free : ∀ j, k ≤ j → L (2 * j) = []
  rel : RelO (stN ds k) ts L
section
variable {ds : List Dd} {k : Nat} {ts : List (Int × Int)} {L : Nat → List Nat} {t : Tk} {r : List Tk} {x : Dd} {la b : Int}
theorem frm_no (hst : stN ds k = t :: r) (hx : ds[k]? = some x) (hp : prO la b = (Cof (t :: r)).getLast?) (h1 : ¬ x.k = 1) (h2 : ¬ x.k = 2) : frmN ds k = (prO la b).toList := by
  unfold frmN
  rw [hst, getD_of hx, hp, out_cons, if_neg (by rintro (h | h) <;> contradiction), List.append_nil]
theorem frm_wait (hst : stN ds k = t :: r) (hx : ds[k]? = some x) (hp : prO la b = (Cof (t :: r)).getLast?) (h : x.k = 1 ∨ x.k = 2) : frmN ds k = (prO la b).toList ++ t.Out := by
  unfold frmN
  rw [hst, getD_of hx, hp, out_cons, if_pos h]
theorem RelS.next (h : RelS ds k ts L) (hst : stN ds k = t :: r) (hx : ds[k]? = some x) {ts2 : List (Int × Int)} {L2 : Nat → List Nat} (h1 : L2 (2 * k) = frmN ds k) (h2 : ∀ j, j ≠ k → L2 (2 * j) = L (2 * j)) (h3 : RelO (stepT k x.k (t :: r)) ts2 L2) : RelS ds (k + 1) ts2 L2 := by
  refine ⟨fun j hj => ?_, fun j hj => (h2 j (by omega)).trans (h.free j (by omega)), ?_⟩
  · by_cases e : j = k
    · subst e; exact h1
    · exact (h2 j e).trans (h.done j (by omega))
  · show RelO (stepT k ((ds.getD k ⟨3, 0⟩).k) (stN ds k)) ts2 L2
    rw [getD_of hx, hst]
    exact h3
end
end Go.Proofs.Ytolhojagbiaamab
/-! parentsFirst, swapped, serially. -/
namespace Go.Proofs.Ytolhojagbiaamab
set_option linter.unusedVariables false
set_option maxRecDepth 20000
set_option linter.unusedSimpArgs false
open Go.RowKit Go.HeapKit

theorem lof_len {ds : List Dd} {n : Nat} (h : Inv ds n) : (Lof (stN ds n)).length = n := by
  have hp : (Lof (stN ds n)).Perm (List.range n) := by
    rw [List.perm_ext_iff_of_nodup h.nd List.nodup_range]
    intro a
    rw [h.all a, List.mem_range]
  simpa using hp.length_eq
set_option maxHeartbeats 1600000 in
theorem parentsFirst_ok (a : Option Addr) (n c : Nat) (l : List Dd) (w : World) (hS : Seen w a n l) (hf : Fine l) (hn : n ≤ 4096) :
    Calls Try.prog 25 #[.slice a n c] w fun e w' => ∃ g c, e = .returned (.slice (some ⟨g, 0, none⟩) n c) ∧ w'.ownsRow w.heap.size 3 1 (.slice (some ⟨g, 0, none⟩) n c) n (ivN (Lof (stN l n))) ∧ Keeps None w w' := by
  have HS : Hid (Seen w a n l ∧ Fine l) := ⟨hS, hf⟩
  have hlen : Hid (n = l.length) := hS.len
  clear hS hf
  go_enter Try.func25, Try.ntmps25
  go_wp2_with (go_at_call 42; refine Calls.mono (newRow_ok n l w hn) ?_; rintro _ w1 ⟨R, rfl, hR1, hk1⟩)
  have H1 : Hid (RowK w1 w.heap.size R n l 0 ∧ Keeps None w w1) := ⟨hR1, hk1⟩
  clear hR1 hk1
  go_loopw [4, 5, 11] (fun _ _ i wr => ∃ k : Nat, k ≤ n ∧ i = .int .i64 k ∧ RowK wr w.heap.size R n l k ∧ Keeps None w wr) (fun _ _ i _ => n - (intOf i).toNat)
  case atStart => exact ⟨0, Nat.zero_le _, rfl, H1.out⟩
  case round =>
    clear H1
    obtain ⟨k, hk, rfl, hrow, hkp⟩ := hrel
    by_cases hkn : k < n
    · obtain ⟨b, off, x, rfl, hb, hx, u0, u1⟩ := (HS.out.1.more hkp).elem hkn
      have i1 : (k : Int) < (n : Int) := by omega
      have kA := Keeps.alloc None wr (.cells #[.int .i64 x.k, .int .i64 x.loc] 26)
      have HC : Hid _ := add_any (wr.alloc (.cells #[.int .i64 x.k, .int .i64 x.loc] 26)) w.heap.size R n k l x hx HS.out.2 hlen.out hn (hrow.more kA) (by have := hkp.size; simp; omega)
      have HK : Hid (Keeps None w (wr.alloc (.cells #[.int .i64 x.k, .int .i64 x.loc] 26))) := hkp.andAlloc _
      clear hrow hkp hx kA
      go_wp2_with (go_at_call 43; refine Calls.mono HC.out ?_; rintro _ w4 ⟨rfl, hR4, hk4⟩)
      go_roundw
      case rel => exact ⟨k + 1, by omega, by go_num, hR4, HK.out.trans hk4 (fun i e hi => by omega)⟩
      case measure => simp [intOf]; omega
    · have hkn2 : k = n := by omega
      subst hkn2
      obtain ⟨N, gN, gA, cap, hM, hL⟩ := hrow
      obtain ⟨d, _, _, hI⟩ := HS.out.2.at k (by rw [← hlen.out]; exact Nat.le_refl _)
      have HC : Hid _ := order_ok wr w.heap.size R k gN gA cap N _ (Lof (stN l k)) hM hL (lof_len hI) (fun a ha => (hI.all a).1 ha) hn
      have HK : Hid (Keeps None w wr) := hkp
      clear hM hL hI hkp
      go_wp2_with (go_at_call 44; refine Calls.mono HC.out ?_; rintro _ w4 ⟨g, c4, rfl, hr4, hk4⟩)
      go_ret
      exact ⟨_, _, rfl, row_base hr4 HK.out.size, HK.out.trans hk4 (fun _ f _ => f)⟩
/-- A number of a row, as it is read. -/
theorem ints_at {w : World} {base g n c k : Nat} {L : List Nat} {x : Nat} (h : w.ownsRow base 3 1 (.slice (some ⟨g, 0, none⟩) n c) n (ivN L)) (hx : L[k]? = some x) : w.cell? ⟨g, k, none⟩ = some (.int .i64 x) := by
  have hlen : L.length = n := by have := h.1; rw [ivN_len] at this; omega
  have hk := (List.getElem?_eq_some_iff.1 hx).1
  rcases h.2 with ⟨_, h1⟩ | ⟨g', cap, cur, hv, hbg, hg, hnc, hcm, hcs, htake⟩
  · omega
  · injection hv with e1 e2 e3
    injection e1 with e1
    injection e1 with e1
    subst e1 e3
    have hv : (ivN L)[k]? = some (.int .i64 x) := by simp [ivN, hx]
    rw [blk_cell hg]
    rw [← htake, List.getElem?_take] at hv
    split at hv
    · simpa using hv
    · cases hv
theorem idx_at {L : List Nat} {x k : Nat} (h : ∀ j, j < k → L[j]? ≠ some x) (hx : L[k]? = some x) : L.idxOf x = k := by
  induction L generalizing k with
  | nil => simp at hx
  | cons y L ih =>
    cases k with
    | zero => simp at hx; subst hx; simp
    | succ k =>
      have hne : y ≠ x := fun e => h 0 (by omega) (by simp [e])
      rw [List.idxOf_cons, show (y == x) = false by simpa using hne]
      simp only [cond_false]
      rw [ih (k := k) (fun j hj => by have := h (j + 1) (by omega); simpa using this) (by simpa using hx)]
set_option maxHeartbeats 1600000 in
theorem index_ok (g n c base : Nat) (L : List Nat) (x : Nat) (w : World) (h : w.ownsRow base 3 1 (.slice (some ⟨g, 0, none⟩) n c) n (ivN L)) (hx : x ∈ L) (hn : n ≤ 4096) :
    Calls Try.prog 41 #[.slice (some ⟨g, 0, none⟩) n c, .int .i64 x] w fun e w' => e = .returned (.int .i64 (L.idxOf x : Nat)) ∧ w' = w := by
  have HH : Hid (w.ownsRow base 3 1 (.slice (some ⟨g, 0, none⟩) n c) n (ivN L) ∧ x ∈ L) := ⟨h, hx⟩
  have hlen : L.length = n := by have := h.1; rw [ivN_len] at this; omega
  have HLen : Hid (L.length = n) := hlen
  clear h hx hlen
  go_enter Try.func41, Try.ntmps41
  go_wp2_with fail
  go_loopw [5, 8] (fun _ i wr => ∃ k : Nat, k ≤ n ∧ i = .int .i64 k ∧ (∀ j, j < k → L[j]? ≠ some x) ∧ wr = w) (fun _ i _ => n - (intOf i).toNat)
  case atStart => exact ⟨0, Nat.zero_le _, rfl, fun j hj => by omega, rfl⟩
  case round =>
    obtain ⟨k, hk, rfl, hno, hwr⟩ := hrel
    subst hwr
    by_cases hkn : k < n
    · obtain ⟨b, hb⟩ : ∃ b, L[k]? = some b := ⟨L[k]'(by have := HLen.out; omega), by simp⟩
      have cb := ints_at HH.out.1 hb
      have i1 : (k : Int) < (n : Int) := by omega
      by_cases hbx : b = x
      · subst hbx
        have HI : Hid (L.idxOf b = k) := idx_at hno hb
        clear hno hb HH
        go_wp2
        go_ret
        exact ⟨by rw [HI.out]; rfl, rfl⟩
      · have hne : ¬ (x : Int) = (b : Int) := by omega
        have HN : Hid (∀ j, j < k + 1 → L[j]? ≠ some x) := by
          intro j hj e
          by_cases hjk : j = k
          · subst hjk; rw [hb] at e; injection e with e; exact hbx e
          · exact hno j (by omega) e
        clear hno hb hbx
        go_wp2
        go_roundw
        case rel => exact ⟨k + 1, by omega, by go_num, HN.out, trivial⟩
        case measure => simp [intOf]; omega
    · exfalso
      obtain ⟨j, hj⟩ := List.getElem?_of_mem HH.out.2
      have := (List.getElem?_eq_some_iff.1 hj).1
      exact hno j (by have := HLen.out; omega) hj
set_option maxHeartbeats 1600000 in
theorem swapped_ok (g n c base : Nat) (L : List Nat) (lo hi : Nat) (w : World) (h : w.ownsRow base 3 1 (.slice (some ⟨g, 0, none⟩) n c) n (ivN L)) (hlo : lo ∈ L) (hhi : hi ∈ L) (hn : n ≤ 4096) :
    Calls Try.prog 24 #[.slice (some ⟨g, 0, none⟩) n c, .int .i64 lo, .int .i64 hi] w fun e w' => e = .returned (.bool (decide (L.idxOf hi < L.idxOf lo))) ∧ w' = w := by
  have H1 : Hid _ := index_ok g n c base L hi w h hhi hn
  have H2 : Hid _ := index_ok g n c base L lo w h hlo hn
  clear h hlo hhi
  go_enter Try.func24, Try.ntmps24
  go_wp2_with fail
  refine Calls.mono H1.out ?_
  rintro e w1 ⟨rfl, hw1⟩
  have hw1' := hw1.symm
  subst hw1'
  go_wp2_with fail
  refine Calls.mono H2.out ?_
  rintro e w2 ⟨rfl, hw2⟩
  have hw2' := hw2.symm
  subst hw2'
  go_wp2
  go_ret
  exact ⟨rfl, rfl⟩
end Go.Proofs.Ytolhojagbiaamab
/-! The document's table of what is ahead of what. -/
namespace Go.Proofs.Ytolhojagbiaamab
set_option linter.unusedVariables false
set_option maxRecDepth 20000
set_option linter.unusedSimpArgs false
open Go.RowKit Go.HeapKit

def boolsA (n : Nat) (f : Nat → Bool) : Array Value := ((List.range n).map (fun j => Value.bool (f j))).toArray
theorem bools_at (n : Nat) (f : Nat → Bool) {k : Nat} (hk : k < n) : (boolsA n f)[k]? = some (.bool (f k)) := by simp [boolsA, hk]
theorem bools_set (n : Nat) (f : Nat → Bool) (k : Nat) (v : Bool) : (boolsA n f).setIfInBounds k (.bool v) = boolsA n (updF f k v) := by
  unfold boolsA updF
  apply Array.ext
  · simp
  · intro i h1 h2
    by_cases h : k = i
    · simp [h]
    · simp [h, Ne.symm h]
theorem Try.infoBoolR : (Try.prog.info? 4).map (fun i => (i.zero, i.size, i.bytes)) = some (some (.bool false), 1, 1) := by kernel_rfl
theorem Try.infoBoolsR : (Try.prog.info? 72).map (fun i => (i.zero, i.size, i.bytes)) = some (some (.slice none 0 0), 1, 24) := by kernel_rfl
theorem make_bools (n : Nat) (w : World) (hn : n ≤ 4096) : (Instr.makeSlice 72 (.int .i64 n) (.int .i64 n)).run Try.prog w = .ok (.slice (some ⟨w.heap.size, 0, none⟩) n n) (w.alloc (.cells (boolsA n (fun _ => false)) 4)) := by
  obtain ⟨i0, hi, hz0, hz1, hz2⟩ := info_parts Try.infoBoolR
  obtain ⟨M, hM, _, hr⟩ := run_make_block (P := Try.prog) (w := w) 72 4 i0 _ 1 1 Try.underlying72 hi hz0 hz1 hz2 n (by omega) (by omega)
  have hc : (Value.bool false).cells = #[.bool false] := by kernel_rfl
  have he : M = boolsA n (fun _ => false) := by
    rw [hM, hc, Nat.mul_one]
    apply Array.ext
    · simp [madeCells, boolsA]
    · intro i h1 h2
      simp [madeCells, Nat.mod_one, boolsA]
  rw [hr, he]
def vsB (n i : Nat) (R : Nat → Nat) : Nat → Value := fun j => if j < i then .slice (some ⟨R j, 0, none⟩) n n else .slice none 0 0
def outB (n i : Nat) (R : Nat → Nat) : Array Value := ((List.range n).map (vsB n i R)).toArray
theorem outB_at {n i : Nat} {R : Nat → Nat} {j : Nat} (hj : j < n) : (outB n i R)[j]? = some (vsB n i R j) := by simp [outB, hj]
theorem outB_set (n i : Nat) (R : Nat → Nat) (g : Nat) : (outB n i R).setIfInBounds i (.slice (some ⟨g, 0, none⟩) n n) = outB n (i + 1) (updF R i g) := by
  unfold outB
  apply Array.ext
  · simp
  · intro j h1 h2
    have hj : j < n := by simpa using h2
    by_cases h : i = j
    · subst h; simp [vsB, updF_eq]
    · have hv : vsB n i R j = vsB n (i + 1) (updF R i g) j := by
        unfold vsB
        by_cases hji : j < i
        · rw [if_pos hji, if_pos (by omega), updF_ne (by omega)]
        · rw [if_neg hji, if_neg (by omega)]
      simp [h]
      exact hv
theorem make_rows (n : Nat) (w : World) (hn : n ≤ 4096) : (Instr.makeSlice 60 (.int .i64 n) (.int .i64 n)).run Try.prog w = .ok (.slice (some ⟨w.heap.size, 0, none⟩) n n) (w.alloc (.cells (outB n 0 (fun _ => 0)) 72)) := by
  obtain ⟨i0, hi, hz0, hz1, hz2⟩ := info_parts Try.infoBoolsR
  obtain ⟨M, hM, _, hr⟩ := run_make_block (P := Try.prog) (w := w) 60 72 i0 _ 1 24 Try.underlying60 hi hz0 hz1 hz2 n (by omega) (by omega)
  have hc : (Value.slice none 0 0).cells = #[.slice none 0 0] := by kernel_rfl
  have he : M = outB n 0 (fun _ => 0) := by
    rw [hM, hc, Nat.mul_one]
    apply Array.ext
    · simp [madeCells, outB]
    · intro i h1 h2
      simp [madeCells, Nat.mod_one, outB, vsB]
  rw [hr, he]
/-- The table, i rows of it. -/
structure BfM (w : World) (base n i G : Nat) (R : Nat → Nat) (M : Nat → Nat → Bool) : Prop where
  out : w.heap[G]? = some (.cells (outB n i R) 72 (0, 0))
  row : ∀ j, j < i → w.heap[R j]? = some (.cells (boolsA n (M j)) 4 (0, 0))
  inj : ∀ j k, j < i → k < i → j ≠ k → R j ≠ R k
  lowG : base ≤ G
  low : ∀ j, j < i → base ≤ R j
section
variable {w w' : World} {base n i G : Nat} {R : Nat → Nat} {M : Nat → Nat → Bool}
theorem BfM.more (h : BfM w base n i G R M) (hk : Keeps None w w') : BfM w' base n i G R M :=
  ⟨blk_kept h.out hk (fun f => f), fun j hj => blk_kept (h.row j hj) hk (fun f => f), h.inj, h.lowG, h.low⟩
theorem BfM.neG (h : BfM w base n i G R M) {j : Nat} (hj : j < i) : G ≠ R j := by
  intro e
  have h1 := h.out
  rw [e, h.row j hj] at h1
  injection h1 with h1
  injection h1 with _ h1
  revert h1
  decide
/-- One cell of the table is written. -/
theorem BfM.put (h : BfM w base n i G R M) {j : Nat} (hj : j < i) (m : Nat) (v : Bool) : BfM (w.setCell ⟨R j, m, none⟩ (.bool v)) base n i G R (updF M j (updF (M j) m v)) ∧ Keeps (· = R j) w (w.setCell ⟨R j, m, none⟩ (.bool v)) := by
  have hk : Keeps (· = R j) w (w.setCell ⟨R j, m, none⟩ (.bool v)) := keeps_one (Keeps.refl _ _) _
  refine ⟨⟨blk_kept h.out hk (h.neG hj), fun q hq => ?_, h.inj, h.lowG, h.low⟩, hk⟩
  by_cases e : q = j
  · subst e
    rw [updF_eq, ← bools_set]
    exact blk_set (h.row q hq) _
  · rw [updF_ne e]
    exact blk_kept (h.row q hq) hk (fun e2 => h.inj q j hq hj e e2)
/-- A row more. -/
theorem BfM.add (h : BfM w base n i G R M) (hi : i < n) (hb : base ≤ w.heap.size) : BfM ((w.alloc (.cells (boolsA n (fun _ => false)) 4)).setCell ⟨G, i, none⟩ (.slice (some ⟨w.heap.size, 0, none⟩) n n)) base n (i + 1) G (updF R i w.heap.size) (updF M i (fun _ => false)) ∧ Keeps (· = G) w ((w.alloc (.cells (boolsA n (fun _ => false)) 4)).setCell ⟨G, i, none⟩ (.slice (some ⟨w.heap.size, 0, none⟩) n n)) := by
  have kA := Keeps.alloc None w (.cells (boolsA n (fun _ => false)) 4)
  have hk : Keeps (· = G) (w.alloc (.cells (boolsA n (fun _ => false)) 4)) ((w.alloc (.cells (boolsA n (fun _ => false)) 4)).setCell ⟨G, i, none⟩ (.slice (some ⟨w.heap.size, 0, none⟩) n n)) := keeps_one (Keeps.refl _ _) _
  have hA := h.more kA
  have hG := blk_lt h.out
  refine ⟨⟨?_, fun j hj => ?_, fun j k hj hk' hjk => ?_, h.lowG, fun j hj => ?_⟩, (kA.mono (fun _ f _ => f.elim)).trans hk (fun _ e _ => e)⟩
  · rw [← outB_set]
    exact blk_set hA.out _
  · by_cases e : j = i
    · subst e
      rw [updF_eq, updF_eq]
      exact blk_kept (heap_alloc_new _ _) hk (by omega)
    · rw [updF_ne e, updF_ne e]
      exact blk_kept (hA.row j (by omega)) hk (fun e2 => h.neG (j := j) (by omega) e2.symm)
  · have hlt : ∀ q, q < i → R q < w.heap.size := fun q hq => blk_lt (h.row q hq)
    by_cases e : j = i
    · subst e
      rw [updF_eq, updF_ne (Ne.symm hjk)]
      have := hlt k (by omega)
      omega
    · rw [updF_ne e]
      by_cases e2 : k = i
      · subst e2
        rw [updF_eq]
        have := hlt j (by omega)
        omega
      · rw [updF_ne e2]
        exact h.inj j k (by omega) (by omega) hjk
  · by_cases e : j = i
    · subst e; rw [updF_eq]; exact hb
    · rw [updF_ne e]; exact h.low j (by omega)
end
/-- What is ahead of a deed has lower numbers. -/
theorem frm_lt {ds : List Dd} (hf : Fine ds) {k z : Nat} (hk : k < ds.length) (hz : z ∈ frmN ds k) : z < k := by
  obtain ⟨d, h1, _, hI⟩ := hf.at k (by omega)
  cases hs : stN ds k with
  | nil => rw [hs] at h1; simp at h1
  | cons t r =>
    have hg := hI.good
    rw [hs] at hg
    have : Ah ds z k := .one hz
    rw [next_ah hs hg] at this
    have hin : z ∈ Lof (stN ds k) := by
      rw [hs]
      rcases this with h | ⟨_, h⟩
      · exact List.mem_append.2 (.inl h)
      · exact List.mem_append.2 (.inr (List.mem_append.2 (.inl h)))
    exact (hI.all z).1 hin
theorem ah_lt {ds : List Dd} (hf : Fine ds) {m k : Nat} (hk : k < ds.length) (h : Ah ds m k) : m < k := by
  obtain ⟨d, h1, _, hI⟩ := hf.at (k + 1) (by omega)
  exact ((hI.ah k (by omega) m).1 h).1
end Go.Proofs.Ytolhojagbiaamab
