import Derived.Test.YtolhojagbiaamaaRcFirst
/-! The document's steps, in memory: rows of numbers, the open tasks. -/
namespace Go.Proofs.Ytolhojagbiaamaa
set_option linter.unusedVariables false
set_option maxRecDepth 20000
set_option linter.unusedSimpArgs false
open Go.RowKit Go.HeapKit

def updF {α : Type} (K : Nat → α) (k : Nat) (v : α) : Nat → α := fun j => if j = k then v else K j
theorem updF_eq {α : Type} (K : Nat → α) (k : Nat) (v : α) : updF K k v k = v := by unfold updF; rw [if_pos rfl]
theorem updF_ne {α : Type} {K : Nat → α} {k j : Nat} {v : α} (h : j ≠ k) : updF K k v j = K j := by unfold updF; rw [if_neg h]
/-- Rows of numbers, in blocks of their own. -/
structure Rs (w : World) (base : Nat) (K : Nat → Value) (L : Nat → List Nat) : Prop where
  row : ∀ k, w.ownsRow base 3 1 (K k) (L k).length (ivN (L k))
  apart : ∀ i j b, i ≠ j → (K i).ownBlock = some b → (K j).ownBlock ≠ some b
section
variable {w w' : World} {base : Nat} {K : Nat → Value} {L : Nat → List Nat}
theorem Rs.kept {S : Nat → Prop} (h : Rs w base K L) (hk : Keeps S w w') (hS : ∀ k b, (K k).ownBlock = some b → ¬ S b) : Rs w' base K L :=
  ⟨fun k => row_kept (h.row k) hk (hS k), h.apart⟩
theorem Rs.more (h : Rs w base K L) (hk : Keeps None w w') : Rs w' base K L := h.kept hk (fun _ _ _ f => f)
theorem Rs.clear (h : Rs w base K L) (k : Nat) : Rs w base (updF K k (.slice none 0 0)) (updF L k []) := by
  refine ⟨fun j => ?_, fun i j b hij hb => ?_⟩
  · by_cases hj : j = k
    · subst hj; rw [updF_eq, updF_eq]; exact row_nil _ _ _ _
    · rw [updF_ne hj, updF_ne hj]; exact h.row j
  · by_cases hi : i = k
    · subst hi; rw [updF_eq] at hb; simp [Value.ownBlock] at hb
    · rw [updF_ne hi] at hb
      by_cases hj : j = k
      · subst hj; rw [updF_eq]; simp [Value.ownBlock]
      · rw [updF_ne hj]; exact h.apart i j b hij hb
theorem Rs.typ (h : Rs w base K L) {k b : Nat} (hb : (K k).ownBlock = some b) : ∃ cur, w.heap[b]? = some (.cells cur 3 (0, 0)) := own_block (h.row k) hb
theorem Rs.ne (h : Rs w base K L) {k b p : Nat} (hb : (K k).ownBlock = some b) {c : Array Value} {t : TypeId} {fz : Nat × Nat} (hp : w.heap[p]? = some (.cells c t fz)) (ht : t ≠ 3) : b ≠ p := by
  intro e
  subst e
  obtain ⟨cur, hc⟩ := h.typ hb
  rw [hp] at hc
  injection hc with hc
  injection hc with _ hc
  exact ht hc
/-- 'append' to one of the rows. -/
theorem Rs.app (h : Rs w base K L) (k x : Nat) (hb : base ≤ w.heap.size) (hlen : (L k).length ≤ 100000) {g0 : Nat} (hg0 : w.heap[g0]? = some (.cells #[.int .i64 x] 3 (0, 0))) (hfree : ∀ j, (K j).ownBlock ≠ some g0) :
    ∃ g cap w', (Builtin.append_ #[33, 33] 33 #[K k, .slice (some ⟨g0, 0, none⟩) 1 1]).run Try.prog w = .ok (.slice (some ⟨g, 0, none⟩) ((L k).length + 1) cap) w' ∧
      Rs w' base (updF K k (.slice (some ⟨g, 0, none⟩) ((L k).length + 1) cap)) (updF L k (L k ++ [x])) ∧ Keeps (fun i => (K k).ownBlock = some i) w w' := by
  obtain ⟨g, cap, w1, hr, ho, hk, hm⟩ := int_more base (K k) (L k) x (L k).length 33 w rfl (h.row k) hb (by omega) hg0
  refine ⟨g, cap, w1, hr, ⟨fun j => ?_, ?_⟩, hk⟩
  · by_cases hj : j = k
    · subst hj; rw [updF_eq, updF_eq]; simpa using ho
    · rw [updF_ne hj, updF_ne hj]
      exact row_kept (h.row j) hk (fun b e e2 => h.apart j k b hj e e2)
  · have hnew : ∀ j, j ≠ k → (K j).ownBlock ≠ some g := by
      intro j hj e
      rcases hm with hm | hm
      · exact h.apart j k g hj e hm
      · have := own_lt (h.row j) e; omega
    intro i j b hij hb
    by_cases hi : i = k
    · subst hi
      rw [updF_eq] at hb
      simp [Value.ownBlock] at hb
      subst hb
      rw [updF_ne (Ne.symm hij)]
      exact hnew j (Ne.symm hij)
    · rw [updF_ne hi] at hb
      by_cases hj : j = k
      · subst hj
        rw [updF_eq]
        simp [Value.ownBlock]
        intro e
        subst e
        exact hnew i hi hb
      · rw [updF_ne hj]; exact h.apart i j b hij hb
end
/-- The open tasks' cells. -/
def tkVals (K : Nat → Value) (j : Nat) : List (Int × Int) → List Value
  | [] => []
  | x :: r => [.int .i64 x.1, .int .i64 x.2, K (2 * j + 1)] ++ tkVals K (j + 1) r
theorem tk_len (K : Nat → Value) (j : Nat) (ts : List (Int × Int)) : (tkVals K j ts).length = ts.length * 3 := by
  induction ts generalizing j with
  | nil => rfl
  | cons x r ih => simp [tkVals, ih]; omega
theorem tk_app (K : Nat → Value) (j : Nat) (a b : List (Int × Int)) : tkVals K j (a ++ b) = tkVals K j a ++ tkVals K (j + a.length) b := by
  induction a generalizing j with
  | nil => simp [tkVals]
  | cons x r ih => simp [tkVals, ih, Nat.add_assoc, Nat.add_comm 1]
theorem tk_congr {K K' : Nat → Value} (j : Nat) (ts : List (Int × Int)) (h : ∀ i, j ≤ i → i < j + ts.length → K' (2 * i + 1) = K (2 * i + 1)) : tkVals K' j ts = tkVals K j ts := by
  induction ts generalizing j with
  | nil => rfl
  | cons x r ih =>
    have h1 := h j (Nat.le_refl _) (by simp)
    simp only [tkVals, h1]
    rw [ih (j + 1) (fun i h2 h3 => h i (by omega) (by simp; omega))]
theorem Try.infoTask : (Try.prog.info? 92).map (fun i => (i.zero, i.size, i.bytes)) = some (some (.agg #[.int .i64 0, .int .i64 0, .slice none 0 0]), 3, 40) := by kernel_rfl
theorem Try.infoIntsR : (Try.prog.info? 33).map (fun i => (i.zero, i.size, i.bytes)) = some (some (.slice none 0 0), 1, 24) := by kernel_rfl
/-- The state of the steps. -/
structure StM (w : World) (base n F gO cap : Nat) (K : Nat → Value) (L : Nat → List Nat) (ts : List (Int × Int)) : Prop where
  rs : Rs w base K L
  fr : w.heap[F]? = some (.cells ((List.range n).map (fun k => K (2 * k))).toArray 33 (0, 0))
  op : w.ownsRow base 92 3 (.slice (some ⟨gO, 0, none⟩) ts.length cap) ts.length (tkVals K 0 ts)
  low : base ≤ F
section
variable {w w' : World} {base n F gO cap : Nat} {K : Nat → Value} {L : Nat → List Nat} {ts : List (Int × Int)} {x : Int × Int}
theorem StM.more (h : StM w base n F gO cap K L ts) (hk : Keeps None w w') : StM w' base n F gO cap K L ts :=
  ⟨h.rs.more hk, blk_kept h.fr hk (fun f => f), row_kept h.op hk (fun _ _ f => f), h.low⟩
theorem StM.opb (h : StM w base n F gO cap K L ts) : ∃ cur, w.heap[gO]? = some (.cells cur 92 (0, 0)) := own_block h.op rfl
theorem StM.lowO (h : StM w base n F gO cap K L ts) : base ≤ gO := row_low h.op rfl
theorem StM.neFO (h : StM w base n F gO cap K L ts) : F ≠ gO := by
  intro e
  obtain ⟨cur, hc⟩ := h.opb
  have h1 := h.fr
  rw [e, hc] at h1
  injection h1 with h1
  injection h1 with _ h1
  revert h1
  decide
/-- The cells of an open task. -/
theorem StM.at (h : StM w base n F gO cap K L (ts ++ [x])) : w.cell? ⟨gO, ts.length * 3, none⟩ = some (.int .i64 x.1) ∧ w.cell? ⟨gO, ts.length * 3 + 1, none⟩ = some (.int .i64 x.2) ∧ w.cell? ⟨gO, ts.length * 3 + 2, none⟩ = some (K (2 * ts.length + 1)) ∧ (∀ i, w.frozen? ⟨gO, i, none⟩ = false) ∧ ts.length + 1 ≤ cap := by
  have hv : ∀ j u, ([.int .i64 x.1, .int .i64 x.2, K (2 * ts.length + 1)] : List Value)[j]? = some u → (tkVals K 0 (ts ++ [x]))[ts.length * 3 + j]? = some u := by
    intro j u hu
    rw [tk_app, List.getElem?_append_right (by rw [tk_len]; omega), tk_len, show ts.length * 3 + j - ts.length * 3 = j by omega]
    simpa [tkVals] using hu
  rcases h.op.2 with ⟨h0, _⟩ | ⟨g', cap', cur, he, hb, hg, hn, hm, hcs, ht⟩
  · cases h0
  · injection he with e1 e2 e3
    injection e1 with e1
    injection e1 with e1
    subst e1 e3
    have hc : ∀ j u, ([.int .i64 x.1, .int .i64 x.2, K (2 * ts.length + 1)] : List Value)[j]? = some u → w.cell? ⟨gO, ts.length * 3 + j, none⟩ = some u := by
      intro j u hu
      have := hv j u hu
      rw [blk_cell hg]
      rw [← ht, List.getElem?_take] at this
      split at this
      · simpa using this
      · cases this
    exact ⟨hc 0 _ rfl, hc 1 _ rfl, hc 2 _ rfl, fun i => blk_free hg i, by simpa using hn⟩
theorem range_putR (n k : Nat) (K : Nat → Value) (v : Value) : (((List.range n).map (fun k => K (2 * k))).toArray.setIfInBounds k v) = ((List.range n).map (fun j => updF K (2 * k) v (2 * j))).toArray := by
  apply Array.ext
  · simp
  · intro i h1 h2
    by_cases h : k = i
    · subst h; simp [updF]
    · simp [h]
      rw [updF_ne (by omega)]
theorem range_getR (n k : Nat) (K : Nat → Value) (hk : k < n) : ((List.range n).map (fun k => K (2 * k))).toArray[k]? = some (K (2 * k)) := by simp [hk]
/-- A number more for a deed's row. -/
theorem StM.from (h : StM w base n F gO cap K L ts) (k z : Nat) (hk : k < n) (hb : base ≤ w.heap.size) (hlen : (L (2 * k)).length ≤ 100000) {g0 : Nat} (hg0 : w.heap[g0]? = some (.cells #[.int .i64 z] 3 (0, 0))) (hfree : ∀ j, (K j).ownBlock ≠ some g0) :
    ∃ g c w', (Builtin.append_ #[33, 33] 33 #[K (2 * k), .slice (some ⟨g0, 0, none⟩) 1 1]).run Try.prog w = .ok (.slice (some ⟨g, 0, none⟩) ((L (2 * k)).length + 1) c) w' ∧ w'.cell? ⟨F, k, none⟩ = some (K (2 * k)) ∧ w'.frozen? ⟨F, k, none⟩ = false ∧
      StM (w'.setCell ⟨F, k, none⟩ (.slice (some ⟨g, 0, none⟩) ((L (2 * k)).length + 1) c)) base n F gO cap (updF K (2 * k) (.slice (some ⟨g, 0, none⟩) ((L (2 * k)).length + 1) c)) (updF L (2 * k) (L (2 * k) ++ [z])) ts ∧
      Keeps (fun i => (K (2 * k)).ownBlock = some i ∨ i = F) w (w'.setCell ⟨F, k, none⟩ (.slice (some ⟨g, 0, none⟩) ((L (2 * k)).length + 1) c)) := by
  obtain ⟨g, c, w1, hr, hrs, hkp⟩ := h.rs.app (2 * k) z hb hlen hg0 hfree
  have hF : ∀ j b, (K j).ownBlock = some b → b ≠ F := fun j b hb => h.rs.ne hb h.fr (by decide)
  have f1 := blk_kept h.fr hkp (fun e => hF _ _ e rfl)
  have hk2 : Keeps (· = F) w1 (w1.setCell ⟨F, k, none⟩ (.slice (some ⟨g, 0, none⟩) ((L (2 * k)).length + 1) c)) := keeps_one (Keeps.refl _ _) _
  have f2 := blk_set (i := k) f1 (.slice (some ⟨g, 0, none⟩) ((L (2 * k)).length + 1) c)
  rw [range_putR] at f2
  refine ⟨g, c, w1, hr, (cell_of_heap f1 k).trans (range_getR _ _ _ hk), blk_free f1 k, ⟨?_, f2, ?_, h.low⟩, (hkp.mono (fun i e _ => .inl e)).trans hk2 (fun i e _ => .inr e)⟩
  · exact hrs.kept hk2 (fun j b hb e => hrs.ne hb f1 (by decide) e)
  · have hO : ∀ b, (K (2 * k)).ownBlock = some b → b ≠ gO := fun b hb => by
      obtain ⟨cur, hc⟩ := h.opb
      exact h.rs.ne hb hc (by decide)
    have o1 := row_kept h.op hkp (fun b e e2 => by simp [Value.ownBlock] at e; subst e; exact hO _ e2 rfl)
    have o2 := row_kept o1 hk2 (fun b e e2 => by simp [Value.ownBlock] at e; subst e; exact h.neFO e2.symm)
    rw [tk_congr 0 ts (K := K) (K' := updF K (2 * k) _) (fun i _ _ => updF_ne (by omega))]
    exact o2
def set3 (w : World) (g o : Nat) (a b : Int) (v : Value) : World := ((w.setCell ⟨g, o, none⟩ (.int .i64 a)).setCell ⟨g, o + 1, none⟩ (.int .i64 b)).setCell ⟨g, o + 2, none⟩ v
theorem keeps_set3 (w : World) (g o : Nat) (a b : Int) (v : Value) : Keeps (· = g) w (set3 w g o a b v) := keeps_one (keeps_one (keeps_one (Keeps.refl _ w) _) _) _
theorem range_congr {n : Nat} {K K' : Nat → Value} (h : ∀ j, K' (2 * j) = K (2 * j)) : ((List.range n).map (fun k => K' (2 * k))).toArray = ((List.range n).map (fun k => K (2 * k))).toArray := by
  rw [show (fun k => K' (2 * k)) = (fun k => K (2 * k)) from funext h]
theorem tk_last (K : Nat → Value) (ts : List (Int × Int)) (x : Int × Int) : tkVals K 0 (ts ++ [x]) = tkVals K 0 ts ++ [.int .i64 x.1, .int .i64 x.2, K (2 * ts.length + 1)] := by
  rw [tk_app]
  simp [tkVals]
/-- The last open task is another one. -/
theorem StM.put (h : StM w base n F gO cap K L (ts ++ [x])) (y : Int × Int) {K' : Nat → Value} {L' : Nat → List Nat} (hr : Rs w base K' L') (hK : ∀ j, j ≠ 2 * ts.length + 1 → K' j = K j) :
    StM (set3 w gO (ts.length * 3) y.1 y.2 (K' (2 * ts.length + 1))) base n F gO cap K' L' (ts ++ [y]) := by
  have hk := keeps_set3 w gO (ts.length * 3) y.1 y.2 (K' (2 * ts.length + 1))
  obtain ⟨cur, hc⟩ := h.opb
  refine ⟨hr.kept hk (fun j b hb e => hr.ne hb hc (by decide) e), ?_, ?_, h.low⟩
  · rw [range_congr (K := K) (fun j => hK _ (by omega))]
    exact blk_kept h.fr hk h.neFO
  · have h1 := row_set (row_set (row_set h.op (ts.length * 3) (.int .i64 y.1)) (ts.length * 3 + 1) (.int .i64 y.2)) (ts.length * 3 + 2) (K' (2 * ts.length + 1))
    have e : (((tkVals K 0 (ts ++ [x])).set (ts.length * 3) (.int .i64 y.1)).set (ts.length * 3 + 1) (.int .i64 y.2)).set (ts.length * 3 + 2) (K' (2 * ts.length + 1)) = tkVals K' 0 (ts ++ [y]) := by
      rw [tk_last, tk_last, tk_congr 0 ts (K := K) (K' := K') (fun i _ hi => hK _ (by omega))]
      have hl := tk_len K 0 ts
      rw [List.set_append_right _ _ (by omega), List.set_append_right _ _ (by omega), List.set_append_right _ _ (by omega), hl]
      simp
    rw [e] at h1
    simp only [List.length_append, List.length_singleton] at h1 ⊢
    exact h1
/-- One open task less. -/
theorem StM.pop (h : StM w base n F gO cap K L (ts ++ [x])) : StM w base n F gO cap K L ts := by
  refine ⟨h.rs, h.fr, ⟨tk_len _ _ _, ?_⟩, h.low⟩
  rcases h.op.2 with ⟨h0, _⟩ | ⟨g', cap', cur, hv, hbg, hg, hnc, hcm, hcs, htake⟩
  · cases h0
  · injection hv with e1 e2 e3
    injection e1 with e1
    injection e1 with e1
    subst e1 e3
    refine .inr ⟨gO, cap, cur, rfl, hbg, hg, by simp at hnc; omega, hcm, hcs, ?_⟩
    have : cur.toList.take (ts.length * 3) = (cur.toList.take ((ts ++ [x]).length * 3)).take (ts.length * 3) := by rw [List.take_take, Nat.min_eq_left (by simp; omega)]
    rw [this, htake, tk_last, List.take_append_of_le_length (by rw [tk_len]; omega), List.take_of_length_le (by rw [tk_len]; omega)]
/-- One open task more. -/
theorem StM.push (h : StM w base n F gO cap K L ts) (y : Int × Int) (hb : base ≤ w.heap.size) (hlen : ts.length ≤ 100000) {g0 : Nat} (hg0 : w.heap[g0]? = some (.cells #[.int .i64 y.1, .int .i64 y.2, .slice none 0 0] 92 (0, 0))) :
    ∃ g c w', (Builtin.append_ #[93, 93] 93 #[.slice (some ⟨gO, 0, none⟩) ts.length cap, .slice (some ⟨g0, 0, none⟩) 1 1]).run Try.prog w = .ok (.slice (some ⟨g, 0, none⟩) (ts.length + 1) c) w' ∧
      StM w' base n F g c (updF K (2 * ts.length + 1) (.slice none 0 0)) (updF L (2 * ts.length + 1) []) (ts ++ [y]) ∧ Keeps (· = gO) w w' := by
  obtain ⟨i0, hi, hz0, hz1, hz2⟩ := info_parts Try.infoTask
  obtain ⟨v', w1, hr, ho, hgr, hm, -⟩ := run_append_moved (P := Try.prog) w base 93 93 92 i0 _ 3 40 Try.underlying93 hi hz0 hz1 hz2 rfl (by decide) (.slice (some ⟨gO, 0, none⟩) ts.length cap) ts.length _ h.op
    ⟨g0, 0, none⟩ 1 1 [.int .i64 y.1, .int .i64 y.2, .slice none 0 0] rfl (by
      intro j u hu
      rw [show (⟨g0, 0, none⟩ : Addr).add j = ⟨g0, j, none⟩ by unfold Addr.add; split <;> simp_all, blk_cell hg0]
      simpa using hu) (by
      intro u hu
      simp at hu
      rcases hu with rfl | rfl | rfl <;> rfl) (by unfold maxLen; omega) (by omega) hb
  obtain ⟨g, c, rfl⟩ : ∃ g c, v' = .slice (some ⟨g, 0, none⟩) (ts.length + 1) c := by
    rcases ho.2 with ⟨_, h0⟩ | ⟨b, cap, cur, rfl, _⟩
    · omega
    · exact ⟨b, cap, rfl⟩
  have hkp : Keeps (· = gO) w w1 := (Keeps.refl _ w).andGrown hgr (fun k e => .inl (by simp [Value.ownBlock] at e; exact e.symm))
  obtain ⟨cur, hc⟩ := h.opb
  have hrs := (h.rs.kept hkp (fun j b hb e => h.rs.ne hb hc (by decide) e)).clear (2 * ts.length + 1)
  refine ⟨g, c, w1, hr, ⟨hrs, ?_, ?_, h.low⟩, hkp⟩
  · rw [range_congr (K := K) (fun j => updF_ne (by omega))]
    exact blk_kept h.fr hkp h.neFO
  · rw [tk_last, tk_congr 0 ts (K := K) (fun i _ hi => updF_ne (by omega)), updF_eq]
    simpa using ho
/-- A number more for what the last open task has to wait for. -/
theorem StM.out (h : StM w base n F gO cap K L (ts ++ [x])) (z : Nat) (hb : base ≤ w.heap.size) (hlen : (L (2 * ts.length + 1)).length ≤ 100000) {g0 : Nat} (hg0 : w.heap[g0]? = some (.cells #[.int .i64 z] 3 (0, 0))) (hfree : ∀ j, (K j).ownBlock ≠ some g0) :
    ∃ g c w', (Builtin.append_ #[33, 33] 33 #[K (2 * ts.length + 1), .slice (some ⟨g0, 0, none⟩) 1 1]).run Try.prog w = .ok (.slice (some ⟨g, 0, none⟩) ((L (2 * ts.length + 1)).length + 1) c) w' ∧ w'.cell? ⟨gO, ts.length * 3 + 2, none⟩ = some (K (2 * ts.length + 1)) ∧ w'.frozen? ⟨gO, ts.length * 3 + 2, none⟩ = false ∧
      StM (w'.setCell ⟨gO, ts.length * 3 + 2, none⟩ (.slice (some ⟨g, 0, none⟩) ((L (2 * ts.length + 1)).length + 1) c)) base n F gO cap (updF K (2 * ts.length + 1) (.slice (some ⟨g, 0, none⟩) ((L (2 * ts.length + 1)).length + 1) c)) (updF L (2 * ts.length + 1) (L (2 * ts.length + 1) ++ [z])) (ts ++ [x]) ∧
      Keeps (fun i => base ≤ i) w (w'.setCell ⟨gO, ts.length * 3 + 2, none⟩ (.slice (some ⟨g, 0, none⟩) ((L (2 * ts.length + 1)).length + 1) c)) := by
  obtain ⟨g, c, w1, hr, hrs, hkp⟩ := h.rs.app (2 * ts.length + 1) z hb hlen hg0 hfree
  obtain ⟨cur, hc⟩ := h.opb
  have hF : ∀ j b, (K j).ownBlock = some b → b ≠ F := fun j b hb => h.rs.ne hb h.fr (by decide)
  have hO : ∀ j b, (K j).ownBlock = some b → b ≠ gO := fun j b hb => h.rs.ne hb hc (by decide)
  have f1 := blk_kept h.fr hkp (fun e => hF _ _ e rfl)
  have o1 := row_kept h.op hkp (fun b e e2 => by simp [Value.ownBlock] at e; subst e; exact hO _ _ e2 rfl)
  obtain ⟨_, _, c2, hfz, _⟩ := h.at
  have hk2 : Keeps (· = gO) w1 (w1.setCell ⟨gO, ts.length * 3 + 2, none⟩ (.slice (some ⟨g, 0, none⟩) ((L (2 * ts.length + 1)).length + 1) c)) := keeps_one (Keeps.refl _ _) _
  have hc1 := blk_kept hc hkp (fun e => hO _ _ e rfl)
  refine ⟨g, c, w1, hr, hkp.cell c2 (fun e => hO _ _ e rfl), blk_free hc1 _, ⟨hrs.kept hk2 (fun j b hb e => hrs.ne hb hc1 (by decide) e), ?_, ?_, h.low⟩, (hkp.mono (fun i e _ => row_low (h.rs.row _) e)).trans hk2 (fun i e _ => by have := h.lowO; omega)⟩
  · rw [range_congr (K := K) (fun j => updF_ne (by omega))]
    exact blk_kept f1 hk2 h.neFO
  · have h1 := row_set o1 (ts.length * 3 + 2) (.slice (some ⟨g, 0, none⟩) ((L (2 * ts.length + 1)).length + 1) c)
    have e : (tkVals K 0 (ts ++ [x])).set (ts.length * 3 + 2) (.slice (some ⟨g, 0, none⟩) ((L (2 * ts.length + 1)).length + 1) c) = tkVals (updF K (2 * ts.length + 1) (.slice (some ⟨g, 0, none⟩) ((L (2 * ts.length + 1)).length + 1) c)) 0 (ts ++ [x]) := by
      rw [tk_last, tk_last, tk_congr 0 ts (K := K) (K' := updF K (2 * ts.length + 1) _) (fun i _ hi => updF_ne (by omega)), updF_eq]
      have hl := tk_len K 0 ts
      rw [List.set_append_right _ _ (by omega), hl]
      simp
    rw [e] at h1
    exact h1
/-- A box of the call's own is written. -/
theorem StM.box (h : StM w base n F gO cap K L ts) {B : Nat} {c : Array Value} (hb : w.heap[B]? = some (.cells c 92 (0, 0))) (hB : gO ≠ B) (i : Nat) (v : Value) : StM (w.setCell ⟨B, i, none⟩ v) base n F gO cap K L ts := by
  have hk : Keeps (· = B) w (w.setCell ⟨B, i, none⟩ v) := keeps_one (Keeps.refl _ _) _
  refine ⟨h.rs.kept hk (fun j b hb' e => h.rs.ne hb' hb (by decide) e), blk_kept h.fr hk (fun e => ?_), row_kept h.op hk (fun g e e2 => by simp [Value.ownBlock] at e; subst e; exact hB e2), h.low⟩
  have h1 := h.fr
  rw [e, hb] at h1
  injection h1 with h1
  injection h1 with _ h1
  revert h1
  decide
end
end Go.Proofs.Ytolhojagbiaamaa
