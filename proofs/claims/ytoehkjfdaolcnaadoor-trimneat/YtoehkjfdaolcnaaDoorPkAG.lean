import Derived.Test.YtoehkjfdaolcnaaDoorPkAB
/-! Rows of the states of the slots. -/
namespace Go.Proofs.YtoehkjfdaolcnaaDoor
set_option linter.unusedVariables false
set_option maxRecDepth 20000
open Go.RowKit Go.HeapKit

/-- The sum, state by state. -/
def partV (fr : List Pt) (k : Nat) : Nat → Int
  | 0 => 0
  | i + 1 => if (fr.getD (k * 5 + i) (0, 0)).2 ≠ 0 then partV fr k i + i else partV fr k i
theorem part_sum (fr : List Pt) (k : Nat) : partV fr k 5 = sumAt fr k := by
  unfold sumAt
  rw [show List.range 5 = [0, 1, 2, 3, 4] from rfl]
  simp only [List.foldl_cons, List.foldl_nil, partV]
theorem part_le (fr : List Pt) (k i : Nat) (hi : i ≤ 5) : 0 ≤ partV fr k i ∧ partV fr k i ≤ i * 4 := by
  induction i with
  | zero => simp [partV]
  | succ i ih =>
    have := ih (by omega)
    unfold partV
    split <;> omega

theorem range_at {α : Type} (n k : Nat) (O : Nat → α) (hk : k < n) : ((List.range n).map O).toArray[k]? = some (O k) := by
  simp [hk]
theorem range_set {α : Type} (n k : Nat) (O : Nat → α) (v : α) : (((List.range n).map O).toArray.setIfInBounds k v) = ((List.range n).map (fun j => if j = k then v else O j)).toArray := by
  apply Array.ext
  · simp
  · intro i h1 h2
    by_cases h : k = i
    · simp [h]
    · simp [h, Ne.symm h]
theorem made_one (z : Value) (hz : z.cells = #[z]) (n : Nat) : madeCells z.cells n = ((List.range n).map (fun _ => z)).toArray := by
  rw [hz]
  apply Array.ext
  · simp [madeCells]
  · intro i h1 h2
    simp [madeCells, Nat.mod_one]

/-- n rows of m numbers, the outer one in block g, row k in block g + 1 + k; the first q of them are laid. -/
structure IsM (w : World) (g n m q : Nat) (M : Nat → Nat → Int) : Prop where
  outer : w.heap[g]? = some (.cells ((List.range n).map (fun j => if j < q then Value.slice (some ⟨g + 1 + j, 0, none⟩) m m else .slice none 0 0)).toArray 56 (0, 0))
  rows : ∀ k, k < q → w.heap[g + 1 + k]? = some (.cells ((List.range m).map (fun s => Value.int .i64 (M k s))).toArray 3 (0, 0))
theorem IsM.kept {w w' : World} {g n m q : Nat} {M : Nat → Nat → Int} {S : Nat → Prop} (h : IsM w g n m q M) (hk : Keeps S w w') (hS : ∀ k, k ≤ q → ¬ S (g + k)) : IsM w' g n m q M :=
  ⟨blk_kept h.outer hk (hS 0 (Nat.zero_le _)), fun k hq => blk_kept (h.rows k hq) hk (by rw [Nat.add_assoc, Nat.add_comm 1 k]; exact hS (k + 1) hq)⟩
theorem IsM.congr {w : World} {g n m q : Nat} {M M' : Nat → Nat → Int} (h : IsM w g n m q M) (he : ∀ k s, k < q → s < m → M k s = M' k s) : IsM w g n m q M' := by
  refine ⟨h.outer, fun k hq => ?_⟩
  rw [h.rows k hq]
  congr 3
  apply List.map_congr_left
  intro s hs
  rw [he k s hq (List.mem_range.1 hs)]
theorem IsM.cell {w : World} {g n m q : Nat} {M : Nat → Nat → Int} (h : IsM w g n m q M) {k s : Nat} (hk : k < q) (hs : s < m) : w.cell? ⟨g + 1 + k, s, none⟩ = some (.int .i64 (M k s)) := by
  rw [blk_cell (h.rows k hk), range_at m s _ hs]
theorem IsM.free {w : World} {g n m q : Nat} {M : Nat → Nat → Int} (h : IsM w g n m q M) {k : Nat} (s : Nat) (hk : k < q) : w.frozen? ⟨g + 1 + k, s, none⟩ = false := blk_free (h.rows k hk) s
theorem IsM.row {w : World} {g n m q : Nat} {M : Nat → Nat → Int} (h : IsM w g n m q M) {k : Nat} (hk : k < n) (hq : k < q) : w.cell? ⟨g, k, none⟩ = some (.slice (some ⟨g + 1 + k, 0, none⟩) m m) := by
  rw [blk_cell h.outer, range_at n k _ hk, if_pos hq]
theorem IsM.set {w : World} {g n m q : Nat} {M : Nat → Nat → Int} (h : IsM w g n m q M) (k s : Nat) (v : Int) (hk : k < q) : IsM (w.setCell ⟨g + 1 + k, s, none⟩ (.int .i64 v)) g n m q (fun k' s' => if k' = k ∧ s' = s then v else M k' s') := by
  have hkp : Keeps (· = g + 1 + k) w (w.setCell ⟨g + 1 + k, s, none⟩ (.int .i64 v)) := Keeps.setCell (S := (· = g + 1 + k)) w rfl _
  refine ⟨blk_kept h.outer hkp (by omega), fun j hj => ?_⟩
  by_cases e : j = k
  · subst e
    rw [blk_set (h.rows j hj) _, range_set]
    congr 3
    apply List.map_congr_left
    intro s' _
    by_cases e2 : s' = s <;> simp [e2]
  · rw [blk_kept (h.rows j hj) hkp (by omega)]
    congr 3
    apply List.map_congr_left
    intro s' _
    simp [e]
/-- A row is made and laid. -/
theorem IsM.lay {w : World} {g n m q : Nat} (h : IsM w g n m q (fun _ _ => 0)) (hq : q < n) (hs : w.heap.size = g + 1 + q) :
    IsM ((w.alloc (.cells ((List.range m).map (fun _ => Value.int .i64 0)).toArray 3)).setCell ⟨g, q, none⟩ (.slice (some ⟨w.heap.size, 0, none⟩) m m)) g n m (q + 1) (fun _ _ => 0) := by
  have hal := Keeps.alloc None w (.cells ((List.range m).map (fun _ => Value.int .i64 0)).toArray 3)
  have hst := Keeps.setCell (S := (· = g)) (w.alloc (.cells ((List.range m).map (fun _ => Value.int .i64 0)).toArray 3)) (a := ⟨g, q, none⟩) rfl (.slice (some ⟨w.heap.size, 0, none⟩) m m)
  refine ⟨?_, fun k hk => ?_⟩
  · rw [blk_set (blk_kept h.outer hal (fun f => f)) _, range_set]
    congr 3
    apply List.map_congr_left
    intro j _
    by_cases e : j = q
    · subst e; simp [hs]
    · by_cases e2 : j < q
      · simp [e, e2, show j < q + 1 by omega]
      · simp [e, e2, show ¬ j < q + 1 by omega]
  · by_cases e : k = q
    · subst e
      rw [← hs]
      have := heap_alloc_new w (.cells ((List.range m).map (fun _ => Value.int .i64 0)).toArray 3)
      exact blk_kept this hst (by omega)
    · exact blk_kept (blk_kept (h.rows k (by omega)) hal (fun f => f)) hst (by omega)
theorem Tryd.infoInts : (Tryd.prog.info? 56).map (fun i => (i.zero, i.size, i.bytes)) = some (some (.slice none 0 0), 1, 24) := by kernel_rfl
theorem rows_made (w : World) (n : Nat) (hn : n ≤ 512) (m : Nat) : ∃ w', (Instr.makeSlice 48 (.int .i64 n) (.int .i64 n)).run Tryd.prog w = .ok (.slice (some ⟨w.heap.size, 0, none⟩) n n) w' ∧ IsM w' w.heap.size n m 0 (fun _ _ => 0) ∧ Keeps None w w' ∧ w'.heap.size = w.heap.size + 1 := by
  obtain ⟨i0, hi, hz0, hz1, hz2⟩ := info_parts Tryd.infoInts
  obtain ⟨M, hM, _, hr⟩ := run_make_block (P := Tryd.prog) (w := w) 48 56 i0 _ 1 24 Tryd.underlying48 hi hz0 hz1 hz2 n (by omega) (by omega)
  refine ⟨_, hr, ⟨?_, fun k hk => by omega⟩, Keeps.alloc None w _, by simp⟩
  rw [heap_alloc_new, hM, Nat.mul_one, made_one _ rfl]
  simp
theorem row_made (w : World) (m : Nat) (hm : m ≤ 8) : (Instr.makeSlice 56 (.int .i64 m) (.int .i64 m)).run Tryd.prog w = .ok (.slice (some ⟨w.heap.size, 0, none⟩) m m) (w.alloc (.cells ((List.range m).map (fun _ => Value.int .i64 0)).toArray 3)) := by
  obtain ⟨i0, hi, hz0, hz1, hz2⟩ := info_parts Tryd.infoInt
  obtain ⟨M, hM, _, hr⟩ := run_make_block (P := Tryd.prog) (w := w) 56 3 i0 _ 1 8 Tryd.underlying56 hi hz0 hz1 hz2 m (by omega) (by omega)
  rw [hr, hM, Nat.mul_one, made_one _ rfl]
end Go.Proofs.YtoehkjfdaolcnaaDoor
