import Derived.Test.YtbdpdojeaahpjaaGreatDoorPkAM
/-! Programs in memory of their own. -/
namespace Go.Proofs.YtbdpdojeaahpjaaGreatDoor
set_option linter.unusedVariables false
set_option maxRecDepth 20000
open Go.RowKit Go.HeapKit

def insVals (l : List Ins) : List Value := l.flatMap insCells
theorem insVals_length (l : List Ins) : (insVals l).length = l.length * 5 := by
  induction l with
  | nil => rfl
  | cons x l ih => simp only [insVals, List.flatMap_cons, List.length_append, List.length_cons] at ih ⊢; rw [ih]; simp [insCells]; omega
theorem insVals_at (l : List Ins) (k : Nat) (x : Ins) (h : l[k]? = some x) (j : Nat) (v : Value) (hj : (insCells x)[j]? = some v) : (insVals l)[k * 5 + j]? = some v := by
  have hj5 : j < 5 := (List.getElem?_eq_some_iff.1 hj).1
  induction l generalizing k with
  | nil => simp at h
  | cons z l ih =>
    have e : insVals (z :: l) = insCells z ++ insVals l := rfl
    have hz : (insCells z).length = 5 := rfl
    rw [e]
    cases k with
    | zero =>
      simp at h
      subst h
      rw [List.getElem?_append_left (by omega), Nat.zero_mul, Nat.zero_add]
      exact hj
    | succ k =>
      rw [List.getElem?_append_right (by omega), show (k + 1) * 5 + j - (insCells z).length = k * 5 + j by omega]
      exact ih k (by simpa using h)
theorem codes_seen {w : World} {v : Value} {l : List Ins} (h : w.ownsRow 0 37 5 v l.length (insVals l)) : ∃ ca cc, v = .slice ca l.length cc ∧ SeenI w ca l.length l := by
  rcases h.2 with ⟨rfl, h0⟩ | ⟨g, cap, cur, rfl, hb, hg, hn, hm, hc, ht⟩
  · exact ⟨none, 0, by rw [h0], ⟨rfl, fun h => by omega⟩⟩
  · refine ⟨_, cap, rfl, ⟨rfl, fun _ => ⟨g, 0, rfl, blk_lt hg, fun k i hi => ?_⟩⟩⟩
    have q : ∀ (j : Nat) (v : Value), (insCells i)[j]? = some v → w.cell? ⟨g, 0 + k * 5 + j, none⟩ = some v := fun j v hv => by
      have h1 := insVals_at l k i hi j v hv
      rw [← ht, List.getElem?_take] at h1
      split at h1
      · rw [blk_cell hg, Nat.zero_add]; simpa using h1
      · cases h1
    exact ⟨q 0 _ rfl, q 1 _ rfl, q 2 _ rfl, q 3 _ rfl, q 4 _ rfl⟩
theorem Tryz.infoIns : (Tryz.prog.info? 37).map (fun i => (i.zero, i.size, i.bytes)) = some (some (.agg #[.int .i64 0, .int .i64 0, .int .i64 0, .int .i64 0, .int .i64 0]), 5, 40) := by kernel_rfl
theorem load_prog (w : World) (g : Nat) (t : TypeId) (v : Value) (hb : w.heap[g]? = some (.cells #[v] t (0, 0))) : (loadVar 24 ⟨g, 0, none⟩).run Tryz.prog w = .ok (.agg #[v]) w :=
  run_loadVar_row _ g t 24 _ _ _ hb Tryz.underlying24 rfl (by kernel_rfl)
--IF plunderlaw5.odd
end Go.Proofs.YtbdpdojeaahpjaaGreatDoor
