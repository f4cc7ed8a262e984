import Derived.Test.YtoehkjfdaolcnaaDoorPkAI
/-! Programs in memory of their own. -/
namespace Go.Proofs.YtoehkjfdaolcnaaDoor
set_option linter.unusedVariables false
set_option maxRecDepth 20000
open Go.RowKit Go.HeapKit

def insVals (l : List Ins) : List Value := l.flatMap insCells
theorem insVals_length (l : List Ins) : (insVals l).length = l.length * 5 := by
  induction l with
  | nil => rfl
  | cons x l ih => simp only [insVals, List.flatMap_cons, List.length_append, List.length_cons] at ih ⊢; rw [ih]; simp [insCells]; omega
theorem insVals_append (a b : List Ins) : insVals (a ++ b) = insVals a ++ insVals b := by simp [insVals]
theorem insVals_at (l : List Ins) (k : Nat) (x : Ins) (h : l[k]? = some x) (j : Nat) (v : Value) (hj : (insCells x)[j]? = some v) : (insVals l)[k * 5 + j]? = some v := by
  have hj5 : j < 5 := (List.getElem?_eq_some_iff.1 hj).1
  induction l generalizing k with
  | nil => simp at h
  | cons z l ih =>
    have e : insVals (z :: l) = insCells z ++ insVals l := rfl
    have hz : (insCells z).length = 5 := rfl
    rw [e]
    cases k with
    | zero =>
      simp at h
      subst h
      rw [List.getElem?_append_left (by omega), Nat.zero_mul, Nat.zero_add]
      exact hj
    | succ k =>
      rw [List.getElem?_append_right (by omega), show (k + 1) * 5 + j - (insCells z).length = k * 5 + j by omega]
      exact ih k (by simpa using h)
theorem insVals_set (l : List Ins) (k : Nat) (x : Ins) (hk : k < l.length) :
    (((((insVals l).set (k * 5) (.int .i64 x.kind)).set (k * 5 + 1) (.int .i64 x.a)).set (k * 5 + 2) (.int .i64 x.b)).set (k * 5 + 3) (.int .i64 x.c)).set (k * 5 + 4) (.int .i64 x.k) = insVals (l.set k x) := by
  induction l generalizing k with
  | nil => simp at hk
  | cons y l ih =>
    have e : insVals (y :: l) = [Value.int .i64 y.kind, .int .i64 y.a, .int .i64 y.b, .int .i64 y.c, .int .i64 y.k] ++ insVals l := rfl
    cases k with
    | zero => rfl
    | succ k =>
      have h1 := ih k (by simpa using hk)
      have e2 : insVals ((y :: l).set (k + 1) x) = [Value.int .i64 y.kind, .int .i64 y.a, .int .i64 y.b, .int .i64 y.c, .int .i64 y.k] ++ insVals (l.set k x) := rfl
      rw [e, e2, ← h1, show (k + 1) * 5 = k * 5 + 5 by omega]
      rfl
/-- A list of instructions in a block of its own. -/
def IsC (w : World) (g : Nat) (l : List Ins) : Prop := w.heap[g]? = some (.cells (insVals l).toArray 39 (0, 0))
theorem IsC.kept {w w' : World} {S : Nat → Prop} {g : Nat} {l : List Ins} (h : IsC w g l) (hk : Keeps S w w') (hS : ¬ S g) : IsC w' g l := blk_kept h hk hS
theorem IsC.at {w : World} {g : Nat} {l : List Ins} (h : IsC w g l) {k : Nat} {x : Ins} (hx : l[k]? = some x) : InsAt w g (k * 5) x := by
  have q : ∀ (j : Nat) (v : Value), (insCells x)[j]? = some v → w.cell? ⟨g, k * 5 + j, none⟩ = some v := fun j v hv => by
    rw [blk_cell h]
    simpa using insVals_at l k x hx j v hv
  exact ⟨q 0 _ rfl, q 1 _ rfl, q 2 _ rfl, q 3 _ rfl, q 4 _ rfl⟩
abbrev set5 (w : World) (g o : Nat) (x : Ins) : World := ((((w.setCell ⟨g, o, none⟩ (.int .i64 x.kind)).setCell ⟨g, o + 1, none⟩ (.int .i64 x.a)).setCell ⟨g, o + 2, none⟩ (.int .i64 x.b)).setCell ⟨g, o + 3, none⟩ (.int .i64 x.c)).setCell ⟨g, o + 4, none⟩ (.int .i64 x.k)
theorem set5_keeps (w : World) (g o : Nat) (x : Ins) : Keeps (· = g) w (set5 w g o x) :=
  (((((Keeps.refl (· = g) w).andSet (x := ⟨g, o, none⟩) (.inl rfl) (.int .i64 x.kind)).andSet (x := ⟨g, o + 1, none⟩) (.inl rfl) (.int .i64 x.a)).andSet (x := ⟨g, o + 2, none⟩) (.inl rfl) (.int .i64 x.b)).andSet (x := ⟨g, o + 3, none⟩) (.inl rfl) (.int .i64 x.c)).andSet (x := ⟨g, o + 4, none⟩) (.inl rfl) (.int .i64 x.k)
theorem IsC.set {w : World} {g : Nat} {l : List Ins} (h : IsC w g l) (k : Nat) (x : Ins) (hk : k < l.length) : IsC (set5 w g (k * 5) x) g (l.set k x) := by
  unfold IsC set5 at *
  rw [blk_set (blk_set (blk_set (blk_set (blk_set h _) _) _) _) _, ← insVals_set l k x hk]
  simp
theorem IsC.seen {w : World} {g : Nat} {l : List Ins} (h : IsC w g l) {m : List Ins} {n : Nat} (hn : n = m.length) (hm : ∀ (k : Nat) i, m[k]? = some i → l[k]? = some i) : SeenI w (some ⟨g, 0, none⟩) n m :=
  ⟨hn, fun _ => ⟨g, 0, rfl, blk_lt h, fun k i hi => by rw [Nat.zero_add]; exact h.at (hm k i hi)⟩⟩
theorem codes_seen {w : World} {v : Value} {l : List Ins} (h : w.ownsRow 0 39 5 v l.length (insVals l)) : ∃ ca cc, v = .slice ca l.length cc ∧ SeenI w ca l.length l := by
  rcases h.2 with ⟨rfl, h0⟩ | ⟨g, cap, cur, rfl, hb, hg, hn, hm, hc, ht⟩
  · exact ⟨none, 0, by rw [h0], ⟨rfl, fun h => by omega⟩⟩
  · refine ⟨_, cap, rfl, ⟨rfl, fun _ => ⟨g, 0, rfl, blk_lt hg, fun k i hi => ?_⟩⟩⟩
    have q : ∀ (j : Nat) (v : Value), (insCells i)[j]? = some v → w.cell? ⟨g, 0 + k * 5 + j, none⟩ = some v := fun j v hv => by
      have h1 := insVals_at l k i hi j v hv
      rw [← ht, List.getElem?_take] at h1
      split at h1
      · rw [blk_cell hg, Nat.zero_add]; simpa using h1
      · cases h1
    exact ⟨q 0 _ rfl, q 1 _ rfl, q 2 _ rfl, q 3 _ rfl, q 4 _ rfl⟩
def zeroI : Ins := ⟨0, 0, 0, 0, 0⟩
def oddI (j : Int) : Ins := ⟨70 + j, -1, -2, -3, -4⟩
theorem Tryd.infoIns : (Tryd.prog.info? 39).map (fun i => (i.zero, i.size, i.bytes)) = some (some (.agg #[.int .i64 0, .int .i64 0, .int .i64 0, .int .i64 0, .int .i64 0]), 5, 40) := by kernel_rfl
theorem insVals_zero (m : Nat) : insVals (List.replicate m zeroI) = List.replicate (m * 5) (.int .i64 0) := by
  induction m with
  | zero => rfl
  | succ m ih =>
    rw [List.replicate_succ, show (m + 1) * 5 = m * 5 + 1 + 1 + 1 + 1 + 1 by omega, List.replicate_succ, List.replicate_succ, List.replicate_succ, List.replicate_succ, List.replicate_succ, ← ih]
    rfl
theorem codes_made (w : World) (n : Nat) (hn : n * 40 ≤ 140737488355328) : ∃ w', (Instr.makeSlice 35 (.int .i64 n) (.int .i64 n)).run Tryd.prog w = .ok (.slice (some ⟨w.heap.size, 0, none⟩) n n) w' ∧ IsC w' w.heap.size (List.replicate n zeroI) ∧ Keeps None w w' := by
  obtain ⟨i0, hi, hz0, hz1, hz2⟩ := info_parts Tryd.infoIns
  obtain ⟨M, hM, _, hr⟩ := run_make_block (P := Tryd.prog) (w := w) 35 39 i0 _ 5 40 Tryd.underlying35 hi hz0 hz1 hz2 n (by omega) (by omega)
  refine ⟨_, hr, ?_, Keeps.alloc None w _⟩
  unfold IsC
  rw [heap_alloc_new, hM, insVals_zero]
  congr 2
  apply Array.ext
  · simp [madeCells]
  · intro i h1 h2
    have h5 : (Value.agg #[Value.int .i64 0, .int .i64 0, .int .i64 0, .int .i64 0, .int .i64 0]).cells = #[.int .i64 0, .int .i64 0, .int .i64 0, .int .i64 0, .int .i64 0] := rfl
    simp only [h5]
    simp only [madeCells, Array.getElem_map, Array.getElem_range, List.getElem_toArray, List.getElem_replicate]
    have hlt : i % 5 < 5 := Nat.mod_lt _ (by omega)
    show #[Value.int .i64 0, .int .i64 0, .int .i64 0, .int .i64 0, .int .i64 0][i % 5]! = _
    generalize i % 5 = q at hlt
    match q, hlt with
    | 0, _ => rfl
    | 1, _ => rfl
    | 2, _ => rfl
    | 3, _ => rfl
    | 4, _ => rfl
theorem ins_append (v : Value) (l : List Ins) (x : Ins) (n g ty : Nat) (w : World) (hn : n = l.length) (h : w.ownsRow 0 39 5 v n (insVals l)) (hlen : (n + 1) * 40 ≤ 140737488355328)
    (hg : w.heap[g]? = some (.cells #[.int .i64 x.kind, .int .i64 x.a, .int .i64 x.b, .int .i64 x.c, .int .i64 x.k] 39 (0, 0))) :
    ∃ b cap w', (Builtin.append_ #[35, 35] ty #[v, .slice (some ⟨g, 0, none⟩) 1 1]).run Tryd.prog w = .ok (.slice (some ⟨b, 0, none⟩) (n + 1) cap) w' ∧
      w'.ownsRow 0 39 5 (.slice (some ⟨b, 0, none⟩) (n + 1) cap) (n + 1) (insVals (l ++ [x])) ∧ Keeps (fun k => v.ownBlock = some k) w w' ∧ (v.ownBlock = some b ∨ w.heap.size ≤ b) := by
  obtain ⟨i0, hi, hz0, hz1, hz2⟩ := info_parts Tryd.infoIns
  obtain ⟨v', w', hr, ho, hgr, hm, -⟩ := run_append_moved (P := Tryd.prog) w 0 35 ty 39 i0 _ 5 40 Tryd.underlying35 hi hz0 hz1 hz2 rfl (by decide) v n (insVals l) h
    ⟨g, 0, none⟩ 1 1 (insCells x) rfl (by
      intro j u hu
      rw [show (⟨g, 0, none⟩ : Addr).add j = ⟨g, j, none⟩ by unfold Addr.add; split <;> simp_all, blk_cell hg]
      simpa [insCells] using hu) (by
      intro u hu
      simp [insCells] at hu
      rcases hu with rfl | rfl | rfl | rfl | rfl <;> rfl) (by unfold maxLen; omega) (by omega) (Nat.zero_le _)
  have e : insVals (l ++ [x]) = insVals l ++ insCells x := by simp [insVals]
  rw [e]
  rcases ho.2 with ⟨_, h0⟩ | ⟨b, cap, cur, rfl, _⟩
  · omega
  · refine ⟨b, cap, w', hr, ho, (Keeps.refl _ w).andGrown hgr (fun k e => .inl e), ?_⟩
    rcases hm with hm | ⟨g', e, hg⟩
    · exact .inl (hm.symm.trans rfl)
    · simp [Value.ownBlock] at e; exact .inr (by omega)
theorem load_fnv (w : World) (g : Nat) (t : TypeId) (p r s : Int) (v : Value) (hb : w.heap[g]? = some (.cells #[.int .i64 p, .int .i64 r, .int .i64 s, v] t (0, 0))) : (loadVar 37 ⟨g, 0, none⟩).run Tryd.prog w = .ok (.agg #[.int .i64 p, .int .i64 r, .int .i64 s, v]) w :=
  run_loadVar_row _ g t 37 _ _ _ hb Tryd.underlying37 rfl (by kernel_rfl)
theorem load_ins (w : World) (g : Nat) (t : TypeId) (x : Ins) (hb : w.heap[g]? = some (.cells #[.int .i64 x.kind, .int .i64 x.a, .int .i64 x.b, .int .i64 x.c, .int .i64 x.k] t (0, 0))) : (loadVar 39 ⟨g, 0, none⟩).run Tryd.prog w = .ok (insV x) w :=
  run_loadVar_row _ g t 39 _ _ _ hb Tryd.underlying39 rfl (by kernel_rfl)
theorem load_prog (w : World) (g : Nat) (t : TypeId) (v : Value) (hb : w.heap[g]? = some (.cells #[v] t (0, 0))) : (loadVar 24 ⟨g, 0, none⟩).run Tryd.prog w = .ok (.agg #[v]) w :=
  run_loadVar_row _ g t 24 _ _ _ hb Tryd.underlying24 rfl (by kernel_rfl)
--IF plunderlaw5.odd
end Go.Proofs.YtoehkjfdaolcnaaDoor
