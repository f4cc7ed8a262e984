import Derived.Test.YtcjmceedkfjbeaaDoorPkAJ
import Derived.Test.YtcjmceedkfjbeaaDoorPkAL
/-! readProgram, where it comes to a program. -/
namespace Go.Proofs.YtcjmceedkfjbeaaDoor
set_option linter.unusedVariables false
set_option maxRecDepth 20000
open Go.RowKit Go.HeapKit

abbrev V4 := Value × Value × Value × Value
def v4 (e : V4) : List Value := [e.1, e.2.1, e.2.2.1, e.2.2.2]
def z4 : V4 := (.int .i64 0, .int .i64 0, .int .i64 0, .slice none 0 0)
def e4 (f : Fn) (cb : Nat) : V4 := (.int .i64 f.params, .int .i64 f.regs, .int .i64 f.slots, .slice (some ⟨cb, 0, none⟩) f.code.length f.code.length)
theorem v4_at (E : List V4) (k : Nat) (e : V4) (h : E[k]? = some e) : (E.flatMap v4)[k * 4]? = some e.1 ∧ (E.flatMap v4)[k * 4 + 1]? = some e.2.1 ∧ (E.flatMap v4)[k * 4 + 2]? = some e.2.2.1 ∧ (E.flatMap v4)[k * 4 + 3]? = some e.2.2.2 := by
  induction E generalizing k with
  | nil => simp at h
  | cons y E ih =>
    rw [List.flatMap_cons]
    cases k with
    | zero => simp at h; subst h; simp [v4]
    | succ k =>
      have := ih k (by simpa using h)
      rw [show (k + 1) * 4 = k * 4 + 4 by omega]
      simpa [v4] using this
theorem v4_set (E : List V4) (k : Nat) (e : V4) (hk : k < E.length) : ((((E.flatMap v4).set (k * 4) e.1).set (k * 4 + 1) e.2.1).set (k * 4 + 2) e.2.2.1).set (k * 4 + 3) e.2.2.2 = (E.set k e).flatMap v4 := by
  induction E generalizing k with
  | nil => simp at hk
  | cons y E ih =>
    cases k with
    | zero => rfl
    | succ k =>
      have h1 := ih k (by simpa using hk)
      rw [List.set_cons_succ, List.flatMap_cons, List.flatMap_cons, ← h1, show (k + 1) * 4 = k * 4 + 4 by omega]
      rfl
structure IsFs (w : World) (gb : Nat) (E : List V4) : Prop where
  blk : w.heap[gb]? = some (.cells (E.flatMap v4).toArray 40 (0, 0))
theorem IsFs.kept {w w' : World} {gb : Nat} {E : List V4} {S : Nat → Prop} (h : IsFs w gb E) (hk : Keeps S w w') (hS : ¬ S gb) : IsFs w' gb E := ⟨blk_kept h.blk hk hS⟩
theorem IsFs.set {w : World} {gb : Nat} {E : List V4} (h : IsFs w gb E) (k : Nat) (hk : k < E.length) (e : V4) : IsFs ((((w.setCell ⟨gb, k * 4, none⟩ e.1).setCell ⟨gb, k * 4 + 1, none⟩ e.2.1).setCell ⟨gb, k * 4 + 2, none⟩ e.2.2.1).setCell ⟨gb, k * 4 + 3, none⟩ e.2.2.2) gb (E.set k e) ∧
    Keeps (· = gb) w ((((w.setCell ⟨gb, k * 4, none⟩ e.1).setCell ⟨gb, k * 4 + 1, none⟩ e.2.1).setCell ⟨gb, k * 4 + 2, none⟩ e.2.2.1).setCell ⟨gb, k * 4 + 3, none⟩ e.2.2.2) := by
  refine ⟨⟨?_⟩, ((((Keeps.refl (· = gb) w).andSet (x := ⟨gb, k * 4, none⟩) (.inl rfl) _).andSet (x := ⟨gb, k * 4 + 1, none⟩) (.inl rfl) _).andSet (x := ⟨gb, k * 4 + 2, none⟩) (.inl rfl) _).andSet (x := ⟨gb, k * 4 + 3, none⟩) (.inl rfl) _⟩
  rw [blk_set (blk_set (blk_set (blk_set h.blk _) _) _) _, ← v4_set E k e hk]
  simp
theorem Tryd.infoFn : (Tryd.prog.info? 40).map (fun i => (i.zero, i.size, i.bytes)) = some (some (.agg #[.int .i64 0, .int .i64 0, .int .i64 0, .slice none 0 0]), 4, 48) := by kernel_rfl
theorem v4_zero_at (n q : Nat) (hq : q < n * 4) : ((List.replicate n z4).flatMap v4)[q]? = some (#[Value.int .i64 0, .int .i64 0, .int .i64 0, .slice none 0 0][q % 4]!) := by
  have h := v4_at (List.replicate n z4) (q / 4) z4 (by rw [List.getElem?_replicate]; simp; omega)
  have hlt : q % 4 < 4 := Nat.mod_lt _ (by omega)
  have e : q = q / 4 * 4 + q % 4 := by omega
  generalize q / 4 = d at h e
  generalize q % 4 = t at hlt e
  subst e
  match t, hlt with
  | 0, _ => exact h.1
  | 1, _ => exact h.2.1
  | 2, _ => exact h.2.2.1
  | 3, _ => exact h.2.2.2
theorem v4_len (E : List V4) : (E.flatMap v4).length = E.length * 4 := by
  induction E with
  | nil => rfl
  | cons y E ih => rw [List.flatMap_cons, List.length_append, ih]; simp [v4]; omega
theorem made_four (n : Nat) : madeCells (Value.agg #[.int .i64 0, .int .i64 0, .int .i64 0, .slice none 0 0]).cells (n * 4) = ((List.replicate n z4).flatMap v4).toArray := by
  apply Array.ext
  · simp [madeCells, v4]
  · intro i h1 h2
    have hi : i < n * 4 := by simpa [madeCells] using h1
    have h10 : (Value.agg #[.int .i64 0, .int .i64 0, .int .i64 0, .slice none 0 0]).cells = #[.int .i64 0, .int .i64 0, .int .i64 0, .slice none 0 0] := rfl
    have h3 := v4_zero_at n i hi
    rw [List.getElem?_eq_getElem (by simpa using h2)] at h3
    simp only [h10]
    simp only [madeCells, Array.getElem_map, Array.getElem_range, List.getElem_toArray]
    rw [Option.some.inj h3]
    rfl
theorem fs_made (w : World) (n : Nat) (hn : n ≤ 32) : ∃ w', (Instr.makeSlice 23 (.int .i64 n) (.int .i64 n)).run Tryd.prog w = .ok (.slice (some ⟨w.heap.size, 0, none⟩) n n) w' ∧ IsFs w' w.heap.size (List.replicate n z4) ∧ Keeps None w w' ∧ w'.heap.size = w.heap.size + 1 := by
  obtain ⟨i0, hi, hz0, hz1, hz2⟩ := info_parts Tryd.infoFn
  obtain ⟨M, hM, _, hr⟩ := run_make_block (P := Tryd.prog) (w := w) 23 40 i0 _ 4 48 Tryd.underlying23 hi hz0 hz1 hz2 n (by omega) (by omega)
  refine ⟨_, hr, ⟨?_⟩, Keeps.alloc None w _, by simp⟩
  rw [heap_alloc_new, hM, made_four]
/-- The first k entries are these functions, each with its code; all of it lies in new memory. -/
def Laid (lo : Nat) (w : World) (E : List V4) (fs : List Fn) (k : Nat) : Prop := ∀ j f, j < k → fs[j]? = some f → ∃ cb, E[j]? = some (e4 f cb) ∧ IsCode w cb f.code ∧ lo ≤ cb
theorem Laid.kept {lo : Nat} {w w' : World} {E : List V4} {fs : List Fn} {k : Nat} {S : Nat → Prop} (h : Laid lo w E fs k) (hk : Keeps S w w') (hS : ∀ g, S g → g < lo ∨ ∃ c t z, w.heap[g]? = some (.cells c t z) ∧ t ≠ 42) : Laid lo w' E fs k := by
  intro j f hj hf
  obtain ⟨cb, h1, h2, h3⟩ := h j f hj hf
  refine ⟨cb, h1, h2.kept hk (fun s => ?_), h3⟩
  rcases hS cb s with h4 | ⟨c, t, z, hb, ht⟩
  · omega
  · exact blk_ne hb h2.blk ht rfl
theorem laid_seen {lo : Nat} {w : World} {gb : Nat} {E : List V4} {fs : List Fn} {n : Nat} (hE : IsFs w gb E) (h : Laid lo w E fs n) (hn : n = fs.length) : SeenF w (some ⟨gb, 0, none⟩) n fs := by
  refine ⟨hn, fun _ => ⟨gb, 0, rfl, blk_lt hE.blk, fun k f hf => ?_⟩⟩
  obtain ⟨cb, h1, h2, _⟩ := h k f (by have := (List.getElem?_eq_some_iff.1 hf).1; omega) hf
  obtain ⟨c0, c1, c2, c3⟩ := v4_at E k _ h1
  rw [Nat.zero_add]
  exact ⟨some ⟨cb, 0, none⟩, f.code.length, by rw [blk_cell hE.blk]; simpa [e4] using c0, by rw [blk_cell hE.blk]; simpa [e4] using c1, by rw [blk_cell hE.blk]; simpa [e4] using c2, by rw [blk_cell hE.blk]; simpa [e4] using c3, h2.seen⟩
/-- How the functions are read, one by one. -/
theorem fns_step {n k : Nat} {zk r : List Int} {fs : List Fn} (hk : k < n) (h : readFns (n - k) zk = some (fs.drop k, r)) (hl : fs.length = n) : ∃ f r1, fs[k]? = some f ∧ readFn zk = some (f, r1) ∧ readFns (n - (k + 1)) r1 = some (fs.drop (k + 1), r) := by
  obtain ⟨m, hm⟩ : ∃ m, n - k = m + 1 := ⟨n - k - 1, by omega⟩
  have hm2 : n - (k + 1) = m := by omega
  rw [hm] at h
  simp only [readFns, Option.bind_eq_some_iff, Option.map_eq_some_iff] at h
  obtain ⟨⟨f, r1⟩, h1, ⟨c2, r2⟩, h2, e⟩ := h
  simp at e
  obtain ⟨e1, rfl⟩ := e
  have hlt : k < fs.length := by omega
  rw [List.drop_eq_getElem_cons hlt] at e1
  injection e1 with e1 e2
  refine ⟨f, r1, ?_, h1, ?_⟩
  · rw [List.getElem?_eq_getElem hlt, ← e1]
  · rw [hm2, h2, e2]
end Go.Proofs.YtcjmceedkfjbeaaDoor
