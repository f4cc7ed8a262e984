import Derived.Test.YtolhojagbiaamaaRcRel
import Derived.Test.YtolhojagbiaamaaRcPar
/-! The document's table of what is ahead of what. -/
namespace Go.Proofs.Ytolhojagbiaamaa
set_option linter.unusedVariables false
set_option maxRecDepth 20000
set_option linter.unusedSimpArgs false
open Go.RowKit Go.HeapKit

def boolsA (n : Nat) (f : Nat → Bool) : Array Value := ((List.range n).map (fun j => Value.bool (f j))).toArray
theorem bools_at (n : Nat) (f : Nat → Bool) {k : Nat} (hk : k < n) : (boolsA n f)[k]? = some (.bool (f k)) := by simp [boolsA, hk]
theorem bools_set (n : Nat) (f : Nat → Bool) (k : Nat) (v : Bool) : (boolsA n f).setIfInBounds k (.bool v) = boolsA n (updF f k v) := by
  unfold boolsA updF
  apply Array.ext
  · simp
  · intro i h1 h2
    by_cases h : k = i
    · simp [h]
    · simp [h, Ne.symm h]
theorem Try.infoBoolR : (Try.prog.info? 4).map (fun i => (i.zero, i.size, i.bytes)) = some (some (.bool false), 1, 1) := by kernel_rfl
theorem Try.infoBoolsR : (Try.prog.info? 57).map (fun i => (i.zero, i.size, i.bytes)) = some (some (.slice none 0 0), 1, 24) := by kernel_rfl
theorem make_bools (n : Nat) (w : World) (hn : n ≤ 4096) : (Instr.makeSlice 57 (.int .i64 n) (.int .i64 n)).run Try.prog w = .ok (.slice (some ⟨w.heap.size, 0, none⟩) n n) (w.alloc (.cells (boolsA n (fun _ => false)) 4)) := by
  obtain ⟨i0, hi, hz0, hz1, hz2⟩ := info_parts Try.infoBoolR
  obtain ⟨M, hM, _, hr⟩ := run_make_block (P := Try.prog) (w := w) 57 4 i0 _ 1 1 Try.underlying57 hi hz0 hz1 hz2 n (by omega) (by omega)
  have hc : (Value.bool false).cells = #[.bool false] := by kernel_rfl
  have he : M = boolsA n (fun _ => false) := by
    rw [hM, hc, Nat.mul_one]
    apply Array.ext
    · simp [madeCells, boolsA]
    · intro i h1 h2
      simp [madeCells, Nat.mod_one, boolsA]
  rw [hr, he]
def vsB (n i : Nat) (R : Nat → Nat) : Nat → Value := fun j => if j < i then .slice (some ⟨R j, 0, none⟩) n n else .slice none 0 0
def outB (n i : Nat) (R : Nat → Nat) : Array Value := ((List.range n).map (vsB n i R)).toArray
theorem outB_at {n i : Nat} {R : Nat → Nat} {j : Nat} (hj : j < n) : (outB n i R)[j]? = some (vsB n i R j) := by simp [outB, hj]
theorem outB_set (n i : Nat) (R : Nat → Nat) (g : Nat) : (outB n i R).setIfInBounds i (.slice (some ⟨g, 0, none⟩) n n) = outB n (i + 1) (updF R i g) := by
  unfold outB
  apply Array.ext
  · simp
  · intro j h1 h2
    have hj : j < n := by simpa using h2
    by_cases h : i = j
    · subst h; simp [vsB, updF_eq]
    · have hv : vsB n i R j = vsB n (i + 1) (updF R i g) j := by
        unfold vsB
        by_cases hji : j < i
        · rw [if_pos hji, if_pos (by omega), updF_ne (by omega)]
        · rw [if_neg hji, if_neg (by omega)]
      simp [h]
      exact hv
theorem make_rows (n : Nat) (w : World) (hn : n ≤ 4096) : (Instr.makeSlice 55 (.int .i64 n) (.int .i64 n)).run Try.prog w = .ok (.slice (some ⟨w.heap.size, 0, none⟩) n n) (w.alloc (.cells (outB n 0 (fun _ => 0)) 57)) := by
  obtain ⟨i0, hi, hz0, hz1, hz2⟩ := info_parts Try.infoBoolsR
  obtain ⟨M, hM, _, hr⟩ := run_make_block (P := Try.prog) (w := w) 55 57 i0 _ 1 24 Try.underlying55 hi hz0 hz1 hz2 n (by omega) (by omega)
  have hc : (Value.slice none 0 0).cells = #[.slice none 0 0] := by kernel_rfl
  have he : M = outB n 0 (fun _ => 0) := by
    rw [hM, hc, Nat.mul_one]
    apply Array.ext
    · simp [madeCells, outB]
    · intro i h1 h2
      simp [madeCells, Nat.mod_one, outB, vsB]
  rw [hr, he]
/-- The table, i rows of it. -/
structure BfM (w : World) (base n i G : Nat) (R : Nat → Nat) (M : Nat → Nat → Bool) : Prop where
  out : w.heap[G]? = some (.cells (outB n i R) 57 (0, 0))
  row : ∀ j, j < i → w.heap[R j]? = some (.cells (boolsA n (M j)) 4 (0, 0))
  inj : ∀ j k, j < i → k < i → j ≠ k → R j ≠ R k
  lowG : base ≤ G
  low : ∀ j, j < i → base ≤ R j
section
variable {w w' : World} {base n i G : Nat} {R : Nat → Nat} {M : Nat → Nat → Bool}
theorem BfM.more (h : BfM w base n i G R M) (hk : Keeps None w w') : BfM w' base n i G R M :=
  ⟨blk_kept h.out hk (fun f => f), fun j hj => blk_kept (h.row j hj) hk (fun f => f), h.inj, h.lowG, h.low⟩
theorem BfM.neG (h : BfM w base n i G R M) {j : Nat} (hj : j < i) : G ≠ R j := by
  intro e
  have h1 := h.out
  rw [e, h.row j hj] at h1
  injection h1 with h1
  injection h1 with _ h1
  revert h1
  decide
/-- One cell of the table is written. -/
theorem BfM.put (h : BfM w base n i G R M) {j : Nat} (hj : j < i) (m : Nat) (v : Bool) : BfM (w.setCell ⟨R j, m, none⟩ (.bool v)) base n i G R (updF M j (updF (M j) m v)) ∧ Keeps (· = R j) w (w.setCell ⟨R j, m, none⟩ (.bool v)) := by
  have hk : Keeps (· = R j) w (w.setCell ⟨R j, m, none⟩ (.bool v)) := keeps_one (Keeps.refl _ _) _
  refine ⟨⟨blk_kept h.out hk (h.neG hj), fun q hq => ?_, h.inj, h.lowG, h.low⟩, hk⟩
  by_cases e : q = j
  · subst e
    rw [updF_eq, ← bools_set]
    exact blk_set (h.row q hq) _
  · rw [updF_ne e]
    exact blk_kept (h.row q hq) hk (fun e2 => h.inj q j hq hj e e2)
/-- A row more. -/
theorem BfM.add (h : BfM w base n i G R M) (hi : i < n) (hb : base ≤ w.heap.size) : BfM ((w.alloc (.cells (boolsA n (fun _ => false)) 4)).setCell ⟨G, i, none⟩ (.slice (some ⟨w.heap.size, 0, none⟩) n n)) base n (i + 1) G (updF R i w.heap.size) (updF M i (fun _ => false)) ∧ Keeps (· = G) w ((w.alloc (.cells (boolsA n (fun _ => false)) 4)).setCell ⟨G, i, none⟩ (.slice (some ⟨w.heap.size, 0, none⟩) n n)) := by
  have kA := Keeps.alloc None w (.cells (boolsA n (fun _ => false)) 4)
  have hk : Keeps (· = G) (w.alloc (.cells (boolsA n (fun _ => false)) 4)) ((w.alloc (.cells (boolsA n (fun _ => false)) 4)).setCell ⟨G, i, none⟩ (.slice (some ⟨w.heap.size, 0, none⟩) n n)) := keeps_one (Keeps.refl _ _) _
  have hA := h.more kA
  have hG := blk_lt h.out
  refine ⟨⟨?_, fun j hj => ?_, fun j k hj hk' hjk => ?_, h.lowG, fun j hj => ?_⟩, (kA.mono (fun _ f _ => f.elim)).trans hk (fun _ e _ => e)⟩
  · rw [← outB_set]
    exact blk_set hA.out _
  · by_cases e : j = i
    · subst e
      rw [updF_eq, updF_eq]
      exact blk_kept (heap_alloc_new _ _) hk (by omega)
    · rw [updF_ne e, updF_ne e]
      exact blk_kept (hA.row j (by omega)) hk (fun e2 => h.neG (j := j) (by omega) e2.symm)
  · have hlt : ∀ q, q < i → R q < w.heap.size := fun q hq => blk_lt (h.row q hq)
    by_cases e : j = i
    · subst e
      rw [updF_eq, updF_ne (Ne.symm hjk)]
      have := hlt k (by omega)
      omega
    · rw [updF_ne e]
      by_cases e2 : k = i
      · subst e2
        rw [updF_eq]
        have := hlt j (by omega)
        omega
      · rw [updF_ne e2]
        exact h.inj j k (by omega) (by omega) hjk
  · by_cases e : j = i
    · subst e; rw [updF_eq]; exact hb
    · rw [updF_ne e]; exact h.low j (by omega)
end
/-- What is ahead of a deed has lower numbers. -/
theorem frm_lt {ds : List Dd} (hf : Fine ds) {k z : Nat} (hk : k < ds.length) (hz : z ∈ frmN ds k) : z < k := by
  obtain ⟨d, h1, _, hI⟩ := hf.at k (by omega)
  cases hs : stN ds k with
  | nil => rw [hs] at h1; simp at h1
  | cons t r =>
    have hg := hI.good
    rw [hs] at hg
    have : Ah ds z k := .one hz
    rw [next_ah hs hg] at this
    have hin : z ∈ Lof (stN ds k) := by
      rw [hs]
      rcases this with h | ⟨_, h⟩
      · exact List.mem_append.2 (.inl h)
      · exact List.mem_append.2 (.inr (List.mem_append.2 (.inl h)))
    exact (hI.all z).1 hin
theorem ah_lt {ds : List Dd} (hf : Fine ds) {m k : Nat} (hk : k < ds.length) (h : Ah ds m k) : m < k := by
  obtain ⟨d, h1, _, hI⟩ := hf.at (k + 1) (by omega)
  exact ((hI.ah k (by omega) m).1 h).1
end Go.Proofs.Ytolhojagbiaamaa
