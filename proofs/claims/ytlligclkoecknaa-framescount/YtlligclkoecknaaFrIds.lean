import Derived.Test.YtlligclkoecknaaFrLaw
import Derived.Test.YtlligclkoecknaaFrInv2
/-! FramesIds. -/
namespace Go.Proofs.Ytlligclkoecknaa
open Go.RowKit Go.HeapKit Go.IntWalk

/-- A new arena with a table in a block of its own. -/
structure LawS (w wr : World) (p g n : Nat) (F : Nat → Prop) (B : Ar) : Prop where
  ar : ArF wr p F B
  kp : Keeps None w wr
  lo : ∀ k, F k → w.heap.size ≤ k
  tab : wr.heap[g]? = some (.cells #[.int .i64 0, .int .i64 n] 30 (0, 0))
  off : ¬ F g
section
variable {w wr wx : World} {p g n : Nat} {F : Nat → Prop} {B C : Ar}
theorem LawS.lt (h : LawS w wr p g n F B) : g < wr.heap.size := (Array.getElem?_eq_some_iff.1 h.tab).1
theorem LawS.kept (h : LawS w wr p g n F B) (hk : Keeps None wr wx) : LawS w wx p g n F B :=
  ⟨h.ar.kept hk (fun _ _ f => f), h.kp.trans hk (fun _ f _ => f), h.lo, (hk.block _ h.lt (fun f => f)).trans h.tab, h.off⟩
theorem LawS.acc (h : LawS w wr p g n F B) (h2 : AA wr wx p F C) : ∃ F', LawS w wx p g n F' C := by
  obtain ⟨F2, g2, hk, hf⟩ := h2
  have hs := h.kp.size
  have hlt := h.lt
  refine ⟨F2, g2, h.kp.trans hk (fun i f hi => by have := h.lo i f; omega), fun k f => ?_, (hk.block _ hlt h.off).trans h.tab, fun f => ?_⟩
  · rcases hf k f with f | f
    · exact h.lo k f
    · omega
  · rcases hf g f with f | f
    · exact h.off f
    · omega
theorem LawS.cells (h : LawS w wr p g n F B) : wr.cell? ⟨g, 0, none⟩ = some (.int .i64 0) ∧ wr.cell? ⟨g, 1, none⟩ = some (.int .i64 n) := ⟨cell_of_block h.tab 0, cell_of_block h.tab 1⟩
end
/-- An arena of which i frames were asked for. -/
structure IdsA (n i : Nat) (B : Ar) : Prop where
  len : B.cells.length = 1 + 10 * n
  on : B.on = false
  log : B.log = []
  val : B.val 0 = (i : Nat)
theorem IdsA.start (n : Nat) : IdsA n 0 (tabA n) := ⟨tabA_len n, (tabA_rest n).1, (tabA_rest n).2.1, by rw [tabA_val, if_neg]; rfl; rintro ⟨f, h1, h2⟩; omega⟩
theorem IdsA.step {n i : Nat} {B : Ar} (h : IdsA n i B) (hn : 1 ≤ n) (hi : i ≤ 1000) : ∃ C, (allocO n).step B = (if i < n then OpF.ended 4 (i : Nat) else OpF.ended 3 0, C) ∧ IdsA n (i + 1) C := by
  have e := did_add B 0 1 (by rw [h.len]; omega) (by rw [h.val]; omega) (by rw [h.val]; omega)
  rw [h.val] at e
  refine ⟨(B.put 0 ((i : Int) + 1)).noted ⟨0, 3, ((0 : Nat) : Int), 1, (i : Int) + 1, true⟩, (step_of (by show ¬ (n : Int) = 0; omega) rfl ((acc_alloc B n).trans e)).trans ?_, ?_, ?_, ?_, ?_⟩
  · congr 1
    by_cases hlt : i < n
    · rw [if_pos hlt]
      have e3 : OpF.went (allocO n) ((i : Int) + 1) = OpF.ended 4 (wrap64 ((i : Int) + 1 - 1)) := (if_pos rfl).trans (if_pos ⟨by omega, by show (i : Int) + 1 ≤ (n : Int); omega⟩)
      rw [e3, wrap_small (by omega) (by omega)]
      congr 1
      omega
    · rw [if_neg hlt]
      exact (if_pos rfl).trans (if_neg (by show ¬ (1 ≤ (i : Int) + 1 ∧ (i : Int) + 1 ≤ (n : Int)); omega))
  · rw [cells_noted, len_put]; exact h.len
  · rw [on_noted]; exact h.on
  · unfold Ar.noted; rw [if_neg (by show ¬ B.on = true; rw [h.on]; simp)]; exact h.log
  · rw [val_noted, val_put _ _ _ _ (by rw [h.len]; omega)]; simp
end Go.Proofs.Ytlligclkoecknaa
