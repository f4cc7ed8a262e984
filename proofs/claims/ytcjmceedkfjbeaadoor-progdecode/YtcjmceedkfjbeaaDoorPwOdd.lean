import Derived.Test.YtcjmceedkfjbeaaDoorPwMem
/-! 'odd' of any small number; an append behind code that is full. -/
namespace Go.Proofs.YtcjmceedkfjbeaaDoor
set_option linter.unusedVariables false
set_option maxRecDepth 20000
open Go.RowKit Go.HeapKit

theorem odd_all (j : Int) (w : World) (hj : -1 ≤ j ∧ j ≤ 10000) : Calls Tryd.prog 13 #[.int .i64 j] w fun e w' => e = .returned (insV (oddI j)) ∧ Keeps None w w' := by
  have e : (70 : Int) + j = (oddI j).kind := rfl
  go_enter Tryd.func13, Tryd.ntmps13
  go_wp2_with fail
  exact bodyPost_ret (results_one (q := 2) (ty := 42) rfl rfl (load_ins _ _ _ (oddI j) (heap_alloc_new _ _))) rfl ⟨rfl, Keeps.alloc None w _⟩
theorem ins_full (p n : Nat) (l : List Ins) (x : Ins) (ty g0 : Nat) (w : World) (hn : n = l.length) (hm : n ≤ 512) (hp : IsC w p l)
    (hg0 : w.heap[g0]? = some (.cells #[.int .i64 x.kind, .int .i64 x.a, .int .i64 x.b, .int .i64 x.c, .int .i64 x.k] 42 (0, 0))) :
    ∃ (g cap : Nat) (w' : World), (Builtin.append_ #[38, 38] ty #[.slice (some ⟨p, 0, none⟩) n n, .slice (some ⟨g0, 0, none⟩) 1 1]).run Tryd.prog w = .ok (.slice (some ⟨g, 0, none⟩) (n + 1) cap) w' ∧
      w'.ownsRow w.heap.size 42 5 (.slice (some ⟨g, 0, none⟩) (n + 1) cap) (n + 1) (insVals (l ++ [x])) ∧ Keeps None w w' := by
  have hrow : w.ownsRow 0 42 5 (.slice (some ⟨p, 0, none⟩) n n) n (insVals l) := by
    refine ⟨by rw [insVals_length, hn], .inr ⟨p, n, _, rfl, Nat.zero_le _, hp, Nat.le_refl _, by unfold maxLen; omega, by simp [insVals_length, hn], ?_⟩⟩
    exact List.take_of_length_le (by simp [insVals_length, hn])
  obtain ⟨g, cap, w', hr, ho, hk, hg⟩ := ins_append (.slice (some ⟨p, 0, none⟩) n n) l x n g0 ty w hn hrow (by omega) hg0
  obtain ⟨i0, hi, hz0, hz1, hz2⟩ := info_parts Tryd.infoIns
  have hr2 := run_append_grow (P := Tryd.prog) w 38 ty 42 i0 _ Tryd.underlying38 hi hz0 ⟨p, 0, none⟩ n n (insVals l) (by rw [hz1, insVals_length, hn]) (hrow.cells (g := p) rfl)
    ⟨g0, 0, none⟩ 1 1 [.int .i64 x.kind, .int .i64 x.a, .int .i64 x.b, .int .i64 x.c, .int .i64 x.k] (by rw [hz1]; rfl) (by
      intro j u hu
      rw [show (⟨g0, 0, none⟩ : Addr).add j = ⟨g0, j, none⟩ by unfold Addr.add; split <;> simp_all, blk_cell hg0]
      simpa using hu) (by omega) (by omega) (growslice_fits (by omega) (by rw [hz2]; omega))
  rw [hr] at hr2
  injection hr2 with e1 e2
  simp only [Value.slice.injEq] at e1
  have eg : g = w.heap.size := by
    have := e1.1
    injection this with this
    injection this with this
  refine ⟨g, cap, w', hr, ⟨ho.1, ?_⟩, by rw [e2]; exact (Keeps.drew None w).andAlloc _⟩
  rcases ho.2 with ⟨h0, _⟩ | ⟨g', cap', cur, h1, h2, h3⟩
  · cases h0
  · refine .inr ⟨g', cap', cur, h1, ?_, h3⟩
    simp only [Value.slice.injEq] at h1
    have := h1.1
    injection this with this
    injection this with this
    omega
end Go.Proofs.YtcjmceedkfjbeaaDoor
