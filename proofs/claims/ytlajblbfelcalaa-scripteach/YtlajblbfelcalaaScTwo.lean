import Derived.Test.YtlajblbfelcalaaScCut
/-! Two rows that are appended to. -/
namespace Go.Proofs.Ytlajblbfelcalaa
set_option linter.unusedVariables false
set_option maxRecDepth 20000
open Go.RowKit Go.HeapKit

/-- 'append' to one of two rows. -/
theorem TwoR.app0 {w : World} {B : Nat} {v0 v1 : Value} {n0 n1 : Nat} {l0 l1 : List Int} (h : TwoR w B v0 v1 n0 n1 l0 l1) (x : Int) (wa : World) (hk : Keeps None w wa) (g0 : Nat) (hg0 : wa.heap[g0]? = some (.cells #[.int .i64 x] 3 (0, 0))) (hB : B ≤ w.heap.size) (hn : n0 * 8 ≤ 140737488351232) (ty : TypeId) :
    ∃ g cap w', (Builtin.append_ #[25, 25] ty #[v0, .slice (some ⟨g0, 0, none⟩) 1 1]).run Try.prog wa = .ok (.slice (some ⟨g, 0, none⟩) (n0 + 1) cap) w' ∧ TwoR w' B (.slice (some ⟨g, 0, none⟩) (n0 + 1) cap) v1 (n0 + 1) n1 (l0 ++ [x]) l1 ∧ Keeps (fun i => B ≤ i) w w' := by
  obtain ⟨g, cap, w', hr, ho, hk2, hm⟩ := int_more B v0 l0 x n0 ty g0 wa (row_len h.r0) (row_more h.r0 hk) (by have := hk.size; omega) (by omega) hg0
  refine ⟨g, cap, w', hr, ⟨ho, row_kept (row_more h.r1 hk) hk2 (fun i e1 e0 => h.ap i e0 e1), fun i e0 e1 => ?_⟩, (hk.mono (fun _ f _ => f.elim)).trans hk2 (fun i e _ => row_low h.r0 e)⟩
  simp [Value.ownBlock] at e0
  subst e0
  rcases hm with hm | hm
  · exact h.ap _ hm e1
  · have := own_lt h.r1 e1; have := hk.size; omega
theorem TwoR.app1 {w : World} {B : Nat} {v0 v1 : Value} {n0 n1 : Nat} {l0 l1 : List Int} (h : TwoR w B v0 v1 n0 n1 l0 l1) (x : Int) (wa : World) (hk : Keeps None w wa) (g0 : Nat) (hg0 : wa.heap[g0]? = some (.cells #[.int .i64 x] 3 (0, 0))) (hB : B ≤ w.heap.size) (hn : n1 * 8 ≤ 140737488351232) (ty : TypeId) :
    ∃ g cap w', (Builtin.append_ #[25, 25] ty #[v1, .slice (some ⟨g0, 0, none⟩) 1 1]).run Try.prog wa = .ok (.slice (some ⟨g, 0, none⟩) (n1 + 1) cap) w' ∧ TwoR w' B v0 (.slice (some ⟨g, 0, none⟩) (n1 + 1) cap) n0 (n1 + 1) l0 (l1 ++ [x]) ∧ Keeps (fun i => B ≤ i) w w' := by
  obtain ⟨g, cap, w', hr, ho, hk2, hm⟩ := int_more B v1 l1 x n1 ty g0 wa (row_len h.r1) (row_more h.r1 hk) (by have := hk.size; omega) (by omega) hg0
  refine ⟨g, cap, w', hr, ⟨row_kept (row_more h.r0 hk) hk2 (fun i e0 e1 => h.ap i e0 e1), ho, fun i e0 e1 => ?_⟩, (hk.mono (fun _ f _ => f.elim)).trans hk2 (fun i e _ => row_low h.r1 e)⟩
  simp [Value.ownBlock] at e1
  subst e1
  rcases hm with hm | hm
  · exact h.ap _ e0 hm
  · have := own_lt h.r0 e0; have := hk.size; omega
end Go.Proofs.Ytlajblbfelcalaa
