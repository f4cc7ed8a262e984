import Derived.Test.YtdiabpoafennlaaHyMade
import Derived.Test.YtdiabpoafennlaaHyLkPlain
/-! Two stacks of numbers of the law's own; is a deed's time calm? -/
namespace Go.Proofs.Ytdiabpoafennlaa
set_option linter.unusedVariables false
set_option maxRecDepth 20000
set_option linter.unusedSimpArgs false
open Go.RowKit Go.HeapKit

structure Cst (w : World) (B : Nat) (a5 : Option Addr) (M c5 : Nat) (a6 : Option Addr) (N c6 : Nat) (mo mw : List Nat) : Prop where
  r5 : w.ownsRow B 3 1 (.slice a5 M c5) M (nv mo)
  r6 : w.ownsRow B 3 1 (.slice a6 N c6) N (nv mw)
  ap : ∀ g, a5 = some ⟨g, 0, none⟩ → a6 ≠ some ⟨g, 0, none⟩
variable {w w' : World} {B : Nat} {a5 a6 : Option Addr} {M c5 N c6 : Nat} {mo mw : List Nat}
theorem Cst.len5 (h : Cst w B a5 M c5 a6 N c6 mo mw) : M = mo.length := by have := h.r5.1; rw [nv_len] at this; omega
theorem Cst.len6 (h : Cst w B a5 M c5 a6 N c6 mo mw) : N = mw.length := by have := h.r6.1; rw [nv_len] at this; omega
theorem own_slice {a : Option Addr} {n c g : Nat} (h : a = some ⟨g, 0, none⟩) : (Value.slice a n c).ownBlock = some g := by subst h; rfl
theorem Cst.more (h : Cst w B a5 M c5 a6 N c6 mo mw) (hk : Keeps None w w') : Cst w' B a5 M c5 a6 N c6 mo mw :=
  ⟨row_kept h.r5 hk (fun _ _ f => f), row_kept h.r6 hk (fun _ _ f => f), h.ap⟩
theorem Cst.push5 (h : Cst w B a5 M c5 a6 N c6 mo mw) (hB : B ≤ w.heap.size) (x : Nat) (hM : M ≤ 100000) (ty : TypeId) :
    ∃ g cap w', (Builtin.append_ #[24, 24] ty #[.slice a5 M c5, .slice (some ⟨w.heap.size, 0, none⟩) 1 1]).run Try.prog (w.alloc (.cells #[.int .i64 x] 3)) = .ok (.slice (some ⟨g, 0, none⟩) (M + 1) cap) w' ∧
      Cst w' B (some ⟨g, 0, none⟩) (M + 1) cap a6 N c6 (mo ++ [x]) mw ∧ Keeps (fun i => B ≤ i) w w' := by
  have hl := h.len5
  have hka := Keeps.alloc None w (.cells #[.int .i64 x] 3)
  have h5 := row_kept h.r5 hka (fun _ _ f => f)
  have h6 := row_kept h.r6 hka (fun _ _ f => f)
  have hap := h.ap
  subst hl
  obtain ⟨g, cp, w2, hr, ho, hk3, hm3⟩ := row1_more B (.slice a5 mo.length c5) mo x ty w.heap.size (w.alloc (.cells #[.int .i64 x] 3)) h5 (by simp; omega) (by omega) (blk_new _ _ _ rfl)
  refine ⟨g, cp, w2, hr, ⟨?_, row_kept h6 hk3 (fun g6 e6 e5 => hap g6 (own_a h5 e5) (own_a h6 e6)), ?_⟩, (hka.mono (T := fun i => B ≤ i) (fun _ f _ => f.elim)).trans hk3 (fun i e _ => row_low h5 e)⟩
  · rw [List.length_append, List.length_singleton] at ho; exact ho
  · intro g' e e6
    injection e with e
    injection e with e
    subst e
    rcases hm3 with hm | hm
    · exact hap g (own_a h5 hm) e6
    · have := own_lt h.r6 (own_slice e6)
      simp at hm
      omega
theorem Cst.push6 (h : Cst w B a5 M c5 a6 N c6 mo mw) (hB : B ≤ w.heap.size) (x : Nat) (hN : N ≤ 100000) (ty : TypeId) :
    ∃ g cap w', (Builtin.append_ #[24, 24] ty #[.slice a6 N c6, .slice (some ⟨w.heap.size, 0, none⟩) 1 1]).run Try.prog (w.alloc (.cells #[.int .i64 x] 3)) = .ok (.slice (some ⟨g, 0, none⟩) (N + 1) cap) w' ∧
      Cst w' B a5 M c5 (some ⟨g, 0, none⟩) (N + 1) cap mo (mw ++ [x]) ∧ Keeps (fun i => B ≤ i) w w' := by
  have hl := h.len6
  have hka := Keeps.alloc None w (.cells #[.int .i64 x] 3)
  have h5 := row_kept h.r5 hka (fun _ _ f => f)
  have h6 := row_kept h.r6 hka (fun _ _ f => f)
  have hap := h.ap
  subst hl
  obtain ⟨g, cp, w2, hr, ho, hk3, hm3⟩ := row1_more B (.slice a6 mw.length c6) mw x ty w.heap.size (w.alloc (.cells #[.int .i64 x] 3)) h6 (by simp; omega) (by omega) (blk_new _ _ _ rfl)
  refine ⟨g, cp, w2, hr, ⟨row_kept h5 hk3 (fun g5 e5 e6 => hap g5 (own_a h5 e5) (own_a h6 e6)), ?_, ?_⟩, (hka.mono (T := fun i => B ≤ i) (fun _ f _ => f.elim)).trans hk3 (fun i e _ => row_low h6 e)⟩
  · rw [List.length_append, List.length_singleton] at ho; exact ho
  · intro g' e e6
    injection e6 with e6
    injection e6 with e6
    subst e6
    rcases hm3 with hm | hm
    · exact hap g e (own_a h6 hm)
    · have := own_lt h.r5 (own_slice e)
      simp at hm
      omega
theorem nv_put (l : List Nat) (k x : Nat) : (nv l).set k (.int .i64 x) = nv (l.set k x) := by simp [nv, iv, nI]
theorem Cst.set5 {g : Nat} (h : Cst w B (some ⟨g, 0, none⟩) M c5 a6 N c6 mo mw) (k x : Nat) : Cst (w.setCell ⟨g, k, none⟩ (.int .i64 x)) B (some ⟨g, 0, none⟩) M c5 a6 N c6 (mo.set k x) mw := by
  refine ⟨?_, row_kept h.r6 (keeps_one (Keeps.refl _ w) _) (fun g6 e6 e => h.ap g rfl (by have := own_a h.r6 e6; rw [this]; have e2 : g6 = g := e; rw [e2])), h.ap⟩
  rw [← nv_put]
  exact row_set h.r5 k _
theorem Cst.pop5 {x : Nat} (h : Cst w B a5 (M + 1) c5 a6 N c6 (mo ++ [x]) mw) : Cst w B a5 M c5 a6 N c6 mo mw := by
  have h5 := h.r5
  rw [nv_snoc] at h5
  exact ⟨row_shrink h5, h.r6, h.ap⟩
theorem Cst.pop6 {x : Nat} (h : Cst w B a5 M c5 a6 (N + 1) c6 mo (mw ++ [x])) : Cst w B a5 M c5 a6 N c6 mo mw := by
  have h6 := h.r6
  rw [nv_snoc] at h6
  exact ⟨h.r5, row_shrink h6, h.ap⟩
theorem Cst.at5 (h : Cst w B a5 M c5 a6 N c6 mo mw) {k x : Nat} (hx : mo[k]? = some x) : ∃ g, a5 = some ⟨g, 0, none⟩ ∧ B ≤ g ∧ g < w.heap.size ∧ M ≤ c5 ∧ w.cell? ⟨g, k, none⟩ = some (.int .i64 x) ∧ ∀ i, w.frozen? ⟨g, i, none⟩ = false :=
  own_cellS h.r5 (nv_at hx)
theorem Cst.at6 (h : Cst w B a5 M c5 a6 N c6 mo mw) {k x : Nat} (hx : mw[k]? = some x) : ∃ g, a6 = some ⟨g, 0, none⟩ ∧ B ≤ g ∧ g < w.heap.size ∧ N ≤ c6 ∧ w.cell? ⟨g, k, none⟩ = some (.int .i64 x) ∧ ∀ i, w.frozen? ⟨g, i, none⟩ = false :=
  own_cellS h.r6 (nv_at hx)
end Go.Proofs.Ytdiabpoafennlaa
