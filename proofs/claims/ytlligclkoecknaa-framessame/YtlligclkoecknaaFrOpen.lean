import Derived.Test.YtlligclkoecknaaFrEnds
/-! Lists that came in. -/
namespace Go.Proofs.Ytlligclkoecknaa
open Go.RowKit Go.HeapKit Go.IntWalk

theorem spot_none {w : World} {x : Addr} {v : Value} (h : w.cell? x = some v) : x.spot = none := by
  unfold World.cell? at h
  split at h
  · split at h
    · cases h
    · rename_i hs; simpa using hs
  · cases h
theorem ints_of {w : World} {a : Option Addr} {len cap : Nat} {zs : List Int} (h : (a = none ∧ len = 0 ∧ cap = 0 ∧ zs = []) ∨ ∃ x, a = some x ∧ len ≤ cap ∧ cap ≤ maxLen ∧ zs.length = cap ∧ (∀ i, i < zs.length → w.cell? (x.add i) = some (.int .i64 (zs.getD i 0))) ∧ ∀ n ∈ zs, (Lit.int .i64 n).wf = true) :
    Ints w a (zs.take len) ∧ (zs.take len).length = len ∧ len ≤ cap := by
  rcases h with ⟨rfl, rfl, rfl, rfl⟩ | ⟨x, rfl, h1, h2, h3, h4, -⟩
  · exact ⟨fun h => by simp at h, by simp, Nat.le_refl _⟩
  · refine ⟨fun h0 => ?_, by simp; omega, h1⟩
    simp only [List.length_take] at h0
    have c0 := h4 0 (by omega)
    have e : x.add 0 = x := by unfold Addr.add; simp
    rw [e] at c0
    have hspot : x.spot = none := spot_none c0
    obtain ⟨b0, off, sp⟩ := x
    simp only at hspot
    subst hspot
    have hlt : b0 < w.heap.size := by
      cases hb : w.heap[b0]? with
      | none => simp [World.cell?, hb] at c0
      | some o => exact (Array.getElem?_eq_some_iff.1 hb).1
    refine ⟨b0, off, rfl, hlt, fun i hi => ?_⟩
    simp only [List.length_take] at hi
    have := h4 i (by omega)
    rw [show (⟨b0, off, none⟩ : Addr).add i = ⟨b0, off + i, none⟩ by unfold Addr.add; split <;> simp_all] at this
    rw [this]
    simp only [List.getD_eq_getElem?_getD, List.getElem?_take]
    rw [if_pos (by omega)]
end Go.Proofs.Ytlligclkoecknaa
