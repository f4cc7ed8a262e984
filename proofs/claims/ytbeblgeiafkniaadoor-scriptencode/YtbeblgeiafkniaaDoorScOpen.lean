import Derived.Test.YtbeblgeiafkniaaDoorScBase
/-! Lists that came in. -/
namespace Go.Proofs.YtbeblgeiafkniaaDoor
open Go.RowKit Go.HeapKit

theorem spot_none {w : World} {x : Addr} {v : Value} (h : w.cell? x = some v) : x.spot = none := by
  unfold World.cell? at h
  split at h
  · split at h
    · cases h
    · rename_i hs; simpa using hs
  · cases h
theorem add_at {b o : Nat} (k : Nat) : (⟨b, o, none⟩ : Addr).add k = ⟨b, o + k, none⟩ := by unfold Addr.add; split <;> simp_all
theorem seen_of {w : World} {a : Option Addr} {len cap : Nat} {zs : List Int} (h : (a = none ∧ len = 0 ∧ cap = 0 ∧ zs = []) ∨ ∃ x, a = some x ∧ len ≤ cap ∧ cap ≤ maxLen ∧ zs.length = cap ∧ (∀ i, i < zs.length → w.cell? (x.add i) = some (.int .i64 (zs.getD i 0))) ∧ ∀ n ∈ zs, (Lit.int .i64 n).wf = true) :
    SeenN w a len (zs.take len) ∧ (∀ x ∈ zs.take len, okI x) ∧ len ≤ cap := by
  rcases h with ⟨rfl, rfl, rfl, rfl⟩ | ⟨x, rfl, h1, h2, h3, h4, h5⟩
  · exact ⟨⟨rfl, fun h => by omega⟩, fun x hx => by simp at hx, Nat.le_refl _⟩
  · refine ⟨⟨by simp; omega, fun h0 => ?_⟩, fun x hx => okI_of_wf (h5 x (List.mem_of_mem_take hx)), h1⟩
    have c0 := h4 0 (by omega)
    have e : x.add 0 = x := by unfold Addr.add; simp
    rw [e] at c0
    have hspot : x.spot = none := spot_none c0
    obtain ⟨b0, off, sp⟩ := x
    simp only at hspot
    subst hspot
    have hlt : b0 < w.heap.size := by
      cases hb : w.heap[b0]? with
      | none => simp [World.cell?, hb] at c0
      | some o => exact (Array.getElem?_eq_some_iff.1 hb).1
    refine ⟨b0, off, rfl, hlt, fun i y hy => ?_⟩
    have hi : i < len := by have := (List.getElem?_eq_some_iff.1 hy).1; simp at this; omega
    have := h4 i (by omega)
    rw [add_at] at this
    rw [this]
    rw [List.getElem?_take, if_pos hi] at hy
    simp [List.getD, hy]
end Go.Proofs.YtbeblgeiafkniaaDoor
