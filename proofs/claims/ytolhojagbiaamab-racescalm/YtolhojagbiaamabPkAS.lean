import Derived.Test.YtolhojagbiaamabPkAA
import Derived.Test.YtolhojagbiaamabPkAR
/-! A slice of deeds that came in. -/
namespace Go.Proofs.Ytolhojagbiaamab
open Go.RowKit Go.HeapKit

def ddOf (ns : List Int) : Dd := ⟨ns.getD 0 0, ns.getD 1 0⟩
theorem spot_of_cell {w : World} {x : Addr} {v : Value} (h : w.cell? x = some v) : x.spot = none := by
  unfold World.cell? at h
  split at h
  · split at h
    · cases h
    · rename_i hs; simpa using hs
  · cases h
theorem lt_of_cell {w : World} {b o : Nat} {v : Value} (h : w.cell? ⟨b, o, none⟩ = some v) : b < w.heap.size := by
  cases hb : w.heap[b]? with
  | none => simp [World.cell?, hb] at h
  | some o => exact (Array.getElem?_eq_some_iff.1 hb).1
theorem grid_deeds {w : World} {ao : Option Addr} {len cap : Nat} {g : List (List Int)} (h : IsGrid 2 w ao len cap g) : len ≤ cap ∧ Seen w ao len ((g.take len).map ddOf) := by
  rcases h with ⟨rfl, rfl, rfl, rfl⟩ | ⟨x, rfl, hl, hm, hlen, hrow⟩
  · exact ⟨Nat.le_refl _, rfl, fun h => by omega⟩
  · refine ⟨hl, by simp; omega, fun hpos => ?_⟩
    have hspot : x.spot = none := by
      obtain ⟨ns, h1, h2, h3, h4⟩ := hrow 0 (by omega)
      match ns, h2 with
      | m0 :: _, _ =>
        have := h4 0 m0 rfl
        rw [Nat.zero_mul] at this
        have e : (x.add 0).add 0 = x := by unfold Addr.add; simp
        rw [e] at this
        exact spot_of_cell this
    obtain ⟨b0, off, sp⟩ := x
    simp only at hspot
    subst hspot
    have hat : ∀ i j, (((⟨b0, off, none⟩ : Addr).add (i * 2)).add j) = ⟨b0, off + i * 2 + j, none⟩ := by
      intro i j
      unfold Addr.add
      split <;> split <;> simp_all
    have hcell : ∀ i, i < len → ∀ j, j < 2 → w.cell? ⟨b0, off + i * 2 + j, none⟩ = some (.int .i64 ((g.getD i []).getD j 0)) := by
      intro i hi j hj
      obtain ⟨ns, h1, h2, h3, h4⟩ := hrow i (by omega)
      have hg : g.getD i [] = ns := by simp [List.getD, h1]
      rw [hg, ← hat i j]
      exact h4 j _ (by simp [List.getD, h2, hj])
    refine ⟨b0, off, rfl, lt_of_cell (hcell 0 hpos 0 (by decide)), fun k x hx => ?_⟩
    have hk : k < len := by have := (List.getElem?_eq_some_iff.1 hx).1; simp at this; omega
    have hx2 : x = ddOf (g.getD k []) := by
      rw [List.getElem?_map, List.getElem?_take, if_pos hk] at hx
      obtain ⟨ns, h1, _⟩ := hrow k (by omega)
      rw [h1] at hx
      simp at hx
      rw [← hx]
      simp [List.getD, h1]
    subst hx2
    exact ⟨hcell k hk 0 (by decide), hcell k hk 1 (by decide)⟩
end Go.Proofs.Ytolhojagbiaamab
