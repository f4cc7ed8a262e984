import Derived.Test.YtncbejpefokhhaaPlayWalks
import Derived.Test.YtncbejpefokhhaaOpenStruct
/-! A slice of acts that came in, as Play's walk takes it. -/
namespace Go.Proofs.Ytncbejpefokhhaa
open Go.RowKit Go.HeapKit

theorem grid_fives2 {w : World} {ao : Option Addr} {len cap : Nat} {g : List (List Int)} (h : IsGrid 5 w ao len cap g) : len ≤ cap ∧ Fives w ao len (fun i j => ((g.getD i []).getD j 0)) := by
  rcases h with ⟨rfl, rfl, rfl, rfl⟩ | ⟨x, rfl, hl, hm, hlen, hrow⟩
  · exact ⟨Nat.le_refl _, fun h => by omega⟩
  · refine ⟨hl, fun hpos => ?_⟩
    have hspot : x.spot = none := by
      obtain ⟨ns, h1, h2, h3, h4⟩ := hrow 0 (by omega)
      match ns, h2 with
      | m0 :: _, _ =>
        have := h4 0 m0 rfl
        rw [Nat.zero_mul] at this
        have e : (x.add 0).add 0 = x := by unfold Addr.add; simp
        rw [e] at this
        unfold World.cell? at this
        split at this
        · split at this
          · cases this
          · rename_i hs; simpa using hs
        · cases this
    obtain ⟨b0, off, sp⟩ := x
    simp only at hspot
    subst hspot
    have hat : ∀ i j, (((⟨b0, off, none⟩ : Addr).add (i * 5)).add j) = ⟨b0, off + i * 5 + j, none⟩ := by
      intro i j
      unfold Addr.add
      split <;> split <;> simp_all
    have hcell : ∀ i, i < len → ∀ j, j < 5 → w.cell? ⟨b0, off + i * 5 + j, none⟩ = some (.int .i64 ((g.getD i []).getD j 0)) := by
      intro i hi j hj
      obtain ⟨ns, h1, h2, h3, h4⟩ := hrow i (by omega)
      have hg : g.getD i [] = ns := by simp [List.getD, h1]
      rw [hg, ← hat i j]
      exact h4 j _ (by simp [List.getD, h2, hj])
    refine ⟨b0, off, rfl, ?_, fun i hi => ⟨hcell i hi 0 (by decide), hcell i hi 1 (by decide), hcell i hi 2 (by decide), hcell i hi 3 (by decide), hcell i hi 4 (by decide)⟩⟩
    have hc0 := hcell 0 hpos 0 (by decide)
    cases hb : w.heap[b0]? with
    | none => simp [World.cell?, hb] at hc0
    | some o => exact (Array.getElem?_eq_some_iff.1 hb).1

end Go.Proofs.Ytncbejpefokhhaa
