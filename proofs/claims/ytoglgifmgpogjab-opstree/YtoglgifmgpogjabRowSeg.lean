import Derived.Test.YtoglgifmgpogjabTreeWalks
import Derived.ProofKit
import Derived.OpenShut
/-! A slice of numbers that came in, as the walks take it. -/
namespace Go.Proofs.Ytoglgifmgpogjab
open Go.RowKit Go.PlainOps

theorem fits_of_wf {zs : List Int} (h : ∀ n ∈ zs, (Lit.int .i64 n).wf = true) : Fits zs := fun x hx => bounds_i64 (h x hx)
theorem seg_of_row {w : World} {a : Option Addr} {len cap : Nat} {zs : List Int}
    (h : (a = none ∧ len = 0 ∧ cap = 0 ∧ zs = []) ∨ ∃ x, a = some x ∧ len ≤ cap ∧ cap ≤ maxLen ∧ zs.length = cap ∧ (∀ i, i < zs.length → w.cell? (x.add i) = some (.int .i64 (zs.getD i 0))) ∧ ∀ n ∈ zs, (Lit.int .i64 n).wf = true) :
    Seg w a cap (zs.take len) ∧ Fits (zs.take len) ∧ (zs.take len).length = len := by
  rcases h with ⟨rfl, rfl, rfl, rfl⟩ | ⟨x, rfl, hl, hm, hz, hcell, hwf⟩
  · exact ⟨⟨by simp, by simp [maxLen], .inl rfl⟩, (fun _ h => by cases h), rfl⟩
  · have hlen : (zs.take len).length = len := by rw [List.length_take]; omega
    refine ⟨⟨by omega, hm, ?_⟩, (fits_of_wf hwf).take _, hlen⟩
    by_cases h0 : len = 0
    · subst h0; exact .inl rfl
    · obtain ⟨b, off, rfl, hc⟩ := ints_at hcell (by omega)
      refine .inr ⟨b, off, rfl, ?_⟩
      exact CellsAt.take (fun i hi => hc i hi) len
theorem Seg.drewN {w : World} {a : Option Addr} {cap : Nat} {zs : List Int} (h : Seg w a cap zs) (n : Nat) : Seg (w.drewN n) a cap zs := h
end Go.Proofs.Ytoglgifmgpogjab
