import Derived.Test.YtdiabpoafennlaaHyOpen
/-! A row of numbers among the arguments. -/
namespace Go.Proofs.Ytdiabpoafennlaa
open Go.RowKit Go.HeapKit
theorem seen_row {w : World} {x : Addr} {len cap : Nat} {zs : List Int} (hl : len ≤ cap) (hz : zs.length = cap) (hx : ∀ i, i < zs.length → w.cell? (x.add i) = some (.int .i64 (zs.getD i 0))) : SeenV w (some x) len (iv (zs.take len)) := by
  refine ⟨by rw [iv_len, List.length_take]; omega, fun h0 => ?_⟩
  obtain ⟨b, off, sp⟩ := x
  have hc0 := hx 0 (by omega)
  have hsp : sp = none := by
    have := g_spot_none hc0
    unfold Addr.add at this
    split at this <;> simp_all
  subst hsp
  rw [addr_at] at hc0
  refine ⟨b, off, rfl, g_lt hc0, fun i v hi => ?_⟩
  have hil := (List.getElem?_eq_some_iff.1 hi).1
  rw [iv_len, List.length_take] at hil
  have := hx i (by omega)
  rw [addr_at] at this
  rw [this, ← hi]
  simp [iv, show i < len by omega, show i < zs.length by omega]
end Go.Proofs.Ytdiabpoafennlaa
