import Derived.Test.YtheginjjncnheaaHiLegal
import Derived.Test.YtheginjjncnheaaOpenStruct
/-! The walk of HistLegal. -/
namespace Go.Proofs.Ytheginjjncnheaa
set_option linter.unusedVariables false
set_option maxRecDepth 20000
open Go.RowKit Go.HeapKit

/-- A list of numbers of the law's own, with a mark in the room behind it. -/
structure RoomI (w : World) (base g n cap : Nat) (zs : List Int) : Prop where
  len : n = zs.length
  row : w.ownsRow base 3 1 (.slice (some ⟨g, 0, none⟩) (n + 1) cap) (n + 1) ((zs ++ [-77]).map (Value.int .i64))
section
variable {w w' : World} {base g n cap : Nat} {zs : List Int}
theorem RoomI.lt (h : RoomI w base g n cap zs) : g < w.heap.size := own_lt h.row rfl
theorem RoomI.low (h : RoomI w base g n cap zs) : base ≤ g := row_low h.row rfl
theorem RoomI.kept {S : Nat → Prop} (h : RoomI w base g n cap zs) (hk : Keeps S w w') (hS : ¬ S g) : RoomI w' base g n cap zs :=
  ⟨h.len, row_kept h.row hk (fun k e => by simp [Value.ownBlock] at e; subst e; exact hS)⟩
theorem RoomI.at (h : RoomI w base g n cap zs) {k : Nat} {z : Int} (hz : (zs ++ [-77])[k]? = some z) : w.cell? ⟨g, k, none⟩ = some (.int .i64 z) ∧ ∀ i, w.frozen? ⟨g, i, none⟩ = false := by
  obtain ⟨g', e, _, _, _, h1, h2⟩ := vals_elem (u := .int .i64 z) h.row (by rw [List.getElem?_map, hz]; rfl)
  injection e with e
  injection e with e
  subst e
  exact ⟨h1, h2⟩
theorem RoomI.seen (h : RoomI w base g n cap zs) : SeenI w (some ⟨g, 0, none⟩) n zs := by
  refine ⟨h.len, fun h0 => ⟨g, 0, rfl, h.lt, fun k z hz => ?_⟩⟩
  rw [Nat.zero_add]
  exact (h.at (by rw [List.getElem?_append_left (List.getElem?_eq_some_iff.1 hz).1]; exact hz)).1
theorem RoomI.fits (h : RoomI w base g n cap zs) : n + 1 ≤ cap := by
  rcases h.row.2 with ⟨e, _⟩ | ⟨g', cap', cur, e, _, _, hn, _⟩
  · cases e
  · injection e with _ _ e; subst e; exact hn
theorem RoomI.mark (h : RoomI w base g n cap zs) : w.cell? ⟨g, n, none⟩ = some (.int .i64 (-77)) := (h.at (k := n) (by rw [h.len]; simp)).1
theorem RoomI.put (h : RoomI w base g n cap zs) {k : Nat} (hk : k < n) (z : Int) : RoomI (w.setCell ⟨g, k, none⟩ (.int .i64 z)) base g n cap (zs.set k z) := by
  refine ⟨by simpa using h.len, ?_⟩
  have := row_set h.row k (.int .i64 z)
  rw [← List.map_set, List.set_append_left _ _ (by have := h.len; omega)] at this
  exact this
end
end Go.Proofs.Ytheginjjncnheaa
