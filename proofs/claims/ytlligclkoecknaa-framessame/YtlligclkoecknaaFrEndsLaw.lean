import Derived.Test.YtlligclkoecknaaFrEnds
/-! FramesEnds. -/
namespace Go.Proofs.Ytlligclkoecknaa
open Go.RowKit Go.HeapKit Go.IntWalk

theorem Ints.take {w : World} {ao : Option Addr} {zs : List Int} (h : Ints w ao zs) (n : Nat) : Ints w ao (zs.take n) := by
  intro hp
  simp only [List.length_take] at hp
  obtain ⟨b, off, h1, h2, h3⟩ := h (by omega)
  refine ⟨b, off, h1, h2, fun i hi => ?_⟩
  simp only [List.length_take] at hi
  rw [h3 i (by omega)]
  simp only [List.getD_eq_getElem?_getD, List.getElem?_take]
  rw [if_pos (by omega)]
/-- What Play tells of its length. -/
theorem told_ends {l : List Nat} {n m steps : Nat} {done : Bool} {holders : List Int} {reads : List (List Int)} {marks : List Int} {log : List Acc} (ht : Told l n done holders reads marks log) (hs : steps = log.length) (he : done = true ∨ steps = m) (hle : steps ≤ m) :
    (m < total l → done = false ∧ steps = m) ∧ (¬ m < total l → done = true ∧ steps = total l) := by
  have h1 := ht.lg
  have h2 := ht.dn
  constructor
  · intro h
    have hn : ¬ n = 0 := by omega
    have hd : done = false := by
      cases done with
      | false => rfl
      | true => exact absurd (h2.1 rfl) hn
    refine ⟨hd, ?_⟩
    rcases he with e | e
    · rw [hd] at e; cases e
    · exact e
  · intro h
    have hd : done = true := by
      rcases he with e | e
      · exact e
      · exact h2.2 (by omega)
    have := h2.1 hd
    exact ⟨hd, by omega⟩
end Go.Proofs.Ytlligclkoecknaa
