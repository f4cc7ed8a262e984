import Derived.Test.YteidefhlflkaaaaDoorPgOpen
import Derived.SizedLaws
/-! How long a slice among the arguments may be. -/
namespace Go.Proofs.YteidefhlflkaaaaDoor
set_option linter.unusedVariables false
open Go.ChangeShapes Go.WideShapes Go.ChangeAt Go.RowKit Go.HeapKit Go.Deep

section
variable {H : Type} {enc : TypeId × Value → H} {w : World} {base : Nat} {held : Bool}
theorem slice_len {t e : TypeId} (ht : Tryd.prog.underlying t = some (.slice e)) {a : Option Addr} {n c : Nat} {d : DataW H} {ps : List MemPlace} (hd : DataW.Trod enc Tryd.prog w base (fun _ => true) held t (.slice a n c) d ps) :
    n = 0 ∨ ∃ elems sp, d = .slice elems sp ∧ n ≤ elems.length + sp.length := by
  obtain ⟨fuel, h⟩ := hd
  rcases open_slice ht h with ⟨hcs, _⟩ | ⟨a', len, cap, m, n', D, Pl, hcs, _, hl, hm, hmm, hx, hall⟩
  · simp [Value.cells] at hcs
    exact .inl hcs.2.1
  · simp [Value.cells] at hcs
    obtain ⟨rfl, rfl, rfl⟩ := hcs
    simp only [Prod.mk.injEq] at hx
    exact .inr ⟨_, _, hx.1, by simp⟩
end
end Go.Proofs.YteidefhlflkaaaaDoor
