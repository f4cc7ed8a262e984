import Derived.Test.YtokfbagacehbgaaDoorPgOpen
import Derived.Test.YtokfbagacehbgaaDoorSrRoot
/-! A slice of numbers of 64 bits among the arguments. -/
namespace Go.Proofs.YtokfbagacehbgaaDoor
set_option linter.unusedVariables false
set_option maxRecDepth 20000
open Go.ChangeShapes Go.WideShapes Go.ChangeAt Go.RowKit Go.HeapKit Go.Deep

section
variable {H : Type} {enc : TypeId × Value → H} {w : World} {base : Nat} {held : Bool}
theorem open_words {r : Reach} {b0 : Nat} {v : Value} {d : DataW H} {ps : List MemPlace} (hval : Value.okWide Tryd.prog w r b0 25 v) (hd : DataW.Trod enc Tryd.prog w base (fun _ => true) held 25 v d ps) :
    ∃ a n c l, v = .slice a n c ∧ SeenA w a n l := by
  obtain ⟨a, n, c, rfl⟩ := okWide_slice Tryd.underlying25 hval
  obtain ⟨fuel, h⟩ := hd
  rcases open_slice Tryd.underlying25 h with ⟨hcs, _⟩ | ⟨a', len, cap, m, n', D, Pl, hcs, _, hl, hm, hmm, _, hall⟩
  · simp [Value.cells] at hcs
    obtain ⟨rfl, rfl, rfl⟩ := hcs
    exact ⟨none, 0, 0, [], rfl, ⟨rfl, by omega, fun x hx => by simp at hx, fun h => by omega⟩⟩
  · simp [Value.cells] at hcs
    obtain ⟨rfl, rfl, rfl⟩ := hcs
    simp at hmm
    subst hmm
    have hc : Tryd.prog.cellsOf 2 = 1 := by kernel_rfl
    rw [hc] at hall
    have hex : ∀ i, i < n → ∃ x : Int, okI x ∧ w.cell? (a'.add i) = some (.int .i64 x) := by
      intro i hi
      obtain ⟨cs', h1, h2⟩ := hall i (by omega)
      obtain ⟨_, hlen, hcell⟩ := World.cells?_some h1
      obtain ⟨x, rfl, _, hwf⟩ := DataW.trod_int Tryd.underlying2 h2
      have := hcell 0 (by omega)
      refine ⟨x, okI_of_wf hwf, ?_⟩
      rw [Nat.mul_one] at this
      rw [show (a'.add i).add 0 = a'.add i by unfold Addr.add; split <;> simp_all] at this
      exact this
    obtain ⟨l, hll, hp⟩ := choose_list _ n hex
    refine ⟨some a', n, m, l, rfl, ⟨hll.symm, by unfold maxLen at hm; omega, fun x hx => by obtain ⟨k, hk, rfl⟩ := List.mem_iff_getElem.1 hx; exact (hp k _ (List.getElem?_eq_getElem hk)).1, fun h0 => ?_⟩⟩
    obtain ⟨b, off, sp⟩ := a'
    have hsp : sp = none := by
      obtain ⟨x, _, hx⟩ := hex 0 h0
      have := spot_none hx
      unfold Addr.add at this
      split at this <;> simp_all
    subst hsp
    refine ⟨b, off, rfl, ?_, fun k x hx => ?_⟩
    · obtain ⟨x, _, hx⟩ := hex 0 h0
      rw [add_at] at hx
      cases hb : w.heap[b]? with
      | none => simp [World.cell?, hb] at hx
      | some o => exact (Array.getElem?_eq_some_iff.1 hb).1
    · have := (hp k x hx).2
      rwa [add_at] at this
end
end Go.Proofs.YtokfbagacehbgaaDoor
