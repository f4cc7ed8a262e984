import Derived.Test.YteidefhlflkaaaaDoorPgOpen
/-! A slice of bools among the arguments. -/
namespace Go.Proofs.YteidefhlflkaaaaDoor
set_option linter.unusedVariables false
open Go.ChangeShapes Go.WideShapes Go.ChangeAt Go.RowKit Go.HeapKit Go.Deep

structure SeenB (w : World) (a : Option Addr) (n : Nat) (l : List Bool) : Prop where
  len : n = l.length
  most : n ≤ 9223372036854775807
  ex : 0 < n → ∃ b off, a = some ⟨b, off, none⟩ ∧ b < w.heap.size ∧ ∀ k x, l[k]? = some x → w.cell? ⟨b, off + k, none⟩ = some (.bool x)
theorem SeenB.more {w w' : World} {a : Option Addr} {n : Nat} {l : List Bool} (h : SeenB w a n l) {S : Nat → Prop} (hk : Keeps S w w') (hS : ∀ k, k < w.heap.size → ¬ S k) : SeenB w' a n l := by
  refine ⟨h.len, h.most, fun h0 => ?_⟩
  obtain ⟨b, off, rfl, hb, hc⟩ := h.ex h0
  exact ⟨b, off, rfl, Nat.lt_of_lt_of_le hb hk.size, fun k i hi => hk.cell (hc k i hi) (hS b hb)⟩
section
variable {H : Type} {enc : TypeId × Value → H} {w : World} {base : Nat} {held : Bool}
theorem open_bools {r : Reach} {b0 : Nat} {v : Value} {d : DataW H} {ps : List MemPlace} (hval : Value.okWide Tryd.prog w r b0 25 v) (hd : DataW.Trod enc Tryd.prog w base (fun _ => true) held 25 v d ps) :
    ∃ a n c l, v = .slice a n c ∧ SeenB w a n l := by
  obtain ⟨a, n, c, rfl⟩ := okWide_slice Tryd.underlying25 hval
  obtain ⟨fuel, h⟩ := hd
  rcases open_slice Tryd.underlying25 h with ⟨hcs, _⟩ | ⟨a', len, cap, m, n', D, Pl, hcs, _, hl, hm, hmm, _, hall⟩
  · simp [Value.cells] at hcs
    obtain ⟨rfl, rfl, rfl⟩ := hcs
    exact ⟨none, 0, 0, [], rfl, ⟨rfl, by omega, fun h => by omega⟩⟩
  · simp [Value.cells] at hcs
    obtain ⟨rfl, rfl, rfl⟩ := hcs
    simp at hmm
    subst hmm
    have hc : Tryd.prog.cellsOf 4 = 1 := by kernel_rfl
    rw [hc] at hall
    have hex : ∀ i, i < n → ∃ x : Bool, w.cell? (a'.add i) = some (.bool x) := by
      intro i hi
      obtain ⟨cs', h1, h2⟩ := hall i (by omega)
      obtain ⟨_, hlen, hcell⟩ := World.cells?_some h1
      obtain ⟨x, rfl, _⟩ := DataW.trod_bool Tryd.underlying4 h2
      have := hcell 0 (by omega)
      refine ⟨x, ?_⟩
      rw [Nat.mul_one] at this
      rw [show (a'.add i).add 0 = a'.add i by unfold Addr.add; split <;> simp_all] at this
      exact this
    obtain ⟨l, hll, hp⟩ := choose_list _ n hex
    refine ⟨some a', n, m, l, rfl, ⟨hll.symm, by unfold maxLen at hm; omega, fun h0 => ?_⟩⟩
    obtain ⟨b, off, sp⟩ := a'
    have hsp : sp = none := by
      obtain ⟨x, hx⟩ := hex 0 h0
      have := spot_none hx
      unfold Addr.add at this
      split at this <;> simp_all
    subst hsp
    refine ⟨b, off, rfl, ?_, fun k x hx => ?_⟩
    · obtain ⟨x, hx⟩ := hex 0 h0
      rw [add_at] at hx
      cases hb : w.heap[b]? with
      | none => simp [World.cell?, hb] at hx
      | some o => exact (Array.getElem?_eq_some_iff.1 hb).1
    · have := hp k x hx
      rwa [add_at] at this
end
end Go.Proofs.YteidefhlflkaaaaDoor
