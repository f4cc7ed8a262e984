import Derived.WalkKit
import Derived.ProofKit
import Derived.OpenShut
import Derived.Deep.Slices
/-! Arrays of 64-bit numbers among the arguments. Whatever the program. -/
namespace Go.HeapKit
open Go.ChangeShapes Go.WideShapes Go.ChangeAt Go.RowKit Go.Deep

section
variable {H : Type} {enc : TypeId × Value → H} {P : Program} {w : World} {base : Nat} {spare : Nat → Bool} {held : Bool}
theorem array_ints {t e : TypeId} {m fuel : Nat} {cs : List Value} {x : DataW H × List MemPlace} (ht : P.underlying t = some (.array m e)) (he : P.underlying e = some (.int .i64)) (hc : P.cellsOf e = 1) (hct : P.cellsOf t = m)
    (h : DataW.trod enc P w base spare held fuel t cs = some x) : ∃ ns : List Int, ns.length = m ∧ cs = ns.map (Value.int .i64) ∧ ∀ n ∈ ns, (Lit.int .i64 n).wf = true := by
  obtain ⟨xs, n, _, rfl, hl, hlen, hf⟩ := DataW.trod_array ht h
  rw [hct] at hl
  have hat : ∀ i, i < m → ∃ m : Int, cs[i]? = some (.int .i64 m) ∧ (Lit.int .i64 m).wf = true := by
    intro i hi
    have hq := hf i hi
    rw [hc, Nat.mul_one, show xs[i]? = some xs[i] by simp] at hq
    obtain ⟨m, hm, _, hw⟩ := DataW.trod_int he hq
    refine ⟨m, ?_, hw⟩
    have : (List.take 1 (List.drop i cs))[0]? = some (.int .i64 m) := by rw [hm]; rfl
    simpa [List.getElem?_take, List.getElem?_drop] using this
  have hall : ∀ v ∈ cs, ∃ m : Int, v = .int .i64 m ∧ (Lit.int .i64 m).wf = true := by
    intro v hv
    obtain ⟨i, hi, rfl⟩ := List.mem_iff_getElem.1 hv
    obtain ⟨m, hm, hw⟩ := hat i (by omega)
    exact ⟨m, by simpa [hi] using hm, hw⟩
  have hex : ∀ cs : List Value, (∀ v ∈ cs, ∃ m : Int, v = .int .i64 m ∧ (Lit.int .i64 m).wf = true) → ∃ ns : List Int, cs = ns.map (Value.int .i64) ∧ ∀ n ∈ ns, (Lit.int .i64 n).wf = true := by
    intro cs
    induction cs with
    | nil => exact fun _ => ⟨[], rfl, fun _ h => by cases h⟩
    | cons v cs ih =>
      intro hv
      obtain ⟨ns, rfl, hw⟩ := ih (fun u hu => hv u (List.mem_cons_of_mem _ hu))
      obtain ⟨m, rfl, hm⟩ := hv v (List.mem_cons_self ..)
      refine ⟨m :: ns, rfl, ?_⟩
      intro n hn
      rcases List.mem_cons.1 hn with rfl | hn
      · exact hm
      · exact hw n hn
  obtain ⟨ns, rfl, hw⟩ := hex cs hall
  exact ⟨ns, by simpa using hl, rfl, hw⟩

theorem open_array_ints {r : Reach} {b0 : Nat} {t e : TypeId} {m : Nat} {v : Value} {d : DataW H} {ps : List MemPlace} (ht : P.underlying t = some (.array m e)) (he : P.underlying e = some (.int .i64)) (hc : P.cellsOf e = 1) (hct : P.cellsOf t = m)
    (hval : Value.okWide P w r b0 t v) (hd : DataW.Trod enc P w base spare held t v d ps) : ∃ ns : List Int, ns.length = m ∧ v = .agg (ns.map (Value.int .i64)).toArray ∧ ∀ n ∈ ns, (Lit.int .i64 n).wf = true := by
  obtain ⟨cs, rfl, hs⟩ : ∃ cs, v = .agg cs ∧ cs.size = P.cellsOf t := by
    simp only [Value.okWide, ht] at hval
    obtain ⟨cs, h1, h2, _⟩ := hval
    exact ⟨cs, h1, h2⟩
  obtain ⟨fuel, hf⟩ := hd
  obtain ⟨ns, hl, he2, hw⟩ := array_ints ht he hc hct hf
  refine ⟨ns, hl, ?_, hw⟩
  have : cs.toList = ns.map (Value.int .i64) := by simpa [Value.cells] using he2
  rw [← this]
end
end Go.HeapKit
