import Derived.Test.YtbeblgeiafkniaaDoorScOpen
import Derived.Test.YtbeblgeiafkniaaDoorOpenStruct
import Derived.SizedLaws
/-! A script among the arguments. -/
namespace Go.Proofs.YtbeblgeiafkniaaDoor
set_option linter.unusedVariables false
set_option maxRecDepth 20000
open Go.ChangeShapes Go.WideShapes Go.ChangeAt Go.RowKit Go.HeapKit Go.Deep

section
variable {H : Type} {enc : TypeId × Value → H} {w : World} {base : Nat} {held : Bool}
theorem open_list {fuel : Nat} {cs : List Value} {x : DataW H × List MemPlace} (h : DataW.trod enc Tryd.prog w base (fun _ => true) held fuel 22 cs = some x) :
    ∃ ca n cc l, cs = [.slice ca n cc] ∧ SeenN w ca n l ∧ (∀ i ∈ l, okI i) ∧ n ≤ cc ∧ (n = 0 ∨ ∃ elems sp, x.1 = .slice elems sp ∧ n ≤ elems.length + sp.length) := by
  rcases open_ints Tryd.underlying22 Tryd.underlying3 (by kernel_rfl) h with ⟨hcs, _⟩ | ⟨a, l, c, zs, hcs, _, hl, hm, hz, hx, hcell, hwz⟩
  · exact ⟨none, 0, 0, [], hcs, ⟨rfl, fun h => by omega⟩, (fun i hi => by cases hi), Nat.le_refl _, .inl rfl⟩
  · have hz2 : zs.length = c := by simpa using hz
    obtain ⟨h1, h2, h3⟩ := seen_of (w := w) (a := some a) (len := l) (cap := c) (zs := zs) (.inr ⟨a, rfl, hl, hm, hz2, hcell, hwz⟩)
    refine ⟨some a, l, c, zs.take l, hcs, h1, h2, h3, .inr ⟨_, _, congrArg Prod.fst hx, ?_⟩⟩
    simp [lits]
    omega
theorem weights_at {P : Program} {ts : List TypeId} {ds : List (DataW H)} (h : (DataW.weightsEach P ts ds).all (· ≤ reachBytes) = true) {j : Nat} {t : TypeId} {d : DataW H} (ht : ts[j]? = some t) (hd : ds[j]? = some d) :
    (d.weights P t).all (· ≤ reachBytes) = true := by
  refine List.all_eq_true.2 fun n hn => ?_
  exact List.all_eq_true.1 h n (DataW.weights_mem_each ht hd n hn)
theorem open_script {r : Reach} {b0 : Nat} {v : Value} {d : DataW H} {ps : List MemPlace} (hval : Value.okWide Tryd.prog w r b0 24 v) (hd : DataW.Trod enc Tryd.prog w base (fun _ => true) held 24 v d ps) :
    ∃ a0 n0 c0 l0 a1 n1 c1 l1, v = .agg #[.slice a0 n0 c0, .slice a1 n1 c1] ∧ SeenN w a0 n0 l0 ∧ SeenN w a1 n1 l1 ∧ (∀ i ∈ l0, okI i) ∧ (∀ i ∈ l1, okI i) ∧ n0 ≤ c0 ∧ n1 ≤ c1 ∧ ((d.weights Tryd.prog 24).all (· ≤ reachBytes) = true → n0 * 8 ≤ reachBytes ∧ n1 * 8 ≤ reachBytes) := by
  obtain ⟨cs, rfl, hs⟩ := okWide_struct Tryd.underlying24 hval
  rw [show Tryd.prog.cellsOf 24 = 2 by kernel_rfl] at hs
  obtain ⟨fuel, hf⟩ := hd
  obtain ⟨xs, n, _, hxx, hl', hxl, hf⟩ := DataW.trod_struct Tryd.underlying24 hf
  have q0 : DataW.trod enc Tryd.prog w base (fun _ => true) held n 22 (List.take (Tryd.prog.cellsOf 22) (List.drop 0 (Value.agg cs).cells.toList)) = xs[0]? := hf 0 _ rfl
  have q1 : DataW.trod enc Tryd.prog w base (fun _ => true) held n 22 (List.take (Tryd.prog.cellsOf 22) (List.drop 1 (Value.agg cs).cells.toList)) = xs[1]? := hf 1 _ rfl
  have hx1 : xs.length = 2 := hxl
  rw [List.getElem?_eq_getElem (by omega)] at q0
  rw [List.getElem?_eq_getElem (by omega)] at q1
  obtain ⟨cs⟩ := cs
  match cs, hs with
  | [v0, v1], _ =>
    rw [show Tryd.prog.cellsOf 22 = 1 by kernel_rfl] at q0 q1
    obtain ⟨a0, n0, c0, l0, e0, hS0, ok0, le0, hle0⟩ := open_list q0
    obtain ⟨a1, n1, c1, l1, e1, hS1, ok1, le1, hle1⟩ := open_list q1
    simp [Value.cells] at e0 e1
    subst e0 e1
    refine ⟨a0, n0, c0, l0, a1, n1, c1, l1, rfl, hS0, hS1, ok0, ok1, le0, le1, fun hall => ?_⟩
    obtain ⟨x0, x1, rfl⟩ : ∃ x0 x1, xs = [x0, x1] := by
      clear hle0 hle1 q0 q1 hf hxx
      match xs, hx1 with
      | [x0, x1], _ => exact ⟨_, _, rfl⟩
    simp only [List.getElem_cons_succ, List.getElem_cons_zero] at hle0 hle1
    simp only [Prod.mk.injEq, List.map_cons, List.map_nil] at hxx
    obtain ⟨rfl, _⟩ := hxx
    constructor
    · rcases hle0 with h0 | ⟨elems, sp, hx, hle⟩
      · subst h0; simp [reachBytes]
      · rw [hx] at hall
        have hm := List.all_eq_true.1 hall ((elems.length + sp.length) * Tryd.prog.bytesOf 3) (by
          simp [DataW.weights, Tryd.underlying24, DataW.weightsEach, Tryd.underlying22])
        rw [show Tryd.prog.bytesOf 3 = 8 by kernel_rfl] at hm
        simp at hm
        omega
    · rcases hle1 with h0 | ⟨elems, sp, hx, hle⟩
      · subst h0; simp [reachBytes]
      · rw [hx] at hall
        have hm := List.all_eq_true.1 hall ((elems.length + sp.length) * Tryd.prog.bytesOf 3) (by
          simp [DataW.weights, Tryd.underlying24, DataW.weightsEach, Tryd.underlying22])
        rw [show Tryd.prog.bytesOf 3 = 8 by kernel_rfl] at hm
        simp at hm
        omega
end
end Go.Proofs.YtbeblgeiafkniaaDoor
