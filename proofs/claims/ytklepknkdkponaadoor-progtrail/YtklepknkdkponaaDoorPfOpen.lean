import Derived.Test.YtklepknkdkponaaDoorPwOpen
/-! A function among the arguments. -/
namespace Go.Proofs.YtklepknkdkponaaDoor
set_option linter.unusedVariables false
set_option maxRecDepth 20000
open Go.ChangeShapes Go.WideShapes Go.ChangeAt Go.RowKit Go.HeapKit Go.Deep

section
variable {H : Type} {enc : TypeId × Value → H} {w : World} {base : Nat} {held : Bool}
theorem open_func {r : Reach} {b0 : Nat} {v : Value} {d : DataW H} {ps : List MemPlace} (hval : Value.okWide Tryd.prog w r b0 36 v) (hd : DataW.Trod enc Tryd.prog w base (fun _ => true) held 36 v d ps) :
    ∃ (f : Fn) (ca : Option Addr) (n cc : Nat), v = .agg #[.int .i64 f.params, .int .i64 f.regs, .int .i64 f.slots, .slice ca n cc] ∧ n = f.code.length ∧ SeenI w ca n f.code ∧ f.Ok ∧ ((d.weights Tryd.prog 36).all (· ≤ reachBytes) = true → n * 40 ≤ 140737488351232) := by
  obtain ⟨cs, rfl, hs⟩ := okWide_struct Tryd.underlying36 hval
  rw [show Tryd.prog.cellsOf 36 = 4 by kernel_rfl] at hs
  obtain ⟨fuel, hf⟩ := hd
  obtain ⟨xs, n, _, hxx, hl', hxl, hf⟩ := DataW.trod_struct Tryd.underlying36 hf
  have q0 : DataW.trod enc Tryd.prog w base (fun _ => true) held n 3 (List.take (Tryd.prog.cellsOf 3) (List.drop 0 (Value.agg cs).cells.toList)) = xs[0]? := hf 0 _ rfl
  have q1 : DataW.trod enc Tryd.prog w base (fun _ => true) held n 3 (List.take (Tryd.prog.cellsOf 3) (List.drop 1 (Value.agg cs).cells.toList)) = xs[1]? := hf 1 _ rfl
  have q2 : DataW.trod enc Tryd.prog w base (fun _ => true) held n 3 (List.take (Tryd.prog.cellsOf 3) (List.drop 2 (Value.agg cs).cells.toList)) = xs[2]? := hf 2 _ rfl
  have q3 : DataW.trod enc Tryd.prog w base (fun _ => true) held n 34 (List.take (Tryd.prog.cellsOf 34) (List.drop 3 (Value.agg cs).cells.toList)) = xs[3]? := hf 3 _ rfl
  have hx4 : xs.length = 4 := hxl
  rw [List.getElem?_eq_getElem (by omega)] at q0
  rw [List.getElem?_eq_getElem (by omega)] at q1
  rw [List.getElem?_eq_getElem (by omega)] at q2
  rw [List.getElem?_eq_getElem (by omega)] at q3
  have ci : Tryd.prog.cellsOf 3 = 1 := by kernel_rfl
  have cc1 : Tryd.prog.cellsOf 34 = 1 := by kernel_rfl
  rw [ci] at q0 q1 q2
  rw [cc1] at q3
  obtain ⟨cs⟩ := cs
  match cs, hs with
  | [v0, v1, v2, v3], _ =>
    obtain ⟨n0, e0, _, w0⟩ := DataW.trod_int Tryd.underlying3 q0
    obtain ⟨n1, e1, _, w1⟩ := DataW.trod_int Tryd.underlying3 q1
    obtain ⟨n2, e2, _, w2⟩ := DataW.trod_int Tryd.underlying3 q2
    obtain ⟨ca, cn, cc, l, e3, hS, hok⟩ := open_codes q3
    have hr3 := fun hall => slice_reach Tryd.underlying34 q3 e3 hall
    rw [show Tryd.prog.bytesOf 47 = 40 by kernel_rfl] at hr3
    simp [Value.cells] at e0 e1 e2 e3
    subst e0 e1 e2 e3
    refine ⟨⟨n0, n1, n2, l⟩, ca, cn, cc, rfl, hS.len, hS, ⟨okI_of_wf w0, okI_of_wf w1, okI_of_wf w2, hok⟩, fun hw => hr3 (all_of hw fun y hy => ?_)⟩
    have e5 : d = .agg (xs.map (·.1)) := congrArg Prod.fst hxx
    rw [e5]
    simp only [DataW.weights, Tryd.underlying36]
    exact DataW.weights_mem_each (j := 3) rfl (by rw [List.getElem?_map, List.getElem?_eq_getElem (by omega)]; rfl) y hy
end
end Go.Proofs.YtklepknkdkponaaDoor
