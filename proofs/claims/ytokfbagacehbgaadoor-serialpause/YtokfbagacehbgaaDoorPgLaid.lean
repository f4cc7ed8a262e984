import Derived.Test.YtokfbagacehbgaaDoorPgBase
import Derived.ProofKit
import Derived.LaidMore
import Derived.OpenShut
import Derived.Stop.Joined
/-! From the row's condition on the two variables to the tables. -/
namespace Go.Proofs.YtokfbagacehbgaaDoor
set_option linter.unusedVariables false
set_option maxRecDepth 20000
open Go.ChangeShapes Go.WideShapes Go.ChangeAt Go.RowKit

abbrev laidL : List (String × DataW Unit) := [("plunder/prog.forms", Rows.laid_plunder_prog_forms), ("plunder/prog.start", Rows.laid_plunder_prog_start)]
theorem tForms : (Tryd.prog.globals[0]?).map (·.type) = some 82 := by kernel_rfl
theorem tStart : (Tryd.prog.globals[1]?).map (·.type) = some 96 := by kernel_rfl
theorem cForms : Tryd.prog.cellsOf 82 = 50 := by kernel_rfl
theorem cForm : Tryd.prog.cellsOf 81 = 5 := by kernel_rfl
theorem cPt : Tryd.prog.cellsOf 96 = 2 := by kernel_rfl
theorem cI : Tryd.prog.cellsOf 3 = 1 := by kernel_rfl
theorem cB : Tryd.prog.cellsOf 4 = 1 := by kernel_rfl
theorem door_met (os : Os) (args : Array Value) : laidMetH Tryd.prog laidL ((World.doorLaid Tryd.prog 400 os).forCall (fun _ _ => 0) ⟨#[], args, []⟩).memory :=
  laidMetH_of_parts3 (fuel := 8) (laidMet_of_run' 8 (by kernel_rfl) (by kernel_rfl)) (by kernel_rfl) (by kernel_rfl)
section
variable {H : Type} {enc : TypeId × Value → H} {w : World} {base : Nat} {spare : TypeId → Bool} {held : Bool}
theorem int_lit {fuel : Nat} {cs : List Value} {x : DataW H × List MemPlace} {n : Int} (h : DataW.trod enc Tryd.prog w base spare held fuel 3 cs = some x) (hx : x.1 = .lit (.int .i64 n)) : cs = [.int .i64 n] := by
  obtain ⟨k, rfl, rfl, _⟩ := DataW.trod_int Tryd.underlying3 h
  simp at hx
  rw [hx]
theorem bool_lit {fuel : Nat} {cs : List Value} {x : DataW H × List MemPlace} {b : Bool} (h : DataW.trod enc Tryd.prog w base spare held fuel 4 cs = some x) (hx : x.1 = .lit (.bool b)) : cs = [.bool b] := by
  obtain ⟨k, rfl, rfl⟩ := DataW.trod_bool Tryd.underlying4 h
  simp at hx
  rw [hx]
theorem form_lit {fuel : Nat} {cs : List Value} {x : DataW H × List MemPlace} {a b c k : Int} {nx : Bool} (h : DataW.trod enc Tryd.prog w base spare held fuel 81 cs = some x) (hx : x.1 = .agg [.lit (.int .i64 a), .lit (.int .i64 b), .lit (.int .i64 c), .lit (.int .i64 k), .lit (.bool nx)]) :
    cs = [.int .i64 a, .int .i64 b, .int .i64 c, .int .i64 k, .bool nx] := by
  obtain ⟨xs, n, _, rfl, hl, hxl, hf⟩ := DataW.trod_struct Tryd.underlying81 h
  have q0 : DataW.trod enc Tryd.prog w base spare held n 3 (List.take (Tryd.prog.cellsOf 3) (List.drop 0 cs)) = xs[0]? := hf 0 _ rfl
  have q1 : DataW.trod enc Tryd.prog w base spare held n 3 (List.take (Tryd.prog.cellsOf 3) (List.drop 1 cs)) = xs[1]? := hf 1 _ rfl
  have q2 : DataW.trod enc Tryd.prog w base spare held n 3 (List.take (Tryd.prog.cellsOf 3) (List.drop 2 cs)) = xs[2]? := hf 2 _ rfl
  have q3 : DataW.trod enc Tryd.prog w base spare held n 3 (List.take (Tryd.prog.cellsOf 3) (List.drop 3 cs)) = xs[3]? := hf 3 _ rfl
  have q4 : DataW.trod enc Tryd.prog w base spare held n 4 (List.take (Tryd.prog.cellsOf 4) (List.drop 4 cs)) = xs[4]? := hf 4 _ rfl
  have hx5 : xs.length = 5 := hxl
  rw [cI] at q0 q1 q2 q3
  rw [cB] at q4
  rw [cForm] at hl
  match xs, hx5 with
  | [y0, y1, y2, y3, y4], _ =>
    simp at hx
    have e0 := int_lit q0 hx.1
    have e1 := int_lit q1 hx.2.1
    have e2 := int_lit q2 hx.2.2.1
    have e3 := int_lit q3 hx.2.2.2.1
    have e4 := bool_lit q4 hx.2.2.2.2
    match cs, hl with
    | [v0, v1, v2, v3, v4], _ =>
      simp at e0 e1 e2 e3 e4
      rw [e0, e1, e2, e3, e4]
theorem pt_lit {fuel : Nat} {cs : List Value} {x : DataW H × List MemPlace} {a b : Int} (h : DataW.trod enc Tryd.prog w base spare held fuel 96 cs = some x) (hx : x.1 = .agg [.lit (.int .i64 a), .lit (.int .i64 b)]) :
    cs = [.int .i64 a, .int .i64 b] := by
  obtain ⟨xs, n, _, rfl, hl, hxl, hf⟩ := DataW.trod_struct Tryd.underlying96 h
  have q0 : DataW.trod enc Tryd.prog w base spare held n 3 (List.take (Tryd.prog.cellsOf 3) (List.drop 0 cs)) = xs[0]? := hf 0 _ rfl
  have q1 : DataW.trod enc Tryd.prog w base spare held n 3 (List.take (Tryd.prog.cellsOf 3) (List.drop 1 cs)) = xs[1]? := hf 1 _ rfl
  have hx5 : xs.length = 2 := hxl
  rw [cI] at q0 q1
  rw [cPt] at hl
  match xs, hx5 with
  | [y0, y1], _ =>
    simp at hx
    have e0 := int_lit q0 hx.1
    have e1 := int_lit q1 hx.2
    match cs, hl with
    | [v0, v1], _ =>
      simp at e0 e1
      rw [e0, e1]
end
theorem chunks {l m : List Value} (hl : l.length = 50) (hm : m.length = 50) (h : ∀ i, i < 10 → (l.drop (i * 5)).take 5 = (m.drop (i * 5)).take 5) : l = m := by
  apply List.ext_getElem?
  intro q
  by_cases hq : q < 50
  · have := congrArg (fun x => x[q % 5]?) (h (q / 5) (by omega))
    simp only [List.getElem?_take, List.getElem?_drop, show q / 5 * 5 + q % 5 = q by omega, show q % 5 < 5 by omega, if_true] at this
    exact this
  · rw [List.getElem?_eq_none (by omega), List.getElem?_eq_none (by omega)]
theorem of_laid {W : World} (h : laidMetH Tryd.prog laidL W) : Tabs W := by
  rw [MakeChecks.laidMetH_plain _ _ _ (by kernel_rfl)] at h
  obtain ⟨ps, ⟨g0, t0, cs0, f0, p0, q0, hg0, ht0, hv0, hd0, hr, _⟩, _⟩ := h
  obtain ⟨g1, t1, cs1, f1, p1, q1, hg1, ht1, hv1, hd1, _, _⟩ := hr
  obtain rfl := Option.some.inj (Tryd.gForms.symm.trans hg0)
  obtain rfl := Option.some.inj (Tryd.gStart.symm.trans hg1)
  obtain rfl := Option.some.inj (tForms.symm.trans ht0)
  obtain rfl := Option.some.inj (tStart.symm.trans ht1)
  refine ⟨?_, ?_⟩
  · obtain ⟨xs, m1, rfl, hx1, hlen, hn, hel⟩ := DataW.trod_array Tryd.underlying82 hd0
    simp only [Prod.mk.injEq, Rows.laid_plunder_prog_forms, DataW.agg.injEq] at hx1
    rw [cForms] at hlen
    have hxs : xs.length = 10 := by have := congrArg List.length hx1.1; simpa using this.symm
    rw [cForm] at hel
    have hcs : cs0.toList = formCells.toList := by
      refine chunks hlen rfl (fun i hi => ?_)
      have h1 := hel i hi
      rw [List.getElem?_eq_getElem (by omega)] at h1
      have hxi : ∀ d, (xs.map (·.1))[i]? = some d → (xs[i]'(by omega)).1 = d := fun d hd => by
        rw [List.getElem?_map, List.getElem?_eq_getElem (by omega)] at hd
        exact Option.some.inj hd
      rw [← hx1.1] at hxi
      match i, hi with
      | 0, _ => exact form_lit h1 (hxi _ rfl)
      | 1, _ => exact form_lit h1 (hxi _ rfl)
      | 2, _ => exact form_lit h1 (hxi _ rfl)
      | 3, _ => exact form_lit h1 (hxi _ rfl)
      | 4, _ => exact form_lit h1 (hxi _ rfl)
      | 5, _ => exact form_lit h1 (hxi _ rfl)
      | 6, _ => exact form_lit h1 (hxi _ rfl)
      | 7, _ => exact form_lit h1 (hxi _ rfl)
      | 8, _ => exact form_lit h1 (hxi _ rfl)
      | 9, _ => exact form_lit h1 (hxi _ rfl)
    have hcs2 : cs0 = formCells := Array.ext' hcs
    subst hcs2
    simp only [World.var?, hg0, Option.bind_some] at hv0
    split at hv0
    · rename_i cs t fr hb
      obtain rfl := Option.some.inj hv0
      exact ⟨t, fr, hb⟩
    · cases hv0
  · have e := pt_lit hd1 (a := 0) (b := 1) rfl
    have hcs2 : cs1 = #[.int .i64 0, .int .i64 1] := Array.ext' e
    subst hcs2
    simp only [World.var?, hg1, Option.bind_some] at hv1
    split at hv1
    · rename_i cs t fr hb
      obtain rfl := Option.some.inj hv1
      exact ⟨t, fr, hb⟩
    · cases hv1
end Go.Proofs.YtokfbagacehbgaaDoor
