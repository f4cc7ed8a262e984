import Derived.Test.YtbeblgeiafkniaaDoorScBase
/-! How functions end whose result is a script. -/
namespace Go.Proofs.YtbeblgeiafkniaaDoor
set_option linter.unusedVariables false
set_option maxRecDepth 20000
open Go.RowKit Go.HeapKit

theorem results_one {P : Program} {fn : Func} {q : Tmp} {ty : TypeId} (h : fn.results = #[.cell q ty]) {tmps : Array Value} {w : World} {g : Nat} (ha : tmps.getD q undef = .pointer (some ⟨g, 0, none⟩)) {v : Value}
    (hl : (loadVar ty ⟨g, 0, none⟩).run P w = .ok v w) : (results fn tmps).run P w = .ok v w := by
  have ha' : tmps[q]?.getD undef = .pointer (some ⟨g, 0, none⟩) := by simpa using ha
  simp [results, h, ha', asAddr, hl]
theorem results_two {P : Program} {fn : Func} {q r : Tmp} {ty : TypeId} (h : fn.results = #[.cell q ty, .tmp r]) {tmps : Array Value} {w : World} {g : Nat} (ha : tmps.getD q undef = .pointer (some ⟨g, 0, none⟩)) {v u : Value} (hr : tmps.getD r undef = u)
    (hl : (loadVar ty ⟨g, 0, none⟩).run P w = .ok v w) : (results fn tmps).run P w = .ok (.tuple #[v, u]) w := by
  have ha' : tmps[q]?.getD undef = .pointer (some ⟨g, 0, none⟩) := by simpa using ha
  have hr' : tmps[r]?.getD undef = u := by simpa using hr
  simp [results, h, ha', hr', asAddr, hl]
theorem set_two {w1 : World} {g : Nat} {c : Array Value} {t : TypeId} (hc : c.size = 2) (hb : w1.heap[g]? = some (.cells c t (0, 0))) (v0 v1 : Value) : ((w1.setCell ⟨g, 0, none⟩ v0).setCell ⟨g, 1, none⟩ v1).heap[g]? = some (.cells #[v0, v1] t (0, 0)) := by
  have hb2 := blk_set (i := 1) (blk_set (i := 0) hb v0) v1
  have hc3 : (c.setIfInBounds 0 v0).setIfInBounds 1 v1 = #[v0, v1] := by
    obtain ⟨l⟩ := c
    match l, hc with
    | [_, _], _ => rfl
  rw [hc3] at hb2
  exact hb2
theorem script_ret1 {Q : Ending → World → Prop} {a : Act} {w1 : World} {g : Nat} {t : TypeId} {fn : Func} {v0 v1 : Value} (q : Tmp) (hfn : fn.results = #[.cell q 24]) (hb : w1.heap[g]? = some (.cells #[v0, v1] t (0, 0)))
    (ha : a.tmps.getD q undef = .pointer (some ⟨g, 0, none⟩)) (hd : a.defers = []) (hQ : Q (.returned (.agg #[v0, v1])) w1) : bodyPost Tryd.prog fn Q .ret a w1 :=
  bodyPost_ret (results_one (q := q) (ty := 24) hfn ha (run_loadVar_row _ g t 24 _ _ _ hb Tryd.underlying24 rfl (by kernel_rfl))) hd hQ
theorem script_ret2 {Q : Ending → World → Prop} {a : Act} {w1 : World} {g : Nat} {t : TypeId} {fn : Func} {v0 v1 u : Value} (q r : Tmp) (hfn : fn.results = #[.cell q 24, .tmp r]) (hb : w1.heap[g]? = some (.cells #[v0, v1] t (0, 0)))
    (ha : a.tmps.getD q undef = .pointer (some ⟨g, 0, none⟩)) (hr : a.tmps.getD r undef = u) (hd : a.defers = []) (hQ : Q (.returned (.tuple #[.agg #[v0, v1], u])) w1) : bodyPost Tryd.prog fn Q .ret a w1 :=
  bodyPost_ret (results_two (q := q) (r := r) (ty := 24) hfn ha hr (run_loadVar_row _ g t 24 _ _ _ hb Tryd.underlying24 rfl (by kernel_rfl))) hd hQ
theorem script_end1 {Q : Ending → World → Prop} {a : Act} {w1 : World} {g : Nat} {c : Array Value} {t : TypeId} {fn : Func} (q : Tmp) (hfn : fn.results = #[.cell q 24]) (hc : c.size = 2) (hb : w1.heap[g]? = some (.cells c t (0, 0)))
    (ha : a.tmps.getD q undef = .pointer (some ⟨g, 0, none⟩)) (hd : a.defers = []) (v0 v1 : Value) (hQ : ∀ w', Keeps (· = g) w1 w' → Q (.returned (.agg #[v0, v1])) w') :
    bodyPost Tryd.prog fn Q .ret a ((w1.setCell ⟨g, 0, none⟩ v0).setCell ⟨g, 1, none⟩ v1) :=
  script_ret1 q hfn (set_two hc hb v0 v1) ha hd (hQ _ ((Keeps.setCell (S := (· = g)) w1 (a := ⟨g, 0, none⟩) rfl _).andSet (x := ⟨g, 1, none⟩) (.inl rfl) _))
theorem script_end2 {Q : Ending → World → Prop} {a : Act} {w1 : World} {g : Nat} {c : Array Value} {t : TypeId} {fn : Func} {u : Value} (q r : Tmp) (hfn : fn.results = #[.cell q 24, .tmp r]) (hc : c.size = 2) (hb : w1.heap[g]? = some (.cells c t (0, 0)))
    (ha : a.tmps.getD q undef = .pointer (some ⟨g, 0, none⟩)) (hr : a.tmps.getD r undef = u) (hd : a.defers = []) (v0 v1 : Value) (hQ : ∀ w', Keeps (· = g) w1 w' → Q (.returned (.tuple #[.agg #[v0, v1], u])) w') :
    bodyPost Tryd.prog fn Q .ret a ((w1.setCell ⟨g, 0, none⟩ v0).setCell ⟨g, 1, none⟩ v1) :=
  script_ret2 q r hfn (set_two hc hb v0 v1) ha hr hd (hQ _ ((Keeps.setCell (S := (· = g)) w1 (a := ⟨g, 0, none⟩) rfl _).andSet (x := ⟨g, 1, none⟩) (.inl rfl) _))
end Go.Proofs.YtbeblgeiafkniaaDoor
