import Derived.Test.YtheginjjncnheaaHiDo
/-! What the document's deque answers to a todo. -/
namespace Go.Proofs.Ytheginjjncnheaa
set_option linter.unusedVariables false
set_option maxRecDepth 20000
open Go.RowKit Go.HeapKit

theorem results_box {P : Program} {fn : Func} {q : Tmp} {ty : TypeId} (h : fn.results = #[.cell q ty]) {tmps : Array Value} {w : World} {g : Nat} (ha : tmps.getD q undef = .pointer (some ⟨g, 0, none⟩)) {v : Value}
    (hl : (loadVar ty ⟨g, 0, none⟩).run P w = .ok v w) : (results fn tmps).run P w = .ok v w := by
  have ha' : tmps[q]?.getD undef = .pointer (some ⟨g, 0, none⟩) := by simpa using ha
  simp [results, h, ha', asAddr, hl]
theorem new_mid (w : World) (o1 o2 o3 : Obj) : (((w.alloc o1).alloc o2).alloc o3).heap[w.heap.size + 1]? = some o2 := by
  rw [Below.heap_alloc _ _ _ (by simp)]
  exact blk_new _ _ _ (by simp)


def todoOk (t : Int × Int) : Bool := decide (t.1 = 0 ∨ t.1 = 1 ∨ t.1 = 2)
def argOf (t : Int × Int) : Int := if t.1 = 0 then t.2 else 0
/-- The call that a todo becomes. -/
def clS (most : Nat) (k : Int) (row : List Int) (t : Int × Int) : Cl := ⟨if t.1 = 2 then 1 else 0, t.1, argOf t, k, k, (ansD most row t.1 (argOf t)).1.1, (ansD most row t.1 (argOf t)).1.2⟩
theorem clS_do (most : Nat) (k : Int) (row : List Int) (t : Int × Int) (h : todoOk t = true) : (doR row (clS most k row t) most).1 = (ansD most row t.1 (argOf t)).2 := by
  obtain ⟨kd, tv⟩ := t
  simp only [todoOk, decide_eq_true_eq] at h
  unfold doR clS ansD argOf
  rcases h with rfl | rfl | rfl
  · by_cases he : most ≤ row.length <;> simp [he]
  · by_cases he : row = [] <;> simp [he]
  · cases row <;> simp
end Go.Proofs.Ytheginjjncnheaa
