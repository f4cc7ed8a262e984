import Derived.Test.YtngeddopbpdcnaaHiDo
/-! What the document's deque answers to a todo. -/
namespace Go.Proofs.Ytngeddopbpdcnaa
set_option linter.unusedVariables false
open Go.RowKit Go.HeapKit

theorem results_box {P : Program} {fn : Func} {q : Tmp} {ty : TypeId} (h : fn.results = #[.cell q ty]) {tmps : Array Value} {w : World} {g : Nat} (ha : tmps.getD q undef = .pointer (some ⟨g, 0, none⟩)) {v : Value}
    (hl : (loadVar ty ⟨g, 0, none⟩).run P w = .ok v w) : (results fn tmps).run P w = .ok v w := by
  have ha' : tmps[q]?.getD undef = .pointer (some ⟨g, 0, none⟩) := by simpa using ha
  simp [results, h, ha', asAddr, hl]
theorem new_mid (w : World) (o1 o2 o3 : Obj) : (((w.alloc o1).alloc o2).alloc o3).heap[w.heap.size + 1]? = some o2 := by
  rw [Below.heap_alloc _ _ _ (by simp)]
  exact blk_new _ _ _ (by simp)


theorem asked_push (v : Value) (row : List Int) (tv : Int) (most : Nat) (w : World) (h : Held w v row) (hs : row.length ≤ 1000000) (hm : most ≤ 4096) (he : row.length < most) :
    Calls Try.prog 26 #[v, .agg #[.int .i64 0, .int .i64 tv], .int .i64 most] w fun e w' => e = .returned (.agg #[.int .i64 0, .int .i64 0, .int .i64 tv, .int .i64 0, .int .i64 0, .int .i64 2, .int .i64 0]) ∧ Keeps None w w' := by
  obtain ⟨ao, cap, rfl, hcap⟩ := h.shape
  have b1 : (row.length : Int) < (most : Int) := by omega
  generalize row.length = n at *
  clear h
  go_enter Try.func26, Try.ntmps26
  go_wp2
  refine bodyPost_ret (results_box (q := 6) (ty := 28) rfl rfl (run_loadVar_row _ (w.heap.size + 1) 28 28 _ _ _ (new_mid _ _ _ _) Try.underlying28 rfl (by kernel_rfl))) rfl ?_
  exact ⟨rfl, (((Keeps.refl None w).andAlloc _).andAlloc _).andAlloc _⟩

theorem asked_full (v : Value) (row : List Int) (tv : Int) (most : Nat) (w : World) (h : Held w v row) (hs : row.length ≤ 1000000) (hm : most ≤ 4096) (he : ¬ row.length < most) :
    Calls Try.prog 26 #[v, .agg #[.int .i64 0, .int .i64 tv], .int .i64 most] w fun e w' => e = .returned (.agg #[.int .i64 0, .int .i64 0, .int .i64 tv, .int .i64 0, .int .i64 0, .int .i64 3, .int .i64 0]) ∧ Keeps None w w' := by
  obtain ⟨ao, cap, rfl, hcap⟩ := h.shape
  have b1 : ¬ (row.length : Int) < (most : Int) := by omega
  generalize row.length = n at *
  clear h
  go_enter Try.func26, Try.ntmps26
  go_wp2
  refine bodyPost_ret (results_box (q := 6) (ty := 28) rfl rfl (run_loadVar_row _ (w.heap.size + 1) 28 28 _ _ _ (new_mid _ _ _ _) Try.underlying28 rfl (by kernel_rfl))) rfl ?_
  exact ⟨rfl, (((Keeps.refl None w).andAlloc _).andAlloc _).andAlloc _⟩

theorem asked_pop0 (v : Value)  (tv : Int) (most : Nat) (w : World) (h : Held w v ([] : List Int)) (hs : ([] : List Int).length ≤ 1000000) (hm : most ≤ 4096)  :
    Calls Try.prog 26 #[v, .agg #[.int .i64 1, .int .i64 tv], .int .i64 most] w fun e w' => e = .returned (.agg #[.int .i64 0, .int .i64 1, .int .i64 0, .int .i64 0, .int .i64 0, .int .i64 5, .int .i64 0]) ∧ Keeps None w w' := by
  obtain ⟨ao, cap, rfl, hcap⟩ := h.shape
  simp only [List.length_nil] at *
  clear h
  go_enter Try.func26, Try.ntmps26
  go_wp2
  refine bodyPost_ret (results_box (q := 6) (ty := 28) rfl rfl (run_loadVar_row _ (w.heap.size + 1) 28 28 _ _ _ (new_mid _ _ _ _) Try.underlying28 rfl (by kernel_rfl))) rfl ?_
  exact ⟨rfl, (((Keeps.refl None w).andAlloc _).andAlloc _).andAlloc _⟩

theorem asked_steal0 (v : Value)  (tv : Int) (most : Nat) (w : World) (h : Held w v ([] : List Int)) (hs : ([] : List Int).length ≤ 1000000) (hm : most ≤ 4096)  :
    Calls Try.prog 26 #[v, .agg #[.int .i64 2, .int .i64 tv], .int .i64 most] w fun e w' => e = .returned (.agg #[.int .i64 1, .int .i64 2, .int .i64 0, .int .i64 0, .int .i64 0, .int .i64 5, .int .i64 0]) ∧ Keeps None w w' := by
  obtain ⟨ao, cap, rfl, hcap⟩ := h.shape
  simp only [List.length_nil] at *
  clear h
  go_enter Try.func26, Try.ntmps26
  go_wp2
  refine bodyPost_ret (results_box (q := 6) (ty := 28) rfl rfl (run_loadVar_row _ (w.heap.size + 1) 28 28 _ _ _ (new_mid _ _ _ _) Try.underlying28 rfl (by kernel_rfl))) rfl ?_
  exact ⟨rfl, (((Keeps.refl None w).andAlloc _).andAlloc _).andAlloc _⟩

theorem asked_pop (v : Value) (r : List Int) (z : Int) (tv : Int) (most : Nat) (w : World) (h : Held w v (r ++ [z])) (hs : (r ++ [z]).length ≤ 1000000) (hm : most ≤ 4096)  :
    Calls Try.prog 26 #[v, .agg #[.int .i64 1, .int .i64 tv], .int .i64 most] w fun e w' => e = .returned (.agg #[.int .i64 0, .int .i64 1, .int .i64 0, .int .i64 0, .int .i64 0, .int .i64 4, .int .i64 z]) ∧ Keeps None w w' := by
  obtain ⟨g, off, cap, rfl, hc, hz⟩ := h.at (i := r.length) (z := z) (by simp)
  have hz2 : (((w.alloc (.cells #[.int .i64 1, .int .i64 tv] 33)).alloc (.cells #[.int .i64 0, .int .i64 0, .int .i64 0, .int .i64 0, .int .i64 0, .int .i64 0, .int .i64 0] 28)).alloc (.cells #[.int .i64 0, .int .i64 1, .int .i64 0, .int .i64 0, .int .i64 0, .int .i64 4, .int .i64 0] 28)).cell? ⟨g, off + r.length, none⟩ = some (.int .i64 z) := ((((Keeps.refl None w).andAlloc _).andAlloc _).andAlloc _).cell hz (fun f => f)
  rw [show (r ++ [z]).length = r.length + 1 by simp] at *
  have b1 : (((r.length + 1 : Nat) : Int) == 0) = false := beq_eq_false_iff_ne.2 (by omega)
  generalize r.length = n at *
  clear h
  go_enter Try.func26, Try.ntmps26
  go_wp2
  refine bodyPost_ret (results_box (q := 6) (ty := 28) rfl rfl (run_loadVar_row _ (w.heap.size + 1) 28 28 _ _ _ (new_mid _ _ _ _) Try.underlying28 rfl (by kernel_rfl))) rfl ?_
  exact ⟨rfl, (((Keeps.refl None w).andAlloc _).andAlloc _).andAlloc _⟩

theorem asked_steal (v : Value) (r : List Int) (z : Int) (tv : Int) (most : Nat) (w : World) (h : Held w v (z :: r)) (hs : (z :: r).length ≤ 1000000) (hm : most ≤ 4096)  :
    Calls Try.prog 26 #[v, .agg #[.int .i64 2, .int .i64 tv], .int .i64 most] w fun e w' => e = .returned (.agg #[.int .i64 1, .int .i64 2, .int .i64 0, .int .i64 0, .int .i64 0, .int .i64 4, .int .i64 z]) ∧ Keeps None w w' := by
  obtain ⟨g, off, cap, rfl, hc, hz⟩ := h.at (i := 0) (z := z) (by simp)
  rw [Nat.add_zero] at hz
  have hz2 : (((w.alloc (.cells #[.int .i64 2, .int .i64 tv] 33)).alloc (.cells #[.int .i64 0, .int .i64 0, .int .i64 0, .int .i64 0, .int .i64 0, .int .i64 0, .int .i64 0] 28)).alloc (.cells #[.int .i64 0, .int .i64 2, .int .i64 0, .int .i64 0, .int .i64 0, .int .i64 4, .int .i64 0] 28)).cell? ⟨g, off, none⟩ = some (.int .i64 z) := ((((Keeps.refl None w).andAlloc _).andAlloc _).andAlloc _).cell hz (fun f => f)
  rw [show (z :: r).length = r.length + 1 by simp] at *
  have b1 : (((r.length + 1 : Nat) : Int) == 0) = false := beq_eq_false_iff_ne.2 (by omega)
  generalize r.length = n at *
  clear h
  go_enter Try.func26, Try.ntmps26
  go_wp2
  refine bodyPost_ret (results_box (q := 6) (ty := 28) rfl rfl (run_loadVar_row _ (w.heap.size + 1) 28 28 _ _ _ (new_mid _ _ _ _) Try.underlying28 rfl (by kernel_rfl))) rfl ?_
  exact ⟨rfl, (((Keeps.refl None w).andAlloc _).andAlloc _).andAlloc _⟩

def todoOk (t : Int × Int) : Bool := decide (t.1 = 0 ∨ t.1 = 1 ∨ t.1 = 2)
def argOf (t : Int × Int) : Int := if t.1 = 0 then t.2 else 0
/-- The call that a todo becomes. -/
def clS (most : Nat) (k : Int) (row : List Int) (t : Int × Int) : Cl := ⟨if t.1 = 2 then 1 else 0, t.1, argOf t, k, k, (ansD most row t.1 (argOf t)).1.1, (ansD most row t.1 (argOf t)).1.2⟩
theorem clS_do (most : Nat) (k : Int) (row : List Int) (t : Int × Int) (h : todoOk t = true) : (doR row (clS most k row t) most).1 = (ansD most row t.1 (argOf t)).2 := by
  obtain ⟨kd, tv⟩ := t
  simp only [todoOk, decide_eq_true_eq] at h
  unfold doR clS ansD argOf
  rcases h with rfl | rfl | rfl
  · by_cases he : most ≤ row.length <;> simp [he]
  · by_cases he : row = [] <;> simp [he]
  · cases row <;> simp
theorem asked_ok (v : Value) (row : List Int) (t : Int × Int) (most : Nat) (w : World) (h : Held w v row) (hs : row.length ≤ 1000000) (hm : most ≤ 4096) (ht : todoOk t = true) :
    Calls Try.prog 26 #[v, .agg #[.int .i64 t.1, .int .i64 t.2], .int .i64 most] w fun e w' => e = .returned (clS most 0 row t).value ∧ Keeps None w w' := by
  obtain ⟨kd, tv⟩ := t
  simp only [todoOk, decide_eq_true_eq] at ht
  unfold clS ansD argOf Cl.value
  rcases ht with rfl | rfl | rfl
  · by_cases he : most ≤ row.length
    · simpa [he] using asked_full v row tv most w h hs hm (by omega)
    · simpa [he] using asked_push v row tv most w h hs hm (by omega)
  · by_cases he : row = []
    · subst he; simpa using asked_pop0 v tv most w h hs hm
    · have hsp := last_split he
      simp only [he, if_false, show ¬ ((1 : Int) = 0) by decide, show ¬ ((1 : Int) = 2) by decide, if_true]
      generalize row.getLastD 0 = z at *
      generalize row.dropLast = r at *
      subst hsp
      exact asked_pop v r z tv most w h hs hm
  · cases row with
    | nil => simpa using asked_steal0 v tv most w h hs hm
    | cons z r => simpa using asked_steal v r z tv most w h hs hm
end Go.Proofs.Ytngeddopbpdcnaa
