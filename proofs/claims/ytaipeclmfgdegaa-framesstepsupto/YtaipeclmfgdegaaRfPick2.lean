import Derived.Test.YtaipeclmfgdegaaRfPick
/-! FramesSteps: the cells of an op in its row, and of one in a block of its own. -/
namespace Go.Proofs.Ytaipeclmfgdegaa
open Go.RowKit Go.HeapKit Go.IntWalk

theorem row_free8 {w : World} {e : TypeId} {s g n cap : Nat} {xs : List Value} (h : w.ownsRow 0 e s (.slice (some ⟨g, 0, none⟩) n cap) n xs) (i : Nat) : w.frozen? ⟨g, i, none⟩ = false := by
  rcases h.2 with ⟨h0, _⟩ | ⟨g', cap', cur, he, hb, hg, _⟩
  · cases h0
  · injection he with e1 e2 e3
    injection e1 with e1
    injection e1 with e1
    subst e1
    exact free_of_block hg i
theorem row_cell8 {w : World} {e : TypeId} {s g n cap : Nat} {xs : List Value} (h : w.ownsRow 0 e s (.slice (some ⟨g, 0, none⟩) n cap) n xs) (hn : 0 < n) (i : Nat) (v : Value) (hv : xs[i]? = some v) : w.cell? ⟨g, i, none⟩ = some v := by
  obtain ⟨g', e, hc⟩ := row_at h hn
  injection e with e1
  injection e1 with e1
  subst e1
  exact hc _ _ hv
theorem op_at8 {w : World} {g n cap u : Nat} {os : List OpF} {o0 o1 o2 o3 o4 o5 o6 o7 : Int} (h : w.ownsRow 0 63 8 (.slice (some ⟨g, 0, none⟩) n cap) n (rowVals OpF.vals os)) (hn : 0 < n) (hu : os[u]? = some ⟨o0, o1, o2, o3, o4, o5, o6, o7⟩) : (w.cell? ⟨g, u * 8, none⟩ = some (.int .i64 o0) ∧ w.cell? ⟨g, u * 8 + 1, none⟩ = some (.int .i64 o1) ∧ w.cell? ⟨g, u * 8 + 2, none⟩ = some (.int .i64 o2) ∧ w.cell? ⟨g, u * 8 + 3, none⟩ = some (.int .i64 o3) ∧ w.cell? ⟨g, u * 8 + 4, none⟩ = some (.int .i64 o4) ∧ w.cell? ⟨g, u * 8 + 5, none⟩ = some (.int .i64 o5) ∧ w.cell? ⟨g, u * 8 + 6, none⟩ = some (.int .i64 o6) ∧ w.cell? ⟨g, u * 8 + 7, none⟩ = some (.int .i64 o7)) ∧ (w.frozen? ⟨g, u * 8, none⟩ = false ∧ w.frozen? ⟨g, u * 8 + 1, none⟩ = false ∧ w.frozen? ⟨g, u * 8 + 2, none⟩ = false ∧ w.frozen? ⟨g, u * 8 + 3, none⟩ = false ∧ w.frozen? ⟨g, u * 8 + 4, none⟩ = false ∧ w.frozen? ⟨g, u * 8 + 5, none⟩ = false ∧ w.frozen? ⟨g, u * 8 + 6, none⟩ = false ∧ w.frozen? ⟨g, u * 8 + 7, none⟩ = false) :=
  ⟨⟨row_cell8 h hn _ _ (rowVals_at opvals_size _ u _ hu 0 _ rfl), row_cell8 h hn _ _ (rowVals_at opvals_size _ u _ hu 1 _ rfl), row_cell8 h hn _ _ (rowVals_at opvals_size _ u _ hu 2 _ rfl), row_cell8 h hn _ _ (rowVals_at opvals_size _ u _ hu 3 _ rfl), row_cell8 h hn _ _ (rowVals_at opvals_size _ u _ hu 4 _ rfl), row_cell8 h hn _ _ (rowVals_at opvals_size _ u _ hu 5 _ rfl), row_cell8 h hn _ _ (rowVals_at opvals_size _ u _ hu 6 _ rfl), row_cell8 h hn _ _ (rowVals_at opvals_size _ u _ hu 7 _ rfl)⟩, ⟨row_free8 h _, row_free8 h _, row_free8 h _, row_free8 h _, row_free8 h _, row_free8 h _, row_free8 h _, row_free8 h _⟩⟩
theorem rop_at8 {w : World} {g n cap u : Nat} {rs : List ROp} {r0 r1 r2 r3 r4 r5 r6 r7 r8 : Int} (h : w.ownsRow 0 68 9 (.slice (some ⟨g, 0, none⟩) n cap) n (rowVals ROp.vals rs)) (hn : 0 < n) (hu : rs[u]? = some ⟨r0, r1, r2, r3, r4, r5, r6, r7, r8⟩) : (w.cell? ⟨g, u * 9, none⟩ = some (.int .i64 r0) ∧ w.cell? ⟨g, u * 9 + 1, none⟩ = some (.int .i64 r1) ∧ w.cell? ⟨g, u * 9 + 2, none⟩ = some (.int .i64 r2) ∧ w.cell? ⟨g, u * 9 + 3, none⟩ = some (.int .i64 r3) ∧ w.cell? ⟨g, u * 9 + 4, none⟩ = some (.int .i64 r4) ∧ w.cell? ⟨g, u * 9 + 5, none⟩ = some (.int .i64 r5) ∧ w.cell? ⟨g, u * 9 + 6, none⟩ = some (.int .i64 r6) ∧ w.cell? ⟨g, u * 9 + 7, none⟩ = some (.int .i64 r7) ∧ w.cell? ⟨g, u * 9 + 8, none⟩ = some (.int .i64 r8)) ∧ (w.frozen? ⟨g, u * 9, none⟩ = false ∧ w.frozen? ⟨g, u * 9 + 1, none⟩ = false ∧ w.frozen? ⟨g, u * 9 + 2, none⟩ = false ∧ w.frozen? ⟨g, u * 9 + 3, none⟩ = false ∧ w.frozen? ⟨g, u * 9 + 4, none⟩ = false ∧ w.frozen? ⟨g, u * 9 + 5, none⟩ = false ∧ w.frozen? ⟨g, u * 9 + 6, none⟩ = false ∧ w.frozen? ⟨g, u * 9 + 7, none⟩ = false ∧ w.frozen? ⟨g, u * 9 + 8, none⟩ = false) :=
  ⟨⟨row_cell8 h hn _ _ (rowVals_at ropvals_size _ u _ hu 0 _ rfl), row_cell8 h hn _ _ (rowVals_at ropvals_size _ u _ hu 1 _ rfl), row_cell8 h hn _ _ (rowVals_at ropvals_size _ u _ hu 2 _ rfl), row_cell8 h hn _ _ (rowVals_at ropvals_size _ u _ hu 3 _ rfl), row_cell8 h hn _ _ (rowVals_at ropvals_size _ u _ hu 4 _ rfl), row_cell8 h hn _ _ (rowVals_at ropvals_size _ u _ hu 5 _ rfl), row_cell8 h hn _ _ (rowVals_at ropvals_size _ u _ hu 6 _ rfl), row_cell8 h hn _ _ (rowVals_at ropvals_size _ u _ hu 7 _ rfl), row_cell8 h hn _ _ (rowVals_at ropvals_size _ u _ hu 8 _ rfl)⟩, ⟨row_free8 h _, row_free8 h _, row_free8 h _, row_free8 h _, row_free8 h _, row_free8 h _, row_free8 h _, row_free8 h _, row_free8 h _⟩⟩
theorem op_blk8 {w : World} {X : Nat} {t : TypeId} {o0 o1 o2 o3 o4 o5 o6 o7 : Int} (h : w.heap[X]? = some (.cells #[.int .i64 o0, .int .i64 o1, .int .i64 o2, .int .i64 o3, .int .i64 o4, .int .i64 o5, .int .i64 o6, .int .i64 o7] t (0, 0))) : w.cell? ⟨X, 0, none⟩ = some (.int .i64 o0) ∧ w.cell? ⟨X, 1, none⟩ = some (.int .i64 o1) ∧ w.cell? ⟨X, 2, none⟩ = some (.int .i64 o2) ∧ w.cell? ⟨X, 3, none⟩ = some (.int .i64 o3) ∧ w.cell? ⟨X, 4, none⟩ = some (.int .i64 o4) ∧ w.cell? ⟨X, 5, none⟩ = some (.int .i64 o5) ∧ w.cell? ⟨X, 6, none⟩ = some (.int .i64 o6) ∧ w.cell? ⟨X, 7, none⟩ = some (.int .i64 o7) := ⟨cell_of_block h 0, cell_of_block h 1, cell_of_block h 2, cell_of_block h 3, cell_of_block h 4, cell_of_block h 5, cell_of_block h 6, cell_of_block h 7⟩
theorem rop_blk8 {w : World} {X : Nat} {t : TypeId} {r0 r1 r2 r3 r4 r5 r6 r7 r8 : Int} (h : w.heap[X]? = some (.cells #[.int .i64 r0, .int .i64 r1, .int .i64 r2, .int .i64 r3, .int .i64 r4, .int .i64 r5, .int .i64 r6, .int .i64 r7, .int .i64 r8] t (0, 0))) : w.cell? ⟨X, 0, none⟩ = some (.int .i64 r0) ∧ w.cell? ⟨X, 1, none⟩ = some (.int .i64 r1) ∧ w.cell? ⟨X, 2, none⟩ = some (.int .i64 r2) ∧ w.cell? ⟨X, 3, none⟩ = some (.int .i64 r3) ∧ w.cell? ⟨X, 4, none⟩ = some (.int .i64 r4) ∧ w.cell? ⟨X, 5, none⟩ = some (.int .i64 r5) ∧ w.cell? ⟨X, 6, none⟩ = some (.int .i64 r6) ∧ w.cell? ⟨X, 7, none⟩ = some (.int .i64 r7) ∧ w.cell? ⟨X, 8, none⟩ = some (.int .i64 r8) := ⟨cell_of_block h 0, cell_of_block h 1, cell_of_block h 2, cell_of_block h 3, cell_of_block h 4, cell_of_block h 5, cell_of_block h 6, cell_of_block h 7, cell_of_block h 8⟩
theorem rf_cell3 {w : World} {q : Nat} {G : Nat → Prop} {A : Ar} (h : RfF w q G A) : w.cell? ⟨q, 3, none⟩ = some (.int .i64 A.actor) ∧ w.frozen? ⟨q, 3, none⟩ = false := by
  obtain ⟨vc, vl, hR, -⟩ := h
  exact ⟨hR.c3, hR.free 3⟩
/-- A block that is not written stays. -/
theorem blk8 {S : Nat → Prop} {w w' : World} {X : Nat} {o : Obj} (h : w.heap[X]? = some o) (hk : Keeps S w w') (hS : ¬ S X) : w'.heap[X]? = some o := (hk.block X (Array.getElem?_eq_some_iff.1 h).1 hS).trans h
def Alike (os : List OpF) (rs : List ROp) : Prop := ∀ (i : Nat) (o : OpF) (r : ROp), os[i]? = some o → rs[i]? = some r → Sim o r ∧ o.Fit
theorem Alike.set8 {os : List OpF} {rs : List ROp} (h : Alike os rs) (u : Nat) (o : OpF) (r : ROp) (hs : Sim o r ∧ o.Fit) : Alike (os.set u o) (rs.set u r) := by
  intro i o' r' h1 h2
  by_cases hi : u = i
  · subst hi
    by_cases hl : u < os.length
    · rw [List.getElem?_set_self hl] at h1
      injection h1 with h1
      subst h1
      by_cases hl2 : u < rs.length
      · rw [List.getElem?_set_self hl2] at h2
        injection h2 with h2
        subst h2
        exact hs
      · rw [List.getElem?_eq_none (by simp; omega)] at h2
        cases h2
    · rw [List.getElem?_eq_none (by simp; omega)] at h1
      cases h1
  · rw [List.getElem?_set_ne hi] at h1 h2
    exact h i o' r' h1 h2
end Go.Proofs.Ytaipeclmfgdegaa
