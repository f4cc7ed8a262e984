import Derived.Test.YthignlailbekmaaDoorSrStrip
/-! The document's run, plainly: what of the nodes stays while a task is on; the greatest end. -/
namespace Go.Proofs.YthignlailbekmaaDoor
set_option linter.unusedVariables false
set_option maxRecDepth 20000
open Go.RowKit Go.PlainOps

/-- A run leaves the nodes ahead of the task's own as they are, and makes none fewer. -/
theorem loop_front {fs : List Fn} : ∀ (g : Nat) (s : Rn) (t : Tk) (at_ : Nat) (v sp : Int) (s' : Rn), loopV fs true g s t at_ = .done v sp s' → 0 ≤ t.number → s.nodes.length = s.tasks → t.number < s.tasks →
    s'.nodes.length = s'.tasks ∧ s.tasks ≤ s'.tasks ∧ ∀ j : Nat, (j : Int) < t.number → s'.nodes[j]? = s.nodes[j]?
  | 0, s, t, at_, v, sp, s', h, _, _, _ => by simp [loopV] at h
  | g + 1, s, t, at_, v, sp, s', h, h0, hl, hn => by
    unfold loopV at h
    split at h
    · cases h
    · split at h
      · cases h
      · rename_i i hi
        split at h
        · exact loop_front g (payS s) (payT t) _ v sp s' h h0 hl hn
        · split at h
          · exact loop_front g (payS s) (payT t) _ v sp s' h h0 hl hn
          · split at h
            · split at h
              · cases h
              · split at h
                · cases h
                · rename_i v1 sp1 s2 hr
                  have hc := loop_front g _ _ 0 v1 sp1 s2 hr (by show (0 : Int) ≤ ((payS s).tasks : Int); omega) (by
                    show (s.nodes ++ [_]).length = s.tasks + 1
                    simp [hl]) (by
                    show ((s.tasks : Int)) < ((s.tasks + 1 : Nat) : Int)
                    omega)
                  obtain ⟨c1, c2, c3⟩ := hc
                  have c2' : s.tasks + 1 ≤ s2.tasks := c2
                  obtain ⟨d1, d2, d3⟩ := loop_front g s2 _ _ v sp s' h h0 c1 (by show t.number < (s2.tasks : Int); omega)
                  refine ⟨d1, by omega, fun j hj => ?_⟩
                  rw [d3 j hj]
                  have hj2 : (j : Int) < (s.tasks : Int) := by have : (gotT (spawnT (payT t)) i.a.toNat v1 sp1).number = t.number := rfl; omega
                  have := c3 j hj2
                  rw [this]
                  show (s.nodes ++ [_])[j]? = s.nodes[j]?
                  rw [List.getElem?_append_left (by omega)]
            · split at h
              · exact loop_front g (payS s) (waitT (payT t)) _ v sp s' h h0 hl hn
              · split at h
                · injection h with h1 h2 h3
                  subst h3
                  refine ⟨by show (s.nodes.set _ _).length = s.tasks; simpa using hl, Nat.le_refl _, fun j hj => ?_⟩
                  show (s.nodes.set t.number.toNat _)[j]? = s.nodes[j]?
                  rw [List.getElem?_set_ne (by omega)]
                · have e : (computeT (payT t) i).number = t.number := by
                    unfold computeT setR
                    repeat' split
                    all_goals rfl
                  have := loop_front g (payS s) (computeT (payT t) i) _ v sp s' h (by rw [e]; exact h0) hl (by rw [e]; exact hn)
                  rw [e] at this
                  exact this
/-- The greatest end that the document notes against the program's: they differ only where it does not matter. -/
structure SameEnd (t : Tk) (e : Int) : Prop where
  nn : 0 ≤ e
  le : e ≤ t.due
  or : t.due ≤ t.span ∨ e = t.due
theorem SameEnd.pay {t : Tk} {e : Int} (h : SameEnd t e) : SameEnd (payT t) e := ⟨h.nn, h.le, by rcases h.or with h | h; exact .inl (by simp only [payT]; omega); exact .inr h⟩
theorem SameEnd.comp {t : Tk} {e : Int} (h : SameEnd t e) (i : Ins) : SameEnd (computeT t i) e := by
  have e1 : (computeT t i).span = t.span ∧ (computeT t i).due = t.due := by
    unfold computeT setR
    repeat' split
    all_goals exact ⟨rfl, rfl⟩
  exact ⟨h.nn, by rw [e1.2]; exact h.le, by rw [e1.1, e1.2]; exact h.or⟩
theorem SameEnd.wait {t : Tk} {e : Int} (h : SameEnd t e) : imax t.span e + 1 = (waitT (payT t)).span ∧ SameEnd (waitT (payT t)) 0 := by
  have h1 := h.le
  have h2 := h.nn
  have key : imax t.span e + 1 = imax (t.span + 1) (t.due + 1) := by
    unfold imax
    rcases h.or with h3 | h3
    · rw [if_neg (by omega), if_neg (by omega)]
    · subst h3
      by_cases h4 : t.span < t.due
      · rw [if_pos h4, if_pos (by omega)]
      · rw [if_neg h4, if_neg (by omega)]
  refine ⟨key, ⟨Int.le_refl _, by show 0 ≤ t.due; omega, .inl ?_⟩⟩
  show t.due ≤ imax (t.span + 1) (t.due + 1)
  have := (le_imax (t.span + 1) (t.due + 1)).2
  omega
theorem SameEnd.got {t : Tk} {e : Int} (h : SameEnd t e) (a : Nat) (v sp : Int) (h0 : 0 ≤ sp) (hs : 0 ≤ t.span) : imax e ((payT t).span + sp) = (gotT (spawnT (payT t)) a v sp).due ∧ SameEnd (gotT (spawnT (payT t)) a v sp) (imax e ((payT t).span + sp)) := by
  have h1 := h.le
  have key : imax e (t.span + 1 + sp) = imax t.due (t.span + 1 + sp) := by
    rcases h.or with h3 | h3
    · unfold imax
      by_cases h4 : t.due < t.span + 1 + sp
      · rw [if_pos h4, if_pos (by omega)]
      · omega
    · rw [h3]
  refine ⟨key, ⟨?_, ?_, .inr key⟩⟩
  · have := (le_imax e ((payT t).span + sp)).2
    have : (payT t).span = t.span + 1 := rfl
    omega
  · show imax e (t.span + 1 + sp) ≤ imax t.due (t.span + 1 + sp)
    rw [key]
    exact Int.le_refl _
end Go.Proofs.YthignlailbekmaaDoor
