import Derived.Test.YtemmkgnbngeiaaaDqGrow
/-! The deque behind New; a call on it, whole. -/
namespace Go.Proofs.Ytemmkgnbngeiaaa
open Go.RowKit Go.HeapKit Go.IntWalk Go.PlainOps

theorem cellsFrom_le (m c n : Nat) (hc : 0 < c) (hm : c ≤ m) : cellsFrom m c n ≤ n + 1 + m + 4 * (m - c) := by
  by_cases h : c < m
  · rw [cellsFrom_step h hc]
    by_cases h2 : 2 * c ≤ m
    · have := cellsFrom_le m (min (2 * c) m) (n + 1 + min (2 * c) m) (by omega) (by omega)
      rw [Nat.min_eq_left h2] at this ⊢
      omega
    · rw [Nat.min_eq_right (by omega), cellsFrom_end (by omega)]
      omega
  · rw [cellsFrom_end h]
    omega
termination_by m - c
decreasing_by omega
theorem dq_start (f most : Nat) (hf : 1 ≤ f) (hm : f ≤ most) (hm2 : most ≤ 4096) : Dq ((Ar.new (cellsFrom most f (4 + f))).laid f) most [] 0 3 f := by
  have hsz := cellsFrom_le most f (4 + f) (by omega) hm
  have hle : cellsFrom most f (4 + f) ≤ 1048576 := by omega
  have e : (Ar.new (cellsFrom most f (4 + f))).laid f = (((Ar.new (cellsFrom most f (4 + f))).more (4 + f)).put 2 3).put 3 f := rfl
  have hl : ((Ar.new (cellsFrom most f (4 + f))).more (4 + f)).cells.length = 4 + f := by rw [more_len]; exact Nat.zero_add _
  rw [e]
  clear hsz e
  generalize hB : (Ar.new (cellsFrom most f (4 + f))).more (4 + f) = B at hl
  have hon : B.on = false := by rw [← hB]; rfl
  have hlog : B.log = [] := by rw [← hB]; rfl
  have hBs : B.size = cellsFrom most f (4 + f) := by rw [← hB]; rfl
  have hv0 : ∀ j, B.val j = 0 := fun j => by rw [← hB, more_val]; simp [Ar.new, Ar.val]
  have hv : ∀ j, ((B.put 2 3).put 3 f).val j = if j = 3 then (f : Int) else if j = 2 then 3 else 0 := fun j => by
    rw [put_val (by rw [put_cells, hl]; exact Nat.lt_of_lt_of_le (show 3 < 4 by decide) (Nat.le_add_right 4 f)), put_val (by rw [hl]; exact Nat.lt_of_lt_of_le (show 2 < 4 by decide) (Nat.le_add_right 4 f)), hv0]
  exact ⟨hon, hlog, hm2, by rw [hv]; rfl, by rw [hv]; rfl, by rw [hv]; rfl, by rw [hv, if_pos rfl], Nat.le_refl _, by rw [put_cells, put_cells, hl]; exact Nat.add_lt_add_right (by decide) f, hf, hm, Nat.zero_le _, fun i hi => absurd hi (Nat.not_lt_zero i),
    by rw [put_cells, put_cells, hl]; exact hBs.symm, Nat.le_trans (Nat.le_of_eq hBs) hle, by decide⟩
/-- What a call comes to on the list: its code, its value, the list behind it. -/
def seqAns (most : Nat) (l : List Int) (kind v : Int) : Int × Int × List Int :=
  if kind = 0 then if l.length = most then (3, 0, l) else (2, 0, l ++ [v])
  else if kind = 1 then match l.getLast? with | none => (5, 0, l) | some x => (4, x, l.dropLast)
  else if kind = 2 then match l with | [] => (5, 0, l) | x :: l => (4, x, l)
  else if l = [] then (8, 0, l) else (7, 0, l)
def seqOp (most : Nat) (kind v : Int) : OpS :=
  if kind = 0 then OpS.mk 0 most 2 0 v 0 0 0 0 0 0 0 0 else if kind = 1 then OpS.mk 0 most 13 0 0 0 0 0 0 0 0 0 0 else if kind = 2 then OpS.mk 0 most 22 0 0 0 0 0 0 0 0 0 0 else OpS.mk 0 most 28 0 0 0 0 0 0 0 0 0 0
theorem seq_any {A : Ar} {most t a c : Nat} {l : List Int} (kind v : Int) (h : Dq A most l t a c) (hs : A.cells.length ≤ A.size) (hb : t + l.length < 1125899906842624) :
    ∃ A' t' a' c' n, n ≤ 9 + 2 * l.length ∧ Goes (seqOp most kind v) A n (OpS.ended (seqAns most l kind v).1 (seqAns most l kind v).2.1) A' ∧ Dq A' most (seqAns most l kind v).2.2 t' a' c' ∧ A'.cells.length ≤ A'.size ∧ t' + (seqAns most l kind v).2.2.length ≤ t + l.length + 1 := by
  unfold seqOp seqAns
  by_cases h0 : kind = 0
  · simp only [if_pos h0]
    by_cases hf : l.length = most
    · simp only [if_pos hf]
      exact ⟨A, t, a, c, 4, by omega, push_full h hf hs, h, hs, Nat.le_succ _⟩
    · simp only [if_neg hf]
      by_cases hl : l.length < c
      · obtain ⟨A', hg, hd, h1, h2⟩ := push_plain (v := v) h hl hb hs
        exact ⟨A', t, a, c, 6, by omega, hg, hd, by rw [h1, h2]; exact hs, by simp; omega⟩
      · have hlc : l.length = c := Nat.le_antisymm h.len (Nat.le_of_not_lt hl)
        have hcm : c < most := Nat.lt_of_le_of_ne h.cm (fun e => hf (hlc.trans e))
        obtain ⟨A', a', c', hg, hd, h1, h2⟩ := push_grow (v := v) h hlc hcm hb hs
        exact ⟨A', t, a', c', _, Nat.le_refl _, hg, hd, h1, by simp; omega⟩
  · simp only [if_neg h0]
    by_cases h1 : kind = 1
    · simp only [if_pos h1]
      match hl : l.getLast? with
      | none =>
        obtain rfl : l = [] := by simpa using hl
        obtain ⟨A', hg, hd, e1, e2⟩ := pop_none h hs
        exact ⟨A', t, a, c, 5, by simp, hg, hd, by rw [e1, e2]; exact hs, Nat.le_succ _⟩
      | some x =>
        obtain ⟨l', rfl⟩ : ∃ l', l = l' ++ [x] := List.getLast?_eq_some_iff.1 hl
        simp only [List.dropLast_concat]
        match l' with
        | [] =>
          obtain ⟨A', hg, hd, e1, e2⟩ := pop_one h hs
          exact ⟨A', t + 1, a, c, 8, by simp, hg, hd, by rw [e1, e2]; exact hs, by simp⟩
        | y :: l' =>
          obtain ⟨A', hg, hd, e1, e2⟩ := pop_more h (by simp) hs
          exact ⟨A', t, a, c, 6, by simp; omega, hg, hd, by rw [e1, e2]; exact hs, by simp; omega⟩
    · simp only [if_neg h1]
      by_cases h2 : kind = 2
      · simp only [if_pos h2]
        match l with
        | [] => exact ⟨A, t, a, c, 2, by simp, steal_none h, h, hs, Nat.le_succ _⟩
        | x :: l =>
          obtain ⟨A', hg, hd, e1, e2⟩ := steal_seq h hs
          exact ⟨A', t + 1, a, c, 6, by simp; omega, hg, hd, by rw [e1, e2]; exact hs, by simp; omega⟩
      · simp only [if_neg h2]
        refine ⟨A, t, a, c, 2, by omega, ?_, ?_, hs, ?_⟩
        · have := look_seq h
          by_cases he : l = []
          · rw [if_pos he] at this ⊢; exact this
          · rw [if_neg he] at this ⊢; exact this
        · by_cases he : l = []
          · rw [if_pos he]; exact h
          · rw [if_neg he]; exact h
        · by_cases he : l = []
          · rw [if_pos he]; exact Nat.le_succ _
          · rw [if_neg he]; exact Nat.le_succ _
end Go.Proofs.Ytemmkgnbngeiaaa
